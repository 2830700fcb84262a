/- The text of an a in so many brackets, and what is read of it. -/
import Derived.Test.YtkclkhfcmjhogaaDoorT3
namespace Go.Proofs.YtkclkhfcmjhogaaDoor
open Go.RowKit
set_option linter.unusedVariables false

def deepL : Nat → List Nat
  | 0 => [97]
  | k + 1 => [40] ++ deepL k ++ [41]
def isOk1 (r : Except Int RX) : Bool := match r with | .error _ => false | .ok x => x.kind == 1 && (x.args.length == 0 && same x.set (btw 97 97))
def isCap (r : Except Int RX) : Bool := match r with | .error n => n == 6 | .ok _ => false
theorem deep_all : (List.range 30).all (fun k => if 13 < k then isCap (prsX (deepL k)) else isOk1 (prsX (deepL k))) = true := by kernel_rfl
theorem deep_cap {k : Nat} (h : k < 30) (h2 : 13 < k) : prsX (deepL k) = .error 6 := by
  have h1 := List.all_eq_true.1 deep_all k (List.mem_range.2 h)
  rw [if_pos h2] at h1
  cases hp : prsX (deepL k) with
  | error n => rw [hp] at h1; unfold isCap at h1; simp at h1; rw [h1]
  | ok x => rw [hp] at h1; cases h1
theorem deep_ok {k : Nat} (h2 : ¬ 13 < k) : ∃ p, prsX (deepL k) = .ok ⟨1, p, []⟩ ∧ same p (btw 97 97) = true := by
  have h1 := List.all_eq_true.1 deep_all k (List.mem_range.2 (by omega))
  rw [if_neg h2] at h1
  cases hp : prsX (deepL k) with
  | error n => rw [hp] at h1; cases h1
  | ok x =>
    obtain ⟨k', p, l⟩ := x
    rw [hp] at h1
    unfold isOk1 at h1
    simp only [Bool.and_eq_true, beq_iff_eq, List.length_eq_zero_iff] at h1
    obtain ⟨rfl, rfl, h3⟩ := h1
    exact ⟨p, rfl, h3⟩
theorem deep_len : ∀ k, (deepL k).length = 2 * k + 1
  | 0 => rfl
  | k + 1 => by simp [deepL, deep_len k]; omega
theorem deep_byte : ∀ k, ∀ c ∈ deepL k, c < 256
  | 0, c, h => by simp [deepL] at h; omega
  | k + 1, c, h => by
    simp [deepL] at h
    rcases h with rfl | h | rfl
    · decide
    · exact deep_byte k c h
    · decide
end Go.Proofs.YtkclkhfcmjhogaaDoor
