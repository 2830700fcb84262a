/- Of the closed text a(b|c)*. -/
import Derived.Test.YtkclkhfcmjhogaaDoorMgN
import Derived.Test.YtkclkhfcmjhogaaDoorMgZ4
import Derived.Test.YtkclkhfcmjhogaaDoorMgH4
import Derived.Test.YtkclkhfcmjhogaaDoorMgV
namespace Go.Proofs.YtkclkhfcmjhogaaDoor
open Go.RowKit
set_option linter.unusedVariables false

def X2 : RX := ⟨4, eset, [⟨3, eset, [⟨1, btw 98 98, []⟩, ⟨1, btw 99 99, []⟩]⟩]⟩
def X0 : RX := ⟨2, eset, [⟨1, btw 97 97, []⟩, X2]⟩
theorem prs0 : prsX [97, 40, 98, 124, 99, 41, 42] = .ok X0 := by kernel_rfl
theorem may0 : may X0 = 0 := by kernel_rfl
theorem in0 : inX (fun i => 97 + i) 3 X0 = true := by kernel_rfl
theorem in1 : inX (fun i => 98 + i) 1 X0 = false := by kernel_rfl
theorem in2 : inX (fun i => 97 + i) 0 X0 = false := by kernel_rfl
theorem tall0 : X0.tall < 90000 := by decide +kernel
theorem one_run (a : Nat) (ha : a < 256) : Runs (btw a a) 0 [(a, a)] := by
  refine ⟨by omega, by omega, by omega, fun c _ h => ?_, fun c h1 h2 => ?_, fun _ => ?_, fun b h1 h2 => ?_⟩
  · unfold btw; simp; omega
  · unfold btw; simp; omega
  · unfold btw; simp
  · unfold btw; simp; omega
theorem Gd.one {g : (Nat → Bool) → List Nat} (h : Gd g) (a : Nat) (ha : a < 256) : g (btw a a) = shw [(a, a)] := by
  obtain ⟨R, h1, h2⟩ := h (btw a a)
  rw [h2, Runs.one h1 (one_run a ha)]
theorem sh0 {g : (Nat → Bool) → List Nat} (h : Gd g) : str (X0.sh g) = ⟨#[97, 40, 98, 124, 99, 41, 42]⟩ := by
  have e : X0.sh g = g (btw 97 97) ++ ([40] ++ (g (btw 98 98) ++ ([124] ++ g (btw 99 99))) ++ [41] ++ [42]) := by
    unfold X0 X2
    simp [sh_eq, texts, joinK, brk1, lvl, List.intercalate, List.intersperse, signC]
  rw [e, h.one 97 (by decide), h.one 98 (by decide), h.one 99 (by decide)]
  decide +kernel

end Go.Proofs.YtkclkhfcmjhogaaDoor
