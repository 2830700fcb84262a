/- ClassBack. -/
import Derived.Test.YtkclkhfcmjhogaaDoorG3
namespace Go.Proofs.YtkclkhfcmjhogaaDoor
open Go.RowKit
set_option linter.unusedVariables false

theorem cellB {w : World} {o : Obj} {g i : Nat} {v : Value} (h : w.cell? ⟨g, i, none⟩ = some v) : (w.alloc o).cell? ⟨g, i, none⟩ = some v := (Mv.alloc (fun _ => False) w o).cell (p := ⟨g, i, none⟩) h (fun h => h)
set_option maxHeartbeats 1000000 in
theorem empty_any (p : Nat → Bool) (b : Bool) (hb : (!any p) = b) (w : World) : Calls Tryd.prog 54 #[.agg #[.int .u64 (limb p 0), .int .u64 (limb p 1), .int .u64 (limb p 2), .int .u64 (limb p 3)]] w fun e w' => e = .returned (.bool b) ∧ Hid (Qt w w') := by
  have he := eql_none p
  rw [hb] at he
  clear hb
  go_enter Tryd.func54, Tryd.ntmps54
  go_wp2_with fail
  go_ret
  exact ⟨rfl, (Qt.refl w).alloc _⟩

theorem shw_len {p : Nat → Bool} {R : List (Nat × Nat)} (h : Runs p 0 R) (hl : R.length ≤ 256) : (shw R).length ≤ 3000 ∧ ∀ c ∈ shw R, c < 256 := by
  have hg := h.good
  obtain ⟨f1, f2⟩ := flat_lt hg
  have hb : (91 :: (R.flatMap rtx ++ [93])).length ≤ 3000 ∧ ∀ c ∈ 91 :: (R.flatMap rtx ++ [93]), c < 256 := by
    refine ⟨by simp only [List.length_cons, List.length_append, List.length_nil]; omega, fun c hc => ?_⟩
    rcases List.mem_cons.1 hc with rfl | hc
    · omega
    · rcases List.mem_append.1 hc with hc | hc
      · exact f1 c hc
      · simp at hc; omega
  match R, hb, hg with
  | [], _, _ => exact ⟨by simp [shw], by simp [shw]⟩
  | [(a, b)], hb, hg =>
    unfold shw
    simp only
    by_cases h1 : a = b
    · rw [if_pos h1]
      have := rtx_lt (hg (a, b) (List.mem_cons_self ..))
      have e : rtx (a, b) = shn a := by unfold rtx; simp [h1]
      rw [e] at this
      exact ⟨by omega, this.1⟩
    · rw [if_neg h1]
      by_cases h2 : a = 0 ∧ b = 255
      · rw [if_pos h2]; exact ⟨by simp, by simp⟩
      · rw [if_neg h2]; simpa using hb
  | r :: s :: R, hb, _ => exact hb
theorem Runs.len {p : Nat → Bool} : ∀ {n : Nat} {R : List (Nat × Nat)}, Runs p n R → n ≤ 256 → R.length ≤ 256 - n
  | n, [], _, _ => by simp
  | n, (a, b) :: R, h, hn => by
    have := Runs.len h.2.2.2.2.2.2 (by have := h.2.2.1; omega)
    have := h.1; have := h.2.1; have := h.2.2.1
    simp; omega

end Go.Proofs.YtkclkhfcmjhogaaDoor
