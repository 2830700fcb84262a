/- What Put leaves: how many. -/
import Derived.Test.YtjlnmkoggobbgaaN7
namespace Go.Proofs.Ytjlnmkoggobbgaa
open Go.RowKit

theorem sfnd_key {S : List Kw} {k : Int} {p : Kw} (h : sfnd S k = some p) : p ∈ S ∧ p.1 = k := by
  have h1 := List.mem_of_find?_eq_some h
  have h2 := List.find?_some h
  exact ⟨h1, by simpa using h2⟩
theorem pS_has {S : List Kw} (hn : (S.map Prod.fst).Nodup) {mo k : Int} {p : Kw} (hf : sfnd S k = some p) (hm : (S.length : Int) ≤ max mo 1) (v : Nat → Value) : pOk mo S k = true ∧ pS mo S k v = (k, v) :: sdel S k ∧ pG mo S k v = 0 := by
  have h1 := sdel_length hn hf
  have h2 : pOk mo S k = true := by
    unfold pOk
    rw [decide_eq_true_iff]
    omega
  exact ⟨h2, by unfold pS; rw [if_pos h2], by unfold pG; rw [if_pos h2]⟩
theorem pS_room {S : List Kw} {mo k : Int} (hf : sfnd S k = none) (hm : (S.length : Int) + 1 ≤ max mo 1) (v : Nat → Value) : pOk mo S k = true ∧ pS mo S k v = (k, v) :: S ∧ pG mo S k v = 0 := by
  have h2 : pOk mo S k = true := by
    unfold pOk
    rw [decide_eq_true_iff, sdel_none hf]
    exact hm
  exact ⟨h2, by unfold pS; rw [if_pos h2, sdel_none hf], by unfold pG; rw [if_pos h2]⟩
theorem pS_full {S : List Kw} {mo k : Int} (hf : sfnd S k = none) (hm : max mo 1 < (S.length : Int) + 1) (v : Nat → Value) : pOk mo S k = false ∧ pS mo S k v = ((k, v) :: S).dropLast ∧ pG mo S k v = ((((k, v) :: S).getLast?).map Prod.fst).getD 0 := by
  have h2 : pOk mo S k = false := by
    unfold pOk
    rw [decide_eq_false_iff_not, sdel_none hf]
    omega
  exact ⟨h2, by unfold pS; rw [h2, if_neg (by simp), sdel_none hf], by unfold pG; rw [h2, if_neg (by simp), sdel_none hf]⟩
theorem pS_length {S : List Kw} (hn : (S.map Prod.fst).Nodup) {mo k : Int} (hm : (S.length : Int) ≤ max mo 1) (v : Nat → Value) : ((pS mo S k v).length : Int) ≤ max mo 1 ∧ (pS mo S k v).length ≤ S.length + 1 := by
  cases hf : sfnd S k with
  | none =>
    by_cases hr : (S.length : Int) + 1 ≤ max mo 1
    · rw [(pS_room hf hr v).2.1, List.length_cons]; omega
    · rw [(pS_full hf (by omega) v).2.1, List.length_dropLast, List.length_cons]; omega
  | some p =>
    have h1 := sdel_length hn hf
    rw [(pS_has hn hf hm v).2.1, List.length_cons]; omega

end Go.Proofs.Ytjlnmkoggobbgaa
