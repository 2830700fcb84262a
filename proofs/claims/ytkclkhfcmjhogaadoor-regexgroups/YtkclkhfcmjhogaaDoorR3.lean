/- The reference: in, digit, sign. -/
import Derived.Test.YtkclkhfcmjhogaaDoorR2
import Derived.Test.YtkclkhfcmjhogaaDoorG4
namespace Go.Proofs.YtkclkhfcmjhogaaDoor
open Go.RowKit
set_option linter.unusedVariables false

def MR : List Nat := [92, 124, 42, 43, 63, 40, 41, 91, 93, 46, 94, 45]
theorem mk_of {c i : Nat} (hi : i < 12) (h : MR[i]'hi = c) : mk c = true := by
  unfold mk
  rw [List.contains_iff_mem, ← h]
  exact List.getElem_mem hi
theorem mk_not {c : Nat} (h : ∀ j (hj : j < 12), MR[j]'hj ≠ c) : mk c = false := by
  cases hm : mk c with
  | false => rfl
  | true =>
    unfold mk at hm
    rw [List.contains_iff_mem] at hm
    obtain ⟨i, hi, e⟩ := List.getElem_of_mem hm
    exact absurd e (h i hi)

set_option maxHeartbeats 1000000 in
theorem in_marks (c : Nat) (hc : c < 256) (w : World) : Calls Tryd.prog 82 #[.string ⟨#[92, 124, 42, 43, 63, 40, 41, 91, 93, 46, 94, 45]⟩, .int .u8 (c : Int)] w fun e w' => e = .returned (.bool (mk c)) ∧ w' = w := by
  have HI : Hid (∀ i : Nat, (hi : i < 12) → ∀ W, (Instr.index 9 (.string ⟨#[92, 124, 42, 43, 63, 40, 41, 91, 93, 46, 94, 45]⟩) (.int .i64 (i : Int))).run Tryd.prog W = .ok (.int .u8 ((MR[i]'hi : Nat) : Int)) W) := fun i hi W => idx_at ⟨#[92, 124, 42, 43, 63, 40, 41, 91, 93, 46, 94, 45]⟩ i hi W
  go_enter Tryd.func82, Tryd.ntmps82
  go_wp2_with fail
  go_loopw [5] (fun s5 wr => ∃ i : Nat, i ≤ 12 ∧ s5 = .int .i64 i ∧ Hid (∀ j (hj : j < 12), j < i → MR[j]'hj ≠ c) ∧ wr = w) (fun s5 _ => 12 - (intOf s5).toNat)
  case atStart => exact ⟨0, by omega, rfl, fun j _ h => by omega, rfl⟩
  case round =>
    obtain ⟨i, hi, rfl, H, rfl⟩ := hrel
    by_cases hlt : i < 12
    · have hx := HI.out i hlt
      by_cases he : MR[i]'hlt = c
      · have HM : Hid (mk c = true) := mk_of hlt he
        have hb : (((MR[i]'hlt : Nat) : Int) == (c : Int)) = true := by simp; omega
        generalize MR[i]'hlt = x at *
        clear he
        go_wp2_with fail
        go_ret
        exact ⟨by rw [HM.out]; rfl, rfl⟩
      · have hb : (((MR[i]'hlt : Nat) : Int) == (c : Int)) = false := by simp; omega
        have H2 : Hid (∀ j (hj : j < 12), j < i + 1 → MR[j]'hj ≠ c) := by
          intro j hj h
          by_cases e : j = i
          · subst e; exact he
          · exact H.out j hj (by omega)
        generalize MR[i]'hlt = x at *
        clear he
        go_wp2_with fail
        exact ⟨⟨i + 1, by omega, by go_num, H2, trivial⟩, by simp [intOf]; omega⟩
    · obtain rfl : i = 12 := by omega
      have HM : Hid (mk c = false) := mk_not (fun j hj => H.out j hj hj)
      go_wp2_with fail
      go_ret
      exact ⟨by rw [HM.out]; rfl, rfl⟩

/-- What digit tells. -/
def dgt (c : Nat) : Int := match dig c with | none => -1 | some x => (x : Int)
theorem dgt_hexd {i : Nat} (hi : i < 16) : dgt (hexd i) = (i : Int) := by unfold dgt; rw [dig_hexd hi]
theorem dgt_not {c : Nat} (h : ∀ j, j < 16 → hexd j ≠ c) : dgt c = -1 := by
  unfold dgt
  cases hd : dig c with
  | none => rfl
  | some x =>
    exfalso
    have hx := dig_lt hd
    refine h x hx ?_
    unfold dig at hd
    unfold hexd
    split at hd
    · cases hd; rw [if_pos (by omega)]; omega
    · split at hd
      · cases hd; rw [if_neg (by omega)]; omega
      · cases hd
set_option maxHeartbeats 1000000 in
theorem rdigit (c : Nat) (hc : c < 256) (w : World) : Calls Tryd.prog 112 #[.int .u8 (c : Int)] w fun e w' => e = .returned (.int .i64 (dgt c)) ∧ w' = w := by
  have HI : Hid (∀ i : Nat, (hi : i < 16) → ∀ W, (Instr.index 9 (.string ⟨#[48, 49, 50, 51, 52, 53, 54, 55, 56, 57, 97, 98, 99, 100, 101, 102]⟩) (.int .i64 (i : Int))).run Tryd.prog W = .ok (.int .u8 ((hexd i : Nat) : Int)) W) := by
    intro i hi W
    have := idx_at ⟨#[48, 49, 50, 51, 52, 53, 54, 55, 56, 57, 97, 98, 99, 100, 101, 102]⟩ i hi W
    rwa [hexd_at i hi] at this
  go_enter Tryd.func112, Tryd.ntmps112
  go_wp2_with fail
  go_loopw [3] (fun s3 wr => ∃ i : Nat, i ≤ 16 ∧ s3 = .int .i64 i ∧ Hid (∀ j, j < i → hexd j ≠ c) ∧ wr = w) (fun s3 _ => 16 - (intOf s3).toNat)
  case atStart => exact ⟨0, by omega, rfl, fun j h => by omega, rfl⟩
  case round =>
    obtain ⟨i, hi, rfl, H, rfl⟩ := hrel
    by_cases hlt : i < 16
    · have hx := HI.out i hlt
      by_cases he : hexd i = c
      · have HM : Hid (dgt c = (i : Int)) := by show _ = _; rw [← he]; exact dgt_hexd hlt
        have hb : (((hexd i : Nat) : Int) == (c : Int)) = true := by simp; omega
        generalize hexd i = x at *
        clear he
        go_wp2_with fail
        go_ret
        exact ⟨by rw [HM.out]; rfl, rfl⟩
      · have hb : (((hexd i : Nat) : Int) == (c : Int)) = false := by simp; omega
        have H2 : Hid (∀ j, j < i + 1 → hexd j ≠ c) := by
          intro j h
          by_cases e : j = i
          · subst e; exact he
          · exact H.out j (by omega)
        generalize hexd i = x at *
        clear he
        go_wp2_with fail
        exact ⟨⟨i + 1, by omega, by go_num, H2, trivial⟩, by simp [intOf]; omega⟩
    · obtain rfl : i = 16 := by omega
      have HM : Hid (dgt c = -1) := dgt_not (fun j hj => H.out j hj)
      go_wp2_with fail
      go_ret
      exact ⟨by rw [HM.out]; rfl, rfl⟩

end Go.Proofs.YtkclkhfcmjhogaaDoor
