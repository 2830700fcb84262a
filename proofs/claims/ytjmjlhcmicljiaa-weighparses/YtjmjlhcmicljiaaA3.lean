/- WeighParses: the call returns true. -/
import Derived.Test.YtjmjlhcmicljiaaP4
import Derived.Test.YtjmjlhcmicljiaaL6
import Derived.Test.YtjmjlhcmicljiaaM1
namespace Go.Proofs.Ytjmjlhcmicljiaa
open Go.RowKit

set_option maxHeartbeats 400000 in
theorem ref_nan (w : World) :
    Calls Try.prog 14 #[.string ⟨#[110, 97, 110]⟩] w fun e w' => e = .returned (.tuple #[.float .f64 9221120237041090561, .int .i64 0]) ∧ w' = w := by
  go_enter Try.func14, Try.ntmps14
  go_wp2_with fail
  refine (nan_raw _).mono ?_
  rintro e w' ⟨rfl, rfl⟩
  go_wp2_with fail
  go_ret2
  exact ⟨rfl, rfl⟩
set_option maxHeartbeats 400000 in
theorem ref_inf (w : World) :
    Calls Try.prog 14 #[.string ⟨#[105, 110, 102]⟩] w fun e w' => e = .returned (.tuple #[.float .f64 9218868437227405312, .int .i64 0]) ∧ w' = w := by
  go_enter Try.func14, Try.ntmps14
  go_wp2_with fail
  refine (inf_pos _).mono ?_
  rintro e w' ⟨rfl, rfl⟩
  go_wp2_with fail
  go_ret2
  exact ⟨rfl, rfl⟩
set_option maxHeartbeats 400000 in
theorem ref_ninf (w : World) :
    Calls Try.prog 14 #[.string ⟨#[45, 105, 110, 102]⟩] w fun e w' => e = .returned (.tuple #[.float .f64 18442240474082181120, .int .i64 0]) ∧ w' = w := by
  go_enter Try.func14, Try.ntmps14
  go_wp2_with fail
  refine (inf_neg _).mono ?_
  rintro e w' ⟨rfl, rfl⟩
  go_wp2_with fail
  go_ret2
  exact ⟨rfl, rfl⟩

theorem refParse_all (s : ByteArray) (hs : s.size ≤ 60) (w : World) :
    Calls Try.prog 14 #[.string s] w fun e w' => e = .returned (.tuple #[.float .f64 (pW s), .int .i64 (pE s)]) ∧ w' = w := by
  cases h1 : s.toList == [110, 97, 110]
  · cases h2 : s.toList == [105, 110, 102]
    · cases h3 : s.toList == [45, 105, 110, 102]
      · exact refParse_any s hs h1 h2 h3 w
      · have e1 : pW s = 18442240474082181120 := by unfold pW; simp only [h1, h2, h3, Bool.false_eq_true, if_false, if_true]
        have e2 : pE s = 0 := by unfold pE pOk; rw [h1, h2, h3]; rfl
        rw [e1, e2, bytes_of (eq_of_beq h3)]
        exact ref_ninf w
    · have e1 : pW s = 9218868437227405312 := by unfold pW; simp only [h1, h2, Bool.false_eq_true, if_false, if_true]
      have e2 : pE s = 0 := by unfold pE pOk; rw [h1, h2]; rfl
      rw [e1, e2, bytes_of (eq_of_beq h2)]
      exact ref_inf w
  · have e1 : pW s = 9221120237041090561 := by unfold pW; simp only [h1, if_true]
    have e2 : pE s = 0 := by unfold pE pOk; rw [h1]; rfl
    rw [e1, e2, bytes_of (eq_of_beq h1)]
    exact ref_nan w

set_option maxHeartbeats 400000 in
theorem parses_walk (s : ByteArray) (hs : s.size ≤ maxLen) (w : World) :
    Calls Try.prog 3 #[.string s] w fun e w' => e = .returned (.bool true) ∧ Below w.heap.size w w' := by
  have okx : Hid (Fl.Ok (pW s)) := pW_ok s
  have S : Hid _ := hs
  unfold maxLen at hs
  by_cases hl : s.size ≤ 60
  · have hl2 : (s.size : Int) ≤ 60 := by omega
    go_enter Try.func3, Try.ntmps3
    go_wp2_with fail
    refine (begun_any _).mono ?_
    rintro e w1 ⟨rfl, hb1⟩
    have B1 : Hid _ := hb1
    clear hb1
    go_wp2_with fail
    refine (parse_any s S.out _).mono ?_
    rintro e w2 ⟨rfl, hb2⟩
    have B2 : Hid _ := hb2
    clear hb2
    go_wp2_with fail
    refine (refParse_all s hl _).mono ?_
    rintro e w' ⟨rfl, rfl⟩
    go_wp2_with fail
    refine (same_any _ _ okx.out okx.out _).mono ?_
    rintro e w' ⟨rfl, rfl⟩
    rw [ordB_self]
    go_wp2_with fail
    refine (refSame_any _ _ okx.out okx.out _).mono ?_
    rintro e w' ⟨rfl, rfl⟩
    rw [ordB_self]
    go_wp2_with fail
    go_ret
    exact ⟨rfl, B1.out.trans (B2.out.mono B1.out.size)⟩
  · have hl2 : ¬ (s.size : Int) ≤ 60 := by omega
    go_enter Try.func3, Try.ntmps3
    go_wp2_with fail
    refine (begun_any _).mono ?_
    rintro e w1 ⟨rfl, hb1⟩
    have B1 : Hid _ := hb1
    clear hb1
    go_wp2_with fail
    go_ret
    exact ⟨rfl, B1.out⟩
end Go.Proofs.Ytjmjlhcmicljiaa
