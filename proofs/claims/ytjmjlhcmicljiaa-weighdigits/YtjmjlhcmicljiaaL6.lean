/- That weigh has begun. -/
import Derived.Test.YtjmjlhcmicljiaaL5
import Derived.Test.YtjmjlhcmicljiaaL2
namespace Go.Proofs.Ytjmjlhcmicljiaa
open Go.RowKit

theorem parse_at (s : ByteArray) (x : Nat) (e : Int) (hs : s.size ≤ 1000) (hx : pW s = x) (he : pE s = e) (w : World) :
    Calls Try.prog 13 #[.string s] w fun d w' => d = .returned (.tuple #[.float .f64 x, .int .i64 e]) ∧ Below w.heap.size w w' := by
  subst hx he
  exact parse_any s (by unfold maxLen; omega) w

theorem p125 : pW ⟨#[49, 46, 50, 53]⟩ = 4608308318706860032 := by decide +kernel
theorem e125 : pE ⟨#[49, 46, 50, 53]⟩ = 0 := by decide +kernel
theorem p1p : pW ⟨#[49, 46]⟩ = 0 := by decide +kernel
theorem e1p : pE ⟨#[49, 46]⟩ = 2 := by decide +kernel
theorem o12 : ordB 4607182418800017408 4611686018427387904 = -1 := by decide +kernel
theorem o22 : (ordB 4611686018427387904 4611686018427387904 == 0) = true := by decide +kernel
theorem k1 : Fl.key 4607182418800017408 = 13830554455654793216 := by decide +kernel
theorem km1 : Fl.key 13830554455654793216 = 4616189618054758399 := by decide +kernel
theorem k3 : Fl.key 4613937818241073152 = 13837309855095848960 := by decide +kernel
theorem f3 : Fl.of 13837309855095848960 = 4613937818241073152 := by decide +kernel
theorem kd1 : Fl.kind 4607182418800017408 = 5 := by decide +kernel
theorem q125 : (FloatKind.f64.format.order 4608308318706860032 4608308318706860032 == some .eq) = true := by decide +kernel
theorem q3 : (FloatKind.f64.format.order 4613937818241073152 4613937818241073152 == some .eq) = true := by decide +kernel
theorem ok_c (n : Nat) (h : n < 18446744073709551616) : Fl.Ok n := h

set_option maxHeartbeats 1000000 in
theorem begun_any (w : World) : Calls Try.prog 12 #[] w fun e w' => e = .returned (.bool true) ∧ Below w.heap.size w w' := by
  have hq1 := q125
  have hq3 := q3
  go_enter Try.func12, Try.ntmps12
  go_wp2_with fail
  refine (parse_at ⟨#[49, 46, 50, 53]⟩ _ _ (by decide) p125 e125 _).mono ?_
  rintro e w1 ⟨rfl, hb1⟩
  have B1 : Hid _ := hb1
  clear hb1
  go_wp2_with fail
  refine (parse_at ⟨#[49, 46]⟩ _ _ (by decide) p1p e1p _).mono ?_
  rintro e w2 ⟨rfl, hb2⟩
  have B2 : Hid _ := hb2
  clear hb2
  go_wp2_with fail
  refine (order_any _ _ (ok_c _ (by omega)) (ok_c _ (by omega)) _).mono ?_
  rintro e w' ⟨rfl, rfl⟩
  rw [o12]
  go_wp2_with fail
  refine (same_any _ _ (ok_c _ (by omega)) (ok_c _ (by omega)) _).mono ?_
  rintro e w' ⟨rfl, rfl⟩
  rw [o22]
  go_wp2_with fail
  refine (key_any _ (ok_c _ (by omega)) _).mono ?_
  rintro e w' ⟨rfl, rfl⟩
  rw [k1]
  go_wp2_with fail
  refine (key_any _ (ok_c _ (by omega)) _).mono ?_
  rintro e w' ⟨rfl, rfl⟩
  rw [km1]
  go_wp2_with fail
  refine (key_any _ (ok_c _ (by omega)) _).mono ?_
  rintro e w' ⟨rfl, rfl⟩
  rw [k3]
  go_wp2_with fail
  refine (of_any 13837309855095848960 (ok_c _ (by omega)) _).mono ?_
  rintro e w' ⟨rfl, rfl⟩
  rw [f3]
  go_wp2_with fail
  refine (kind_any _ (ok_c _ (by omega)) _).mono ?_
  rintro e w' ⟨rfl, rfl⟩
  rw [kd1]
  go_wp2_with fail
  go_ret
  exact ⟨rfl, B1.out.trans (B2.out.mono B1.out.size)⟩
end Go.Proofs.Ytjmjlhcmicljiaa
