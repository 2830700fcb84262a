/- FoldSides: the call returns true. -/
import Derived.Test.YthfadeoanjjiaaaN1
import Derived.Test.YthfadeoanjjiaaaH1
namespace Go.Proofs.Ythfadeoanjjiaaa
open Go.RowKit Srt

theorem sides_opp {a b x r : Nat} (ha : Fl.Ok a) (hx : Got (Ieee.double.mul a b) x) (hr : Got (Ieee.double.mul (Fl.opp a) b) r) : (ordB r (Fl.opp x) == 0) = true := by
  rw [beq_iff_eq]
  cases hn : Fl.nan a
  · rw [Fl.mul_opp ha hn] at hr
    rcases hx with ⟨e, h1, h2⟩ | ⟨e, h1, h2⟩
    · rw [e] at hr
      rcases hr with ⟨e2, _⟩ | ⟨e2, _⟩
      · cases e2; exact ordB_self _
      · cases e2
    · rw [e] at hr
      rcases hr with ⟨e2, _⟩ | ⟨_, h3, _⟩
      · cases e2
      · exact ordB_nan h3 (by rw [nan_opp h2]; exact h1)
  · rw [mul_nan_left ha hn] at hx
    rw [mul_nan_left (Fl.opp_ok ha) (by rw [nan_opp ha]; exact hn)] at hr
    rcases hx with ⟨e, _⟩ | ⟨_, h1, h2⟩
    · cases e
    · rcases hr with ⟨e, _⟩ | ⟨_, h3, _⟩
      · cases e
      · exact ordB_nan h3 (by rw [nan_opp h2]; exact h1)
theorem sides_one {a r : Nat} (ha : Fl.Ok a) (hr : Got (Ieee.double.mul a (floatOfInt .f64 1)) r) : (ordB r a == 0) = true := by
  rw [beq_iff_eq]
  cases hn : Fl.nan a
  · rw [Fl.mul_one ha hn] at hr
    rcases hr with ⟨e, _⟩ | ⟨e, _⟩
    · cases e; exact ordB_self _
    · cases e
  · rw [mul_nan_left ha hn] at hr
    rcases hr with ⟨e, _⟩ | ⟨_, h3, _⟩
    · cases e
    · exact ordB_nan h3 hn
theorem sides_two {a r t : Nat} (ha : Fl.Ok a) (hr : Got (Ieee.double.mul a (floatOfInt .f64 2)) r) (ht : Got (Ieee.double.add a a) t) : (ordB r t == 0) = true := by
  rw [beq_iff_eq]
  rw [Fl.mul_two ha] at hr
  exact hr.same ht

theorem add_self {a : Nat} (ha : Fl.Ok a) (h : Fl.nan a = false) : ∃ t, Ieee.double.add a a = some t := by
  have h2 : ¬ 9218868437227405312 < a % 9223372036854775808 := of_decide_eq_false h
  unfold Ieee.Format.add
  by_cases h1 : a % 9223372036854775808 < 9218868437227405312
  · rw [Fl.read_fin ha h1]; exact ⟨_, rfl⟩
  · rw [Fl.read_inf ha (by omega)]
    simp only [Ieee.Datum.sum, if_true]
    exact ⟨_, rfl⟩
theorem eq_same {t : Nat} (ht : Fl.Ok t) (h : Fl.nan t = false) : (FloatKind.f64.format.order t t == some .eq) = true := by
  have e := Fl.is_eq ht ht
  rw [h] at e
  exact e.trans (by simp)
theorem sides_sum {a r s : Nat} (ha : Fl.Ok a) (h : Fl.nan a = false) (hr : Got (Ieee.double.add a a) r) (hs : Got (sumO (at' [a, a]) 2) s) : (FloatKind.f64.format.order r s == some .eq) = true := by
  have e2 : sumO (at' [a, a]) 2 = (Ieee.double.add 0 a).bind fun s => Ieee.double.add s a := rfl
  rw [e2] at hs
  by_cases h0 : a % 9223372036854775808 = 0
  · unfold Fl.Ok at ha
    obtain rfl | rfl : a = 0 ∨ a = 9223372036854775808 := by omega
    · obtain rfl := got_lit hr (show _ = some 0 by decide +kernel)
      obtain rfl := got_lit hs (show _ = some 0 by decide +kernel)
      decide +kernel
    · obtain rfl := got_lit hr (show _ = some 9223372036854775808 by decide +kernel)
      obtain rfl := got_lit hs (show _ = some 0 by decide +kernel)
      decide +kernel
  · rw [Fl.add_zero ha h h0] at hs
    obtain ⟨t, ht⟩ := add_self ha h
    have k := add_some ht
    obtain rfl := got_lit hr ht
    obtain rfl := got_lit hs (show _ = some r from ht)
    exact eq_same k.2 k.1

theorem ok_two {a : Nat} (ha : Fl.Ok a) : ∀ i, Fl.Ok (at' [a, a] i) := at_ok (by intro x hx; simp at hx; subst hx; exact ha)

set_option maxRecDepth 100000 in
set_option maxHeartbeats 4000000 in
theorem sides_walk (a : Nat) (n : Int) (A : Hid (Fl.Ok a)) (w : World) : Calls Try.prog 7 #[.float .f64 a, .int .i64 n] w fun e w' => e = .returned (.bool true) ∧ Below w.heap.size w w' := by
  have hng : ∀ w, (Op.unary .neg (.float .f64 a)).run Try.prog w = .ok (.float .f64 (Fl.opp a)) w := neg_at A.out
  by_cases h1 : n < 0
  · go_enter Try.func7, Try.ntmps7
    go_wp2_with fail
    refine (begun_any _).mono ?_
    rintro e w1 ⟨rfl, hb1⟩
    have B1 : Hid _ := hb1
    clear hb1
    go_wp2_with fail
    go_ret
    exact ⟨rfl, B1.out⟩
  · by_cases h2 : n > 1000000
    · go_enter Try.func7, Try.ntmps7
      go_wp2_with fail
      refine (begun_any _).mono ?_
      rintro e w1 ⟨rfl, hb1⟩
      have B1 : Hid _ := hb1
      clear hb1
      go_wp2_with fail
      go_ret
      exact ⟨rfl, B1.out⟩
    · have A2 : Hid (Fl.Ok (Fl.opp a)) := Fl.opp_ok A.out
      cases hn : Fl.nan a
      · have cs := (Fl.c_self A.out).trans hn
        have HN : Hid _ := hn
        clear hn
        go_enter Try.func7, Try.ntmps7
        go_wp2_with fail
        refine (begun_any _).mono ?_
        rintro e w1 ⟨rfl, hb1⟩
        have B1 : Hid _ := hb1
        clear hb1
        go_wp2_with fail
        refine (times_any a n _).mono ?_
        rintro e w2 ⟨x, q2, rfl, X, hw2⟩
        have B2 : Hid (Below w.heap.size w w2) := by show Below _ _ _; rw [hw2]; exact B1.out.trans (below_drewN _ _ _)
        clear hw2 B1
        have hng2 : ∀ w, (Op.unary .neg (.float .f64 x)).run Try.prog w = .ok (.float .f64 (Fl.opp x)) w := neg_at X.out.ok
        go_wp2_with fail
        refine (times_any (Fl.opp a) n _).mono ?_
        rintro e w3 ⟨r, q3, rfl, R, hw3⟩
        have B3 : Hid (Below w.heap.size w w3) := by show Below _ _ _; rw [hw3]; exact B2.out.trans (below_drewN _ _ _)
        clear hw3 B2
        go_wp2_with fail
        refine (refSame_any r (Fl.opp x) R.out.ok (Fl.opp_ok X.out.ok) _).mono ?_
        rintro e w' ⟨rfl, rfl⟩
        rw [sides_opp A.out X.out R.out]
        go_wp2_with fail
        refine (times_any a 1 _).mono ?_
        rintro e w4 ⟨r2, q4, rfl, R2, hw4⟩
        have B4 : Hid (Below w.heap.size w w4) := by show Below _ _ _; rw [hw4]; exact B3.out.trans (below_drewN _ _ _)
        clear hw4 B3
        go_wp2_with fail
        refine (refSame_any r2 a R2.out.ok A.out _).mono ?_
        rintro e w' ⟨rfl, rfl⟩
        rw [sides_one A.out R2.out]
        go_wp2_with fail
        refine (times_any a 2 _).mono ?_
        rintro e w5 ⟨r3, q5, rfl, R3, hw5⟩
        have B5 : Hid (Below w.heap.size w w5) := by show Below _ _ _; rw [hw5]; exact B4.out.trans (below_drewN _ _ _)
        clear hw5 B4
        obtain ⟨t, q6, ht, hadd⟩ := run_add Try.prog 23 a a w5
        have T : Hid (Got (Ieee.double.add a a) t) := ht
        clear ht
        have B6 : Hid (Below w.heap.size w (w5.drewN q6)) := B5.out.trans (below_drewN _ _ _)
        clear B5
        go_wp2_with fail
        refine (refSame_any r3 t R3.out.ok T.out.ok _).mono ?_
        rintro e w6 ⟨rfl, hw6⟩
        rw [sides_two A.out R3.out T.out]
        have B7 : Hid (Below w.heap.size w w6) := by show Below _ _ _; rw [hw6]; exact B6.out
        clear hw6 B6 hadd
        obtain ⟨t2, q7, ht2, hadd2⟩ := run_add Try.prog 23 a a w6
        have T2 : Hid (Got (Ieee.double.add a a) t2) := ht2
        clear ht2
        have B8 : Hid (Below w.heap.size w (w6.drewN q7)) := B7.out.trans (below_drewN _ _ _)
        have SL : Hid _ := sl_lit (w6.drewN q7) [a, a] _ rfl
        clear B7
        go_wp2_with fail
        refine (sum_any _ 2 2 _ _ (by omega) SL).mono ?_
        rintro e w7 ⟨s, rfl, S, hb7⟩
        have B9 : Hid (Below w.heap.size w w7) := chain (B8.out.alloc B8.out.size _) hb7
        have fin := sides_sum A.out HN.out T2.out S.out
        clear hb7 B8 SL
        go_wp2_with fail
        go_ret
        exact ⟨rfl, B9.out⟩
      · have cs := (Fl.c_self A.out).trans hn
        have HN : Hid _ := hn
        clear hn
        go_enter Try.func7, Try.ntmps7
        go_wp2_with fail
        refine (begun_any _).mono ?_
        rintro e w1 ⟨rfl, hb1⟩
        have B1 : Hid _ := hb1
        clear hb1
        go_wp2_with fail
        refine (times_any a n _).mono ?_
        rintro e w2 ⟨x, q2, rfl, X, hw2⟩
        have B2 : Hid (Below w.heap.size w w2) := by show Below _ _ _; rw [hw2]; exact B1.out.trans (below_drewN _ _ _)
        clear hw2 B1
        have hng2 : ∀ w, (Op.unary .neg (.float .f64 x)).run Try.prog w = .ok (.float .f64 (Fl.opp x)) w := neg_at X.out.ok
        go_wp2_with fail
        refine (times_any (Fl.opp a) n _).mono ?_
        rintro e w3 ⟨r, q3, rfl, R, hw3⟩
        have B3 : Hid (Below w.heap.size w w3) := by show Below _ _ _; rw [hw3]; exact B2.out.trans (below_drewN _ _ _)
        clear hw3 B2
        go_wp2_with fail
        refine (refSame_any r (Fl.opp x) R.out.ok (Fl.opp_ok X.out.ok) _).mono ?_
        rintro e w' ⟨rfl, rfl⟩
        rw [sides_opp A.out X.out R.out]
        go_wp2_with fail
        refine (times_any a 1 _).mono ?_
        rintro e w4 ⟨r2, q4, rfl, R2, hw4⟩
        have B4 : Hid (Below w.heap.size w w4) := by show Below _ _ _; rw [hw4]; exact B3.out.trans (below_drewN _ _ _)
        clear hw4 B3
        go_wp2_with fail
        refine (refSame_any r2 a R2.out.ok A.out _).mono ?_
        rintro e w' ⟨rfl, rfl⟩
        rw [sides_one A.out R2.out]
        go_wp2_with fail
        refine (times_any a 2 _).mono ?_
        rintro e w5 ⟨r3, q5, rfl, R3, hw5⟩
        have B5 : Hid (Below w.heap.size w w5) := by show Below _ _ _; rw [hw5]; exact B4.out.trans (below_drewN _ _ _)
        clear hw5 B4
        obtain ⟨t, q6, ht, hadd⟩ := run_add Try.prog 23 a a w5
        have T : Hid (Got (Ieee.double.add a a) t) := ht
        clear ht
        have B6 : Hid (Below w.heap.size w (w5.drewN q6)) := B5.out.trans (below_drewN _ _ _)
        clear B5
        go_wp2_with fail
        refine (refSame_any r3 t R3.out.ok T.out.ok _).mono ?_
        rintro e w6 ⟨rfl, hw6⟩
        rw [sides_two A.out R3.out T.out]
        have B7 : Hid (Below w.heap.size w w6) := by show Below _ _ _; rw [hw6]; exact B6.out
        clear hw6 B6 hadd
        go_wp2_with fail
        go_ret
        exact ⟨rfl, B7.out⟩

end Go.Proofs.Ythfadeoanjjiaaa
