/- FoldMerges: the call returns true. -/
import Derived.Test.YthfadeoanjjiaaaX1
namespace Go.Proofs.Ythfadeoanjjiaaa
open Go.RowKit Srt

set_option maxRecDepth 100000 in
set_option maxHeartbeats 4000000 in
theorem merges_long (a0 : Option Addr) (n cap : Nat) (a1 : Option Addr) (k cap1 : Nat) (w : World) (h : 15 < n ∨ n ≤ 15 ∧ 15 < k) : Calls Try.prog 6 #[.slice a0 n cap, .slice a1 k cap1] w fun e w' => e = .returned (.bool true) ∧ Below w.heap.size w w' := by
  rcases h with h | ⟨h, h'⟩
  · have z : 15 < (n : Int) := by omega
    go_enter Try.func6, Try.ntmps6
    go_wp2_with fail
    refine (begun_any _).mono ?_
    rintro e w1 ⟨rfl, hb1⟩
    have B1 : Hid _ := hb1
    clear hb1
    go_wp2_with fail
    go_ret
    exact ⟨rfl, B1.out⟩
  · have z : ¬ 15 < (n : Int) := by omega
    have z' : 15 < (k : Int) := by omega
    go_enter Try.func6, Try.ntmps6
    go_wp2_with fail
    refine (begun_any _).mono ?_
    rintro e w1 ⟨rfl, hb1⟩
    have B1 : Hid _ := hb1
    clear hb1
    go_wp2_with fail
    go_ret
    exact ⟨rfl, B1.out⟩

theorem zero_eq : (FloatKind.f64.format.order 0 0 == some .eq) = true := by decide +kernel

set_option maxRecDepth 100000 in
set_option maxHeartbeats 16000000 in
theorem merges_walk (a0 : Option Addr) (n cap : Nat) (f : Nat → Nat) (a1 : Option Addr) (k cap1 : Nat) (g : Nat → Nat) (w : World) (hn : n ≤ 15) (hk : k ≤ 15) (L : Hid (Sl w a0 n f)) (F : Hid (∀ i, Fl.Ok (f i))) (NN : Hid (a0 = none → n = 0 ∧ cap = 0)) (L1 : Hid (Sl w a1 k g)) (G : Hid (∀ i, Fl.Ok (g i))) (NN1 : Hid (a1 = none → k = 0 ∧ cap1 = 0)) : Calls Try.prog 6 #[.slice a0 n cap, .slice a1 k cap1] w fun e w' => e = .returned (.bool true) ∧ Below w.heap.size w w' := by
  have z : ¬ 15 < (n : Int) := by omega
  have z' : ¬ 15 < (k : Int) := by omega
  have big : n < 4611686018427387904 := by omega
  have big1 : k < 4611686018427387904 := by omega
  have z0 := zero_eq
  go_enter Try.func6, Try.ntmps6
  go_wp2_with fail
  refine (begun_any _).mono ?_
  rintro e w1 ⟨rfl, hb1⟩
  have B1 : Hid _ := hb1
  clear hb1
  obtain ⟨v1, w2, r1, o1, c1⟩ := append_empty w1 w1.heap.size n cap f a0 (L.out.below B1.out) (by omega) NN.out (Nat.le_refl _)
  have O1 : Hid _ := o1
  have C1 : Hid _ := c1
  have B2 : Hid (Below w.heap.size w w2) := chain B1.out c1
  clear o1 c1
  obtain ⟨v2, w3, r2, o2, c2⟩ := append_run w2 w1.heap.size v1 n k cap1 f g a1 O1.out (L1.out.below B2.out) (by omega) NN1.out C1.out.size
  have B3 : Hid (Below w.heap.size w w3) := B2.out.trans (c2.mono B1.out.size)
  obtain ⟨a2, cap2, rfl, S2, _⟩ := o2.sl
  have T : Hid (Sl w3 a2 (n + k) (cat f n g)) := S2
  clear o2 c2 S2 C1 O1 B2
  have M0 : Hid (Sl w3 a0 n f) := L.out.below B3.out
  have M1 : Hid (Sl w3 a1 k g) := L1.out.below B3.out
  have FT : Hid (∀ i, Fl.Ok (cat f n g i)) := cat_ok F.out G.out
  go_wp2_with (at_builtin; first | (refine wpList_append_given rfl _ _ 22 rfl _ _ _ _ rfl rfl r1 ?_) | (refine wpList_append_given rfl _ _ 22 rfl _ _ _ _ rfl rfl r2 ?_))
  refine (least_any _ n cap f _ big M0 F).mono ?_
  rintro e wx ⟨⟨p, ip, rfl, hp⟩, hwx⟩
  obtain rfl := hwx.symm
  clear hwx
  go_wp2_with fail
  refine (least_any _ k cap1 g _ big1 M1 G).mono ?_
  rintro e wx ⟨⟨q, iq, rfl, hq⟩, hwx⟩
  obtain rfl := hwx.symm
  clear hwx
  go_wp2_with fail
  refine (least_any _ (n + k) _ _ _ (by omega) T FT).mono ?_
  rintro e wx ⟨⟨r, ir, rfl, hr⟩, hwx⟩
  obtain rfl := hwx.symm
  clear hwx
  obtain ⟨rfl, lo1, lo2⟩ := ext_cat (.inl rfl) hp.out hq.out hr.out
  have LO1 : Hid _ := lo1
  have LO2 : Hid _ := lo2
  clear lo1 lo2
  go_wp2_with fail
  refine (most_any _ n cap f _ big M0 F).mono ?_
  rintro e wx ⟨⟨x, ix, rfl, hx⟩, hwx⟩
  obtain rfl := hwx.symm
  clear hwx
  obtain rfl := ext_sides hp.out hx.out
  go_wp2_with fail
  refine (most_any _ k cap1 g _ big1 M1 G).mono ?_
  rintro e wx ⟨⟨y, iy, rfl, hy⟩, hwx⟩
  obtain rfl := hwx.symm
  clear hwx
  obtain rfl := ext_sides hq.out hy.out
  go_wp2_with fail
  refine (most_any _ (n + k) _ _ _ (by omega) T FT).mono ?_
  rintro e wx ⟨⟨u, iu, rfl, hu⟩, hwx⟩
  obtain rfl := hwx.symm
  clear hwx
  obtain ⟨rfl, hi1, hi2⟩ := ext_cat (.inr rfl) hx.out hy.out hu.out
  have HI1 : Hid _ := hi1
  have HI2 : Hid _ := hi2
  clear hi1 hi2
  have OP : Hid (Fl.Ok p) := hp.out.ok F.out
  have OQ : Hid (Fl.Ok q) := hq.out.ok G.out
  have OR : Hid (Fl.Ok r) := hr.out.ok FT.out
  have OX : Hid (Fl.Ok x) := hx.out.ok F.out
  have OY : Hid (Fl.Ok y) := hy.out.ok G.out
  have OU : Hid (Fl.Ok u) := hu.out.ok FT.out
  cases ip <;> cases iq
  · have e1 : r = 0 := by
      rcases hr.out with ⟨_, h, _⟩ | ⟨h, _⟩
      · exact h
      · cases h
    have e2 : u = 0 := by
      rcases hu.out with ⟨_, h, _⟩ | ⟨h, _⟩
      · exact h
      · cases h
    subst e1 e2
    clear LO1 LO2 HI1 HI2
    go_wp2_with fail
    go_ret
    exact ⟨rfl, B3.out⟩
  · have f1 : Hid (ordB r q = 0) := LO2.out rfl (fun h => by cases h)
    have f2 : Hid (ordB u y = 0) := HI2.out rfl (fun h => by cases h)
    clear LO1 LO2 HI1 HI2
    go_wp2_with fail
    refine (refSame_any r q OR.out OQ.out _).mono ?_
    rintro e wx ⟨rfl, hx2⟩
    obtain rfl := hx2.symm
    clear hx2
    rw [same_true (f1.out)]
    go_wp2_with fail
    refine (refSame_any u y OU.out OY.out _).mono ?_
    rintro e wx ⟨rfl, hx2⟩
    obtain rfl := hx2.symm
    clear hx2
    rw [same_true (f2.out)]
    go_wp2_with fail
    go_ret
    exact ⟨rfl, B3.out⟩
  · have f1 : Hid (ordB r p = 0) := LO1.out rfl (fun h => by cases h)
    have f2 : Hid (ordB u x = 0) := HI1.out rfl (fun h => by cases h)
    clear LO1 LO2 HI1 HI2
    go_wp2_with fail
    refine (refSame_any r p OR.out OP.out _).mono ?_
    rintro e wx ⟨rfl, hx2⟩
    obtain rfl := hx2.symm
    clear hx2
    rw [same_true (f1.out)]
    go_wp2_with fail
    refine (refSame_any u x OU.out OX.out _).mono ?_
    rintro e wx ⟨rfl, hx2⟩
    obtain rfl := hx2.symm
    clear hx2
    rw [same_true (f2.out)]
    go_wp2_with fail
    go_ret
    exact ⟨rfl, B3.out⟩
  · have t1 := ord_three q p
    have t2 := ord_three y x
    by_cases c1 : ordB q p < 0
    · have f1 : Hid (ordB r q = 0) := LO2.out rfl (fun _ => by omega)
      by_cases c2 : 0 < ordB y x
      · have f2 : Hid (ordB u y = 0) := HI2.out rfl (fun _ => by omega)
        clear LO1 LO2 HI1 HI2 t1 t2
        go_wp2_with fail
        refine (refOrder_any q p OQ.out OP.out _).mono ?_
        rintro e wx ⟨rfl, hx2⟩
        obtain rfl := hx2.symm
        clear hx2
        go_wp2_with fail
        refine (refOrder_any y x OY.out OX.out _).mono ?_
        rintro e wx ⟨rfl, hx2⟩
        obtain rfl := hx2.symm
        clear hx2
        go_wp2_with fail
        refine (refSame_any r q OR.out OQ.out _).mono ?_
        rintro e wx ⟨rfl, hx2⟩
        obtain rfl := hx2.symm
        clear hx2
        rw [same_true (f1.out)]
        go_wp2_with fail
        refine (refSame_any u y OU.out OY.out _).mono ?_
        rintro e wx ⟨rfl, hx2⟩
        obtain rfl := hx2.symm
        clear hx2
        rw [same_true (f2.out)]
        go_wp2_with fail
        go_ret
        exact ⟨rfl, B3.out⟩
      · have f2 : Hid (ordB u x = 0) := HI1.out rfl (fun _ => by omega)
        have d2 : decide (0 < ordB y x) = false := decide_eq_false c2
        clear LO1 LO2 HI1 HI2 t1 t2
        go_wp2_with fail
        refine (refOrder_any q p OQ.out OP.out _).mono ?_
        rintro e wx ⟨rfl, hx2⟩
        obtain rfl := hx2.symm
        clear hx2
        go_wp2_with fail
        refine (refOrder_any y x OY.out OX.out _).mono ?_
        rintro e wx ⟨rfl, hx2⟩
        obtain rfl := hx2.symm
        clear hx2
        go_wp2_with fail
        refine (refSame_any r q OR.out OQ.out _).mono ?_
        rintro e wx ⟨rfl, hx2⟩
        obtain rfl := hx2.symm
        clear hx2
        rw [same_true (f1.out)]
        go_wp2_with fail
        refine (refSame_any u x OU.out OX.out _).mono ?_
        rintro e wx ⟨rfl, hx2⟩
        obtain rfl := hx2.symm
        clear hx2
        rw [same_true (f2.out)]
        go_wp2_with fail
        go_ret
        exact ⟨rfl, B3.out⟩
    · have f1 : Hid (ordB r p = 0) := LO1.out rfl (fun _ => by omega)
      have d1 : decide (ordB q p < 0) = false := decide_eq_false c1
      by_cases c2 : 0 < ordB y x
      · have f2 : Hid (ordB u y = 0) := HI2.out rfl (fun _ => by omega)
        clear LO1 LO2 HI1 HI2 t1 t2
        go_wp2_with fail
        refine (refOrder_any q p OQ.out OP.out _).mono ?_
        rintro e wx ⟨rfl, hx2⟩
        obtain rfl := hx2.symm
        clear hx2
        go_wp2_with fail
        refine (refOrder_any y x OY.out OX.out _).mono ?_
        rintro e wx ⟨rfl, hx2⟩
        obtain rfl := hx2.symm
        clear hx2
        go_wp2_with fail
        refine (refSame_any r p OR.out OP.out _).mono ?_
        rintro e wx ⟨rfl, hx2⟩
        obtain rfl := hx2.symm
        clear hx2
        rw [same_true (f1.out)]
        go_wp2_with fail
        refine (refSame_any u y OU.out OY.out _).mono ?_
        rintro e wx ⟨rfl, hx2⟩
        obtain rfl := hx2.symm
        clear hx2
        rw [same_true (f2.out)]
        go_wp2_with fail
        go_ret
        exact ⟨rfl, B3.out⟩
      · have f2 : Hid (ordB u x = 0) := HI1.out rfl (fun _ => by omega)
        have d2 : decide (0 < ordB y x) = false := decide_eq_false c2
        clear LO1 LO2 HI1 HI2 t1 t2
        go_wp2_with fail
        refine (refOrder_any q p OQ.out OP.out _).mono ?_
        rintro e wx ⟨rfl, hx2⟩
        obtain rfl := hx2.symm
        clear hx2
        go_wp2_with fail
        refine (refOrder_any y x OY.out OX.out _).mono ?_
        rintro e wx ⟨rfl, hx2⟩
        obtain rfl := hx2.symm
        clear hx2
        go_wp2_with fail
        refine (refSame_any r p OR.out OP.out _).mono ?_
        rintro e wx ⟨rfl, hx2⟩
        obtain rfl := hx2.symm
        clear hx2
        rw [same_true (f1.out)]
        go_wp2_with fail
        refine (refSame_any u x OU.out OX.out _).mono ?_
        rintro e wx ⟨rfl, hx2⟩
        obtain rfl := hx2.symm
        clear hx2
        rw [same_true (f2.out)]
        go_wp2_with fail
        go_ret
        exact ⟨rfl, B3.out⟩

theorem foldMerges_row (a0 : Option Addr) (n cap : Nat) (f : Nat → Nat) {w : World} (L : Sl w a0 n f) (F : ∀ i, Fl.Ok (f i)) (NN : a0 = none → n = 0 ∧ cap = 0) (a1 : Option Addr) (k cap1 : Nat) (g : Nat → Nat) (L1 : Sl w a1 k g) (G : ∀ i, Fl.Ok (g i)) (NN1 : a1 = none → k = 0 ∧ cap1 = 0) (w' : World) (e : w' = w) : Calls Try.prog 6 #[.slice a0 n cap, .slice a1 k cap1] w' fun e w1 => e = .returned (.bool true) ∧ Below w'.heap.size w' w1 := by
  subst e
  by_cases h : 15 < n ∨ n ≤ 15 ∧ 15 < k
  · exact merges_long a0 n cap a1 k cap1 _ h
  · exact merges_walk a0 n cap f a1 k cap1 g _ (by omega) (by omega) L F NN L1 G NN1

end Go.Proofs.Ythfadeoanjjiaaa
