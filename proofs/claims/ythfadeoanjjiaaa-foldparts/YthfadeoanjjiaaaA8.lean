/- FoldParts: the call returns true. -/
import Derived.Test.YthfadeoanjjiaaaX1
namespace Go.Proofs.Ythfadeoanjjiaaa
open Go.RowKit Srt

set_option maxRecDepth 100000 in
set_option maxHeartbeats 4000000 in
theorem parts_long (a0 : Option Addr) (n cap x : Nat) (w : World) (h : 20 < n) : Calls Try.prog 8 #[.slice a0 n cap, .float .f64 x] w fun e w' => e = .returned (.bool true) ∧ Below w.heap.size w w' := by
  have z : 20 < (n : Int) := by omega
  go_enter Try.func8, Try.ntmps8
  go_wp2_with fail
  refine (begun_any _).mono ?_
  rintro e w1 ⟨rfl, hb1⟩
  have B1 : Hid _ := hb1
  clear hb1
  go_wp2_with fail
  go_ret
  exact ⟨rfl, B1.out⟩

set_option maxRecDepth 100000 in
set_option maxHeartbeats 4000000 in
theorem parts_walk (a0 : Option Addr) (n cap x : Nat) (f : Nat → Nat) (w : World) (hn : n ≤ 20) (L : Hid (Sl w a0 n f)) (F : Hid (∀ i, Fl.Ok (f i))) (NN : Hid (a0 = none → n = 0 ∧ cap = 0)) : Calls Try.prog 8 #[.slice a0 n cap, .float .f64 x] w fun e w' => e = .returned (.bool true) ∧ Below w.heap.size w w' := by
  have z : ¬ 20 < (n : Int) := by omega
  have big : n < 4611686018427387904 := by omega
  go_enter Try.func8, Try.ntmps8
  go_wp2_with fail
  refine (begun_any _).mono ?_
  rintro e w1 ⟨rfl, hb1⟩
  have B1 : Hid _ := hb1
  clear hb1
  obtain ⟨v1, w2, r1, o1, c1⟩ := append_empty w1 w1.heap.size n cap f a0 (L.out.below B1.out) (by omega) NN.out (Nat.le_refl _)
  have O1 : Hid _ := o1
  have B2 : Hid (Below w.heap.size w w2) := B1.out.trans (c1.mono B1.out.size)
  have C1 : Hid _ := c1
  clear o1 c1
  have s1 : Sl (w2.alloc (.cells #[.float .f64 x] 23)) (some ⟨w2.heap.size, 0, none⟩) 1 (at' [x]) := sl_lit w2 [x] _ rfl
  obtain ⟨v2, w3, r2, o2, c2⟩ := append_run (w2.alloc (.cells #[.float .f64 x] 23)) w1.heap.size v1 n 1 1 f (at' [x]) (some ⟨w2.heap.size, 0, none⟩) (O1.out.alloc _) s1 (by omega) (fun h => by cases h) (by have := C1.out.size; have := (Below.refl w2.heap.size w2).alloc (Nat.le_refl _) (.cells #[.float .f64 x] 23) |>.size; omega)
  have B3 : Hid (Below w.heap.size w w3) := by
    have k1 := B2.out.alloc B2.out.size (.cells #[.float .f64 x] 23)
    exact k1.trans (c2.mono B1.out.size)
  obtain ⟨a2, cap2, rfl, S2, _⟩ := o2.sl
  have M2 : Hid (Sl w3 a2 (n + 1) (cat f n (at' [x]))) := S2
  clear o2 c2 S2 s1 C1 O1
  obtain ⟨v3, w4, r3, o3, c3⟩ := append_empty w3 w3.heap.size n cap f a0 (L.out.below B3.out) (by omega) NN.out (Nat.le_refl _)
  have O3 : Hid _ := o3
  have C3 : Hid _ := c3
  clear o3 c3
  have L4 : Hid (Sl w4 a0 n f) := L.out.below (chain B3.out C3.out)
  obtain ⟨v4, w5, r4, o4, c4⟩ := append_run w4 w3.heap.size v3 n n cap f f a0 O3.out L4.out (by omega) NN.out C3.out.size
  have C5 : Hid (Below w3.heap.size w3 w5) := C3.out.trans c4
  have B5 : Hid (Below w.heap.size w w5) := chain B3.out C5.out
  obtain ⟨a4, cap4, rfl, S4, _⟩ := o4.sl
  have T : Hid (Sl w5 a4 (n + n) (cat f n f)) := S4
  have M5 : Hid (Sl w5 a2 (n + 1) (cat f n (at' [x]))) := M2.out.below C5.out
  clear o4 c4 S4 L4 O3 C3 M2 C5
  have L5 : Hid (Sl w5 a0 n f) := L.out.below B5.out
  have FT : Hid (∀ i, Fl.Ok (cat f n f i)) := cat_ok F.out F.out
  go_wp2_with (at_builtin; first | (refine wpList_append_given rfl _ _ 22 rfl _ _ _ _ rfl rfl r1 ?_) | (refine wpList_append_given rfl _ _ 22 rfl _ _ _ _ rfl rfl r2 ?_) | (refine wpList_append_given rfl _ _ 22 rfl _ _ _ _ rfl rfl r3 ?_) | (refine wpList_append_given rfl _ _ 22 rfl _ _ _ _ rfl rfl r4 ?_))
  refine (least_any _ n cap f _ big L5 F).mono ?_
  rintro e wx ⟨⟨p, is, rfl, hp⟩, hx⟩
  obtain rfl := hx.symm
  clear hx
  go_wp2_with fail
  refine (least_any _ (n + n) _ _ _ (by omega) T FT).mono ?_
  rintro e wx ⟨⟨q, iq, rfl, hq⟩, hx⟩
  obtain rfl := hx.symm
  clear hx
  obtain ⟨rfl, e1⟩ := ext_twice (.inl rfl) hp.out hq.out
  have E1 : Hid _ := same_true e1
  have OP : Hid (Fl.Ok p) := hp.out.ok F.out
  have OQ : Hid (Fl.Ok q) := hq.out.ok FT.out
  clear e1 hq
  go_wp2_with fail
  refine (most_any _ n cap f _ big L5 F).mono ?_
  rintro e wx ⟨⟨r, ir, rfl, hr⟩, hx⟩
  obtain rfl := hx.symm
  clear hx
  obtain rfl := ext_sides hp.out hr.out
  go_wp2_with fail
  refine (most_any _ (n + n) _ _ _ (by omega) T FT).mono ?_
  rintro e wx ⟨⟨s, iz, rfl, hs⟩, hx⟩
  obtain rfl := hx.symm
  clear hx
  obtain ⟨rfl, e2⟩ := ext_twice (.inr rfl) hr.out hs.out
  have E2 : Hid _ := same_true e2
  have OR : Hid (Fl.Ok r) := hr.out.ok F.out
  have OS : Hid (Fl.Ok s) := hs.out.ok FT.out
  clear e2 hs hr hp
  go_wp2_with fail
  refine (sum_any _ (n + 1) _ _ _ (by omega) M5).mono ?_
  rintro e w6 ⟨t1, rfl, T1, hb6⟩
  have L6 : Hid (Sl w6 a0 n f) := L5.out.below hb6
  have B6 : Hid (Below w.heap.size w w6) := chain B5.out hb6
  clear hb6 B5 L5 T M5
  go_wp2_with fail
  refine (sum_any _ n _ _ _ big L6).mono ?_
  rintro e w7 ⟨t2, rfl, T2, hb7⟩
  have B7 : Hid (Below w.heap.size w w7) := chain B6.out hb7
  clear hb7 B6 L6
  obtain ⟨t3, q3, g3, hadd⟩ := run_add Try.prog 23 t2 x w7
  have T3 : Hid (Got (Ieee.double.add t2 x) t3) := g3
  have B8 : Hid (Below w.heap.size w (w7.drewN q3)) := B7.out.trans (below_drewN _ _ _)
  clear g3 B7
  go_wp2_with fail
  refine (refSame_any t1 t3 T1.out.ok T3.out.ok _).mono ?_
  rintro e w8 ⟨rfl, hx⟩
  rw [sum_more T1.out T2.out T3.out]
  have B9 : Hid (Below w.heap.size w w8) := by show Below _ _ _; rw [hx]; exact B8.out
  clear hx B8 hadd
  go_wp2_with fail
  refine (refSame_any p q OP.out OQ.out _).mono ?_
  rintro e wx ⟨rfl, hx⟩
  obtain rfl := hx.symm
  clear hx
  rw [E1.out]
  go_wp2_with fail
  refine (refSame_any r s OR.out OS.out _).mono ?_
  rintro e wx ⟨rfl, hx⟩
  obtain rfl := hx.symm
  clear hx
  rw [E2.out]
  go_wp2_with fail
  go_ret
  exact ⟨rfl, B9.out⟩

theorem foldParts_row (a0 : Option Addr) (n cap : Nat) (f : Nat → Nat) {w : World} (L : Sl w a0 n f) (F : ∀ i, Fl.Ok (f i)) (NN : a0 = none → n = 0 ∧ cap = 0) (x : Nat) (_ : Fl.Ok x) (w' : World) (e : w' = w) : Calls Try.prog 8 #[.slice a0 n cap, .float .f64 x] w' fun e w1 => e = .returned (.bool true) ∧ Below w'.heap.size w' w1 := by
  subst e
  by_cases h : 20 < n
  · exact parts_long a0 n cap x _ h
  · exact parts_walk a0 n cap x f _ (by omega) L F NN

end Go.Proofs.Ythfadeoanjjiaaa
