/- FoldAll: the call returns true. -/
import Derived.Test.YthfadeoanjjiaaaQ4
namespace Go.Proofs.Ythfadeoanjjiaaa
open Go.RowKit Srt

theorem Rw.sl {w : World} {b n : Nat} {f : Nat → Nat} (h : Rw w b n f) : Sl w (some ⟨b, 0, none⟩) n f := by
  intro i hi
  have c := (h i hi).1
  refine ⟨b, 0, rfl, World.block_lt_of_cell? w ⟨b, i, none⟩ c, ?_⟩
  rw [Nat.zero_add]; exact c

set_option maxRecDepth 100000 in
set_option maxHeartbeats 4000000 in
theorem all_long (a0 : Option Addr) (n cap a : Nat) (m : Int) (w : World) (h : 30 < n) : Calls Try.prog 3 #[.slice a0 n cap, .float .f64 a, .int .i64 m] w fun e w' => e = .returned (.bool true) ∧ Below w.heap.size w w' := by
  have z : 30 < (n : Int) := by omega
  go_enter Try.func3, Try.ntmps3
  go_wp2_with fail
  refine (begun_any _).mono ?_
  rintro e w1 ⟨rfl, hb1⟩
  have B1 : Hid _ := hb1
  clear hb1
  go_wp2_with fail
  go_ret
  exact ⟨rfl, B1.out⟩

set_option maxRecDepth 100000 in
set_option maxHeartbeats 8000000 in
theorem all_walk (a0 : Option Addr) (n cap a : Nat) (m : Int) (f : Nat → Nat) (w : World) (hn : n ≤ 30) (L : Hid (Sl w a0 n f)) (F : Hid (∀ i, Fl.Ok (f i))) : Calls Try.prog 3 #[.slice a0 n cap, .float .f64 a, .int .i64 m] w fun e w' => e = .returned (.bool true) ∧ Below w.heap.size w w' := by
  have z : ¬ 30 < (n : Int) := by omega
  have big : n < 4611686018427387904 := by omega
  have h100 : n < 100 := by omega
  have h40 : n < 40 := by omega
  go_enter Try.func3, Try.ntmps3
  go_wp2_with fail
  refine (begun_any _).mono ?_
  rintro e w1 ⟨rfl, hb1⟩
  have B1 : Hid (Below w.heap.size w w1) := hb1
  have L1 : Hid (Sl w1 a0 n f) := L.out.below hb1
  clear hb1
  go_wp2_with fail
  refine (least_any _ n cap f _ big L1 F).mono ?_
  rintro e wx ⟨⟨x, is, rfl, hx⟩, hwx⟩
  obtain rfl := hwx.symm
  clear hwx
  go_wp2_with fail
  refine (most_any _ n cap f _ big L1 F).mono ?_
  rintro e wx ⟨⟨y, iy, rfl, hy⟩, hwx⟩
  obtain rfl := hwx.symm
  clear hwx
  go_wp2_with fail
  refine (refLeast_any _ n cap f _ h100 L1 F).mono ?_
  rintro e w2 ⟨⟨p, ip, rfl, hp⟩, hb2⟩
  have B2 : Hid (Below w.heap.size w w2) := chain B1.out hb2.out
  have L2 : Hid (Sl w2 a0 n f) := L.out.below B2.out
  clear hb2 B1 L1
  obtain ⟨rfl, e1⟩ := ext_uniq (.inl rfl) hx.out hp.out (fun i hi => ⟨i, hi, rfl⟩) (fun i hi => ⟨i, hi, rfl⟩)
  have E1 : Hid _ := same_true e1
  have OX : Hid (Fl.Ok x) := hx.out.ok F.out
  have OP : Hid (Fl.Ok p) := hp.out.ok F.out
  clear e1 hx hp
  go_wp2_with fail
  refine (refMost_any _ n cap f _ h100 L2 F).mono ?_
  rintro e w3 ⟨⟨q, iq, rfl, hq⟩, hb3⟩
  have B3 : Hid (Below w.heap.size w w3) := chain B2.out hb3.out
  have L3 : Hid (Sl w3 a0 n f) := L.out.below B3.out
  clear hb3 B2 L2
  obtain ⟨rfl, e2⟩ := ext_uniq (.inr rfl) hy.out hq.out (fun i hi => ⟨i, hi, rfl⟩) (fun i hi => ⟨i, hi, rfl⟩)
  have E2 : Hid _ := same_true e2
  have OY : Hid (Fl.Ok y) := hy.out.ok F.out
  have OQ : Hid (Fl.Ok q) := hq.out.ok F.out
  clear e2 hy hq
  go_wp2_with fail
  refine (sum_any _ n _ _ _ big L3).mono ?_
  rintro e w4 ⟨t1, rfl, T1, hb4⟩
  have B4 : Hid (Below w.heap.size w w4) := chain B3.out hb4
  have L4 : Hid (Sl w4 a0 n f) := L.out.below B4.out
  clear hb4 B3 L3
  go_wp2_with fail
  refine (refSum_any _ n _ _ _ big L4).mono ?_
  rintro e w5 ⟨t2, rfl, T2, hb5⟩
  have B5 : Hid (Below w.heap.size w w5) := chain B4.out hb5
  clear hb5 B4 L4
  go_wp2_with fail
  refine (refSame_any t1 t2 T1.out.ok T2.out.ok _).mono ?_
  rintro e wx ⟨rfl, hwx⟩
  obtain rfl := hwx.symm
  clear hwx
  rw [same_true (T1.out.same T2.out)]
  go_wp2_with fail
  refine (times_any a m _).mono ?_
  rintro e w6 ⟨r1, q1, rfl, R1, hw6⟩
  have B6 : Hid (Below w.heap.size w w6) := by show Below _ _ _; rw [hw6]; exact B5.out.trans (below_drewN _ _ _)
  clear hw6 B5
  go_wp2_with fail
  refine (refTimes_any a m _).mono ?_
  rintro e w7 ⟨r2, q2, rfl, R2, hw7⟩
  have B7 : Hid (Below w.heap.size w w7) := by show Below _ _ _; rw [hw7]; exact B6.out.trans (below_drewN _ _ _)
  clear hw7 B6
  go_wp2_with fail
  refine (refSame_any r1 r2 R1.out.ok R2.out.ok _).mono ?_
  rintro e wx ⟨rfl, hwx⟩
  obtain rfl := hwx.symm
  clear hwx
  rw [same_true (R1.out.same R2.out)]
  go_wp2_with fail
  refine (refSame_any x p OX.out OP.out _).mono ?_
  rintro e wx ⟨rfl, hwx⟩
  obtain rfl := hwx.symm
  clear hwx
  rw [E1.out]
  go_wp2_with fail
  refine (refSame_any y q OY.out OQ.out _).mono ?_
  rintro e wx ⟨rfl, hwx⟩
  obtain rfl := hwx.symm
  clear hwx
  rw [E2.out]
  have L7 : Hid (Sl w7 a0 n f) := L.out.below B7.out
  go_wp2_with fail
  refine (sort_any _ n _ _ _ h40 L7 F).mono ?_
  rintro e w8 ⟨blk, rfl, _, ⟨g, g1, g2, g3⟩, hb8⟩
  have G1 : Hid (Sl w8 (some ⟨blk, 0, none⟩) n g) := g1.sl
  have G2 : Hid ((row g n).Perm (row f n)) := g2.perm
  have G3 : Hid (Up Fl.key g 0 n) := g3
  have G4 : Hid (∀ i, Fl.Ok (g i)) := g2.everywhere F.out
  have B8 : Hid (Below w.heap.size w w8) := chain B7.out hb8.out
  have L8 : Hid (Sl w8 a0 n f) := L.out.below B8.out
  clear hb8 B7 L7 g1 g2 g3
  go_wp2_with fail
  refine (refSort_any _ n _ _ _ h100 L8 F).mono ?_
  rintro e w9 ⟨v, rfl, ⟨h, o1, p1, u1, k1⟩, hb9⟩
  obtain ⟨oa, ocap, rfl, S1, _⟩ := o1.sl
  have SS : Hid (Sl w9 oa n h) := S1
  have P1 : Hid ((row h n).Perm (row f n)) := p1
  have U1 : Hid (Up Fl.key h 0 n) := u1
  have K1 : Hid (∀ i, Fl.Ok (h i)) := k1
  have B9 : Hid (Below w.heap.size w w9) := chain B8.out hb9.out
  have G9 : Hid (Sl w9 (some ⟨blk, 0, none⟩) n g) := G1.out.below hb9.out
  clear hb9 B8 L8 G1 o1 S1 p1 u1 k1
  go_wp2_with fail
  refine (sameAll_any _ _ n _ _ g h _ (by omega) G9 SS G4 K1 (sorted_same G2.out P1.out G3.out U1.out)).mono ?_
  rintro e w10 ⟨rfl, hb10⟩
  have B10 : Hid (Below w.heap.size w w10) := chain B9.out hb10
  clear hb10 B9
  go_wp2_with fail
  go_ret
  exact ⟨rfl, B10.out⟩

theorem foldAll_row (a0 : Option Addr) (n cap : Nat) (f : Nat → Nat) {w : World} (L : Sl w a0 n f) (F : ∀ i, Fl.Ok (f i)) (_ : a0 = none → n = 0 ∧ cap = 0) (a : Nat) (_ : Fl.Ok a) (m : Int) (_ : (Lit.int .i64 m).wf = true) (w' : World) (e : w' = w) : Calls Try.prog 3 #[.slice a0 n cap, .float .f64 a, .int .i64 m] w' fun e w1 => e = .returned (.bool true) ∧ Below w'.heap.size w' w1 := by
  subst e
  by_cases h : 30 < n
  · exact all_long a0 n cap a m _ h
  · exact all_walk a0 n cap a m f _ (by omega) L F

end Go.Proofs.Ythfadeoanjjiaaa
