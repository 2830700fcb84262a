/- PlaceSigns. -/
import Derived.Test.YtojbakkbmfgoaaaDoorSG
import Derived.Test.YtojbakkbmfgoaaaDoorCB
namespace Go.Proofs.YtojbakkbmfgoaaaDoor
open Go.RowKit
set_option linter.unusedVariables false
set_option linter.unusedSimpArgs false

theorem any_take {L : List Nat} {m c d : Nat} (h : L[m]? = some c) : (L.take (m + 1)).any (· == d) = ((L.take m).any (· == d) || c == d) := by
  rw [List.take_add_one, h, List.any_append]; simp
theorem beq_int (u d : Nat) : ((u : Int) == (d : Int)) = (u == d) := by
  rw [Bool.eq_iff_iff, beq_iff_eq, beq_iff_eq]; omega
theorem any_all {L : List Nat} {d : Nat} (h : d ∈ L) : (L.take L.length).any (· == d) = true := by
  rw [List.take_length, List.any_eq_true]; exact ⟨d, h, by simp⟩

set_option maxRecDepth 20000 in
set_option maxHeartbeats 16000000 in
theorem placeSigns_walk (a : Option Addr) (len cap : Nat) (f : Nat → Nat) (w : World) (hs : Hid (Sl w a len (Bn f))) (hf : ∀ i, i < len → f i < 256) (ha : ∀ q, a = some q → q.block < w.heap.size) (hT : Hid (Tab w)) (h0 : 0 < w.heap.size) : Calls Tryd.prog 6 #[.slice a len cap] w fun e w' => e = .returned (.bool true) ∧ Hid (Qt w w') := by
  have hb := begun_true w hT h0
  have HF : Hid _ := hf
  have HA : Hid _ := ha
  clear hf ha
  by_cases hl : 20 < len
  · have hli : (20 : Int) < (len : Int) := by omega
    clear hl
    go_enter Tryd.func6, Tryd.ntmps6
    go_wp2_with fail
    refine hb.mono ?_
    rintro e1 w1 ⟨rfl, q1⟩
    go_wp2_with fail
    go_ret
    exact ⟨rfl, q1.out⟩
  · have hli : (len : Int) ≤ 20 := by omega
    have HLn : Hid (len < 1000000) := (by omega : len < 1000000)
    have hrx : ∀ g n W, Hid (Pk W g a len cap f n) → Calls Tryd.prog 9 #[.pointer (some ⟨g, 0, none⟩), .int .i64 2] W fun e w' => RxP 2 W g a len cap f e w' := fun g n W h => rx_any 2 (by omega) g a len cap f n W h
    clear hl
    go_enter Tryd.func6, Tryd.ntmps6
    go_wp2_with fail
    refine hb.mono ?_
    rintro e1 w1 ⟨rfl, q1⟩
    go_wp2_with fail
    refine (made_any a len cap f w1 (show Hid _ from hs.out.mv q1.out (fun _ _ h => h)) HLn.out HF.out (fun q hq => Nat.lt_of_lt_of_le (HA.out q hq) q1.out.size)).mono ?_
    rintro e2 w2 ⟨rfl, p2, q2⟩
    go_wp2_with fail
    refine (hrx _ _ _ p2).mono ?_
    intro e3 w3 h3
    obtain ⟨x, pa, pc, n3, rfl, plx, px, p3, m3⟩ := h3
    have Q2 : Hid (Qt w w2) := q1.out.comp q2.out
    have Q3 : Hid (Qt w w3) := Mv.trans Q2.out m3.out (fun j hj e => by have := q1.out.size; omega)
    have X3 := Tx.new (w := w) (W := w3) Q3.out px.out
    have HTl : Hid (x.tall < 90000) := plx.out.tall5 (by decide)
    have HFo : Hid (x.formed = true) := plx.out.formed
    have HNo : Hid (x.nodes ≤ 39) := Nat.le_trans plx.out.nodes (show Nd 2 ≤ 39 by decide)
    have HDe : Hid (x.depth ≤ 11) := Nat.le_trans plx.out.depth (by decide)
    have HM : Hid (may x = 0) := (by
      unfold may
      have h1 := HNo.out
      have h2 := HDe.out
      rw [if_neg (by rw [HFo.out]; decide), if_pos ⟨by omega, by omega⟩] : may x = 0)
    obtain ⟨b0, b1, b2, b3, b4, b5, _⟩ := B6.facts (show Hid _ from X3.out.box)
    clear hrx hb p3 px m3 p2 q2 Q2 plx hs HF HA
    go_wp2_with fail
    have hg3 : w3.heap.size < (w3.alloc (.cells #[.int .i64 x.kind, .int .u64 (limb x.set 0), .int .u64 (limb x.set 1), .int .u64 (limb x.set 2), .int .u64 (limb x.set 3), .slice pa x.args.length pc] 29)).heap.size := by simp
    generalize w3.alloc (.cells #[.int .i64 x.kind, .int .u64 (limb x.set 0), .int .u64 (limb x.set 1), .int .u64 (limb x.set 2), .int .u64 (limb x.set 3), .slice pa x.args.length pc] 29) = W3 at *
    have hof := of_yes x HM.out _ pa pc W3 (fun j h => Nat.lt_trans h hg3) X3.out.parts HTl.out (show Hid _ from hT.out.qt X3.out.qt) (Nat.lt_of_lt_of_le h0 X3.out.qt.size)
    have HFI : Hid (x.pla.Fine) := pla_fine x
    have HC : Hid (x.pla.cnt ≤ 40) := Nat.le_trans (cnt_le x) (may_small HM.out).2.1
    refine hof.mono ?_
    rintro e4 w4 ⟨s, fv, l, g, rfl, PV, q4⟩
    clear b0 b1 b2 b3 b4 b5
    have X4 := Tx.step X3 q4.out
    obtain ⟨sa, sc', rfl, _⟩ := PV.out.sets
    obtain ⟨fa, fc, rfl⟩ := PV.out.fst.form
    obtain ⟨la, lc, rfl⟩ := PV.out.lst.form
    obtain ⟨ga, gc, _, rfl, _⟩ := PV.out.fol
    have QA : Hid (Qt w4 (w4.alloc (.cells #[.slice sa x.pla.sets.length sc', .slice fa (asc 64 (x.pla.fst 0)).length fc, .slice la (asc 64 (x.pla.lst 0)).length lc, .slice ga x.pla.cnt gc, .bool x.pla.null] 37))) := Mv.alloc _ _ _
    have X5 := Tx.step X4 QA.out
    have P5 : Hid (B5p 37 w4.heap.size (.slice sa x.pla.sets.length sc') (.slice fa (asc 64 (x.pla.fst 0)).length fc) (.slice la (asc 64 (x.pla.lst 0)).length lc) (.slice ga x.pla.cnt gc) (.bool x.pla.null) (w4.alloc (.cells #[.slice sa x.pla.sets.length sc', .slice fa (asc 64 (x.pla.fst 0)).length fc, .slice la (asc 64 (x.pla.lst 0)).length lc, .slice ga x.pla.cnt gc, .bool x.pla.null] 37))) := heap_alloc_new w4 _
    have V5 : Hid (Pv (w4.alloc (.cells #[.slice sa x.pla.sets.length sc', .slice fa (asc 64 (x.pla.fst 0)).length fc, .slice la (asc 64 (x.pla.lst 0)).length lc, .slice ga x.pla.cnt gc, .bool x.pla.null] 37)) (.slice sa x.pla.sets.length sc') (.slice fa (asc 64 (x.pla.fst 0)).length fc) (.slice la (asc 64 (x.pla.lst 0)).length lc) (.slice ga x.pla.cnt gc) x.pla.sets x.pla.cnt (asc 64 (x.pla.fst 0)) (asc 64 (x.pla.lst 0)) (fun i => asc 64 (x.pla.fol 0 i))) := PV.out.qt QA.out
    have hg5 : w3.heap.size < (w4.alloc (.cells #[.slice sa x.pla.sets.length sc', .slice fa (asc 64 (x.pla.fst 0)).length fc, .slice la (asc 64 (x.pla.lst 0)).length lc, .slice ga x.pla.cnt gc, .bool x.pla.null] 37)).heap.size := Nat.lt_of_lt_of_le hg3 (Nat.le_trans q4.out.size QA.out.size)
    obtain ⟨b0, b1, b2, b3, b4, b5, _⟩ := B6.facts (show Hid _ from X5.out.box)
    by_cases hk : x.kind < 4
    · have hk4 : decide ((4 : Int) ≤ x.kind) = false := by simp; omega
      have HK : Hid (x.kind < 4) := hk
      clear hof
      have HZ5 : Hid ((w4.alloc (.cells #[.slice sa x.pla.sets.length sc', .slice fa (asc 64 (x.pla.fst 0)).length fc, .slice la (asc 64 (x.pla.lst 0)).length lc, .slice ga x.pla.cnt gc, .bool x.pla.null] 37)).heap.size = w4.heap.size + 1) := (by simp : (w4.alloc (.cells #[.slice sa x.pla.sets.length sc', .slice fa (asc 64 (x.pla.fst 0)).length fc, .slice la (asc 64 (x.pla.lst 0)).length lc, .slice ga x.pla.cnt gc, .bool x.pla.null] 37)).heap.size = w4.heap.size + 1)
      go_wp2_with fail
      generalize w4.alloc (.cells #[.slice sa x.pla.sets.length sc', .slice fa (asc 64 (x.pla.fst 0)).length fc, .slice la (asc 64 (x.pla.lst 0)).length lc, .slice ga x.pla.cnt gc, .bool x.pla.null] 37) = W5 at *
      generalize w4.heap.size = pg at *
      have hq4 := of_sign (k := 4) (.inl rfl) HFo.out HK.out HNo.out HDe.out (fun j => j < w3.heap.size) pa pc W5 (fun j hj => Nat.lt_trans hj hg5) X5.out.parts (show Hid _ from hT.out.qt X5.out.qt) (Nat.lt_of_lt_of_le h0 X5.out.qt.size)
      rw [HZ5.out] at hq4
      refine hq4.mono ?_
      clear hq4
      rintro e6 w6 ⟨s2, f2, l2, g2, rfl, PQ, q6⟩
      have q6' : Hid (Qt W5 w6) := ((Mv.alloc (fun _ => False) W5 _).trans q6.out (fun _ _ h => h) : Qt W5 w6)
      clear q6
      obtain ⟨s2a, s2c, rfl, _⟩ := PQ.out.sets
      obtain ⟨f2a, f2c, rfl⟩ := PQ.out.fst.form
      obtain ⟨l2a, l2c, rfl⟩ := PQ.out.lst.form
      obtain ⟨g2a, g2c, _, rfl, _⟩ := PQ.out.fol
      have QB : Hid (Qt w6 (w6.alloc (.cells #[.slice s2a x.pla.sets.length s2c, .slice f2a (asc 64 (x.pla.fst 0)).length f2c, .slice l2a (asc 64 (x.pla.lst 0)).length l2c, .slice g2a x.pla.cnt g2c, .bool true] 37))) := Mv.alloc _ _ _
      have X7 := Tx.step X5 (q6'.out.comp QB.out)
      have P7 := B5p.mv P5.out (q6'.out.comp QB.out) (fun h => h)
      have V7 : Hid (Pv (w6.alloc (.cells #[.slice s2a x.pla.sets.length s2c, .slice f2a (asc 64 (x.pla.fst 0)).length f2c, .slice l2a (asc 64 (x.pla.lst 0)).length l2c, .slice g2a x.pla.cnt g2c, .bool true] 37)) (.slice sa x.pla.sets.length sc') (.slice fa (asc 64 (x.pla.fst 0)).length fc) (.slice la (asc 64 (x.pla.lst 0)).length lc) (.slice ga x.pla.cnt gc) x.pla.sets x.pla.cnt (asc 64 (x.pla.fst 0)) (asc 64 (x.pla.lst 0)) (fun i => asc 64 (x.pla.fol 0 i))) := V5.out.qt (q6'.out.comp QB.out)
      have U7 : Hid (Pv (w6.alloc (.cells #[.slice s2a x.pla.sets.length s2c, .slice f2a (asc 64 (x.pla.fst 0)).length f2c, .slice l2a (asc 64 (x.pla.lst 0)).length l2c, .slice g2a x.pla.cnt g2c, .bool true] 37)) (.slice s2a x.pla.sets.length s2c) (.slice f2a (asc 64 (x.pla.fst 0)).length f2c) (.slice l2a (asc 64 (x.pla.lst 0)).length l2c) (.slice g2a x.pla.cnt g2c) x.pla.sets x.pla.cnt (asc 64 (x.pla.fst 0)) (asc 64 (x.pla.lst 0)) (fun i => asc 64 ((signP 4 x.pla).fol 0 i))) := PQ.out.qt QB.out
      have R7 : Hid (B5p 37 w6.heap.size (.slice s2a x.pla.sets.length s2c) (.slice f2a (asc 64 (x.pla.fst 0)).length f2c) (.slice l2a (asc 64 (x.pla.lst 0)).length l2c) (.slice g2a x.pla.cnt g2c) (.bool true) (w6.alloc (.cells #[.slice s2a x.pla.sets.length s2c, .slice f2a (asc 64 (x.pla.fst 0)).length f2c, .slice l2a (asc 64 (x.pla.lst 0)).length l2c, .slice g2a x.pla.cnt g2c, .bool true] 37))) := heap_alloc_new w6 _
      have hg7 : w3.heap.size < (w6.alloc (.cells #[.slice s2a x.pla.sets.length s2c, .slice f2a (asc 64 (x.pla.fst 0)).length f2c, .slice l2a (asc 64 (x.pla.lst 0)).length l2c, .slice g2a x.pla.cnt g2c, .bool true] 37)).heap.size := Nat.lt_of_lt_of_le hg5 (Nat.le_trans q6'.out.size QB.out.size)
      clear b0 b1 b2 b3 b4 b5
      obtain ⟨b0, b1, b2, b3, b4, b5, _⟩ := B6.facts (show Hid _ from X7.out.box)
      have HZ7 : Hid ((w6.alloc (.cells #[.slice s2a x.pla.sets.length s2c, .slice f2a (asc 64 (x.pla.fst 0)).length f2c, .slice l2a (asc 64 (x.pla.lst 0)).length l2c, .slice g2a x.pla.cnt g2c, .bool true] 37)).heap.size = w6.heap.size + 1) := (by simp : (w6.alloc (.cells #[.slice s2a x.pla.sets.length s2c, .slice f2a (asc 64 (x.pla.fst 0)).length f2c, .slice l2a (asc 64 (x.pla.lst 0)).length l2c, .slice g2a x.pla.cnt g2c, .bool true] 37)).heap.size = w6.heap.size + 1)
      go_wp2_with fail
      generalize w6.alloc (.cells #[.slice s2a x.pla.sets.length s2c, .slice f2a (asc 64 (x.pla.fst 0)).length f2c, .slice l2a (asc 64 (x.pla.lst 0)).length l2c, .slice g2a x.pla.cnt g2c, .bool true] 37) = W7 at *
      generalize w6.heap.size = qg at *
      have hq6 := of_sign (k := 6) (.inr rfl) HFo.out HK.out HNo.out HDe.out (fun j => j < w3.heap.size) pa pc W7 (fun j hj => Nat.lt_trans hj hg7) X7.out.parts (show Hid _ from hT.out.qt X7.out.qt) (Nat.lt_of_lt_of_le h0 X7.out.qt.size)
      rw [HZ7.out] at hq6
      refine hq6.mono ?_
      clear hq6
      rintro e8 w8 ⟨s3, f3, l3, g3, rfl, PR, q8⟩
      have q8' : Hid (Qt W7 w8) := ((Mv.alloc (fun _ => False) W7 _).trans q8.out (fun _ _ h => h) : Qt W7 w8)
      clear q8
      obtain ⟨s3a, s3c, rfl, _⟩ := PR.out.sets
      obtain ⟨f3a, f3c, rfl⟩ := PR.out.fst.form
      obtain ⟨l3a, l3c, rfl⟩ := PR.out.lst.form
      obtain ⟨g3a, g3c, _, rfl, _⟩ := PR.out.fol
      have QC : Hid (Qt w8 (w8.alloc (.cells #[.slice s3a x.pla.sets.length s3c, .slice f3a (asc 64 (x.pla.fst 0)).length f3c, .slice l3a (asc 64 (x.pla.lst 0)).length l3c, .slice g3a x.pla.cnt g3c, .bool true] 37))) := Mv.alloc _ _ _
      have X9 := Tx.step X7 (q8'.out.comp QC.out)
      have P9 := B5p.mv P7.out (q8'.out.comp QC.out) (fun h => h)
      have R9 := B5p.mv R7.out (q8'.out.comp QC.out) (fun h => h)
      have V9 : Hid (Pv (w8.alloc (.cells #[.slice s3a x.pla.sets.length s3c, .slice f3a (asc 64 (x.pla.fst 0)).length f3c, .slice l3a (asc 64 (x.pla.lst 0)).length l3c, .slice g3a x.pla.cnt g3c, .bool true] 37)) (.slice sa x.pla.sets.length sc') (.slice fa (asc 64 (x.pla.fst 0)).length fc) (.slice la (asc 64 (x.pla.lst 0)).length lc) (.slice ga x.pla.cnt gc) x.pla.sets x.pla.cnt (asc 64 (x.pla.fst 0)) (asc 64 (x.pla.lst 0)) (fun i => asc 64 (x.pla.fol 0 i))) := V7.out.qt (q8'.out.comp QC.out)
      have U9 : Hid (Pv (w8.alloc (.cells #[.slice s3a x.pla.sets.length s3c, .slice f3a (asc 64 (x.pla.fst 0)).length f3c, .slice l3a (asc 64 (x.pla.lst 0)).length l3c, .slice g3a x.pla.cnt g3c, .bool true] 37)) (.slice s2a x.pla.sets.length s2c) (.slice f2a (asc 64 (x.pla.fst 0)).length f2c) (.slice l2a (asc 64 (x.pla.lst 0)).length l2c) (.slice g2a x.pla.cnt g2c) x.pla.sets x.pla.cnt (asc 64 (x.pla.fst 0)) (asc 64 (x.pla.lst 0)) (fun i => asc 64 ((signP 4 x.pla).fol 0 i))) := U7.out.qt (q8'.out.comp QC.out)
      have Y9 : Hid (Pv (w8.alloc (.cells #[.slice s3a x.pla.sets.length s3c, .slice f3a (asc 64 (x.pla.fst 0)).length f3c, .slice l3a (asc 64 (x.pla.lst 0)).length l3c, .slice g3a x.pla.cnt g3c, .bool true] 37)) (.slice s3a x.pla.sets.length s3c) (.slice f3a (asc 64 (x.pla.fst 0)).length f3c) (.slice l3a (asc 64 (x.pla.lst 0)).length l3c) (.slice g3a x.pla.cnt g3c) x.pla.sets x.pla.cnt (asc 64 (x.pla.fst 0)) (asc 64 (x.pla.lst 0)) (fun i => asc 64 ((signP 6 x.pla).fol 0 i))) := PR.out.qt QC.out
      have T9 : Hid (B5p 37 w8.heap.size (.slice s3a x.pla.sets.length s3c) (.slice f3a (asc 64 (x.pla.fst 0)).length f3c) (.slice l3a (asc 64 (x.pla.lst 0)).length l3c) (.slice g3a x.pla.cnt g3c) (.bool true) (w8.alloc (.cells #[.slice s3a x.pla.sets.length s3c, .slice f3a (asc 64 (x.pla.fst 0)).length f3c, .slice l3a (asc 64 (x.pla.lst 0)).length l3c, .slice g3a x.pla.cnt g3c, .bool true] 37))) := heap_alloc_new w8 _
      clear b0 b1 b2 b3 b4 b5 PV PQ PR P5 V5 P7 R7 V7 U7 QA QB QC q4 q6' q8' X3 X4 X5 X7
      obtain ⟨b0, b1, b2, b3, b4, b5, _⟩ := B6.facts (show Hid _ from X9.out.box)
      obtain ⟨x0, x1, x2, x3, x4, x5, x6, x7, x8, x9⟩ := B5p.facts P9
      obtain ⟨y0, y1, y2, y3, y4, y5, y6, y7, y8, y9⟩ := B5p.facts R9
      obtain ⟨z0, z1, z2, z3, z4, z5, z6, z7, z8, z9⟩ := B5p.facts T9
      have HSN : Hid (x.pla.sets.length = x.pla.cnt) := HFI.out.len
      have hnull := fun W (h : Hid (Tx w W w3.heap.size x pa pc)) => rnull_any (fun _ => 0) x _ pa pc W h.out.parts HFo.out (Nat.le_trans HNo.out (by decide))
      rw [spells_null HFo.out] at hnull
      have cnn : (x.pla.null != x.pla.null) = false := by simp
      generalize x.pla.null = zn at *
      have c3 : (((x.pla.cnt : Nat) : Int) != ((x.pla.sets.length : Nat) : Int)) = false := by rw [HSN.out]; simp
      have c4 : (((x.pla.sets.length : Nat) : Int) != ((x.pla.sets.length : Nat) : Int)) = false := by simp
      go_wp2_with fail
      generalize w8.alloc (.cells #[.slice s3a x.pla.sets.length s3c, .slice f3a (asc 64 (x.pla.fst 0)).length f3c, .slice l3a (asc 64 (x.pla.lst 0)).length l3c, .slice g3a x.pla.cnt g3c, .bool true] 37) = W9 at *
      generalize w8.heap.size = rg at *
      have Hx3 : Hid (W9.cell? ⟨pg, 3, none⟩ = some (.slice ga x.pla.cnt gc)) := x3
      have Hx0 : Hid (W9.cell? ⟨pg, 0, none⟩ = some (.slice sa x.pla.sets.length sc')) := x0
      have Hy3 : Hid (W9.cell? ⟨qg, 3, none⟩ = some (.slice g2a x.pla.cnt g2c)) := y3
      have Hy0 : Hid (W9.cell? ⟨qg, 0, none⟩ = some (.slice s2a x.pla.sets.length s2c)) := y0
      have Hz3 : Hid (W9.cell? ⟨rg, 3, none⟩ = some (.slice g3a x.pla.cnt g3c)) := z3
      have Hz0 : Hid (W9.cell? ⟨rg, 0, none⟩ = some (.slice s3a x.pla.sets.length s3c)) := z0
      have Hy4 : Hid (W9.cell? ⟨qg, 4, none⟩ = some (.bool true)) := y4
      have Hz4 : Hid (W9.cell? ⟨rg, 4, none⟩ = some (.bool true)) := z4
      have Hx4 : Hid (W9.cell? ⟨pg, 4, none⟩ = some (.bool zn)) := x4
      have Hb0 : Hid (W9.cell? ⟨w3.heap.size, 0, none⟩ = some (.int .i64 x.kind)) := b0
      have Hb1 : Hid (W9.cell? ⟨w3.heap.size, 1, none⟩ = some (.int .u64 (limb x.set 0))) := b1
      have Hb2 : Hid (W9.cell? ⟨w3.heap.size, 2, none⟩ = some (.int .u64 (limb x.set 1))) := b2
      have Hb3 : Hid (W9.cell? ⟨w3.heap.size, 3, none⟩ = some (.int .u64 (limb x.set 2))) := b3
      have Hb4 : Hid (W9.cell? ⟨w3.heap.size, 4, none⟩ = some (.int .u64 (limb x.set 3))) := b4
      have Hb5 : Hid (W9.cell? ⟨w3.heap.size, 5, none⟩ = some (.slice pa x.args.length pc)) := b5
      have KS : Hid (∀ w', Qt W9 w' → w'.cell? ⟨pg, 3, none⟩ = some (.slice ga x.pla.cnt gc) ∧ w'.cell? ⟨pg, 0, none⟩ = some (.slice sa x.pla.sets.length sc') ∧ w'.cell? ⟨qg, 3, none⟩ = some (.slice g2a x.pla.cnt g2c) ∧ w'.cell? ⟨qg, 0, none⟩ = some (.slice s2a x.pla.sets.length s2c) ∧ w'.cell? ⟨rg, 3, none⟩ = some (.slice g3a x.pla.cnt g3c) ∧ w'.cell? ⟨rg, 0, none⟩ = some (.slice s3a x.pla.sets.length s3c) ∧ w'.cell? ⟨qg, 4, none⟩ = some (.bool true) ∧ w'.cell? ⟨rg, 4, none⟩ = some (.bool true) ∧ w'.cell? ⟨pg, 4, none⟩ = some (.bool zn) ∧ w'.cell? ⟨w3.heap.size, 0, none⟩ = some (.int .i64 x.kind) ∧ w'.cell? ⟨w3.heap.size, 1, none⟩ = some (.int .u64 (limb x.set 0)) ∧ w'.cell? ⟨w3.heap.size, 2, none⟩ = some (.int .u64 (limb x.set 1)) ∧ w'.cell? ⟨w3.heap.size, 3, none⟩ = some (.int .u64 (limb x.set 2)) ∧ w'.cell? ⟨w3.heap.size, 4, none⟩ = some (.int .u64 (limb x.set 3)) ∧ w'.cell? ⟨w3.heap.size, 5, none⟩ = some (.slice pa x.args.length pc)) := fun w' q => ⟨q.cell (p := ⟨pg, 3, none⟩) Hx3.out (fun h => h), q.cell (p := ⟨pg, 0, none⟩) Hx0.out (fun h => h), q.cell (p := ⟨qg, 3, none⟩) Hy3.out (fun h => h), q.cell (p := ⟨qg, 0, none⟩) Hy0.out (fun h => h), q.cell (p := ⟨rg, 3, none⟩) Hz3.out (fun h => h), q.cell (p := ⟨rg, 0, none⟩) Hz0.out (fun h => h), q.cell (p := ⟨qg, 4, none⟩) Hy4.out (fun h => h), q.cell (p := ⟨rg, 4, none⟩) Hz4.out (fun h => h), q.cell (p := ⟨pg, 4, none⟩) Hx4.out (fun h => h), q.cell (p := ⟨w3.heap.size, 0, none⟩) Hb0.out (fun h => h), q.cell (p := ⟨w3.heap.size, 1, none⟩) Hb1.out (fun h => h), q.cell (p := ⟨w3.heap.size, 2, none⟩) Hb2.out (fun h => h), q.cell (p := ⟨w3.heap.size, 3, none⟩) Hb3.out (fun h => h), q.cell (p := ⟨w3.heap.size, 4, none⟩) Hb4.out (fun h => h), q.cell (p := ⟨w3.heap.size, 5, none⟩) Hb5.out (fun h => h)⟩
      have QD : Hid (Qt W9 W9.drew) := Qt.drew (Qt.refl _)
      have hnu := hnull _ (Tx.step X9 QD.out)
      refine Rest.begin (S := (fun w' => w'.cell? ⟨pg, 3, none⟩ = some (.slice ga x.pla.cnt gc) ∧ w'.cell? ⟨pg, 0, none⟩ = some (.slice sa x.pla.sets.length sc') ∧ w'.cell? ⟨qg, 3, none⟩ = some (.slice g2a x.pla.cnt g2c) ∧ w'.cell? ⟨qg, 0, none⟩ = some (.slice s2a x.pla.sets.length s2c) ∧ w'.cell? ⟨rg, 3, none⟩ = some (.slice g3a x.pla.cnt g3c) ∧ w'.cell? ⟨rg, 0, none⟩ = some (.slice s3a x.pla.sets.length s3c) ∧ w'.cell? ⟨qg, 4, none⟩ = some (.bool true) ∧ w'.cell? ⟨rg, 4, none⟩ = some (.bool true) ∧ w'.cell? ⟨pg, 4, none⟩ = some (.bool zn) ∧ w'.cell? ⟨w3.heap.size, 0, none⟩ = some (.int .i64 x.kind) ∧ w'.cell? ⟨w3.heap.size, 1, none⟩ = some (.int .u64 (limb x.set 0)) ∧ w'.cell? ⟨w3.heap.size, 2, none⟩ = some (.int .u64 (limb x.set 1)) ∧ w'.cell? ⟨w3.heap.size, 3, none⟩ = some (.int .u64 (limb x.set 2)) ∧ w'.cell? ⟨w3.heap.size, 4, none⟩ = some (.int .u64 (limb x.set 3)) ∧ w'.cell? ⟨w3.heap.size, 5, none⟩ = some (.slice pa x.args.length pc))) (st := ([] : List Nat)) (by kernel_rfl) (KS.out _ (QD.out)) (fun hHeld => ?_)
      refine Rest.plain (i := 0) _ (some 49) ?_ rfl rfl (by kernel_rfl) (by kernel_rfl) (by kernel_rfl) (by kernel_rfl) (fun _ _ _ h => h) (Or.inl ⟨by rfl, ?_⟩) (by assumption) ?_
      rotate_left
      · (intro w _; go_simp; try with_reducible rfl)
      try simp only [Act.put, List.setIfInBounds_toArray, List.set_cons_zero, List.set_cons_succ]
      refine Rest.plain (i := 1) _ (some 50) ?_ rfl rfl (by kernel_rfl) (by kernel_rfl) (by kernel_rfl) (by kernel_rfl) (fun _ _ _ h => h) (Or.inl ⟨by rfl, ?_⟩) (by assumption) ?_
      rotate_left
      · (intro w _; go_simp; try with_reducible rfl)
      try simp only [Act.put, List.setIfInBounds_toArray, List.set_cons_zero, List.set_cons_succ]
      refine Rest.plain (i := 2) _ (some 51) ?_ rfl rfl (by kernel_rfl) (by kernel_rfl) (by kernel_rfl) (by kernel_rfl) (fun _ _ _ h => h) (Or.inl ⟨by rfl, ?_⟩) (by assumption) ?_
      rotate_left
      · (intro w _; go_simp; try with_reducible rfl)
      try simp only [Act.put, List.setIfInBounds_toArray, List.set_cons_zero, List.set_cons_succ]
      refine Rest.plain (i := 3) _ (some 52) ?_ rfl rfl (by kernel_rfl) (by kernel_rfl) (by kernel_rfl) (by kernel_rfl) (fun _ _ _ h => h) (Or.inl ⟨by rfl, ?_⟩) (by assumption) ?_
      rotate_left
      · (intro w _; go_simp; try with_reducible rfl)
      try simp only [Act.put, List.setIfInBounds_toArray, List.set_cons_zero, List.set_cons_succ]
      refine Rest.plain (i := 4) _ (some 53) ?_ rfl rfl (by kernel_rfl) (by kernel_rfl) (by kernel_rfl) (by kernel_rfl) (fun _ _ _ h => h) (Or.inl ⟨by rfl, ?_⟩) (by assumption) ?_
      rotate_left
      · (intro w _; go_simp; try with_reducible rfl)
      try simp only [Act.put, List.setIfInBounds_toArray, List.set_cons_zero, List.set_cons_succ]
      refine Rest.plain (i := 5) _ (some 54) ?_ rfl rfl (by kernel_rfl) (by kernel_rfl) (by kernel_rfl) (by kernel_rfl) (fun _ _ _ h => h) (Or.inl ⟨by rfl, ?_⟩) (by assumption) ?_
      rotate_left
      · (intro w _; go_simp; try with_reducible rfl)
      try simp only [Act.put, List.setIfInBounds_toArray, List.set_cons_zero, List.set_cons_succ]
      refine Rest.plain (i := 6) _ (some 55) ?_ rfl rfl (by kernel_rfl) (by kernel_rfl) (by kernel_rfl) (by kernel_rfl) (fun _ _ _ h => h) (Or.inl ⟨by rfl, ?_⟩) (by assumption) ?_
      rotate_left
      · (intro w _; go_simp; try with_reducible rfl)
      try simp only [Act.put, List.setIfInBounds_toArray, List.set_cons_zero, List.set_cons_succ]
      refine Rest.plain (i := 7) _ (some 56) ?_ rfl rfl (by kernel_rfl) (by kernel_rfl) (by kernel_rfl) (by kernel_rfl) (fun _ _ _ h => h) (Or.inl ⟨by rfl, ?_⟩) (by assumption) ?_
      rotate_left
      · (intro w _; go_simp; try with_reducible rfl)
      try simp only [Act.put, List.setIfInBounds_toArray, List.set_cons_zero, List.set_cons_succ]
      refine Rest.take (i := 8) _ (some 57) ?_ rfl rfl (by kernel_rfl) (by kernel_rfl) (by kernel_rfl) (by kernel_rfl) (fun _ _ _ h => h) (Or.inl ⟨by rfl, ?_⟩) (by assumption) ?_
      rotate_left
      · (intro w hSw; (try dsimp only at hSw); go_simp; try with_reducible rfl)
      try simp only [Act.put, List.setIfInBounds_toArray, List.set_cons_zero, List.set_cons_succ]
      refine Rest.plain (i := 9) _ (some 58) ?_ rfl rfl (by kernel_rfl) (by kernel_rfl) (by kernel_rfl) (by kernel_rfl) (fun _ _ _ h => h) (Or.inl ⟨by rfl, ?_⟩) (by assumption) ?_
      rotate_left
      · (intro w _; go_simp; try with_reducible rfl)
      try simp only [Act.put, List.setIfInBounds_toArray, List.set_cons_zero, List.set_cons_succ]
      refine Rest.plain (i := 10) _ (some 59) ?_ rfl rfl (by kernel_rfl) (by kernel_rfl) (by kernel_rfl) (by kernel_rfl) (fun _ _ _ h => h) (Or.inl ⟨by rfl, ?_⟩) (by assumption) ?_
      rotate_left
      · (intro w _; go_simp; try with_reducible rfl)
      try simp only [Act.put, List.setIfInBounds_toArray, List.set_cons_zero, List.set_cons_succ]
      refine Rest.take (i := 11) _ (some 60) ?_ rfl rfl (by kernel_rfl) (by kernel_rfl) (by kernel_rfl) (by kernel_rfl) (fun _ _ _ h => h) (Or.inl ⟨by rfl, ?_⟩) (by assumption) ?_
      rotate_left
      · (intro w hSw; (try dsimp only at hSw); go_simp; try with_reducible rfl)
      try simp only [Act.put, List.setIfInBounds_toArray, List.set_cons_zero, List.set_cons_succ]
      refine Rest.plain (i := 12) _ (some 61) ?_ rfl rfl (by kernel_rfl) (by kernel_rfl) (by kernel_rfl) (by kernel_rfl) (fun _ _ _ h => h) (Or.inl ⟨by rfl, ?_⟩) (by assumption) ?_
      rotate_left
      · (intro w _; go_simp; try with_reducible rfl)
      try simp only [Act.put, List.setIfInBounds_toArray, List.set_cons_zero, List.set_cons_succ]
      refine Rest.plain (i := 13) _ (some 62) ?_ rfl rfl (by kernel_rfl) (by kernel_rfl) (by kernel_rfl) (by kernel_rfl) (fun _ _ _ h => h) (Or.inl ⟨by rfl, ?_⟩) (by assumption) ?_
      rotate_left
      · (intro w _; go_simp; try with_reducible rfl)
      try simp only [Act.put, List.setIfInBounds_toArray, List.set_cons_zero, List.set_cons_succ]
      refine Rest.plain (i := 14) _ (some 63) ?_ rfl rfl (by kernel_rfl) (by kernel_rfl) (by kernel_rfl) (by kernel_rfl) (fun _ _ _ h => h) (Or.inl ⟨by rfl, ?_⟩) (by assumption) ?_
      rotate_left
      · (intro w _; go_simp; try with_reducible rfl)
      try simp only [Act.put, List.setIfInBounds_toArray, List.set_cons_zero, List.set_cons_succ]
      refine Rest.plain (i := 15) _ (some 64) ?_ rfl rfl (by kernel_rfl) (by kernel_rfl) (by kernel_rfl) (by kernel_rfl) (fun _ _ _ h => h) (Or.inl ⟨by rfl, ?_⟩) (by assumption) ?_
      rotate_left
      · (intro w _; go_simp; try with_reducible rfl)
      try simp only [Act.put, List.setIfInBounds_toArray, List.set_cons_zero, List.set_cons_succ]
      refine Rest.plain (i := 16) _ (some 65) ?_ rfl rfl (by kernel_rfl) (by kernel_rfl) (by kernel_rfl) (by kernel_rfl) (fun _ _ _ h => h) (Or.inl ⟨by rfl, ?_⟩) (by assumption) ?_
      rotate_left
      · (intro w _; go_simp; try with_reducible rfl)
      try simp only [Act.put, List.setIfInBounds_toArray, List.set_cons_zero, List.set_cons_succ]
      refine Rest.take (i := 17) _ (some 66) ?_ rfl rfl (by kernel_rfl) (by kernel_rfl) (by kernel_rfl) (by kernel_rfl) (fun _ _ _ h => h) (Or.inl ⟨by rfl, ?_⟩) (by assumption) ?_
      rotate_left
      · (intro w hSw; (try dsimp only at hSw); go_simp; try with_reducible rfl)
      try simp only [Act.put, List.setIfInBounds_toArray, List.set_cons_zero, List.set_cons_succ]
      refine Rest.plain (i := 18) _ (some 67) ?_ rfl rfl (by kernel_rfl) (by kernel_rfl) (by kernel_rfl) (by kernel_rfl) (fun _ _ _ h => h) (Or.inl ⟨by rfl, ?_⟩) (by assumption) ?_
      rotate_left
      · (intro w _; go_simp; try with_reducible rfl)
      try simp only [Act.put, List.setIfInBounds_toArray, List.set_cons_zero, List.set_cons_succ]
      refine Rest.plain (i := 19) _ (some 68) ?_ rfl rfl (by kernel_rfl) (by kernel_rfl) (by kernel_rfl) (by kernel_rfl) (fun _ _ _ h => h) (Or.inl ⟨by rfl, ?_⟩) (by assumption) ?_
      rotate_left
      · (intro w _; go_simp; try with_reducible rfl)
      try simp only [Act.put, List.setIfInBounds_toArray, List.set_cons_zero, List.set_cons_succ]
      refine Rest.take (i := 20) _ (some 69) ?_ rfl rfl (by kernel_rfl) (by kernel_rfl) (by kernel_rfl) (by kernel_rfl) (fun _ _ _ h => h) (Or.inl ⟨by rfl, ?_⟩) (by assumption) ?_
      rotate_left
      · (intro w hSw; (try dsimp only at hSw); go_simp; try with_reducible rfl)
      try simp only [Act.put, List.setIfInBounds_toArray, List.set_cons_zero, List.set_cons_succ]
      refine Rest.plain (i := 21) _ (some 70) ?_ rfl rfl (by kernel_rfl) (by kernel_rfl) (by kernel_rfl) (by kernel_rfl) (fun _ _ _ h => h) (Or.inl ⟨by rfl, ?_⟩) (by assumption) ?_
      rotate_left
      · (intro w _; go_simp; try with_reducible rfl)
      try simp only [Act.put, List.setIfInBounds_toArray, List.set_cons_zero, List.set_cons_succ]
      refine Rest.plain (i := 22) _ (some 71) ?_ rfl rfl (by kernel_rfl) (by kernel_rfl) (by kernel_rfl) (by kernel_rfl) (fun _ _ _ h => h) (Or.inl ⟨by rfl, ?_⟩) (by assumption) ?_
      rotate_left
      · (intro w _; go_simp; try with_reducible rfl)
      try simp only [Act.put, List.setIfInBounds_toArray, List.set_cons_zero, List.set_cons_succ]
      refine Rest.plain (i := 23) _ (some 72) ?_ rfl rfl (by kernel_rfl) (by kernel_rfl) (by kernel_rfl) (by kernel_rfl) (fun _ _ _ h => h) (Or.inl ⟨by rfl, ?_⟩) (by assumption) ?_
      rotate_left
      · (intro w _; go_simp; try with_reducible rfl)
      try simp only [Act.put, List.setIfInBounds_toArray, List.set_cons_zero, List.set_cons_succ]
      refine Rest.plain (i := 24) _ (some 73) ?_ rfl rfl (by kernel_rfl) (by kernel_rfl) (by kernel_rfl) (by kernel_rfl) (fun _ _ _ h => h) (Or.inl ⟨by rfl, ?_⟩) (by assumption) ?_
      rotate_left
      · (intro w _; go_simp; try with_reducible rfl)
      try simp only [Act.put, List.setIfInBounds_toArray, List.set_cons_zero, List.set_cons_succ]
      refine Rest.plain (i := 25) _ (some 74) ?_ rfl rfl (by kernel_rfl) (by kernel_rfl) (by kernel_rfl) (by kernel_rfl) (fun _ _ _ h => h) (Or.inl ⟨by rfl, ?_⟩) (by assumption) ?_
      rotate_left
      · (intro w _; go_simp; try with_reducible rfl)
      try simp only [Act.put, List.setIfInBounds_toArray, List.set_cons_zero, List.set_cons_succ]
      refine Rest.take (i := 26) _ (some 75) ?_ rfl rfl (by kernel_rfl) (by kernel_rfl) (by kernel_rfl) (by kernel_rfl) (fun _ _ _ h => h) (Or.inl ⟨by rfl, ?_⟩) (by assumption) ?_
      rotate_left
      · (intro w hSw; (try dsimp only at hSw); go_simp; try with_reducible rfl)
      try simp only [Act.put, List.setIfInBounds_toArray, List.set_cons_zero, List.set_cons_succ]
      refine Rest.plain (i := 27) _ (some 76) ?_ rfl rfl (by kernel_rfl) (by kernel_rfl) (by kernel_rfl) (by kernel_rfl) (fun _ _ _ h => h) (Or.inl ⟨by rfl, ?_⟩) (by assumption) ?_
      rotate_left
      · (intro w _; go_simp; try with_reducible rfl)
      try simp only [Act.put, List.setIfInBounds_toArray, List.set_cons_zero, List.set_cons_succ]
      refine Rest.plain (i := 28) _ (some 77) ?_ rfl rfl (by kernel_rfl) (by kernel_rfl) (by kernel_rfl) (by kernel_rfl) (fun _ _ _ h => h) (Or.inl ⟨by rfl, ?_⟩) (by assumption) ?_
      rotate_left
      · (intro w _; go_simp; try with_reducible rfl)
      try simp only [Act.put, List.setIfInBounds_toArray, List.set_cons_zero, List.set_cons_succ]
      refine Rest.take (i := 29) _ (some 78) ?_ rfl rfl (by kernel_rfl) (by kernel_rfl) (by kernel_rfl) (by kernel_rfl) (fun _ _ _ h => h) (Or.inl ⟨by rfl, ?_⟩) (by assumption) ?_
      rotate_left
      · (intro w hSw; (try dsimp only at hSw); go_simp; try with_reducible rfl)
      try simp only [Act.put, List.setIfInBounds_toArray, List.set_cons_zero, List.set_cons_succ]
      refine Rest.plain (i := 30) _ (some 79) ?_ rfl rfl (by kernel_rfl) (by kernel_rfl) (by kernel_rfl) (by kernel_rfl) (fun _ _ _ h => h) (Or.inl ⟨by rfl, ?_⟩) (by assumption) ?_
      rotate_left
      · (intro w _; go_simp; try with_reducible rfl)
      try simp only [Act.put, List.setIfInBounds_toArray, List.set_cons_zero, List.set_cons_succ]
      refine Rest.plain (i := 31) _ (some 80) ?_ rfl rfl (by kernel_rfl) (by kernel_rfl) (by kernel_rfl) (by kernel_rfl) (fun _ _ _ h => h) (Or.inl ⟨by rfl, ?_⟩) (by assumption) ?_
      rotate_left
      · (intro w _; go_simp; try with_reducible rfl)
      try simp only [Act.put, List.setIfInBounds_toArray, List.set_cons_zero, List.set_cons_succ]
      refine Rest.plain (i := 32) _ (some 81) ?_ rfl rfl (by kernel_rfl) (by kernel_rfl) (by kernel_rfl) (by kernel_rfl) (fun _ _ _ h => h) (Or.inl ⟨by rfl, ?_⟩) (by assumption) ?_
      rotate_left
      · (intro w _; go_simp; try with_reducible rfl)
      try simp only [Act.put, List.setIfInBounds_toArray, List.set_cons_zero, List.set_cons_succ]
      refine Rest.plain (i := 33) _ (some 82) ?_ rfl rfl (by kernel_rfl) (by kernel_rfl) (by kernel_rfl) (by kernel_rfl) (fun _ _ _ h => h) (Or.inl ⟨by rfl, ?_⟩) (by assumption) ?_
      rotate_left
      · (intro w _; go_simp; try with_reducible rfl)
      try simp only [Act.put, List.setIfInBounds_toArray, List.set_cons_zero, List.set_cons_succ]
      refine Rest.plain (i := 34) _ (some 83) ?_ rfl rfl (by kernel_rfl) (by kernel_rfl) (by kernel_rfl) (by kernel_rfl) (fun _ _ _ h => h) (Or.inl ⟨by rfl, ?_⟩) (by assumption) ?_
      rotate_left
      · (intro w _; go_simp; try with_reducible rfl)
      try simp only [Act.put, List.setIfInBounds_toArray, List.set_cons_zero, List.set_cons_succ]
      refine Rest.take (i := 35) _ (some 84) ?_ rfl rfl (by kernel_rfl) (by kernel_rfl) (by kernel_rfl) (by kernel_rfl) (fun _ _ _ h => h) (Or.inl ⟨by rfl, ?_⟩) (by assumption) ?_
      rotate_left
      · (intro w hSw; (try dsimp only at hSw); go_simp; try with_reducible rfl)
      try simp only [Act.put, List.setIfInBounds_toArray, List.set_cons_zero, List.set_cons_succ]
      refine Rest.plain (i := 36) _ (some 85) ?_ rfl rfl (by kernel_rfl) (by kernel_rfl) (by kernel_rfl) (by kernel_rfl) (fun _ _ _ h => h) (Or.inl ⟨by rfl, ?_⟩) (by assumption) ?_
      rotate_left
      · (intro w _; go_simp; try with_reducible rfl)
      try simp only [Act.put, List.setIfInBounds_toArray, List.set_cons_zero, List.set_cons_succ]
      refine Rest.plain (i := 37) _ (some 86) ?_ rfl rfl (by kernel_rfl) (by kernel_rfl) (by kernel_rfl) (by kernel_rfl) (fun _ _ _ h => h) (Or.inl ⟨by rfl, ?_⟩) (by assumption) ?_
      rotate_left
      · (intro w _; go_simp; try with_reducible rfl)
      try simp only [Act.put, List.setIfInBounds_toArray, List.set_cons_zero, List.set_cons_succ]
      refine Rest.take (i := 38) _ (some 87) ?_ rfl rfl (by kernel_rfl) (by kernel_rfl) (by kernel_rfl) (by kernel_rfl) (fun _ _ _ h => h) (Or.inl ⟨by rfl, ?_⟩) (by assumption) ?_
      rotate_left
      · (intro w hSw; (try dsimp only at hSw); go_simp; try with_reducible rfl)
      try simp only [Act.put, List.setIfInBounds_toArray, List.set_cons_zero, List.set_cons_succ]
      refine Rest.plain (i := 39) _ (some 88) ?_ rfl rfl (by kernel_rfl) (by kernel_rfl) (by kernel_rfl) (by kernel_rfl) (fun _ _ _ h => h) (Or.inl ⟨by rfl, ?_⟩) (by assumption) ?_
      rotate_left
      · (intro w _; go_simp; try with_reducible rfl)
      try simp only [Act.put, List.setIfInBounds_toArray, List.set_cons_zero, List.set_cons_succ]
      refine Rest.plain (i := 40) _ (some 89) ?_ rfl rfl (by kernel_rfl) (by kernel_rfl) (by kernel_rfl) (by kernel_rfl) (fun _ _ _ h => h) (Or.inl ⟨by rfl, ?_⟩) (by assumption) ?_
      rotate_left
      · (intro w _; go_simp; try with_reducible rfl)
      try simp only [Act.put, List.setIfInBounds_toArray, List.set_cons_zero, List.set_cons_succ]
      refine Rest.plain (i := 41) _ (some 90) ?_ rfl rfl (by kernel_rfl) (by kernel_rfl) (by kernel_rfl) (by kernel_rfl) (fun _ _ _ h => h) (Or.inl ⟨by rfl, ?_⟩) (by assumption) ?_
      rotate_left
      · (intro w _; go_simp; try with_reducible rfl)
      try simp only [Act.put, List.setIfInBounds_toArray, List.set_cons_zero, List.set_cons_succ]
      refine Rest.plain (i := 42) _ (some 91) ?_ rfl rfl (by kernel_rfl) (by kernel_rfl) (by kernel_rfl) (by kernel_rfl) (fun _ _ _ h => h) (Or.inl ⟨by rfl, ?_⟩) (by assumption) ?_
      rotate_left
      · (intro w _; go_simp; try with_reducible rfl)
      try simp only [Act.put, List.setIfInBounds_toArray, List.set_cons_zero, List.set_cons_succ]
      refine Rest.plain (i := 43) _ (some 92) ?_ rfl rfl (by kernel_rfl) (by kernel_rfl) (by kernel_rfl) (by kernel_rfl) (fun _ _ _ h => h) (Or.inl ⟨by rfl, ?_⟩) (by assumption) ?_
      rotate_left
      · (intro w _; go_simp; try with_reducible rfl)
      try simp only [Act.put, List.setIfInBounds_toArray, List.set_cons_zero, List.set_cons_succ]
      refine Rest.take (i := 44) _ (some 93) ?_ rfl rfl (by kernel_rfl) (by kernel_rfl) (by kernel_rfl) (by kernel_rfl) (fun _ _ _ h => h) (Or.inl ⟨by rfl, ?_⟩) (by assumption) ?_
      rotate_left
      · (intro w hSw; (try dsimp only at hSw); go_simp; try with_reducible rfl)
      try simp only [Act.put, List.setIfInBounds_toArray, List.set_cons_zero, List.set_cons_succ]
      refine Rest.plain (i := 45) _ (some 94) ?_ rfl rfl (by kernel_rfl) (by kernel_rfl) (by kernel_rfl) (by kernel_rfl) (fun _ _ _ h => h) (Or.inl ⟨by rfl, ?_⟩) (by assumption) ?_
      rotate_left
      · (intro w _; go_simp; try with_reducible rfl)
      try simp only [Act.put, List.setIfInBounds_toArray, List.set_cons_zero, List.set_cons_succ]
      refine Rest.plain (i := 46) _ (some 95) ?_ rfl rfl (by kernel_rfl) (by kernel_rfl) (by kernel_rfl) (by kernel_rfl) (fun _ _ _ h => h) (Or.inl ⟨by rfl, ?_⟩) (by assumption) ?_
      rotate_left
      · (intro w _; go_simp; try with_reducible rfl)
      try simp only [Act.put, List.setIfInBounds_toArray, List.set_cons_zero, List.set_cons_succ]
      refine Rest.take (i := 47) _ (some 96) ?_ rfl rfl (by kernel_rfl) (by kernel_rfl) (by kernel_rfl) (by kernel_rfl) (fun _ _ _ h => h) (Or.inl ⟨by rfl, ?_⟩) (by assumption) ?_
      rotate_left
      · (intro w hSw; (try dsimp only at hSw); go_simp; try with_reducible rfl)
      try simp only [Act.put, List.setIfInBounds_toArray, List.set_cons_zero, List.set_cons_succ]
      refine Rest.plain (i := 48) _ (some 97) ?_ rfl rfl (by kernel_rfl) (by kernel_rfl) (by kernel_rfl) (by kernel_rfl) (fun _ _ _ h => h) (Or.inl ⟨by rfl, ?_⟩) (by assumption) ?_
      rotate_left
      · (intro w _; go_simp; try with_reducible rfl)
      try simp only [Act.put, List.setIfInBounds_toArray, List.set_cons_zero, List.set_cons_succ]
      refine Rest.plain (i := 49) _ (some 98) ?_ rfl rfl (by kernel_rfl) (by kernel_rfl) (by kernel_rfl) (by kernel_rfl) (fun _ _ _ h => h) (Or.inl ⟨by rfl, ?_⟩) (by assumption) ?_
      rotate_left
      · (intro w _; go_simp; try with_reducible rfl)
      try simp only [Act.put, List.setIfInBounds_toArray, List.set_cons_zero, List.set_cons_succ]
      refine Rest.plain (i := 50) _ (some 99) ?_ rfl rfl (by kernel_rfl) (by kernel_rfl) (by kernel_rfl) (by kernel_rfl) (fun _ _ _ h => h) (Or.inl ⟨by rfl, ?_⟩) (by assumption) ?_
      rotate_left
      · (intro w _; go_simp; try with_reducible rfl)
      try simp only [Act.put, List.setIfInBounds_toArray, List.set_cons_zero, List.set_cons_succ]
      refine Rest.plain (i := 51) _ (some 100) ?_ rfl rfl (by kernel_rfl) (by kernel_rfl) (by kernel_rfl) (by kernel_rfl) (fun _ _ _ h => h) (Or.inl ⟨by rfl, ?_⟩) (by assumption) ?_
      rotate_left
      · (intro w _; go_simp; try with_reducible rfl)
      try simp only [Act.put, List.setIfInBounds_toArray, List.set_cons_zero, List.set_cons_succ]
      refine Rest.plain (i := 52) _ (some 101) ?_ rfl rfl (by kernel_rfl) (by kernel_rfl) (by kernel_rfl) (by kernel_rfl) (fun _ _ _ h => h) (Or.inl ⟨by rfl, ?_⟩) (by assumption) ?_
      rotate_left
      · (intro w _; go_simp; try with_reducible rfl)
      try simp only [Act.put, List.setIfInBounds_toArray, List.set_cons_zero, List.set_cons_succ]
      refine Rest.take (i := 53) _ (some 102) ?_ rfl rfl (by kernel_rfl) (by kernel_rfl) (by kernel_rfl) (by kernel_rfl) (fun _ _ _ h => h) (Or.inl ⟨by rfl, ?_⟩) (by assumption) ?_
      rotate_left
      · (intro w hSw; (try dsimp only at hSw); go_simp; try with_reducible rfl)
      try simp only [Act.put, List.setIfInBounds_toArray, List.set_cons_zero, List.set_cons_succ]
      refine Rest.plain (i := 54) _ (some 103) ?_ rfl rfl (by kernel_rfl) (by kernel_rfl) (by kernel_rfl) (by kernel_rfl) (fun _ _ _ h => h) (Or.inl ⟨by rfl, ?_⟩) (by assumption) ?_
      rotate_left
      · (intro w _; go_simp; try with_reducible rfl)
      try simp only [Act.put, List.setIfInBounds_toArray, List.set_cons_zero, List.set_cons_succ]
      refine Rest.plain (i := 55) _ (some 104) ?_ rfl rfl (by kernel_rfl) (by kernel_rfl) (by kernel_rfl) (by kernel_rfl) (fun _ _ _ h => h) (Or.inl ⟨by rfl, ?_⟩) (by assumption) ?_
      rotate_left
      · (intro w _; go_simp; try with_reducible rfl)
      try simp only [Act.put, List.setIfInBounds_toArray, List.set_cons_zero, List.set_cons_succ]
      refine Rest.plain (i := 56) _ (some 105) ?_ rfl rfl (by kernel_rfl) (by kernel_rfl) (by kernel_rfl) (by kernel_rfl) (fun _ _ _ h => h) (Or.inl ⟨by rfl, ?_⟩) (by assumption) ?_
      rotate_left
      · (intro w _; go_simp; try with_reducible rfl)
      try simp only [Act.put, List.setIfInBounds_toArray, List.set_cons_zero, List.set_cons_succ]
      refine Rest.plain (i := 57) _ (some 106) ?_ rfl rfl (by kernel_rfl) (by kernel_rfl) (by kernel_rfl) (by kernel_rfl) (fun _ _ _ h => h) (Or.inl ⟨by rfl, ?_⟩) (by assumption) ?_
      rotate_left
      · (intro w _; go_simp; try with_reducible rfl)
      try simp only [Act.put, List.setIfInBounds_toArray, List.set_cons_zero, List.set_cons_succ]
      refine Rest.take (i := 58) _ (some 107) ?_ rfl rfl (by kernel_rfl) (by kernel_rfl) (by kernel_rfl) (by kernel_rfl) (fun _ _ _ h => h) (Or.inl ⟨by rfl, ?_⟩) (by assumption) ?_
      rotate_left
      · (intro w hSw; (try dsimp only at hSw); go_simp; try with_reducible rfl)
      try simp only [Act.put, List.setIfInBounds_toArray, List.set_cons_zero, List.set_cons_succ]
      refine Rest.plain (i := 59) _ (some 108) ?_ rfl rfl (by kernel_rfl) (by kernel_rfl) (by kernel_rfl) (by kernel_rfl) (fun _ _ _ h => h) (Or.inl ⟨by rfl, ?_⟩) (by assumption) ?_
      rotate_left
      · (intro w _; go_simp; try with_reducible rfl)
      try simp only [Act.put, List.setIfInBounds_toArray, List.set_cons_zero, List.set_cons_succ]
      refine Rest.plain (i := 60) _ (some 109) ?_ rfl rfl (by kernel_rfl) (by kernel_rfl) (by kernel_rfl) (by kernel_rfl) (fun _ _ _ h => h) (Or.inl ⟨by rfl, ?_⟩) (by assumption) ?_
      rotate_left
      · (intro w _; go_simp; try with_reducible rfl)
      try simp only [Act.put, List.setIfInBounds_toArray, List.set_cons_zero, List.set_cons_succ]
      refine Rest.plain (i := 61) _ (some 110) ?_ rfl rfl (by kernel_rfl) (by kernel_rfl) (by kernel_rfl) (by kernel_rfl) (fun _ _ _ h => h) (Or.inl ⟨by rfl, ?_⟩) (by assumption) ?_
      rotate_left
      · (intro w _; go_simp; try with_reducible rfl)
      try simp only [Act.put, List.setIfInBounds_toArray, List.set_cons_zero, List.set_cons_succ]
      refine Rest.plain (i := 62) _ (some 111) ?_ rfl rfl (by kernel_rfl) (by kernel_rfl) (by kernel_rfl) (by kernel_rfl) (fun _ _ _ h => h) (Or.inl ⟨by rfl, ?_⟩) (by assumption) ?_
      rotate_left
      · (intro w _; go_simp; try with_reducible rfl)
      try simp only [Act.put, List.setIfInBounds_toArray, List.set_cons_zero, List.set_cons_succ]
      refine Rest.take (i := 63) _ (some 112) ?_ rfl rfl (by kernel_rfl) (by kernel_rfl) (by kernel_rfl) (by kernel_rfl) (fun _ _ _ h => h) (Or.inl ⟨by rfl, ?_⟩) (by assumption) ?_
      rotate_left
      · (intro w hSw; (try dsimp only at hSw); go_simp; try with_reducible rfl)
      try simp only [Act.put, List.setIfInBounds_toArray, List.set_cons_zero, List.set_cons_succ]
      refine Rest.take (i := 64) _ (some 113) ?_ rfl rfl (by kernel_rfl) (by kernel_rfl) (by kernel_rfl) (by kernel_rfl) (fun _ _ _ h => h) (Or.inl ⟨by rfl, ?_⟩) (by assumption) ?_
      rotate_left
      · (intro w hSw; (try dsimp only at hSw); go_simp; try with_reducible rfl)
      try simp only [Act.put, List.setIfInBounds_toArray, List.set_cons_zero, List.set_cons_succ]
      refine Rest.one (i := 65) (by kernel_rfl) rfl (fun K hK => ?_)
      go_simp
      go_at_call 18
      refine hnu.mono ?_
      rintro e10 w10 ⟨rfl, q10'⟩
      have q10 : Hid (Qt W9 w10) := QD.out.comp q10'.out
      go_wp2_with fail
      refine hK.out _ _ (KS.out _ (q10.out)) (fun hHeld => ?_)
      try simp only [Act.put, List.setIfInBounds_toArray, List.set_cons_zero, List.set_cons_succ]
      clear hK K
      refine Rest.plain (i := 66) _ (some 115) ?_ rfl rfl (by kernel_rfl) (by kernel_rfl) (by kernel_rfl) (by kernel_rfl) (fun _ _ _ h => h) (Or.inl ⟨by rfl, ?_⟩) (by assumption) ?_
      rotate_left
      · (intro w _; go_simp; try with_reducible rfl)
      try simp only [Act.put, List.setIfInBounds_toArray, List.set_cons_zero, List.set_cons_succ]
      refine Rest.plain (i := 67) _ (some 116) ?_ rfl rfl (by kernel_rfl) (by kernel_rfl) (by kernel_rfl) (by kernel_rfl) (fun _ _ _ h => h) (Or.inl ⟨by rfl, ?_⟩) (by assumption) ?_
      rotate_left
      · (intro w _; go_simp; try with_reducible rfl)
      try simp only [Act.put, List.setIfInBounds_toArray, List.set_cons_zero, List.set_cons_succ]
      refine Rest.done (by kernel_rfl) ?_ _
      go_wp2_with fail
      have Q0 : Hid (Qt w w10) := X9.out.qt.comp q10.out
      have PX := B5p.mv P9.out q10.out (fun h => h)
      have RX' := B5p.mv R9.out q10.out (fun h => h)
      have TX := B5p.mv T9.out q10.out (fun h => h)
      have VX : Hid (Pv w10 (.slice sa x.pla.sets.length sc') (.slice fa (asc 64 (x.pla.fst 0)).length fc) (.slice la (asc 64 (x.pla.lst 0)).length lc) (.slice ga x.pla.cnt gc) x.pla.sets x.pla.cnt (asc 64 (x.pla.fst 0)) (asc 64 (x.pla.lst 0)) (fun i => asc 64 (x.pla.fol 0 i))) := V9.out.qt q10.out
      have UX : Hid (Pv w10 (.slice s2a x.pla.sets.length s2c) (.slice f2a (asc 64 (x.pla.fst 0)).length f2c) (.slice l2a (asc 64 (x.pla.lst 0)).length l2c) (.slice g2a x.pla.cnt g2c) x.pla.sets x.pla.cnt (asc 64 (x.pla.fst 0)) (asc 64 (x.pla.lst 0)) (fun i => asc 64 ((signP 4 x.pla).fol 0 i))) := U9.out.qt q10.out
      have YX : Hid (Pv w10 (.slice s3a x.pla.sets.length s3c) (.slice f3a (asc 64 (x.pla.fst 0)).length f3c) (.slice l3a (asc 64 (x.pla.lst 0)).length l3c) (.slice g3a x.pla.cnt g3c) x.pla.sets x.pla.cnt (asc 64 (x.pla.fst 0)) (asc 64 (x.pla.lst 0)) (fun i => asc 64 ((signP 6 x.pla).fol 0 i))) := Y9.out.qt q10.out
      clear b0 b1 b2 b3 b4 b5 x0 x1 x2 x3 x4 x5 x6 x7 x8 x9 y0 y1 y2 y3 y4 y5 y6 y7 y8 y9 z0 z1 z2 z3 z4 z5 z6 z7 z8 z9 P9 R9 T9 V9 U9 Y9 X9 hnull q10 hnu KS QD q10' Hx3 Hx0 Hy3 Hy0 Hz3 Hz0 Hy4 Hz4 Hx4 Hb0 Hb1 Hb2 Hb3 Hb4 Hb5
      have HA2 : Hid (∀ c ∈ asc 64 (x.pla.lst 0), c < x.pla.cnt) := fun c hc => by have := HFI.out.lst 0 c (asc_mem.1 hc).2; omega
      have HIN : Hid (∀ c ∈ asc 64 (x.pla.lst 0), ∀ d ∈ asc 64 (x.pla.fst 0), d ∈ asc 64 ((signP 4 x.pla).fol 0 c)) := fun c hc d hd => star_fol HFI.out HC.out (asc_mem.1 hc).2 (asc_mem.1 hd).2
      have E1 : Hid ((asc 64 (x.pla.fst 0)).length < 90000) := (by have := asc_length 64 (x.pla.fst 0); omega : (asc 64 (x.pla.fst 0)).length < 90000)
      have E2 : Hid ((asc 64 (x.pla.lst 0)).length < 90000) := (by have := asc_length 64 (x.pla.lst 0); omega : (asc 64 (x.pla.lst 0)).length < 90000)
      have E3 : Hid (∀ i, (asc 64 ((signP 4 x.pla).fol 0 i)).length < 90000) := fun i => by have := asc_length 64 ((signP 4 x.pla).fol 0 i); omega
      generalize hA1 : asc 64 (x.pla.fst 0) = A1 at *
      generalize hA2 : asc 64 (x.pla.lst 0) = A2 at *
      clear hA1 hA2
      clear c3 c4 cnn
      go_loopw [10] (fun s10 wr => ∃ i : Nat, i ≤ A2.length ∧ s10 = .int .i64 i ∧ Hid (Qt w10 wr)) (fun s10 _ => A2.length - (intOf s10).toNat)
      case atStart => exact ⟨0, by omega, rfl, Qt.refl w10⟩
      case round =>
        obtain ⟨i, hi, rfl, QW⟩ := hrel
        by_cases hlt : i < A2.length
        · obtain ⟨c, hc⟩ : ∃ c, A2[i]? = some c := ⟨_, List.getElem?_eq_getElem hlt⟩
          have hcA := List.mem_of_getElem? hc
          have hcn := HA2.out c hcA
          have HDA : Hid (∀ d ∈ A1, d ∈ asc 64 ((signP 4 x.pla).fol 0 c)) := HIN.out c hcA
          obtain ⟨lb, lo, lp, e, _, kl⟩ := VX.out.lst.at hc
          obtain ⟨rfl, _, rfl⟩ := Value.slice.inj e
          obtain ⟨va, vc, vs, ev, HV, HVI⟩ := UX.out.fol
          obtain ⟨rfl, _, rfl⟩ := Value.slice.inj ev
          obtain ⟨vb, vo, rfl, _, kv⟩ := HV c hcn
          have I1 : Hid (Is w10 (vs c) (asc 64 ((signP 4 x.pla).fol 0 c))) := HVI c hcn
          have HLL : Hid ((asc 64 ((signP 4 x.pla).fol 0 c)).length < 90000) := E3.out c
          clear e ev HV HVI hcA hc
          generalize asc 64 ((signP 4 x.pla).fol 0 c) = L at *
          generalize vs c = vv at *
          obtain ⟨ia, ic, rfl⟩ := I1.out.form
          have HKl : Hid (∀ w', Qt w10 w' → w'.cell? ⟨lb, lo + i, none⟩ = some (.int .i64 (c : Int))) := fun w' q => q.cell (p := ⟨lb, lo + i, none⟩) kl (fun h => h)
          have HKv : Hid (∀ w', Qt w10 w' → w'.cell? ⟨vb, vo + c, none⟩ = some (.slice ia L.length ic)) := fun w' q => q.cell (p := ⟨vb, vo + c, none⟩) kv (fun h => h)
          clear kl kv
          have k1 := HKl.out wr QW.out
          obtain ⟨x0, x1, x2, x3, x4, x5, x6, x7, x8, x9⟩ := B5p.facts (B5p.mv PX.out QW.out (fun h => h))
          obtain ⟨y0, y1, y2, y3, y4, y5, y6, y7, y8, y9⟩ := B5p.facts (B5p.mv RX'.out QW.out (fun h => h))
          have hli2 : (i : Int) < (A2.length : Int) := by omega
          have hbA2 : i < 90000 := by have := E2.out; omega
          have hci : (c : Int) < (x.pla.cnt : Int) := by omega
          have t1 : decide ((c : Int) < 0) = false := by simp
          have t2 : decide (x.pla.cnt ≤ c) = false := by simp; omega
          go_wp2_with fail
          go_quiet (fail)
          go_wp2_with fail
          have QW2 : Hid (Qt w10 (wr.drewN nq)) := QW.out.comp (Mv.drewN (fun _ => False) _ _)
          clear x0 x1 x2 x3 x4 x5 x6 x7 x8 x9 y0 y1 y2 y3 y4 y5 y6 y7 y8 y9 k1 t1 t2
          generalize wr.drewN nq = wq at *
          go_loopw [11] (fun s11 wr => ∃ k : Nat, k ≤ A1.length ∧ s11 = .int .i64 k ∧ Hid (Qt w10 wr)) (fun s11 _ => A1.length - (intOf s11).toNat)
          case atStart => exact ⟨0, by omega, rfl, QW2⟩
          case round =>
            rename_i QWo wro
            obtain ⟨k, hk', rfl, QV⟩ := hrel
            obtain ⟨x0, x1, x2, x3, x4, x5, x6, x7, x8, x9⟩ := B5p.facts (B5p.mv PX.out QV.out (fun h => h))
            by_cases hkl : k < A1.length
            · obtain ⟨d, hd⟩ : ∃ d, A1[k]? = some d := ⟨_, List.getElem?_eq_getElem hkl⟩
              have HDL : Hid (d ∈ L) := HDA.out d (List.mem_of_getElem? hd)
              obtain ⟨fb, fo, fp, e, _, kf⟩ := VX.out.fst.at hd
              obtain ⟨rfl, _, rfl⟩ := Value.slice.inj e
              have HKf : Hid (∀ w', Qt w10 w' → w'.cell? ⟨fb, fo + k, none⟩ = some (.int .i64 (d : Int))) := fun w' q => q.cell (p := ⟨fb, fo + k, none⟩) kf (fun h => h)
              have hki : (k : Int) < (A1.length : Int) := by omega
              have hbA1 : k < 90000 := by have := E1.out; omega
              clear e kf hd
              go_wp2_with fail
              clear x0 x1 x2 x3 x4 x5 x6 x7 x8 x9
              go_loopw [12, 13] (fun s12 s13 wr => ∃ m : Nat, m ≤ L.length ∧ s13 = .int .i64 m ∧ s12 = .bool ((L.take m).any (· == d)) ∧ Hid (Qt w10 wr)) (fun _ s13 _ => L.length - (intOf s13).toNat)
              case atStart => exact ⟨0, by omega, rfl, rfl, QV⟩
              case round =>
                obtain ⟨m, hm, rfl, rfl, QM⟩ := hrel
                obtain ⟨x0, x1, x2, x3, x4, x5, x6, x7, x8, x9⟩ := B5p.facts (B5p.mv PX.out QM.out (fun h => h))
                obtain ⟨y0, y1, y2, y3, y4, y5, y6, y7, y8, y9⟩ := B5p.facts (B5p.mv RX'.out QM.out (fun h => h))
                have k1 := HKl.out wr QM.out
                have k2 := HKv.out wr QM.out
                have k3 := HKf.out wr QM.out
                by_cases hml : m < L.length
                · obtain ⟨u, hu⟩ : ∃ u, L[m]? = some u := ⟨_, List.getElem?_eq_getElem hml⟩
                  obtain ⟨ub, uo, up, e, _, ku⟩ := (I1.out.qt QM.out).at hu
                  obtain ⟨rfl, _, rfl⟩ := Value.slice.inj e
                  have hmi : (m : Int) < (L.length : Int) := by omega
                  have hbL : m < 90000 := by have := HLL.out; omega
                  have hmd : decide ((m : Int) < (L.length : Int)) = true := by simp; omega
                  have HNX : Hid ((L.take (m + 1)).any (· == d) = ((L.take m).any (· == d) || u == d)) := any_take hu
                  have HKu : Hid (∀ n, (wr.drewN n).cell? ⟨ub, uo + m, none⟩ = some (.int .i64 (u : Int))) := fun n => (Mv.drewN (fun _ => False) wr n).cell (p := ⟨ub, uo + m, none⟩) ku (fun h => h)
                  clear e hu ku
                  go_wp2_with fail
                  go_quiet (fail)
                  go_wp2_with fail
                  have QM2 : Hid (Qt w10 (wr.drewN nq)) := QM.out.comp (Mv.drewN (fun _ => False) _ _)
                  have ku := HKu.out nq
                  clear x0 x1 x2 x3 x4 x5 x6 x7 x8 x9 y0 y1 y2 y3 y4 y5 y6 y7 y8 y9 k1 k2 k3
                  generalize wr.drewN nq = wq2 at *
                  obtain ⟨x0, x1, x2, x3, x4, x5, x6, x7, x8, x9⟩ := B5p.facts (B5p.mv PX.out QM2.out (fun h => h))
                  obtain ⟨y0, y1, y2, y3, y4, y5, y6, y7, y8, y9⟩ := B5p.facts (B5p.mv RX'.out QM2.out (fun h => h))
                  have k1 := HKl.out wq2 QM2.out
                  have k2 := HKv.out wq2 QM2.out
                  have k3 := HKf.out wq2 QM2.out
                  cases hin : (L.take m).any (· == d) with
                  | true =>
                    have HT2 : Hid ((L.take (m + 1)).any (· == d) = true) := (by rw [HNX.out, hin]; rfl : _ = true)
                    go_wp2_with fail
                    go_quiet (fail)
                    go_wp2_with fail
                    exact ⟨⟨m + 1, by omega, by go_num, by rw [HT2.out], QM2.out.comp (Mv.drewN (fun _ => False) _ _)⟩, by simp [intOf]; omega⟩
                  | false =>
                    have HT2 : Hid ((L.take (m + 1)).any (· == d) = (u == d)) := (by rw [HNX.out, hin]; rfl : _ = (u == d))
                    go_wp2_with fail
                    go_quiet (fail)
                    go_wp2_with fail
                    exact ⟨⟨m + 1, by omega, by go_num, by rw [HT2.out, beq_int], QM2.out.comp (Mv.drewN (fun _ => False) _ _)⟩, by simp [intOf]; omega⟩
                · obtain rfl : m = L.length := by omega
                  have hin : (L.take L.length).any (· == d) = true := any_all HDL.out
                  have hmd : decide ((L.length : Int) < (L.length : Int)) = false := by simp
                  rw [hin]
                  go_wp2_with fail
                  go_quiet (fail)
                  go_wp2_with fail
                  go_roundw
                  case rel => exact ⟨k + 1, by omega, by go_num, QM.out.comp (Mv.drewN (fun _ => False) _ _)⟩
                  case measure => simp [intOf]; omega
            · obtain rfl : k = A1.length := by omega
              go_wp2_with fail
              go_roundw
              case rel => exact ⟨i + 1, by omega, by go_num, QV⟩
              case measure => simp [intOf]; omega
        · obtain rfl : i = A2.length := by omega
          obtain ⟨x0, x1, x2, x3, x4, x5, x6, x7, x8, x9⟩ := B5p.facts (B5p.mv PX.out QW.out (fun h => h))
          go_wp2_with fail
          clear x0 x1 x2 x3 x4 x5 x6 x7 x8 x9
          go_loopw [14] (fun s14 wr => ∃ j : Nat, j ≤ x.pla.cnt ∧ s14 = .int .i64 j ∧ Hid (Qt w10 wr)) (fun s14 _ => x.pla.cnt - (intOf s14).toNat)
          case atStart => exact ⟨0, by omega, rfl, QW⟩
          case round =>
            obtain ⟨i, hj, rfl, QV⟩ := hrel
            obtain ⟨x0, x1, x2, x3, x4, x5, x6, x7, x8, x9⟩ := B5p.facts (B5p.mv PX.out QV.out (fun h => h))
            by_cases hlt2 : i < x.pla.cnt
            · obtain ⟨p, hp⟩ : ∃ p, x.pla.sets[i]? = some p := ⟨_, List.getElem?_eq_getElem (by rw [HSN.out]; exact hlt2)⟩
              obtain ⟨y0, y1, y2, y3, y4, y5, y6, y7, y8, y9⟩ := B5p.facts (B5p.mv RX'.out QV.out (fun h => h))
              obtain ⟨z0, z1, z2, z3, z4, z5, z6, z7, z8, z9⟩ := B5p.facts (B5p.mv TX.out QV.out (fun h => h))
              obtain ⟨sb, so, sc3, e, c0, c1, c2, c3⟩ := (VX.out.sets.qt QV.out).at hp
              obtain ⟨rfl, _, rfl⟩ := Value.slice.inj e
              obtain ⟨tb, to, tc3, e', d0, d1, d2, d3⟩ := (UX.out.sets.qt QV.out).at hp
              obtain ⟨rfl, _, rfl⟩ := Value.slice.inj e'
              obtain ⟨va, vc, vs, ev, HV, HVI⟩ := VX.out.fol.qt QV.out
              obtain ⟨rfl, _, rfl⟩ := Value.slice.inj ev
              obtain ⟨ua, uc, us, eu, HU, HUI⟩ := UX.out.fol.qt QV.out
              obtain ⟨rfl, _, rfl⟩ := Value.slice.inj eu
              obtain ⟨ra, rc, rs, er, HR, HRI⟩ := YX.out.fol.qt QV.out
              obtain ⟨rfl, _, rfl⟩ := Value.slice.inj er
              obtain ⟨vb, vo, rfl, _, kv⟩ := HV i hlt2
              obtain ⟨ub, uo, rfl, _, ku⟩ := HU i hlt2
              obtain ⟨rb, ro, rfl, _, kr⟩ := HR i hlt2
              have I1 : Hid (Is wr (vs i) (asc 64 (x.pla.fol 0 i))) := HVI i hlt2
              have I2 : Hid (Is wr (us i) (asc 64 ((signP 4 x.pla).fol 0 i))) := HUI i hlt2
              have I3 : Hid (Is wr (rs i) (asc 64 (x.pla.fol 0 i))) := HRI i hlt2
              have hle := star_le x.pla i
              clear HV HVI HU HUI HR HRI e e' ev eu er hp
              generalize vs i = vv at *
              generalize us i = uu at *
              generalize rs i = rr at *
              obtain ⟨ia, ic, rfl⟩ := I1.out.form
              obtain ⟨ja, jc, rfl⟩ := I2.out.form
              obtain ⟨ka, kc, rfl⟩ := I3.out.form
              clear I1 I2 I3
              generalize (asc 64 (x.pla.fol 0 i)).length = nl at *
              generalize (asc 64 ((signP 4 x.pla).fol 0 i)).length = nq at *
              have hi100 : i < 100 := by have := HC.out; omega
              have hic2 : (i : Int) < (x.pla.cnt : Int) := by omega
              have hii : (i : Int) < (x.pla.sets.length : Int) := by rw [HSN.out]; omega
              have t1 : decide (nq < nl) = false := by simp; omega
              have t2 : decide ((nq : Int) < (nl : Int)) = false := by simp; omega
              have hneq := neq_self p
              have QD : Hid (Qt wr wr.drew) := Qt.drew (Qt.refl _)
              clear hle
              generalize limb p 0 = l0 at *
              generalize limb p 1 = l1 at *
              generalize limb p 2 = l2 at *
              generalize limb p 3 = l3 at *
              have Hz3 : Hid (wr.cell? ⟨rg, 3, none⟩ = some (.slice (some ⟨rb, ro, none⟩) x.pla.cnt g3c)) := z3
              have Hkr : Hid (wr.cell? ⟨rb, ro + i, none⟩ = some (.slice ka nl kc)) := kr
              have Hx3 : Hid (wr.cell? ⟨pg, 3, none⟩ = some (.slice (some ⟨vb, vo, none⟩) x.pla.cnt gc)) := x3
              have Hkv : Hid (wr.cell? ⟨vb, vo + i, none⟩ = some (.slice ia nl ic)) := kv
              have Hy3 : Hid (wr.cell? ⟨qg, 3, none⟩ = some (.slice (some ⟨ub, uo, none⟩) x.pla.cnt g2c)) := y3
              have Hku : Hid (wr.cell? ⟨ub, uo + i, none⟩ = some (.slice ja nq jc)) := ku
              have Hy0 : Hid (wr.cell? ⟨qg, 0, none⟩ = some (.slice (some ⟨tb, to, none⟩) x.pla.sets.length s2c)) := y0
              have Hx0 : Hid (wr.cell? ⟨pg, 0, none⟩ = some (.slice (some ⟨sb, so, none⟩) x.pla.sets.length sc')) := x0
              have Hc0 : Hid (wr.cell? ⟨sb, so + i * 4, none⟩ = some (.int .u64 l0)) := c0
              have Hc1 : Hid (wr.cell? ⟨sb, so + i * 4 + 1, none⟩ = some (.int .u64 l1)) := c1
              have Hc2 : Hid (wr.cell? ⟨sb, so + i * 4 + 2, none⟩ = some (.int .u64 l2)) := c2
              have Hc3 : Hid (wr.cell? ⟨sb, so + i * 4 + 3, none⟩ = some (.int .u64 l3)) := c3
              have Hd0 : Hid (wr.cell? ⟨tb, to + i * 4, none⟩ = some (.int .u64 l0)) := d0
              have Hd1 : Hid (wr.cell? ⟨tb, to + i * 4 + 1, none⟩ = some (.int .u64 l1)) := d1
              have Hd2 : Hid (wr.cell? ⟨tb, to + i * 4 + 2, none⟩ = some (.int .u64 l2)) := d2
              have Hd3 : Hid (wr.cell? ⟨tb, to + i * 4 + 3, none⟩ = some (.int .u64 l3)) := d3
              have KS : Hid (∀ w', Qt wr w' → w'.cell? ⟨rg, 3, none⟩ = some (.slice (some ⟨rb, ro, none⟩) x.pla.cnt g3c) ∧ w'.cell? ⟨rb, ro + i, none⟩ = some (.slice ka nl kc) ∧ w'.cell? ⟨pg, 3, none⟩ = some (.slice (some ⟨vb, vo, none⟩) x.pla.cnt gc) ∧ w'.cell? ⟨vb, vo + i, none⟩ = some (.slice ia nl ic) ∧ w'.cell? ⟨qg, 3, none⟩ = some (.slice (some ⟨ub, uo, none⟩) x.pla.cnt g2c) ∧ w'.cell? ⟨ub, uo + i, none⟩ = some (.slice ja nq jc) ∧ w'.cell? ⟨qg, 0, none⟩ = some (.slice (some ⟨tb, to, none⟩) x.pla.sets.length s2c) ∧ w'.cell? ⟨pg, 0, none⟩ = some (.slice (some ⟨sb, so, none⟩) x.pla.sets.length sc') ∧ w'.cell? ⟨sb, so + i * 4, none⟩ = some (.int .u64 l0) ∧ w'.cell? ⟨sb, so + i * 4 + 1, none⟩ = some (.int .u64 l1) ∧ w'.cell? ⟨sb, so + i * 4 + 2, none⟩ = some (.int .u64 l2) ∧ w'.cell? ⟨sb, so + i * 4 + 3, none⟩ = some (.int .u64 l3) ∧ w'.cell? ⟨tb, to + i * 4, none⟩ = some (.int .u64 l0) ∧ w'.cell? ⟨tb, to + i * 4 + 1, none⟩ = some (.int .u64 l1) ∧ w'.cell? ⟨tb, to + i * 4 + 2, none⟩ = some (.int .u64 l2) ∧ w'.cell? ⟨tb, to + i * 4 + 3, none⟩ = some (.int .u64 l3)) := fun w' q => ⟨q.cell (p := ⟨rg, 3, none⟩) Hz3.out (fun h => h), q.cell (p := ⟨rb, ro + i, none⟩) Hkr.out (fun h => h), q.cell (p := ⟨pg, 3, none⟩) Hx3.out (fun h => h), q.cell (p := ⟨vb, vo + i, none⟩) Hkv.out (fun h => h), q.cell (p := ⟨qg, 3, none⟩) Hy3.out (fun h => h), q.cell (p := ⟨ub, uo + i, none⟩) Hku.out (fun h => h), q.cell (p := ⟨qg, 0, none⟩) Hy0.out (fun h => h), q.cell (p := ⟨pg, 0, none⟩) Hx0.out (fun h => h), q.cell (p := ⟨sb, so + i * 4, none⟩) Hc0.out (fun h => h), q.cell (p := ⟨sb, so + i * 4 + 1, none⟩) Hc1.out (fun h => h), q.cell (p := ⟨sb, so + i * 4 + 2, none⟩) Hc2.out (fun h => h), q.cell (p := ⟨sb, so + i * 4 + 3, none⟩) Hc3.out (fun h => h), q.cell (p := ⟨tb, to + i * 4, none⟩) Hd0.out (fun h => h), q.cell (p := ⟨tb, to + i * 4 + 1, none⟩) Hd1.out (fun h => h), q.cell (p := ⟨tb, to + i * 4 + 2, none⟩) Hd2.out (fun h => h), q.cell (p := ⟨tb, to + i * 4 + 3, none⟩) Hd3.out (fun h => h)⟩
              go_wp2_with fail
              refine Rest.begin (S := (fun w' => w'.cell? ⟨rg, 3, none⟩ = some (.slice (some ⟨rb, ro, none⟩) x.pla.cnt g3c) ∧ w'.cell? ⟨rb, ro + i, none⟩ = some (.slice ka nl kc) ∧ w'.cell? ⟨pg, 3, none⟩ = some (.slice (some ⟨vb, vo, none⟩) x.pla.cnt gc) ∧ w'.cell? ⟨vb, vo + i, none⟩ = some (.slice ia nl ic) ∧ w'.cell? ⟨qg, 3, none⟩ = some (.slice (some ⟨ub, uo, none⟩) x.pla.cnt g2c) ∧ w'.cell? ⟨ub, uo + i, none⟩ = some (.slice ja nq jc) ∧ w'.cell? ⟨qg, 0, none⟩ = some (.slice (some ⟨tb, to, none⟩) x.pla.sets.length s2c) ∧ w'.cell? ⟨pg, 0, none⟩ = some (.slice (some ⟨sb, so, none⟩) x.pla.sets.length sc') ∧ w'.cell? ⟨sb, so + i * 4, none⟩ = some (.int .u64 l0) ∧ w'.cell? ⟨sb, so + i * 4 + 1, none⟩ = some (.int .u64 l1) ∧ w'.cell? ⟨sb, so + i * 4 + 2, none⟩ = some (.int .u64 l2) ∧ w'.cell? ⟨sb, so + i * 4 + 3, none⟩ = some (.int .u64 l3) ∧ w'.cell? ⟨tb, to + i * 4, none⟩ = some (.int .u64 l0) ∧ w'.cell? ⟨tb, to + i * 4 + 1, none⟩ = some (.int .u64 l1) ∧ w'.cell? ⟨tb, to + i * 4 + 2, none⟩ = some (.int .u64 l2) ∧ w'.cell? ⟨tb, to + i * 4 + 3, none⟩ = some (.int .u64 l3))) (st := ([] : List Nat)) (by kernel_rfl) (KS.out _ (QD.out)) (fun hHeld => ?_)
              refine Rest.plain (i := 0) _ (some 192) ?_ rfl rfl (by kernel_rfl) (by kernel_rfl) (by kernel_rfl) (by kernel_rfl) (fun _ _ _ h => h) (Or.inl ⟨by rfl, ?_⟩) (by assumption) ?_
              rotate_left
              · (intro w _; go_simp; try with_reducible rfl)
              try simp only [Act.put, List.setIfInBounds_toArray, List.set_cons_zero, List.set_cons_succ]
              refine Rest.take (i := 1) _ (some 193) ?_ rfl rfl (by kernel_rfl) (by kernel_rfl) (by kernel_rfl) (by kernel_rfl) (fun _ _ _ h => h) (Or.inl ⟨by rfl, ?_⟩) (by assumption) ?_
              rotate_left
              · (intro w hSw; (try dsimp only at hSw); go_simp; try with_reducible rfl)
              try simp only [Act.put, List.setIfInBounds_toArray, List.set_cons_zero, List.set_cons_succ]
              refine Rest.plain (i := 2) _ (some 194) ?_ rfl rfl (by kernel_rfl) (by kernel_rfl) (by kernel_rfl) (by kernel_rfl) (fun _ _ _ h => h) (Or.inl ⟨by rfl, ?_⟩) (by assumption) ?_
              rotate_left
              · (intro w _; go_simp; try with_reducible rfl)
              try simp only [Act.put, List.setIfInBounds_toArray, List.set_cons_zero, List.set_cons_succ]
              refine Rest.plain (i := 3) _ (some 195) ?_ rfl rfl (by kernel_rfl) (by kernel_rfl) (by kernel_rfl) (by kernel_rfl) (fun _ _ _ h => h) (Or.inl ⟨by rfl, ?_⟩) (by assumption) ?_
              rotate_left
              · (intro w _; go_simp; try with_reducible rfl)
              try simp only [Act.put, List.setIfInBounds_toArray, List.set_cons_zero, List.set_cons_succ]
              refine Rest.take (i := 4) _ (some 196) ?_ rfl rfl (by kernel_rfl) (by kernel_rfl) (by kernel_rfl) (by kernel_rfl) (fun _ _ _ h => h) (Or.inl ⟨by rfl, ?_⟩) (by assumption) ?_
              rotate_left
              · (intro w hSw; (try dsimp only at hSw); go_simp; try with_reducible rfl)
              try simp only [Act.put, List.setIfInBounds_toArray, List.set_cons_zero, List.set_cons_succ]
              refine Rest.plain (i := 5) _ (some 197) ?_ rfl rfl (by kernel_rfl) (by kernel_rfl) (by kernel_rfl) (by kernel_rfl) (fun _ _ _ h => h) (Or.inl ⟨by rfl, ?_⟩) (by assumption) ?_
              rotate_left
              · (intro w _; go_simp; try with_reducible rfl)
              try simp only [Act.put, List.setIfInBounds_toArray, List.set_cons_zero, List.set_cons_succ]
              refine Rest.plain (i := 6) _ (some 198) ?_ rfl rfl (by kernel_rfl) (by kernel_rfl) (by kernel_rfl) (by kernel_rfl) (fun _ _ _ h => h) (Or.inl ⟨by rfl, ?_⟩) (by assumption) ?_
              rotate_left
              · (intro w _; go_simp; try with_reducible rfl)
              try simp only [Act.put, List.setIfInBounds_toArray, List.set_cons_zero, List.set_cons_succ]
              refine Rest.take (i := 7) _ (some 199) ?_ rfl rfl (by kernel_rfl) (by kernel_rfl) (by kernel_rfl) (by kernel_rfl) (fun _ _ _ h => h) (Or.inl ⟨by rfl, ?_⟩) (by assumption) ?_
              rotate_left
              · (intro w hSw; (try dsimp only at hSw); go_simp; try with_reducible rfl)
              try simp only [Act.put, List.setIfInBounds_toArray, List.set_cons_zero, List.set_cons_succ]
              refine Rest.plain (i := 8) _ (some 200) ?_ rfl rfl (by kernel_rfl) (by kernel_rfl) (by kernel_rfl) (by kernel_rfl) (fun _ _ _ h => h) (Or.inl ⟨by rfl, ?_⟩) (by assumption) ?_
              rotate_left
              · (intro w _; go_simp; try with_reducible rfl)
              try simp only [Act.put, List.setIfInBounds_toArray, List.set_cons_zero, List.set_cons_succ]
              refine Rest.plain (i := 9) _ (some 201) ?_ rfl rfl (by kernel_rfl) (by kernel_rfl) (by kernel_rfl) (by kernel_rfl) (fun _ _ _ h => h) (Or.inl ⟨by rfl, ?_⟩) (by assumption) ?_
              rotate_left
              · (intro w _; go_simp; try with_reducible rfl)
              try simp only [Act.put, List.setIfInBounds_toArray, List.set_cons_zero, List.set_cons_succ]
              refine Rest.take (i := 10) _ (some 202) ?_ rfl rfl (by kernel_rfl) (by kernel_rfl) (by kernel_rfl) (by kernel_rfl) (fun _ _ _ h => h) (Or.inl ⟨by rfl, ?_⟩) (by assumption) ?_
              rotate_left
              · (intro w hSw; (try dsimp only at hSw); go_simp; try with_reducible rfl)
              try simp only [Act.put, List.setIfInBounds_toArray, List.set_cons_zero, List.set_cons_succ]
              refine Rest.plain (i := 11) _ (some 203) ?_ rfl rfl (by kernel_rfl) (by kernel_rfl) (by kernel_rfl) (by kernel_rfl) (fun _ _ _ h => h) (Or.inl ⟨by rfl, ?_⟩) (by assumption) ?_
              rotate_left
              · (intro w _; go_simp; try with_reducible rfl)
              try simp only [Act.put, List.setIfInBounds_toArray, List.set_cons_zero, List.set_cons_succ]
              refine Rest.plain (i := 12) _ (some 204) ?_ rfl rfl (by kernel_rfl) (by kernel_rfl) (by kernel_rfl) (by kernel_rfl) (fun _ _ _ h => h) (Or.inl ⟨by rfl, ?_⟩) (by assumption) ?_
              rotate_left
              · (intro w _; go_simp; try with_reducible rfl)
              try simp only [Act.put, List.setIfInBounds_toArray, List.set_cons_zero, List.set_cons_succ]
              refine Rest.plain (i := 13) _ (some 205) ?_ rfl rfl (by kernel_rfl) (by kernel_rfl) (by kernel_rfl) (by kernel_rfl) (fun _ _ _ h => h) (Or.inl ⟨by rfl, ?_⟩) (by assumption) ?_
              rotate_left
              · (intro w _; go_simp; try with_reducible rfl)
              try simp only [Act.put, List.setIfInBounds_toArray, List.set_cons_zero, List.set_cons_succ]
              refine Rest.plain (i := 14) _ (some 206) ?_ rfl rfl (by kernel_rfl) (by kernel_rfl) (by kernel_rfl) (by kernel_rfl) (fun _ _ _ h => h) (Or.inl ⟨by rfl, ?_⟩) (by assumption) ?_
              rotate_left
              · (intro w _; go_simp; try with_reducible rfl)
              try simp only [Act.put, List.setIfInBounds_toArray, List.set_cons_zero, List.set_cons_succ]
              refine Rest.take (i := 15) _ (some 207) ?_ rfl rfl (by kernel_rfl) (by kernel_rfl) (by kernel_rfl) (by kernel_rfl) (fun _ _ _ h => h) (Or.inl ⟨by rfl, ?_⟩) (by assumption) ?_
              rotate_left
              · (intro w hSw; (try dsimp only at hSw); go_simp; try with_reducible rfl)
              try simp only [Act.put, List.setIfInBounds_toArray, List.set_cons_zero, List.set_cons_succ]
              refine Rest.plain (i := 16) _ (some 208) ?_ rfl rfl (by kernel_rfl) (by kernel_rfl) (by kernel_rfl) (by kernel_rfl) (fun _ _ _ h => h) (Or.inl ⟨by rfl, ?_⟩) (by assumption) ?_
              rotate_left
              · (intro w _; go_simp; try with_reducible rfl)
              try simp only [Act.put, List.setIfInBounds_toArray, List.set_cons_zero, List.set_cons_succ]
              refine Rest.plain (i := 17) _ (some 209) ?_ rfl rfl (by kernel_rfl) (by kernel_rfl) (by kernel_rfl) (by kernel_rfl) (fun _ _ _ h => h) (Or.inl ⟨by rfl, ?_⟩) (by assumption) ?_
              rotate_left
              · (intro w _; go_simp; try with_reducible rfl)
              try simp only [Act.put, List.setIfInBounds_toArray, List.set_cons_zero, List.set_cons_succ]
              refine Rest.take (i := 18) _ (some 210) ?_ rfl rfl (by kernel_rfl) (by kernel_rfl) (by kernel_rfl) (by kernel_rfl) (fun _ _ _ h => h) (Or.inl ⟨by rfl, ?_⟩) (by assumption) ?_
              rotate_left
              · (intro w hSw; (try dsimp only at hSw); go_simp; try with_reducible rfl)
              try simp only [Act.put, List.setIfInBounds_toArray, List.set_cons_zero, List.set_cons_succ]
              refine Rest.plain (i := 19) _ (some 211) ?_ rfl rfl (by kernel_rfl) (by kernel_rfl) (by kernel_rfl) (by kernel_rfl) (fun _ _ _ h => h) (Or.inl ⟨by rfl, ?_⟩) (by assumption) ?_
              rotate_left
              · (intro w _; go_simp; try with_reducible rfl)
              try simp only [Act.put, List.setIfInBounds_toArray, List.set_cons_zero, List.set_cons_succ]
              refine Rest.plain (i := 20) _ (some 212) ?_ rfl rfl (by kernel_rfl) (by kernel_rfl) (by kernel_rfl) (by kernel_rfl) (fun _ _ _ h => h) (Or.inl ⟨by rfl, ?_⟩) (by assumption) ?_
              rotate_left
              · (intro w _; go_simp; try with_reducible rfl)
              try simp only [Act.put, List.setIfInBounds_toArray, List.set_cons_zero, List.set_cons_succ]
              refine Rest.take (i := 21) _ (some 213) ?_ rfl rfl (by kernel_rfl) (by kernel_rfl) (by kernel_rfl) (by kernel_rfl) (fun _ _ _ h => h) (Or.inl ⟨by rfl, ?_⟩) (by assumption) ?_
              rotate_left
              · (intro w hSw; (try dsimp only at hSw); go_simp; try with_reducible rfl)
              try simp only [Act.put, List.setIfInBounds_toArray, List.set_cons_zero, List.set_cons_succ]
              refine Rest.plain (i := 22) _ (some 214) ?_ rfl rfl (by kernel_rfl) (by kernel_rfl) (by kernel_rfl) (by kernel_rfl) (fun _ _ _ h => h) (Or.inl ⟨by rfl, ?_⟩) (by assumption) ?_
              rotate_left
              · (intro w _; go_simp; try with_reducible rfl)
              try simp only [Act.put, List.setIfInBounds_toArray, List.set_cons_zero, List.set_cons_succ]
              refine Rest.plain (i := 23) _ (some 215) ?_ rfl rfl (by kernel_rfl) (by kernel_rfl) (by kernel_rfl) (by kernel_rfl) (fun _ _ _ h => h) (Or.inl ⟨by rfl, ?_⟩) (by assumption) ?_
              rotate_left
              · (intro w _; go_simp; try with_reducible rfl)
              try simp only [Act.put, List.setIfInBounds_toArray, List.set_cons_zero, List.set_cons_succ]
              refine Rest.take (i := 24) _ (some 216) ?_ rfl rfl (by kernel_rfl) (by kernel_rfl) (by kernel_rfl) (by kernel_rfl) (fun _ _ _ h => h) (Or.inl ⟨by rfl, ?_⟩) (by assumption) ?_
              rotate_left
              · (intro w hSw; (try dsimp only at hSw); go_simp; try with_reducible rfl)
              try simp only [Act.put, List.setIfInBounds_toArray, List.set_cons_zero, List.set_cons_succ]
              refine Rest.plain (i := 25) _ (some 217) ?_ rfl rfl (by kernel_rfl) (by kernel_rfl) (by kernel_rfl) (by kernel_rfl) (fun _ _ _ h => h) (Or.inl ⟨by rfl, ?_⟩) (by assumption) ?_
              rotate_left
              · (intro w _; go_simp; try with_reducible rfl)
              try simp only [Act.put, List.setIfInBounds_toArray, List.set_cons_zero, List.set_cons_succ]
              refine Rest.plain (i := 26) _ (some 218) ?_ rfl rfl (by kernel_rfl) (by kernel_rfl) (by kernel_rfl) (by kernel_rfl) (fun _ _ _ h => h) (Or.inl ⟨by rfl, ?_⟩) (by assumption) ?_
              rotate_left
              · (intro w _; go_simp; try with_reducible rfl)
              try simp only [Act.put, List.setIfInBounds_toArray, List.set_cons_zero, List.set_cons_succ]
              refine Rest.plain (i := 27) _ (some 219) ?_ rfl rfl (by kernel_rfl) (by kernel_rfl) (by kernel_rfl) (by kernel_rfl) (fun _ _ _ h => h) (Or.inl ⟨by rfl, ?_⟩) (by assumption) ?_
              rotate_left
              · (intro w _; go_simp; try with_reducible rfl)
              try simp only [Act.put, List.setIfInBounds_toArray, List.set_cons_zero, List.set_cons_succ]
              refine Rest.plain (i := 28) _ (some 220) ?_ rfl rfl (by kernel_rfl) (by kernel_rfl) (by kernel_rfl) (by kernel_rfl) (fun _ _ _ h => h) (Or.inl ⟨by rfl, ?_⟩) (by assumption) ?_
              rotate_left
              · (intro w _; go_simp; try with_reducible rfl)
              try simp only [Act.put, List.setIfInBounds_toArray, List.set_cons_zero, List.set_cons_succ]
              refine Rest.plain (i := 29) _ (some 221) ?_ rfl rfl (by kernel_rfl) (by kernel_rfl) (by kernel_rfl) (by kernel_rfl) (fun _ _ _ h => h) (Or.inl ⟨by rfl, ?_⟩) (by assumption) ?_
              rotate_left
              · (intro w _; go_simp; try with_reducible rfl)
              try simp only [Act.put, List.setIfInBounds_toArray, List.set_cons_zero, List.set_cons_succ]
              refine Rest.take (i := 30) _ (some 222) ?_ rfl rfl (by kernel_rfl) (by kernel_rfl) (by kernel_rfl) (by kernel_rfl) (fun _ _ _ h => h) (Or.inl ⟨by rfl, ?_⟩) (by assumption) ?_
              rotate_left
              · (intro w hSw; (try dsimp only at hSw); go_simp; try with_reducible rfl)
              try simp only [Act.put, List.setIfInBounds_toArray, List.set_cons_zero, List.set_cons_succ]
              refine Rest.plain (i := 31) _ (some 223) ?_ rfl rfl (by kernel_rfl) (by kernel_rfl) (by kernel_rfl) (by kernel_rfl) (fun _ _ _ h => h) (Or.inl ⟨by rfl, ?_⟩) (by assumption) ?_
              rotate_left
              · (intro w _; go_simp; try with_reducible rfl)
              try simp only [Act.put, List.setIfInBounds_toArray, List.set_cons_zero, List.set_cons_succ]
              refine Rest.plain (i := 32) _ (some 224) ?_ rfl rfl (by kernel_rfl) (by kernel_rfl) (by kernel_rfl) (by kernel_rfl) (fun _ _ _ h => h) (Or.inl ⟨by rfl, ?_⟩) (by assumption) ?_
              rotate_left
              · (intro w _; go_simp; try with_reducible rfl)
              try simp only [Act.put, List.setIfInBounds_toArray, List.set_cons_zero, List.set_cons_succ]
              refine Rest.take (i := 33) _ (some 225) ?_ rfl rfl (by kernel_rfl) (by kernel_rfl) (by kernel_rfl) (by kernel_rfl) (fun _ _ _ h => h) (Or.inl ⟨by rfl, ?_⟩) (by assumption) ?_
              rotate_left
              · (intro w hSw; (try dsimp only at hSw); go_simp; try with_reducible rfl)
              try simp only [Act.put, List.setIfInBounds_toArray, List.set_cons_zero, List.set_cons_succ]
              refine Rest.plain (i := 34) _ (some 226) ?_ rfl rfl (by kernel_rfl) (by kernel_rfl) (by kernel_rfl) (by kernel_rfl) (fun _ _ _ h => h) (Or.inl ⟨by rfl, ?_⟩) (by assumption) ?_
              rotate_left
              · (intro w _; go_simp; try with_reducible rfl)
              try simp only [Act.put, List.setIfInBounds_toArray, List.set_cons_zero, List.set_cons_succ]
              refine Rest.take (i := 35) _ (some 227) ?_ rfl rfl (by kernel_rfl) (by kernel_rfl) (by kernel_rfl) (by kernel_rfl) (fun _ _ _ h => h) (Or.inl ⟨by rfl, ?_⟩) (by assumption) ?_
              rotate_left
              · (intro w hSw; (try dsimp only at hSw); go_simp; try with_reducible rfl)
              try simp only [Act.put, List.setIfInBounds_toArray, List.set_cons_zero, List.set_cons_succ]
              refine Rest.plain (i := 36) _ (some 228) ?_ rfl rfl (by kernel_rfl) (by kernel_rfl) (by kernel_rfl) (by kernel_rfl) (fun _ _ _ h => h) (Or.inl ⟨by rfl, ?_⟩) (by assumption) ?_
              rotate_left
              · (intro w _; go_simp; try with_reducible rfl)
              try simp only [Act.put, List.setIfInBounds_toArray, List.set_cons_zero, List.set_cons_succ]
              refine Rest.plain (i := 37) _ (some 229) ?_ rfl rfl (by kernel_rfl) (by kernel_rfl) (by kernel_rfl) (by kernel_rfl) (fun _ _ _ h => h) (Or.inl ⟨by rfl, ?_⟩) (by assumption) ?_
              rotate_left
              · (intro w _; go_simp; try with_reducible rfl)
              try simp only [Act.put, List.setIfInBounds_toArray, List.set_cons_zero, List.set_cons_succ]
              refine Rest.take (i := 38) _ (some 230) ?_ rfl rfl (by kernel_rfl) (by kernel_rfl) (by kernel_rfl) (by kernel_rfl) (fun _ _ _ h => h) (Or.inl ⟨by rfl, ?_⟩) (by assumption) ?_
              rotate_left
              · (intro w hSw; (try dsimp only at hSw); go_simp; try with_reducible rfl)
              try simp only [Act.put, List.setIfInBounds_toArray, List.set_cons_zero, List.set_cons_succ]
              refine Rest.plain (i := 39) _ (some 231) (.bool false) rfl rfl (by kernel_rfl) (by kernel_rfl) (by kernel_rfl) (by kernel_rfl) (fun _ _ _ h => h) (Or.inl ⟨by rfl, neq_exec hneq⟩) (by assumption) ?_
              try simp only [Act.put, List.setIfInBounds_toArray, List.set_cons_zero, List.set_cons_succ]
              refine Rest.plain (i := 40) _ (some 232) ?_ rfl rfl (by kernel_rfl) (by kernel_rfl) (by kernel_rfl) (by kernel_rfl) (fun _ _ _ h => h) (Or.inl ⟨by rfl, ?_⟩) (by assumption) ?_
              rotate_left
              · (intro w _; go_simp; try with_reducible rfl)
              try simp only [Act.put, List.setIfInBounds_toArray, List.set_cons_zero, List.set_cons_succ]
              refine Rest.done (by kernel_rfl) ?_ _
              go_wp2_with fail
              exact ⟨⟨i + 1, by omega, by go_num, QV.out.comp QD.out⟩, by simp [intOf]; omega⟩
            · obtain rfl : i = x.pla.cnt := by omega
              go_wp2_with fail
              go_ret
              exact ⟨rfl, Q0.out.comp QV.out⟩
    · have hk4 : decide ((4 : Int) ≤ x.kind) = true := by simp; omega
      clear hof hk
      go_wp2_with fail
      go_ret
      exact ⟨rfl, X5.out.qt⟩
theorem placeSigns_row (a : Option Addr) (len cap : Nat) (f : Nat → Int) (w : World) (hs : Sl w a len (fun i => .int .u8 (f i))) (ho : ∀ i, (Lit.int .u8 (f i)).wf = true) (ha : ∀ q, a = some q → q.block < w.heap.size) (hT : Hid (Tab w)) : Calls Tryd.prog 6 #[.slice a len cap] w fun e w' => e = .returned (.bool true) ∧ Below w.heap.size w w' := by
  obtain ⟨g, h1, h2⟩ := bytes_of hs ho
  exact (placeSigns_walk a len cap g w h1 (fun i _ => h2 i) ha hT (Tab.pos hT)).mono fun e w' ⟨he, hq⟩ => ⟨he, mv_below hq.out⟩

end Go.Proofs.YtojbakkbmfgoaaaDoor
