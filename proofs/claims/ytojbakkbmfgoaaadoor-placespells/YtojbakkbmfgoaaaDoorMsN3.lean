/- PlaceAll. -/
import Derived.Test.YtojbakkbmfgoaaaDoorMg28
import Derived.Test.YtojbakkbmfgoaaaDoorMg09
import Derived.Test.YtojbakkbmfgoaaaDoorMsFA
namespace Go.Proofs.YtojbakkbmfgoaaaDoor
open Go.RowKit
set_option linter.unusedVariables false
set_option linter.unusedSimpArgs false

theorem same_self (p : Nat → Bool) : same p p = true := same_like.2 (fun _ _ => rfl)
theorem neq_self (p : Nat → Bool) (W : World) : (binOp .neq 26 (.agg #[.int .u64 (limb p 0), .int .u64 (limb p 1), .int .u64 (limb p 2), .int .u64 (limb p 3)]) (.agg #[.int .u64 (limb p 0), .int .u64 (limb p 1), .int .u64 (limb p 2), .int .u64 (limb p 3)])).run Tryd.prog W = .ok (.bool false) W := by
  have h := neq_run p p W
  rw [same_self] at h
  exact h
theorem neq_exec {S : World → Prop} {o : Oper} {ev : Operand → Value} {a b : Operand} {xs ys : Array Value} (hn : ∀ W, (binOp .neq 26 (.agg xs) (.agg ys)).run Tryd.prog W = .ok (.bool false) W) (ho : o.op = .binOp .neq 26 a b 26 := by rfl) (ha : ev a = .agg xs := by rfl) (hb : ev b = .agg ys := by rfl) : ∀ w, S w → (execOp ev o).run Tryd.prog w = .ok (.value (.bool false)) w := by
  intro w _
  have h := hn w
  have hg : Tryd.prog.eqGuardType Tryd.prog.depth 26 = false := by kernel_rfl
  unfold execOp
  rw [ho]
  simp only [ha, hb]
  simp [h, run_eqGuard_agg (hm := hg), Result.andThen]
/-- The play's tree, as PlaceAll has it. -/
structure Tx (w W : World) (g : Nat) (x : RX) (pa : Option Addr) (pc : Nat) : Prop where
  qt : Qt w W
  parts : Parts x.args (fun j => j < g) W pa pc
  box : B6 g (.int .i64 x.kind) (.int .u64 (limb x.set 0)) (.int .u64 (limb x.set 1)) (.int .u64 (limb x.set 2)) (.int .u64 (limb x.set 3)) (.slice pa x.args.length pc) W
theorem Tx.step {w W W' : World} {g : Nat} {x : RX} {pa : Option Addr} {pc : Nat} (h : Hid (Tx w W g x pa pc)) (q : Qt W W') : Hid (Tx w W' g x pa pc) :=
  ⟨h.out.qt.comp q, h.out.parts.mv q (fun _ _ h => h), (B6.mv h.out.box q (fun h => h)).out⟩
theorem Tx.new {w W : World} {x : RX} {pa : Option Addr} {pc : Nat} {K : Nat → Prop} (q : Qt w W) (h : Parts x.args K W pa pc) : Hid (Tx w (W.alloc (.cells #[.int .i64 x.kind, .int .u64 (limb x.set 0), .int .u64 (limb x.set 1), .int .u64 (limb x.set 2), .int .u64 (limb x.set 3), .slice pa x.args.length pc] 29)) W.heap.size x pa pc) :=
  ⟨q.comp (Mv.alloc _ _ _), (h.lt.mono (fun j hj => hj.2)).mv (Mv.alloc (fun _ => False) _ _) (fun _ _ h => h), heap_alloc_new W _⟩
theorem same_h (L : List Nat) (hl : L.length < 90000) (s t : Value) (w : World) (hs : Hid (Is w s L)) (ht : Hid (Is w t L)) : Calls Tryd.prog 12 #[s, t] w fun e w' => e = .returned (.bool true) ∧ Hid (Qt w w') :=
  (same_any L hl s t w hs ht).mono fun e w' ⟨h1, m, h2⟩ => ⟨h1, by rw [h2]; exact Mv.drewN (fun _ => False) w m⟩

set_option maxRecDepth 20000 in
set_option maxHeartbeats 8000000 in
theorem placeAll_walk (a : Option Addr) (len cap : Nat) (f : Nat → Nat) (deep : Nat) (w : World) (hs : Hid (Sl w a len (Bn f))) (hf : ∀ i, i < len → f i < 256) (ha : ∀ q, a = some q → q.block < w.heap.size) (hd : deep < 256) (hT : Hid (Tab w)) (h0 : 0 < w.heap.size) : Calls Tryd.prog 3 #[.slice a len cap, .int .u8 deep] w fun e w' => e = .returned (.bool true) ∧ Hid (Qt w w') := by
  have hb := begun_true w hT h0
  have HF : Hid _ := hf
  have HA : Hid _ := ha
  clear hf ha
  by_cases hl : 60 < len
  · have hli : (60 : Int) < (len : Int) := by omega
    clear hl
    go_enter Tryd.func3, Tryd.ntmps3
    go_wp2_with fail
    refine hb.mono ?_
    rintro e1 w1 ⟨rfl, q1⟩
    go_wp2_with fail
    go_ret
    exact ⟨rfl, q1.out⟩
  · have hli : (len : Int) ≤ 60 := by omega
    have HLn : Hid (len < 1000000) := (by omega : len < 1000000)
    have hmt : Int.tmod (deep : Int) 6 = ((deep % 6 : Nat) : Int) := by rw [Int.tmod_eq_emod_of_nonneg (by omega)]; omega
    obtain ⟨d, hd6⟩ : ∃ d, d = deep % 6 := ⟨_, rfl⟩
    have hd5 : d ≤ 5 := by omega
    rw [← hd6] at hmt
    have hdi : (d : Int) < 256 := by omega
    have hme : (deep : Int) % 6 = (d : Int) := by omega
    clear hd6
    have hrx : ∀ g n W, Hid (Pk W g a len cap f n) → Calls Tryd.prog 9 #[.pointer (some ⟨g, 0, none⟩), .int .i64 (d : Int)] W fun e w' => RxP d W g a len cap f e w' := fun g n W h => rx_any d (by omega) g a len cap f n W h
    clear hl
    go_enter Tryd.func3, Tryd.ntmps3
    go_wp2_with fail
    refine hb.mono ?_
    rintro e1 w1 ⟨rfl, q1⟩
    go_wp2_with fail
    refine (made_any a len cap f w1 (show Hid _ from hs.out.mv q1.out (fun _ _ h => h)) HLn.out HF.out (fun q hq => Nat.lt_of_lt_of_le (HA.out q hq) q1.out.size)).mono ?_
    rintro e2 w2 ⟨rfl, p2, q2⟩
    go_wp2_with fail
    refine (hrx _ _ _ p2).mono ?_
    intro e3 w3 h3
    obtain ⟨x, pa, pc, n3, rfl, plx, px, p3, m3⟩ := h3
    have Q2 : Hid (Qt w w2) := q1.out.comp q2.out
    have Q3 : Hid (Qt w w3) := Mv.trans Q2.out m3.out (fun j hj e => by have := q1.out.size; omega)
    have X3 := Tx.new (w := w) (W := w3) Q3.out px.out
    have HTl : Hid (x.tall < 90000) := plx.out.tall5 hd5
    have HFo : Hid (x.formed = true) := plx.out.formed
    have HNo : Hid (x.nodes < 1000000) := (by have := plx.out.nodes; have := Nd_le5 hd5; omega : x.nodes < 1000000)
    have HDe : Hid (x.depth < 1000000) := (by have := plx.out.depth; omega : x.depth < 1000000)
    obtain ⟨b0, b1, b2, b3, b4, b5, _⟩ := B6.facts (show Hid _ from X3.out.box)
    clear hrx hb p3 px m3 p2 q2 Q2 plx hs HF HA
    go_wp2_with fail
    have hg3 : w3.heap.size < (w3.alloc (.cells #[.int .i64 x.kind, .int .u64 (limb x.set 0), .int .u64 (limb x.set 1), .int .u64 (limb x.set 2), .int .u64 (limb x.set 3), .slice pa x.args.length pc] 29)).heap.size := by simp
    generalize w3.alloc (.cells #[.int .i64 x.kind, .int .u64 (limb x.set 0), .int .u64 (limb x.set 1), .int .u64 (limb x.set 2), .int .u64 (limb x.set 3), .slice pa x.args.length pc] 29) = W3 at *
    by_cases hm : may x = 0
    · have hof := of_yes x hm _ pa pc W3 (fun j h => Nat.lt_trans h hg3) X3.out.parts HTl.out (show Hid _ from hT.out.qt X3.out.qt) (Nat.lt_of_lt_of_le h0 X3.out.qt.size)
      have hpf := fun W (h : Hid (Tx w W w3.heap.size x pa pc)) (hW : w3.heap.size < W.heap.size) => pof_yes x hm _ pa pc W (fun j hj => Nat.lt_trans hj hW) h.out.parts
      have HFI : Hid (x.pla.Fine) := pla_fine x
      have HC : Hid (x.pla.cnt ≤ 40) := Nat.le_trans (cnt_le x) (may_small hm).2.1
      refine hof.mono ?_
      rintro e4 w4 ⟨s, fv, l, g, rfl, PV, q4⟩
      clear b0 b1 b2 b3 b4 b5
      have X4 := Tx.step X3 q4.out
      obtain ⟨sa, sc', rfl, _⟩ := PV.out.sets
      obtain ⟨fa, fc, rfl⟩ := PV.out.fst.form
      obtain ⟨la, lc, rfl⟩ := PV.out.lst.form
      obtain ⟨ga, gc, _, rfl, _⟩ := PV.out.fol
      have QA : Hid (Qt w4 (w4.alloc (.cells #[.slice sa x.pla.sets.length sc', .slice fa (asc 64 (x.pla.fst 0)).length fc, .slice la (asc 64 (x.pla.lst 0)).length lc, .slice ga x.pla.cnt gc, .bool x.pla.null] 37))) := Mv.alloc _ _ _
      have X5 := Tx.step X4 QA.out
      have P5 : Hid (B5p 37 w4.heap.size (.slice sa x.pla.sets.length sc') (.slice fa (asc 64 (x.pla.fst 0)).length fc) (.slice la (asc 64 (x.pla.lst 0)).length lc) (.slice ga x.pla.cnt gc) (.bool x.pla.null) (w4.alloc (.cells #[.slice sa x.pla.sets.length sc', .slice fa (asc 64 (x.pla.fst 0)).length fc, .slice la (asc 64 (x.pla.lst 0)).length lc, .slice ga x.pla.cnt gc, .bool x.pla.null] 37))) := heap_alloc_new w4 _
      have V5 : Hid (Pv (w4.alloc (.cells #[.slice sa x.pla.sets.length sc', .slice fa (asc 64 (x.pla.fst 0)).length fc, .slice la (asc 64 (x.pla.lst 0)).length lc, .slice ga x.pla.cnt gc, .bool x.pla.null] 37)) (.slice sa x.pla.sets.length sc') (.slice fa (asc 64 (x.pla.fst 0)).length fc) (.slice la (asc 64 (x.pla.lst 0)).length lc) (.slice ga x.pla.cnt gc) x.pla.sets x.pla.cnt (asc 64 (x.pla.fst 0)) (asc 64 (x.pla.lst 0)) (fun i => asc 64 (x.pla.fol 0 i))) := PV.out.qt QA.out
      have hg5 : w3.heap.size < (w4.alloc (.cells #[.slice sa x.pla.sets.length sc', .slice fa (asc 64 (x.pla.fst 0)).length fc, .slice la (asc 64 (x.pla.lst 0)).length lc, .slice ga x.pla.cnt gc, .bool x.pla.null] 37)).heap.size := Nat.lt_of_lt_of_le hg3 (Nat.le_trans q4.out.size QA.out.size)
      obtain ⟨b0, b1, b2, b3, b4, b5, _⟩ := B6.facts (show Hid _ from X5.out.box)
      go_wp2_with fail
      generalize w4.alloc (.cells #[.slice sa x.pla.sets.length sc', .slice fa (asc 64 (x.pla.fst 0)).length fc, .slice la (asc 64 (x.pla.lst 0)).length lc, .slice ga x.pla.cnt gc, .bool x.pla.null] 37) = W5 at *
      generalize w4.heap.size = pg at *
      refine (hpf _ X5 hg5).mono ?_
      rintro e6 w6 ⟨s2, f2, l2, g2, rfl, PR, q6⟩
      obtain ⟨s2a, s2c, rfl, _⟩ := PR.out.sets
      obtain ⟨f2a, f2c, rfl⟩ := PR.out.fst.form
      obtain ⟨l2a, l2c, rfl⟩ := PR.out.lst.form
      obtain ⟨g2a, g2c, _, rfl, _⟩ := PR.out.fol
      have HSN : Hid (x.pla.sets.length = x.pla.cnt) := HFI.out.len
      have E1 : Hid ((asc 64 (x.pla.fst 0)).length < 90000) := (by have := asc_length 64 (x.pla.fst 0); omega : (asc 64 (x.pla.fst 0)).length < 90000)
      have E2 : Hid ((asc 64 (x.pla.lst 0)).length < 90000) := (by have := asc_length 64 (x.pla.lst 0); omega : (asc 64 (x.pla.lst 0)).length < 90000)
      have E3 : Hid (∀ i, (asc 64 (x.pla.fol 0 i)).length < 90000) := fun i => by have := asc_length 64 (x.pla.fol 0 i); omega
      generalize hA1 : asc 64 (x.pla.fst 0) = A1 at *
      generalize hA2 : asc 64 (x.pla.lst 0) = A2 at *
      have QB : Hid (Qt w6 (w6.alloc (.cells #[.slice s2a x.pla.sets.length s2c, .slice f2a A1.length f2c, .slice l2a A2.length l2c, .slice g2a x.pla.cnt g2c, .bool x.pla.null] 41))) := Mv.alloc _ _ _
      have P7 := B5p.mv P5.out (q6.out.comp QB.out) (fun h => h)
      have R7 : Hid (B5p 41 w6.heap.size (.slice s2a x.pla.sets.length s2c) (.slice f2a A1.length f2c) (.slice l2a A2.length l2c) (.slice g2a x.pla.cnt g2c) (.bool x.pla.null) (w6.alloc (.cells #[.slice s2a x.pla.sets.length s2c, .slice f2a A1.length f2c, .slice l2a A2.length l2c, .slice g2a x.pla.cnt g2c, .bool x.pla.null] 41))) := heap_alloc_new w6 _
      have V7 : Hid (Pv _ _ _ _ _ _ _ _ _ _) := V5.out.qt (q6.out.comp QB.out)
      have U7 : Hid (Pv _ _ _ _ _ _ _ _ _ _) := PR.out.qt QB.out
      have Q7 : Hid (Qt w _) := (X5.out.qt.comp q6.out).comp QB.out
      clear b0 b1 b2 b3 b4 b5 hA1 hA2 hof hpf
      obtain ⟨x0, x1, x2, x3, x4, x5, x6, x7, x8, x9⟩ := B5p.facts P7
      obtain ⟨y0, y1, y2, y3, y4, y5, y6, y7, y8, y9⟩ := B5p.facts R7
      go_wp2_with fail
      generalize w6.alloc (.cells #[.slice s2a x.pla.sets.length s2c, .slice f2a A1.length f2c, .slice l2a A2.length l2c, .slice g2a x.pla.cnt g2c, .bool x.pla.null] 41) = W7 at *
      generalize w6.heap.size = qg at *
      refine (same_h A1 E1.out _ _ W7 (show Hid _ from V7.out.fst) (show Hid _ from U7.out.fst)).mono ?_
      rintro e8 w8 ⟨rfl, q8⟩
      have P8 := B5p.mv P7.out q8.out (fun h => h)
      have R8 := B5p.mv R7.out q8.out (fun h => h)
      clear x0 x1 x2 x3 x4 x5 x6 x7 x8 x9 y0 y1 y2 y3 y4 y5 y6 y7 y8 y9
      obtain ⟨x0, x1, x2, x3, x4, x5, x6, x7, x8, x9⟩ := B5p.facts P8
      obtain ⟨y0, y1, y2, y3, y4, y5, y6, y7, y8, y9⟩ := B5p.facts R8
      go_wp2_with fail
      refine (same_h A2 E2.out _ _ w8 (show Hid _ from V7.out.lst.qt q8.out) (show Hid _ from U7.out.lst.qt q8.out)).mono ?_
      rintro e9 w9 ⟨rfl, q9⟩
      have P9 := B5p.mv P8.out q9.out (fun h => h)
      have R9 := B5p.mv R8.out q9.out (fun h => h)
      have V9 : Hid (Pv w9 _ _ _ _ _ _ _ _ _) := V7.out.qt (q8.out.comp q9.out)
      have U9 : Hid (Pv w9 _ _ _ _ _ _ _ _ _) := U7.out.qt (q8.out.comp q9.out)
      have Q9 : Hid (Qt w w9) := Q7.out.comp (q8.out.comp q9.out)
      clear x0 x1 x2 x3 x4 x5 x6 x7 x8 x9 y0 y1 y2 y3 y4 y5 y6 y7 y8 y9
      obtain ⟨x0, x1, x2, x3, x4, x5, x6, x7, x8, x9⟩ := B5p.facts P9
      obtain ⟨y0, y1, y2, y3, y4, y5, y6, y7, y8, y9⟩ := B5p.facts R9
      clear P7 R7 P8 R8 V7 U7 V5 PR PV P5 q8 q9
      go_wp2_with fail
      go_loopw [10] (fun s10 wr => ∃ i : Nat, i ≤ x.pla.sets.length ∧ s10 = .int .i64 i ∧ Hid (Qt w9 wr)) (fun s10 _ => x.pla.sets.length - (intOf s10).toNat)
      case atStart => exact ⟨0, by omega, rfl, Qt.refl w9⟩
      case round =>
        obtain ⟨i, hi, rfl, QW⟩ := hrel
        clear x0 x1 x2 x3 x4 x5 x6 x7 x8 x9 y0 y1 y2 y3 y4 y5 y6 y7 y8 y9
        obtain ⟨x0, x1, x2, x3, x4, x5, x6, x7, x8, x9⟩ := B5p.facts (B5p.mv P9.out QW.out (fun h => h))
        obtain ⟨y0, y1, y2, y3, y4, y5, y6, y7, y8, y9⟩ := B5p.facts (B5p.mv R9.out QW.out (fun h => h))
        by_cases hlt : i < x.pla.sets.length
        · obtain ⟨p, hp⟩ : ∃ p, x.pla.sets[i]? = some p := ⟨_, List.getElem?_eq_getElem hlt⟩
          obtain ⟨sb, so, sc3, e, c0, c1, c2, c3⟩ := (V9.out.sets.qt QW.out).at hp
          obtain ⟨rfl, _, rfl⟩ := Value.slice.inj e
          obtain ⟨tb, to, tc3, e', d0, d1, d2, d3⟩ := (U9.out.sets.qt QW.out).at hp
          obtain ⟨rfl, _, rfl⟩ := Value.slice.inj e'
          obtain ⟨va, vc, vs, ev, HV, HVI⟩ := V9.out.fol.qt QW.out
          obtain ⟨rfl, _, rfl⟩ := Value.slice.inj ev
          obtain ⟨ua, uc, us, eu, HU, HUI⟩ := U9.out.fol.qt QW.out
          obtain ⟨rfl, _, rfl⟩ := Value.slice.inj eu
          have hic : i < x.pla.cnt := by rw [← HSN.out]; exact hlt
          obtain ⟨vb, vo, rfl, _, kv⟩ := HV i hic
          obtain ⟨ub, uo, rfl, _, ku⟩ := HU i hic
          have I1 : Hid (Is wr (vs i) (asc 64 (x.pla.fol 0 i))) := HVI i hic
          have I2 : Hid (Is wr (us i) (asc 64 (x.pla.fol 0 i))) := HUI i hic
          clear HV HVI HU HUI e e' ev eu hp
          generalize vs i = vv at *
          generalize us i = uu at *
          obtain ⟨ia, ic, rfl⟩ := I1.out.form
          obtain ⟨ja, jc, rfl⟩ := I2.out.form
          have hii : (i : Int) < (x.pla.sets.length : Int) := by omega
          have hi100 : i < 100 := by have := HC.out; omega
          have hic2 : (i : Int) < (x.pla.cnt : Int) := by omega
          have hneq := neq_self p
          have QD : Hid (Qt wr wr.drew) := Qt.drew (Qt.refl _)
          have hsame := same_h (asc 64 (x.pla.fol 0 i)) (E3.out i) _ _ wr.drew (show Hid _ from I1.out.qt QD.out) (show Hid _ from I2.out.qt QD.out)
          generalize (asc 64 (x.pla.fol 0 i)).length = nl at *
          generalize limb p 0 = l0 at *
          generalize limb p 1 = l1 at *
          generalize limb p 2 = l2 at *
          generalize limb p 3 = l3 at *
          have Hx0 : Hid (wr.cell? ⟨pg, 0, none⟩ = some (.slice (some ⟨sb, so, none⟩) x.pla.sets.length sc')) := x0
          have Hx3 : Hid (wr.cell? ⟨pg, 3, none⟩ = some (.slice (some ⟨vb, vo, none⟩) x.pla.cnt gc)) := x3
          have Hy0 : Hid (wr.cell? ⟨qg, 0, none⟩ = some (.slice (some ⟨tb, to, none⟩) x.pla.sets.length s2c)) := y0
          have Hy3 : Hid (wr.cell? ⟨qg, 3, none⟩ = some (.slice (some ⟨ub, uo, none⟩) x.pla.cnt g2c)) := y3
          have Hc0 : Hid (wr.cell? ⟨sb, so + i * 4, none⟩ = some (.int .u64 l0)) := c0
          have Hc1 : Hid (wr.cell? ⟨sb, so + i * 4 + 1, none⟩ = some (.int .u64 l1)) := c1
          have Hc2 : Hid (wr.cell? ⟨sb, so + i * 4 + 2, none⟩ = some (.int .u64 l2)) := c2
          have Hc3 : Hid (wr.cell? ⟨sb, so + i * 4 + 3, none⟩ = some (.int .u64 l3)) := c3
          have Hd0 : Hid (wr.cell? ⟨tb, to + i * 4, none⟩ = some (.int .u64 l0)) := d0
          have Hd1 : Hid (wr.cell? ⟨tb, to + i * 4 + 1, none⟩ = some (.int .u64 l1)) := d1
          have Hd2 : Hid (wr.cell? ⟨tb, to + i * 4 + 2, none⟩ = some (.int .u64 l2)) := d2
          have Hd3 : Hid (wr.cell? ⟨tb, to + i * 4 + 3, none⟩ = some (.int .u64 l3)) := d3
          have Hkv : Hid (wr.cell? ⟨vb, vo + i, none⟩ = some (.slice ia nl ic)) := kv
          have Hku : Hid (wr.cell? ⟨ub, uo + i, none⟩ = some (.slice ja nl jc)) := ku
          have KS : Hid (∀ w', Qt wr w' → w'.cell? ⟨pg, 0, none⟩ = some (.slice (some ⟨sb, so, none⟩) x.pla.sets.length sc') ∧ w'.cell? ⟨pg, 3, none⟩ = some (.slice (some ⟨vb, vo, none⟩) x.pla.cnt gc) ∧ w'.cell? ⟨qg, 0, none⟩ = some (.slice (some ⟨tb, to, none⟩) x.pla.sets.length s2c) ∧ w'.cell? ⟨qg, 3, none⟩ = some (.slice (some ⟨ub, uo, none⟩) x.pla.cnt g2c) ∧ w'.cell? ⟨sb, so + i * 4, none⟩ = some (.int .u64 l0) ∧ w'.cell? ⟨sb, so + i * 4 + 1, none⟩ = some (.int .u64 l1) ∧ w'.cell? ⟨sb, so + i * 4 + 2, none⟩ = some (.int .u64 l2) ∧ w'.cell? ⟨sb, so + i * 4 + 3, none⟩ = some (.int .u64 l3) ∧ w'.cell? ⟨tb, to + i * 4, none⟩ = some (.int .u64 l0) ∧ w'.cell? ⟨tb, to + i * 4 + 1, none⟩ = some (.int .u64 l1) ∧ w'.cell? ⟨tb, to + i * 4 + 2, none⟩ = some (.int .u64 l2) ∧ w'.cell? ⟨tb, to + i * 4 + 3, none⟩ = some (.int .u64 l3) ∧ w'.cell? ⟨vb, vo + i, none⟩ = some (.slice ia nl ic) ∧ w'.cell? ⟨ub, uo + i, none⟩ = some (.slice ja nl jc)) := fun w' q => ⟨q.cell (p := ⟨pg, 0, none⟩) Hx0.out (fun h => h), q.cell (p := ⟨pg, 3, none⟩) Hx3.out (fun h => h), q.cell (p := ⟨qg, 0, none⟩) Hy0.out (fun h => h), q.cell (p := ⟨qg, 3, none⟩) Hy3.out (fun h => h), q.cell (p := ⟨sb, so + i * 4, none⟩) Hc0.out (fun h => h), q.cell (p := ⟨sb, so + i * 4 + 1, none⟩) Hc1.out (fun h => h), q.cell (p := ⟨sb, so + i * 4 + 2, none⟩) Hc2.out (fun h => h), q.cell (p := ⟨sb, so + i * 4 + 3, none⟩) Hc3.out (fun h => h), q.cell (p := ⟨tb, to + i * 4, none⟩) Hd0.out (fun h => h), q.cell (p := ⟨tb, to + i * 4 + 1, none⟩) Hd1.out (fun h => h), q.cell (p := ⟨tb, to + i * 4 + 2, none⟩) Hd2.out (fun h => h), q.cell (p := ⟨tb, to + i * 4 + 3, none⟩) Hd3.out (fun h => h), q.cell (p := ⟨vb, vo + i, none⟩) Hkv.out (fun h => h), q.cell (p := ⟨ub, uo + i, none⟩) Hku.out (fun h => h)⟩
          go_wp2_with fail
          refine Rest.begin (S := (fun w' => w'.cell? ⟨pg, 0, none⟩ = some (.slice (some ⟨sb, so, none⟩) x.pla.sets.length sc') ∧ w'.cell? ⟨pg, 3, none⟩ = some (.slice (some ⟨vb, vo, none⟩) x.pla.cnt gc) ∧ w'.cell? ⟨qg, 0, none⟩ = some (.slice (some ⟨tb, to, none⟩) x.pla.sets.length s2c) ∧ w'.cell? ⟨qg, 3, none⟩ = some (.slice (some ⟨ub, uo, none⟩) x.pla.cnt g2c) ∧ w'.cell? ⟨sb, so + i * 4, none⟩ = some (.int .u64 l0) ∧ w'.cell? ⟨sb, so + i * 4 + 1, none⟩ = some (.int .u64 l1) ∧ w'.cell? ⟨sb, so + i * 4 + 2, none⟩ = some (.int .u64 l2) ∧ w'.cell? ⟨sb, so + i * 4 + 3, none⟩ = some (.int .u64 l3) ∧ w'.cell? ⟨tb, to + i * 4, none⟩ = some (.int .u64 l0) ∧ w'.cell? ⟨tb, to + i * 4 + 1, none⟩ = some (.int .u64 l1) ∧ w'.cell? ⟨tb, to + i * 4 + 2, none⟩ = some (.int .u64 l2) ∧ w'.cell? ⟨tb, to + i * 4 + 3, none⟩ = some (.int .u64 l3) ∧ w'.cell? ⟨vb, vo + i, none⟩ = some (.slice ia nl ic) ∧ w'.cell? ⟨ub, uo + i, none⟩ = some (.slice ja nl jc))) (st := ([] : List Nat)) (by kernel_rfl) (KS.out _ (QD.out)) (fun hHeld => ?_)
          refine Rest.plain (i := 0) _ (some 83) ?_ rfl rfl (by kernel_rfl) (by kernel_rfl) (by kernel_rfl) (by kernel_rfl) (fun _ _ _ h => h) (Or.inl ⟨by rfl, ?_⟩) (by assumption) ?_
          rotate_left
          · (intro w _; go_simp; try with_reducible rfl)
          try simp only [Act.put, List.setIfInBounds_toArray, List.set_cons_zero, List.set_cons_succ]
          refine Rest.take (i := 1) _ (some 84) ?_ rfl rfl (by kernel_rfl) (by kernel_rfl) (by kernel_rfl) (by kernel_rfl) (fun _ _ _ h => h) (Or.inl ⟨by rfl, ?_⟩) (by assumption) ?_
          rotate_left
          · (intro w hSw; (try dsimp only at hSw); go_simp; try with_reducible rfl)
          try simp only [Act.put, List.setIfInBounds_toArray, List.set_cons_zero, List.set_cons_succ]
          refine Rest.plain (i := 2) _ (some 85) ?_ rfl rfl (by kernel_rfl) (by kernel_rfl) (by kernel_rfl) (by kernel_rfl) (fun _ _ _ h => h) (Or.inl ⟨by rfl, ?_⟩) (by assumption) ?_
          rotate_left
          · (intro w _; go_simp; try with_reducible rfl)
          try simp only [Act.put, List.setIfInBounds_toArray, List.set_cons_zero, List.set_cons_succ]
          refine Rest.plain (i := 3) _ (some 86) ?_ rfl rfl (by kernel_rfl) (by kernel_rfl) (by kernel_rfl) (by kernel_rfl) (fun _ _ _ h => h) (Or.inl ⟨by rfl, ?_⟩) (by assumption) ?_
          rotate_left
          · (intro w _; go_simp; try with_reducible rfl)
          try simp only [Act.put, List.setIfInBounds_toArray, List.set_cons_zero, List.set_cons_succ]
          refine Rest.take (i := 4) _ (some 87) ?_ rfl rfl (by kernel_rfl) (by kernel_rfl) (by kernel_rfl) (by kernel_rfl) (fun _ _ _ h => h) (Or.inl ⟨by rfl, ?_⟩) (by assumption) ?_
          rotate_left
          · (intro w hSw; (try dsimp only at hSw); go_simp; try with_reducible rfl)
          try simp only [Act.put, List.setIfInBounds_toArray, List.set_cons_zero, List.set_cons_succ]
          refine Rest.plain (i := 5) _ (some 88) ?_ rfl rfl (by kernel_rfl) (by kernel_rfl) (by kernel_rfl) (by kernel_rfl) (fun _ _ _ h => h) (Or.inl ⟨by rfl, ?_⟩) (by assumption) ?_
          rotate_left
          · (intro w _; go_simp; try with_reducible rfl)
          try simp only [Act.put, List.setIfInBounds_toArray, List.set_cons_zero, List.set_cons_succ]
          refine Rest.take (i := 6) _ (some 89) ?_ rfl rfl (by kernel_rfl) (by kernel_rfl) (by kernel_rfl) (by kernel_rfl) (fun _ _ _ h => h) (Or.inl ⟨by rfl, ?_⟩) (by assumption) ?_
          rotate_left
          · (intro w hSw; (try dsimp only at hSw); go_simp; try with_reducible rfl)
          try simp only [Act.put, List.setIfInBounds_toArray, List.set_cons_zero, List.set_cons_succ]
          refine Rest.plain (i := 7) _ (some 90) ?_ rfl rfl (by kernel_rfl) (by kernel_rfl) (by kernel_rfl) (by kernel_rfl) (fun _ _ _ h => h) (Or.inl ⟨by rfl, ?_⟩) (by assumption) ?_
          rotate_left
          · (intro w _; go_simp; try with_reducible rfl)
          try simp only [Act.put, List.setIfInBounds_toArray, List.set_cons_zero, List.set_cons_succ]
          refine Rest.plain (i := 8) _ (some 91) ?_ rfl rfl (by kernel_rfl) (by kernel_rfl) (by kernel_rfl) (by kernel_rfl) (fun _ _ _ h => h) (Or.inl ⟨by rfl, ?_⟩) (by assumption) ?_
          rotate_left
          · (intro w _; go_simp; try with_reducible rfl)
          try simp only [Act.put, List.setIfInBounds_toArray, List.set_cons_zero, List.set_cons_succ]
          refine Rest.take (i := 9) _ (some 92) ?_ rfl rfl (by kernel_rfl) (by kernel_rfl) (by kernel_rfl) (by kernel_rfl) (fun _ _ _ h => h) (Or.inl ⟨by rfl, ?_⟩) (by assumption) ?_
          rotate_left
          · (intro w hSw; (try dsimp only at hSw); go_simp; try with_reducible rfl)
          try simp only [Act.put, List.setIfInBounds_toArray, List.set_cons_zero, List.set_cons_succ]
          refine Rest.plain (i := 10) _ (some 93) (.bool false) rfl rfl (by kernel_rfl) (by kernel_rfl) (by kernel_rfl) (by kernel_rfl) (fun _ _ _ h => h) (Or.inl ⟨by rfl, neq_exec hneq⟩) (by assumption) ?_
          try simp only [Act.put, List.setIfInBounds_toArray, List.set_cons_zero, List.set_cons_succ]
          refine Rest.plain (i := 11) _ (some 94) ?_ rfl rfl (by kernel_rfl) (by kernel_rfl) (by kernel_rfl) (by kernel_rfl) (fun _ _ _ h => h) (Or.inl ⟨by rfl, ?_⟩) (by assumption) ?_
          rotate_left
          · (intro w _; go_simp; try with_reducible rfl)
          try simp only [Act.put, List.setIfInBounds_toArray, List.set_cons_zero, List.set_cons_succ]
          refine Rest.plain (i := 12) _ (some 95) ?_ rfl rfl (by kernel_rfl) (by kernel_rfl) (by kernel_rfl) (by kernel_rfl) (fun _ _ _ h => h) (Or.inl ⟨by rfl, ?_⟩) (by assumption) ?_
          rotate_left
          · (intro w _; go_simp; try with_reducible rfl)
          try simp only [Act.put, List.setIfInBounds_toArray, List.set_cons_zero, List.set_cons_succ]
          refine Rest.take (i := 13) _ (some 96) ?_ rfl rfl (by kernel_rfl) (by kernel_rfl) (by kernel_rfl) (by kernel_rfl) (fun _ _ _ h => h) (Or.inl ⟨by rfl, ?_⟩) (by assumption) ?_
          rotate_left
          · (intro w hSw; (try dsimp only at hSw); go_simp; try with_reducible rfl)
          try simp only [Act.put, List.setIfInBounds_toArray, List.set_cons_zero, List.set_cons_succ]
          refine Rest.plain (i := 14) _ (some 97) ?_ rfl rfl (by kernel_rfl) (by kernel_rfl) (by kernel_rfl) (by kernel_rfl) (fun _ _ _ h => h) (Or.inl ⟨by rfl, ?_⟩) (by assumption) ?_
          rotate_left
          · (intro w _; go_simp; try with_reducible rfl)
          try simp only [Act.put, List.setIfInBounds_toArray, List.set_cons_zero, List.set_cons_succ]
          refine Rest.plain (i := 15) _ (some 98) ?_ rfl rfl (by kernel_rfl) (by kernel_rfl) (by kernel_rfl) (by kernel_rfl) (fun _ _ _ h => h) (Or.inl ⟨by rfl, ?_⟩) (by assumption) ?_
          rotate_left
          · (intro w _; go_simp; try with_reducible rfl)
          try simp only [Act.put, List.setIfInBounds_toArray, List.set_cons_zero, List.set_cons_succ]
          refine Rest.take (i := 16) _ (some 99) ?_ rfl rfl (by kernel_rfl) (by kernel_rfl) (by kernel_rfl) (by kernel_rfl) (fun _ _ _ h => h) (Or.inl ⟨by rfl, ?_⟩) (by assumption) ?_
          rotate_left
          · (intro w hSw; (try dsimp only at hSw); go_simp; try with_reducible rfl)
          try simp only [Act.put, List.setIfInBounds_toArray, List.set_cons_zero, List.set_cons_succ]
          refine Rest.plain (i := 17) _ (some 100) ?_ rfl rfl (by kernel_rfl) (by kernel_rfl) (by kernel_rfl) (by kernel_rfl) (fun _ _ _ h => h) (Or.inl ⟨by rfl, ?_⟩) (by assumption) ?_
          rotate_left
          · (intro w _; go_simp; try with_reducible rfl)
          try simp only [Act.put, List.setIfInBounds_toArray, List.set_cons_zero, List.set_cons_succ]
          refine Rest.take (i := 18) _ (some 101) ?_ rfl rfl (by kernel_rfl) (by kernel_rfl) (by kernel_rfl) (by kernel_rfl) (fun _ _ _ h => h) (Or.inl ⟨by rfl, ?_⟩) (by assumption) ?_
          rotate_left
          · (intro w hSw; (try dsimp only at hSw); go_simp; try with_reducible rfl)
          try simp only [Act.put, List.setIfInBounds_toArray, List.set_cons_zero, List.set_cons_succ]
          refine Rest.plain (i := 19) _ (some 102) ?_ rfl rfl (by kernel_rfl) (by kernel_rfl) (by kernel_rfl) (by kernel_rfl) (fun _ _ _ h => h) (Or.inl ⟨by rfl, ?_⟩) (by assumption) ?_
          rotate_left
          · (intro w _; go_simp; try with_reducible rfl)
          try simp only [Act.put, List.setIfInBounds_toArray, List.set_cons_zero, List.set_cons_succ]
          refine Rest.plain (i := 20) _ (some 103) ?_ rfl rfl (by kernel_rfl) (by kernel_rfl) (by kernel_rfl) (by kernel_rfl) (fun _ _ _ h => h) (Or.inl ⟨by rfl, ?_⟩) (by assumption) ?_
          rotate_left
          · (intro w _; go_simp; try with_reducible rfl)
          try simp only [Act.put, List.setIfInBounds_toArray, List.set_cons_zero, List.set_cons_succ]
          refine Rest.take (i := 21) _ (some 104) ?_ rfl rfl (by kernel_rfl) (by kernel_rfl) (by kernel_rfl) (by kernel_rfl) (fun _ _ _ h => h) (Or.inl ⟨by rfl, ?_⟩) (by assumption) ?_
          rotate_left
          · (intro w hSw; (try dsimp only at hSw); go_simp; try with_reducible rfl)
          try simp only [Act.put, List.setIfInBounds_toArray, List.set_cons_zero, List.set_cons_succ]
          refine Rest.one (i := 22) (by kernel_rfl) rfl (fun K hK => ?_)
          go_simp
          go_at_call 12
          refine hsame.mono ?_
          rintro e10 w10 ⟨rfl, q10⟩
          go_wp2_with fail
          refine hK.out _ _ (KS.out _ (QD.out.comp q10.out)) (fun hHeld => ?_)
          try simp only [Act.put, List.setIfInBounds_toArray, List.set_cons_zero, List.set_cons_succ]
          clear hK K
          refine Rest.plain (i := 23) _ (some 106) ?_ rfl rfl (by kernel_rfl) (by kernel_rfl) (by kernel_rfl) (by kernel_rfl) (fun _ _ _ h => h) (Or.inl ⟨by rfl, ?_⟩) (by assumption) ?_
          rotate_left
          · (intro w _; go_simp; try with_reducible rfl)
          try simp only [Act.put, List.setIfInBounds_toArray, List.set_cons_zero, List.set_cons_succ]
          refine Rest.plain (i := 24) _ (some 107) ?_ rfl rfl (by kernel_rfl) (by kernel_rfl) (by kernel_rfl) (by kernel_rfl) (fun _ _ _ h => h) (Or.inl ⟨by rfl, ?_⟩) (by assumption) ?_
          rotate_left
          · (intro w _; go_simp; try with_reducible rfl)
          try simp only [Act.put, List.setIfInBounds_toArray, List.set_cons_zero, List.set_cons_succ]
          refine Rest.done (by kernel_rfl) ?_ _
          go_wp2_with fail
          exact ⟨⟨i + 1, by omega, by go_num, QW.out.comp (QD.out.comp q10.out)⟩, by simp [intOf]; omega⟩
        · obtain rfl : i = x.pla.sets.length := by omega
          go_wp2_with fail
          go_ret
          exact ⟨rfl, Q9.out.comp QW.out⟩
    · have hof := of_no x hm _ pa pc W3 (fun j h => Nat.lt_trans h hg3) X3.out.parts HTl.out
      have hpf := fun W (h : Hid (Tx w W w3.heap.size x pa pc)) => pof_no x hm HFo.out HNo.out HDe.out _ pa pc W h.out.parts
      generalize may x = m at *
      refine hof.mono ?_
      rintro e4 w4 ⟨rfl, q4⟩
      clear b0 b1 b2 b3 b4 b5
      have X5 := Tx.step (Tx.step X3 q4.out) (Mv.alloc (fun _ => False) w4 (zeros5 37))
      have P5 : Hid (B5p 37 w4.heap.size (.slice none 0 0) (.slice none 0 0) (.slice none 0 0) (.slice none 0 0) (.bool false) (w4.alloc (zeros5 37))) := heap_alloc_new w4 _
      obtain ⟨b0, b1, b2, b3, b4, b5, _⟩ := B6.facts (show Hid _ from X5.out.box)
      go_wp2_with fail
      refine (hpf _ X5).mono ?_
      rintro e6 w6 ⟨rfl, q6⟩
      have P7 := B5p.mv P5.out (q6.out.comp (Mv.alloc (fun _ => False) w6 (zeros5 41))) (fun h => h)
      have R7 : Hid (B5p 41 w6.heap.size (.slice none 0 0) (.slice none 0 0) (.slice none 0 0) (.slice none 0 0) (.bool false) (w6.alloc (zeros5 41))) := heap_alloc_new w6 _
      have Q7 : Hid (Qt w (w6.alloc (zeros5 41))) := (X5.out.qt.comp q6.out).comp (Mv.alloc (fun _ => False) w6 (zeros5 41))
      have hmm : (m != m) = false := by simp
      clear b0 b1 b2 b3 b4 b5 hof hpf hm
      obtain ⟨x0, x1, x2, x3, x4, x5, x6, x7, x8, x9⟩ := B5p.facts P7
      obtain ⟨y0, y1, y2, y3, y4, y5, y6, y7, y8, y9⟩ := B5p.facts R7
      go_wp2_with fail
      generalize w6.alloc (.cells #[.slice none 0 0, .slice none 0 0, .slice none 0 0, .slice none 0 0, .bool false] 41) = W7 at *
      generalize w6.heap.size = qg at *
      refine (same_h [] (by decide) _ _ W7 (show Hid _ from Is.nil _) (show Hid _ from Is.nil _)).mono ?_
      rintro e8 w8 ⟨rfl, q8⟩
      have P8 := B5p.mv P7.out q8.out (fun h => h)
      have R8 := B5p.mv R7.out q8.out (fun h => h)
      clear x0 x1 x2 x3 x4 x5 x6 x7 x8 x9 y0 y1 y2 y3 y4 y5 y6 y7 y8 y9
      obtain ⟨x0, x1, x2, x3, x4, x5, x6, x7, x8, x9⟩ := B5p.facts P8
      obtain ⟨y0, y1, y2, y3, y4, y5, y6, y7, y8, y9⟩ := B5p.facts R8
      go_wp2_with fail
      refine (same_h [] (by decide) _ _ w8 (show Hid _ from Is.nil _) (show Hid _ from Is.nil _)).mono ?_
      rintro e9 w9 ⟨rfl, q9⟩
      have P9 := B5p.mv P8.out q9.out (fun h => h)
      have R9 := B5p.mv R8.out q9.out (fun h => h)
      have Q9 : Hid (Qt w w9) := Q7.out.comp (q8.out.comp q9.out)
      clear x0 x1 x2 x3 x4 x5 x6 x7 x8 x9 y0 y1 y2 y3 y4 y5 y6 y7 y8 y9
      obtain ⟨x0, x1, x2, x3, x4, x5, x6, x7, x8, x9⟩ := B5p.facts P9
      obtain ⟨y0, y1, y2, y3, y4, y5, y6, y7, y8, y9⟩ := B5p.facts R9
      go_wp2_with fail
      go_loopw [10] (fun s10 wr => s10 = .int .i64 (0 : Nat) ∧ wr = w9) (fun s10 _ => 0)
      case atStart => exact ⟨rfl, rfl⟩
      case round =>
        obtain ⟨rfl, rfl⟩ := hrel
        go_wp2_with fail
        go_ret
        exact ⟨rfl, Q9.out⟩

theorem Tab.pos {w : World} (h : Tab w) : 0 < w.heap.size := by
  have h1 := h 0 (by decide)
  apply Nat.pos_of_ne_zero
  intro e
  have h2 : w.heap[0]? = none := Array.getElem?_eq_none (by omega)
  simp [World.cell?, h2] at h1
theorem mv_below {w w' : World} (h : Qt w w') : Below w.heap.size w w' := ⟨h.os, h.tape, h.output, h.size, fun k hk => h.block k hk (fun h => h)⟩
theorem placeAll_row (a : Option Addr) (len cap : Nat) (f : Nat → Int) (b : Int) (hb : (Lit.int .u8 b).wf = true) (w : World) (hs : Sl w a len (fun i => .int .u8 (f i))) (ho : ∀ i, (Lit.int .u8 (f i)).wf = true) (ha : ∀ q, a = some q → q.block < w.heap.size) (hT : Tab w) : Calls Tryd.prog 3 #[.slice a len cap, .int .u8 b] w fun e w' => e = .returned (.bool true) ∧ Below w.heap.size w w' := by
  obtain ⟨g, h1, h2⟩ := bytes_of hs ho
  have h3 : 0 ≤ b ∧ b < 256 := by
    simp [Lit.wf, IntKind.min, IntKind.max, IntKind.signed, IntKind.bits] at hb
    omega
  obtain ⟨n, rfl⟩ : ∃ n : Nat, b = (n : Int) := ⟨b.toNat, by omega⟩
  exact (placeAll_walk a len cap g n w h1 (fun i _ => h2 i) ha (by omega) hT (Tab.pos hT)).mono fun e w' ⟨he, hq⟩ => ⟨he, mv_below hq.out⟩

end Go.Proofs.YtojbakkbmfgoaaaDoor
