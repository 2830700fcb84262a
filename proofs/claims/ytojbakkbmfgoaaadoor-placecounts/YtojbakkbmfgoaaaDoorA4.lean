/- PlaceCounts. -/
import Derived.Test.YtojbakkbmfgoaaaDoorCA
import Derived.Test.YtojbakkbmfgoaaaDoorCB
import Derived.Test.YtojbakkbmfgoaaaDoorMsN3
namespace Go.Proofs.YtojbakkbmfgoaaaDoor
open Go.RowKit
set_option linter.unusedVariables false
set_option linter.unusedSimpArgs false

theorem Os.nil (w : World) (base : Nat) : Os w base (.slice none 0 0) [] := ow_nil _ _ _ _

set_option maxRecDepth 20000 in
set_option maxHeartbeats 8000000 in
theorem placeCounts_walk (a : Option Addr) (len cap : Nat) (f : Nat → Nat) (w : World) (hs : Hid (Sl w a len (Bn f))) (hf : ∀ i, i < len → f i < 256) (ha : ∀ q, a = some q → q.block < w.heap.size) (hT : Hid (Tab w)) (h0 : 0 < w.heap.size) : Calls Tryd.prog 5 #[.slice a len cap] w fun e w' => e = .returned (.bool true) ∧ Hid (Qt w w') := by
  have hb := begun_true w hT h0
  have HF : Hid _ := hf
  have HA : Hid _ := ha
  clear hf ha
  by_cases hl : 40 < len
  · have hli : (40 : Int) < (len : Int) := by omega
    clear hl
    go_enter Tryd.func5, Tryd.ntmps5
    go_wp2_with fail
    refine hb.mono ?_
    rintro e1 w1 ⟨rfl, q1⟩
    go_wp2_with fail
    go_ret
    exact ⟨rfl, q1.out⟩
  · have hli : (len : Int) ≤ 40 := by omega
    have HLn : Hid (len < 1000000) := (by omega : len < 1000000)
    have hrx : ∀ g n W, Hid (Pk W g a len cap f n) → Calls Tryd.prog 9 #[.pointer (some ⟨g, 0, none⟩), .int .i64 4] W fun e w' => RxP 4 W g a len cap f e w' := fun g n W h => rx_any 4 (by omega) g a len cap f n W h
    clear hl
    go_enter Tryd.func5, Tryd.ntmps5
    go_wp2_with fail
    refine hb.mono ?_
    rintro e1 w1 ⟨rfl, q1⟩
    go_wp2_with fail
    refine (made_any a len cap f w1 (show Hid _ from hs.out.mv q1.out (fun _ _ h => h)) HLn.out HF.out (fun q hq => Nat.lt_of_lt_of_le (HA.out q hq) q1.out.size)).mono ?_
    rintro e2 w2 ⟨rfl, p2, q2⟩
    go_wp2_with fail
    refine (hrx _ _ _ p2).mono ?_
    intro e3 w3 h3
    obtain ⟨x, pa, pc, n3, rfl, plx, px, p3, m3⟩ := h3
    have Q2 : Hid (Qt w w2) := q1.out.comp q2.out
    have Q3 : Hid (Qt w w3) := Mv.trans Q2.out m3.out (fun j hj e => by have := q1.out.size; omega)
    have X3 := Tx.new (w := w) (W := w3) Q3.out px.out
    have HTl : Hid (x.tall < 90000) := plx.out.tall5 (by decide)
    have HFo : Hid (x.formed = true) := plx.out.formed
    obtain ⟨b0, b1, b2, b3, b4, b5, _⟩ := B6.facts (show Hid _ from X3.out.box)
    clear hrx hb p3 px m3 p2 q2 Q2 plx hs HF HA
    go_wp2_with fail
    have hg3 : w3.heap.size < (w3.alloc (.cells #[.int .i64 x.kind, .int .u64 (limb x.set 0), .int .u64 (limb x.set 1), .int .u64 (limb x.set 2), .int .u64 (limb x.set 3), .slice pa x.args.length pc] 29)).heap.size := by simp
    generalize w3.alloc (.cells #[.int .i64 x.kind, .int .u64 (limb x.set 0), .int .u64 (limb x.set 1), .int .u64 (limb x.set 2), .int .u64 (limb x.set 3), .slice pa x.args.length pc] 29) = W3 at *
    by_cases hm : may x = 0
    · have hof := of_yes x hm _ pa pc W3 (fun j h => Nat.lt_trans h hg3) X3.out.parts HTl.out (show Hid _ from hT.out.qt X3.out.qt) (Nat.lt_of_lt_of_le h0 X3.out.qt.size)
      have HFI : Hid (x.pla.Fine) := pla_fine x
      have HN4 : Hid (x.nodes ≤ 40) := (may_small hm).2.1
      have HC : Hid (x.pla.cnt ≤ 40) := Nat.le_trans (cnt_le x) (may_small hm).2.1
      have HF0 : Hid (0 < (asc 64 (x.pla.fst 0)).length) := fst_some HFo.out HC.out
      have HL0 : Hid (0 < (asc 64 (x.pla.lst 0)).length) := lst_some HFo.out HC.out
      refine hof.mono ?_
      rintro e4 w4 ⟨s, fv, l, g, rfl, PV, q4⟩
      clear b0 b1 b2 b3 b4 b5
      have X4 := Tx.step X3 q4.out
      obtain ⟨sa, sc', rfl, _⟩ := PV.out.sets
      obtain ⟨fa, fc, rfl⟩ := PV.out.fst.form
      obtain ⟨la, lc, rfl⟩ := PV.out.lst.form
      obtain ⟨ga, gc, _, rfl, _⟩ := PV.out.fol
      have QA : Hid (Qt w4 (w4.alloc (.cells #[.slice sa x.pla.sets.length sc', .slice fa (asc 64 (x.pla.fst 0)).length fc, .slice la (asc 64 (x.pla.lst 0)).length lc, .slice ga x.pla.cnt gc, .bool x.pla.null] 37))) := Mv.alloc _ _ _
      have X5 := Tx.step X4 QA.out
      have PP : Hid (B5p 37 w4.heap.size (.slice sa x.pla.sets.length sc') (.slice fa (asc 64 (x.pla.fst 0)).length fc) (.slice la (asc 64 (x.pla.lst 0)).length lc) (.slice ga x.pla.cnt gc) (.bool x.pla.null) (w4.alloc (.cells #[.slice sa x.pla.sets.length sc', .slice fa (asc 64 (x.pla.fst 0)).length fc, .slice la (asc 64 (x.pla.lst 0)).length lc, .slice ga x.pla.cnt gc, .bool x.pla.null] 37))) := heap_alloc_new w4 _
      have V5 : Hid (Pv (w4.alloc (.cells #[.slice sa x.pla.sets.length sc', .slice fa (asc 64 (x.pla.fst 0)).length fc, .slice la (asc 64 (x.pla.lst 0)).length lc, .slice ga x.pla.cnt gc, .bool x.pla.null] 37)) (.slice sa x.pla.sets.length sc') (.slice fa (asc 64 (x.pla.fst 0)).length fc) (.slice la (asc 64 (x.pla.lst 0)).length lc) (.slice ga x.pla.cnt gc) x.pla.sets x.pla.cnt (asc 64 (x.pla.fst 0)) (asc 64 (x.pla.lst 0)) (fun i => asc 64 (x.pla.fol 0 i))) := PV.out.qt QA.out
      have hg5 : w3.heap.size < (w4.alloc (.cells #[.slice sa x.pla.sets.length sc', .slice fa (asc 64 (x.pla.fst 0)).length fc, .slice la (asc 64 (x.pla.lst 0)).length lc, .slice ga x.pla.cnt gc, .bool x.pla.null] 37)).heap.size := Nat.lt_of_lt_of_le hg3 (Nat.le_trans q4.out.size QA.out.size)
      obtain ⟨b0, b1, b2, b3, b4, b5, _⟩ := B6.facts (show Hid _ from X5.out.box)
      go_wp2_with fail
      generalize w4.alloc (.cells #[.slice sa x.pla.sets.length sc', .slice fa (asc 64 (x.pla.fst 0)).length fc, .slice la (asc 64 (x.pla.lst 0)).length lc, .slice ga x.pla.cnt gc, .bool x.pla.null] 37) = W5 at *
      generalize w4.heap.size = pg at *
      refine (count_any x HFo.out (fun j => j < w3.heap.size) pa pc W5 W5.heap.size (.slice none 0 0) [] (show Hid _ from X5.out.parts) (fun j hj => Nat.lt_trans hj hg5) (Nat.le_refl _) (show Hid _ from Os.nil _ _) (by have := HN4.out; simp; omega)).mono ?_
      rintro e6 w6 ⟨lv, rfl, o6, m6, _⟩
      rw [List.nil_append] at o6
      have q6 : Hid (Qt W5 w6) := m6.out.mono (fun _ _ h => by cases h)
      obtain ⟨ca, cc, rfl⟩ := o6.out.form
      have HSN : Hid (x.pla.sets.length = x.pla.cnt) := HFI.out.len
      have E1 : Hid ((asc 64 (x.pla.fst 0)).length < 90000) := (by have := asc_length 64 (x.pla.fst 0); omega : (asc 64 (x.pla.fst 0)).length < 90000)
      have E2 : Hid ((asc 64 (x.pla.lst 0)).length < 90000) := (by have := asc_length 64 (x.pla.lst 0); omega : (asc 64 (x.pla.lst 0)).length < 90000)
      have E3 : Hid (∀ i, (asc 64 (x.pla.fol 0 i)).length < 90000) := fun i => by have := asc_length 64 (x.pla.fol 0 i); omega
      have R1 : Hid (Rs x.pla.sets.length (asc 64 (x.pla.fst 0))) := asc_rs (fun c hc => by have := HFI.out.fst 0 c hc; have := HSN.out; omega)
      have R2 : Hid (Rs x.pla.sets.length (asc 64 (x.pla.lst 0))) := asc_rs (fun c hc => by have := HFI.out.lst 0 c hc; have := HSN.out; omega)
      have R3 : Hid (∀ i, Rs x.pla.sets.length (asc 64 (x.pla.fol 0 i))) := fun i => asc_rs (fun c hc => by have := HFI.out.fol 0 i c hc; have := HSN.out; omega)
      generalize hA1 : asc 64 (x.pla.fst 0) = A1 at *
      generalize hA2 : asc 64 (x.pla.lst 0) = A2 at *
      have P7 := B5p.mv PP.out q6.out (fun h => h)
      have V7 : Hid (Pv w6 _ _ _ _ _ _ _ _ _) := V5.out.qt q6.out
      have Q7 : Hid (Qt w w6) := X5.out.qt.comp q6.out
      have S7 : Hid (Ss w6 (.slice ca x.pla.sets.length cc) x.pla.sets) := o6.out.ss
      have n1 : ((A1.length : Nat) : Int) ≠ 0 := by have := HF0.out; omega
      have n2 : ((A2.length : Nat) : Int) ≠ 0 := by have := HL0.out; omega
      have c1 : (((A1.length : Nat) : Int) == 0) = false := by simpa using n1
      have c2 : (((A2.length : Nat) : Int) == 0) = false := by simpa using n2
      have c3 : (((x.pla.cnt : Nat) : Int) != ((x.pla.sets.length : Nat) : Int)) = false := by rw [HSN.out]; simp
      have c4 : (((x.pla.sets.length : Nat) : Int) != ((x.pla.sets.length : Nat) : Int)) = false := by simp
      clear b0 b1 b2 b3 b4 b5 hA1 hA2 hof n1 n2 PP V5 PV o6 m6
      obtain ⟨x0, x1, x2, x3, x4, x5, x6, x7, x8, x9⟩ := B5p.facts P7
      go_wp2_with fail
      refine (rises_any A1 x.pla.sets.length E1.out R1.out _ w6 (show Hid _ from V7.out.fst)).mono ?_
      rintro e8 w8 ⟨rfl, q8⟩
      have P8 := B5p.mv P7.out q8.out (fun h => h)
      clear x0 x1 x2 x3 x4 x5 x6 x7 x8 x9
      obtain ⟨x0, x1, x2, x3, x4, x5, x6, x7, x8, x9⟩ := B5p.facts P8
      go_wp2_with fail
      refine (rises_any A2 x.pla.sets.length E2.out R2.out _ w8 (show Hid _ from V7.out.lst.qt q8.out)).mono ?_
      rintro e9 w9 ⟨rfl, q9⟩
      have P9 := B5p.mv P8.out q9.out (fun h => h)
      have V9 : Hid (Pv w9 _ _ _ _ _ _ _ _ _) := V7.out.qt (q8.out.comp q9.out)
      have S9 : Hid (Ss w9 (.slice ca x.pla.sets.length cc) x.pla.sets) := S7.out.qt (q8.out.comp q9.out)
      have Q9 : Hid (Qt w w9) := Q7.out.comp (q8.out.comp q9.out)
      clear x0 x1 x2 x3 x4 x5 x6 x7 x8 x9
      obtain ⟨x0, x1, x2, x3, x4, x5, x6, x7, x8, x9⟩ := B5p.facts P9
      clear P7 P8 V7 S7 q8 q9
      go_wp2_with fail
      clear c1 c2 c3 c4
      go_loopw [7] (fun s7 wr => ∃ i : Nat, i ≤ x.pla.sets.length ∧ s7 = .int .i64 i ∧ Hid (Qt w9 wr)) (fun s7 _ => x.pla.sets.length - (intOf s7).toNat)
      case atStart => exact ⟨0, by omega, rfl, Qt.refl w9⟩
      case round =>
        obtain ⟨i, hi, rfl, QW⟩ := hrel
        clear x0 x1 x2 x3 x4 x5 x6 x7 x8 x9
        obtain ⟨x0, x1, x2, x3, x4, x5, x6, x7, x8, x9⟩ := B5p.facts (B5p.mv P9.out QW.out (fun h => h))
        by_cases hlt : i < x.pla.sets.length
        · obtain ⟨p, hp⟩ : ∃ p, x.pla.sets[i]? = some p := ⟨_, List.getElem?_eq_getElem hlt⟩
          obtain ⟨sb, so, sc3, e, c0, c1, c2, c3⟩ := (V9.out.sets.qt QW.out).at hp
          obtain ⟨rfl, _, rfl⟩ := Value.slice.inj e
          obtain ⟨tb, to, tc3, e', d0, d1, d2, d3⟩ := (S9.out.qt QW.out).at hp
          obtain ⟨rfl, _, rfl⟩ := Value.slice.inj e'
          obtain ⟨va, vc, vs, ev, HV, HVI⟩ := V9.out.fol.qt QW.out
          obtain ⟨rfl, _, rfl⟩ := Value.slice.inj ev
          have hic : i < x.pla.cnt := by rw [← HSN.out]; exact hlt
          obtain ⟨vb, vo, rfl, _, kv⟩ := HV i hic
          have I1 : Hid (Is wr (vs i) (asc 64 (x.pla.fol 0 i))) := HVI i hic
          clear HV HVI e e' ev hp
          generalize vs i = vv at *
          obtain ⟨ia, ic, rfl⟩ := I1.out.form
          have hii : (i : Int) < (x.pla.sets.length : Int) := by omega
          have hi100 : i < 100 := by have := HC.out; omega
          have hic2 : (i : Int) < (x.pla.cnt : Int) := by omega
          have hneq := neq_self p
          have QD : Hid (Qt wr wr.drew) := Qt.drew (Qt.refl _)
          have hcall := rises_any (asc 64 (x.pla.fol 0 i)) x.pla.sets.length (E3.out i) (R3.out i) _ wr.drew (show Hid _ from I1.out.qt QD.out)
          generalize (asc 64 (x.pla.fol 0 i)).length = nl at *
          generalize limb p 0 = l0 at *
          generalize limb p 1 = l1 at *
          generalize limb p 2 = l2 at *
          generalize limb p 3 = l3 at *
          have Hx0 : Hid (wr.cell? ⟨pg, 0, none⟩ = some (.slice (some ⟨sb, so, none⟩) x.pla.sets.length sc')) := x0
          have Hx3 : Hid (wr.cell? ⟨pg, 3, none⟩ = some (.slice (some ⟨vb, vo, none⟩) x.pla.cnt gc)) := x3
          have Hc0 : Hid (wr.cell? ⟨sb, so + i * 4, none⟩ = some (.int .u64 l0)) := c0
          have Hc1 : Hid (wr.cell? ⟨sb, so + i * 4 + 1, none⟩ = some (.int .u64 l1)) := c1
          have Hc2 : Hid (wr.cell? ⟨sb, so + i * 4 + 2, none⟩ = some (.int .u64 l2)) := c2
          have Hc3 : Hid (wr.cell? ⟨sb, so + i * 4 + 3, none⟩ = some (.int .u64 l3)) := c3
          have Hd0 : Hid (wr.cell? ⟨tb, to + i * 4, none⟩ = some (.int .u64 l0)) := d0
          have Hd1 : Hid (wr.cell? ⟨tb, to + i * 4 + 1, none⟩ = some (.int .u64 l1)) := d1
          have Hd2 : Hid (wr.cell? ⟨tb, to + i * 4 + 2, none⟩ = some (.int .u64 l2)) := d2
          have Hd3 : Hid (wr.cell? ⟨tb, to + i * 4 + 3, none⟩ = some (.int .u64 l3)) := d3
          have Hkv : Hid (wr.cell? ⟨vb, vo + i, none⟩ = some (.slice ia nl ic)) := kv
          have KS : Hid (∀ w', Qt wr w' → w'.cell? ⟨pg, 0, none⟩ = some (.slice (some ⟨sb, so, none⟩) x.pla.sets.length sc') ∧ w'.cell? ⟨pg, 3, none⟩ = some (.slice (some ⟨vb, vo, none⟩) x.pla.cnt gc) ∧ w'.cell? ⟨sb, so + i * 4, none⟩ = some (.int .u64 l0) ∧ w'.cell? ⟨sb, so + i * 4 + 1, none⟩ = some (.int .u64 l1) ∧ w'.cell? ⟨sb, so + i * 4 + 2, none⟩ = some (.int .u64 l2) ∧ w'.cell? ⟨sb, so + i * 4 + 3, none⟩ = some (.int .u64 l3) ∧ w'.cell? ⟨tb, to + i * 4, none⟩ = some (.int .u64 l0) ∧ w'.cell? ⟨tb, to + i * 4 + 1, none⟩ = some (.int .u64 l1) ∧ w'.cell? ⟨tb, to + i * 4 + 2, none⟩ = some (.int .u64 l2) ∧ w'.cell? ⟨tb, to + i * 4 + 3, none⟩ = some (.int .u64 l3) ∧ w'.cell? ⟨vb, vo + i, none⟩ = some (.slice ia nl ic)) := fun w' q => ⟨q.cell (p := ⟨pg, 0, none⟩) Hx0.out (fun h => h), q.cell (p := ⟨pg, 3, none⟩) Hx3.out (fun h => h), q.cell (p := ⟨sb, so + i * 4, none⟩) Hc0.out (fun h => h), q.cell (p := ⟨sb, so + i * 4 + 1, none⟩) Hc1.out (fun h => h), q.cell (p := ⟨sb, so + i * 4 + 2, none⟩) Hc2.out (fun h => h), q.cell (p := ⟨sb, so + i * 4 + 3, none⟩) Hc3.out (fun h => h), q.cell (p := ⟨tb, to + i * 4, none⟩) Hd0.out (fun h => h), q.cell (p := ⟨tb, to + i * 4 + 1, none⟩) Hd1.out (fun h => h), q.cell (p := ⟨tb, to + i * 4 + 2, none⟩) Hd2.out (fun h => h), q.cell (p := ⟨tb, to + i * 4 + 3, none⟩) Hd3.out (fun h => h), q.cell (p := ⟨vb, vo + i, none⟩) Hkv.out (fun h => h)⟩
          go_wp2_with fail
          refine Rest.begin (S := (fun w' => w'.cell? ⟨pg, 0, none⟩ = some (.slice (some ⟨sb, so, none⟩) x.pla.sets.length sc') ∧ w'.cell? ⟨pg, 3, none⟩ = some (.slice (some ⟨vb, vo, none⟩) x.pla.cnt gc) ∧ w'.cell? ⟨sb, so + i * 4, none⟩ = some (.int .u64 l0) ∧ w'.cell? ⟨sb, so + i * 4 + 1, none⟩ = some (.int .u64 l1) ∧ w'.cell? ⟨sb, so + i * 4 + 2, none⟩ = some (.int .u64 l2) ∧ w'.cell? ⟨sb, so + i * 4 + 3, none⟩ = some (.int .u64 l3) ∧ w'.cell? ⟨tb, to + i * 4, none⟩ = some (.int .u64 l0) ∧ w'.cell? ⟨tb, to + i * 4 + 1, none⟩ = some (.int .u64 l1) ∧ w'.cell? ⟨tb, to + i * 4 + 2, none⟩ = some (.int .u64 l2) ∧ w'.cell? ⟨tb, to + i * 4 + 3, none⟩ = some (.int .u64 l3) ∧ w'.cell? ⟨vb, vo + i, none⟩ = some (.slice ia nl ic))) (st := ([] : List Nat)) (by kernel_rfl) (KS.out _ (QD.out)) (fun hHeld => ?_)
          refine Rest.plain (i := 0) _ (some 94) ?_ rfl rfl (by kernel_rfl) (by kernel_rfl) (by kernel_rfl) (by kernel_rfl) (fun _ _ _ h => h) (Or.inl ⟨by rfl, ?_⟩) (by assumption) ?_
          rotate_left
          · (intro w _; go_simp; try with_reducible rfl)
          try simp only [Act.put, List.setIfInBounds_toArray, List.set_cons_zero, List.set_cons_succ]
          refine Rest.take (i := 1) _ (some 95) ?_ rfl rfl (by kernel_rfl) (by kernel_rfl) (by kernel_rfl) (by kernel_rfl) (fun _ _ _ h => h) (Or.inl ⟨by rfl, ?_⟩) (by assumption) ?_
          rotate_left
          · (intro w hSw; (try dsimp only at hSw); go_simp; try with_reducible rfl)
          try simp only [Act.put, List.setIfInBounds_toArray, List.set_cons_zero, List.set_cons_succ]
          refine Rest.plain (i := 2) _ (some 96) ?_ rfl rfl (by kernel_rfl) (by kernel_rfl) (by kernel_rfl) (by kernel_rfl) (fun _ _ _ h => h) (Or.inl ⟨by rfl, ?_⟩) (by assumption) ?_
          rotate_left
          · (intro w _; go_simp; try with_reducible rfl)
          try simp only [Act.put, List.setIfInBounds_toArray, List.set_cons_zero, List.set_cons_succ]
          refine Rest.plain (i := 3) _ (some 97) ?_ rfl rfl (by kernel_rfl) (by kernel_rfl) (by kernel_rfl) (by kernel_rfl) (fun _ _ _ h => h) (Or.inl ⟨by rfl, ?_⟩) (by assumption) ?_
          rotate_left
          · (intro w _; go_simp; try with_reducible rfl)
          try simp only [Act.put, List.setIfInBounds_toArray, List.set_cons_zero, List.set_cons_succ]
          refine Rest.take (i := 4) _ (some 98) ?_ rfl rfl (by kernel_rfl) (by kernel_rfl) (by kernel_rfl) (by kernel_rfl) (fun _ _ _ h => h) (Or.inl ⟨by rfl, ?_⟩) (by assumption) ?_
          rotate_left
          · (intro w hSw; (try dsimp only at hSw); go_simp; try with_reducible rfl)
          try simp only [Act.put, List.setIfInBounds_toArray, List.set_cons_zero, List.set_cons_succ]
          refine Rest.plain (i := 5) _ (some 99) ?_ rfl rfl (by kernel_rfl) (by kernel_rfl) (by kernel_rfl) (by kernel_rfl) (fun _ _ _ h => h) (Or.inl ⟨by rfl, ?_⟩) (by assumption) ?_
          rotate_left
          · (intro w _; go_simp; try with_reducible rfl)
          try simp only [Act.put, List.setIfInBounds_toArray, List.set_cons_zero, List.set_cons_succ]
          refine Rest.plain (i := 6) _ (some 100) ?_ rfl rfl (by kernel_rfl) (by kernel_rfl) (by kernel_rfl) (by kernel_rfl) (fun _ _ _ h => h) (Or.inl ⟨by rfl, ?_⟩) (by assumption) ?_
          rotate_left
          · (intro w _; go_simp; try with_reducible rfl)
          try simp only [Act.put, List.setIfInBounds_toArray, List.set_cons_zero, List.set_cons_succ]
          refine Rest.plain (i := 7) _ (some 101) ?_ rfl rfl (by kernel_rfl) (by kernel_rfl) (by kernel_rfl) (by kernel_rfl) (fun _ _ _ h => h) (Or.inl ⟨by rfl, ?_⟩) (by assumption) ?_
          rotate_left
          · (intro w _; go_simp; try with_reducible rfl)
          try simp only [Act.put, List.setIfInBounds_toArray, List.set_cons_zero, List.set_cons_succ]
          refine Rest.take (i := 8) _ (some 102) ?_ rfl rfl (by kernel_rfl) (by kernel_rfl) (by kernel_rfl) (by kernel_rfl) (fun _ _ _ h => h) (Or.inl ⟨by rfl, ?_⟩) (by assumption) ?_
          rotate_left
          · (intro w hSw; (try dsimp only at hSw); go_simp; try with_reducible rfl)
          try simp only [Act.put, List.setIfInBounds_toArray, List.set_cons_zero, List.set_cons_succ]
          refine Rest.plain (i := 9) _ (some 103) (.bool false) rfl rfl (by kernel_rfl) (by kernel_rfl) (by kernel_rfl) (by kernel_rfl) (fun _ _ _ h => h) (Or.inl ⟨by rfl, neq_exec hneq⟩) (by assumption) ?_
          try simp only [Act.put, List.setIfInBounds_toArray, List.set_cons_zero, List.set_cons_succ]
          refine Rest.plain (i := 10) _ (some 104) ?_ rfl rfl (by kernel_rfl) (by kernel_rfl) (by kernel_rfl) (by kernel_rfl) (fun _ _ _ h => h) (Or.inl ⟨by rfl, ?_⟩) (by assumption) ?_
          rotate_left
          · (intro w _; go_simp; try with_reducible rfl)
          try simp only [Act.put, List.setIfInBounds_toArray, List.set_cons_zero, List.set_cons_succ]
          refine Rest.plain (i := 11) _ (some 105) ?_ rfl rfl (by kernel_rfl) (by kernel_rfl) (by kernel_rfl) (by kernel_rfl) (fun _ _ _ h => h) (Or.inl ⟨by rfl, ?_⟩) (by assumption) ?_
          rotate_left
          · (intro w _; go_simp; try with_reducible rfl)
          try simp only [Act.put, List.setIfInBounds_toArray, List.set_cons_zero, List.set_cons_succ]
          refine Rest.take (i := 12) _ (some 106) ?_ rfl rfl (by kernel_rfl) (by kernel_rfl) (by kernel_rfl) (by kernel_rfl) (fun _ _ _ h => h) (Or.inl ⟨by rfl, ?_⟩) (by assumption) ?_
          rotate_left
          · (intro w hSw; (try dsimp only at hSw); go_simp; try with_reducible rfl)
          try simp only [Act.put, List.setIfInBounds_toArray, List.set_cons_zero, List.set_cons_succ]
          refine Rest.plain (i := 13) _ (some 107) ?_ rfl rfl (by kernel_rfl) (by kernel_rfl) (by kernel_rfl) (by kernel_rfl) (fun _ _ _ h => h) (Or.inl ⟨by rfl, ?_⟩) (by assumption) ?_
          rotate_left
          · (intro w _; go_simp; try with_reducible rfl)
          try simp only [Act.put, List.setIfInBounds_toArray, List.set_cons_zero, List.set_cons_succ]
          refine Rest.plain (i := 14) _ (some 108) ?_ rfl rfl (by kernel_rfl) (by kernel_rfl) (by kernel_rfl) (by kernel_rfl) (fun _ _ _ h => h) (Or.inl ⟨by rfl, ?_⟩) (by assumption) ?_
          rotate_left
          · (intro w _; go_simp; try with_reducible rfl)
          try simp only [Act.put, List.setIfInBounds_toArray, List.set_cons_zero, List.set_cons_succ]
          refine Rest.take (i := 15) _ (some 109) ?_ rfl rfl (by kernel_rfl) (by kernel_rfl) (by kernel_rfl) (by kernel_rfl) (fun _ _ _ h => h) (Or.inl ⟨by rfl, ?_⟩) (by assumption) ?_
          rotate_left
          · (intro w hSw; (try dsimp only at hSw); go_simp; try with_reducible rfl)
          try simp only [Act.put, List.setIfInBounds_toArray, List.set_cons_zero, List.set_cons_succ]
          refine Rest.plain (i := 16) _ (some 110) ?_ rfl rfl (by kernel_rfl) (by kernel_rfl) (by kernel_rfl) (by kernel_rfl) (fun _ _ _ h => h) (Or.inl ⟨by rfl, ?_⟩) (by assumption) ?_
          rotate_left
          · (intro w _; go_simp; try with_reducible rfl)
          try simp only [Act.put, List.setIfInBounds_toArray, List.set_cons_zero, List.set_cons_succ]
          refine Rest.plain (i := 17) _ (some 111) ?_ rfl rfl (by kernel_rfl) (by kernel_rfl) (by kernel_rfl) (by kernel_rfl) (fun _ _ _ h => h) (Or.inl ⟨by rfl, ?_⟩) (by assumption) ?_
          rotate_left
          · (intro w _; go_simp; try with_reducible rfl)
          try simp only [Act.put, List.setIfInBounds_toArray, List.set_cons_zero, List.set_cons_succ]
          refine Rest.one (i := 18) (by kernel_rfl) rfl (fun K hK => ?_)
          go_simp
          go_at_call 17
          refine hcall.mono ?_
          rintro e10 w10 ⟨rfl, q10⟩
          go_wp2_with fail
          refine hK.out _ _ (KS.out _ (QD.out.comp q10.out)) (fun hHeld => ?_)
          try simp only [Act.put, List.setIfInBounds_toArray, List.set_cons_zero, List.set_cons_succ]
          clear hK K
          refine Rest.plain (i := 19) _ (some 113) ?_ rfl rfl (by kernel_rfl) (by kernel_rfl) (by kernel_rfl) (by kernel_rfl) (fun _ _ _ h => h) (Or.inl ⟨by rfl, ?_⟩) (by assumption) ?_
          rotate_left
          · (intro w _; go_simp; try with_reducible rfl)
          try simp only [Act.put, List.setIfInBounds_toArray, List.set_cons_zero, List.set_cons_succ]
          refine Rest.plain (i := 20) _ (some 114) ?_ rfl rfl (by kernel_rfl) (by kernel_rfl) (by kernel_rfl) (by kernel_rfl) (fun _ _ _ h => h) (Or.inl ⟨by rfl, ?_⟩) (by assumption) ?_
          rotate_left
          · (intro w _; go_simp; try with_reducible rfl)
          try simp only [Act.put, List.setIfInBounds_toArray, List.set_cons_zero, List.set_cons_succ]
          refine Rest.done (by kernel_rfl) ?_ _
          go_wp2_with fail
          exact ⟨⟨i + 1, by omega, by go_num, QW.out.comp (QD.out.comp q10.out)⟩, by simp [intOf]; omega⟩
        · obtain rfl : i = x.pla.sets.length := by omega
          go_wp2_with fail
          go_ret
          exact ⟨rfl, Q9.out.comp QW.out⟩
    · have hof := of_no x hm _ pa pc W3 (fun j h => Nat.lt_trans h hg3) X3.out.parts HTl.out
      have HM : Hid (may x ≠ 0) := hm
      have hmb : (may x != 0) = true := bne_iff_ne.2 hm
      generalize may x = m at *
      refine hof.mono ?_
      rintro e4 w4 ⟨rfl, q4⟩
      clear b0 b1 b2 b3 b4 b5
      have Q5 : Hid (Qt w (w4.alloc (zeros5 37))) := (X3.out.qt.comp q4.out).comp (Mv.alloc (fun _ => False) w4 (zeros5 37))
      have PP : Hid (B5p 37 w4.heap.size (.slice none 0 0) (.slice none 0 0) (.slice none 0 0) (.slice none 0 0) (.bool false) (w4.alloc (zeros5 37))) := heap_alloc_new w4 _
      obtain ⟨x0, x1, x2, x3, x4, x5, x6, x7, x8, x9⟩ := B5p.facts PP
      clear hof hm
      go_wp2_with fail
      go_ret
      exact ⟨rfl, Q5.out⟩
theorem placeCounts_row (a : Option Addr) (len cap : Nat) (f : Nat → Int) (w : World) (hs : Sl w a len (fun i => .int .u8 (f i))) (ho : ∀ i, (Lit.int .u8 (f i)).wf = true) (ha : ∀ q, a = some q → q.block < w.heap.size) (hT : Hid (Tab w)) : Calls Tryd.prog 5 #[.slice a len cap] w fun e w' => e = .returned (.bool true) ∧ Below w.heap.size w w' := by
  obtain ⟨g, h1, h2⟩ := bytes_of hs ho
  exact (placeCounts_walk a len cap g w h1 (fun i _ => h2 i) ha hT (Tab.pos hT)).mono fun e w' ⟨he, hq⟩ => ⟨he, mv_below hq.out⟩

end Go.Proofs.YtojbakkbmfgoaaaDoor
