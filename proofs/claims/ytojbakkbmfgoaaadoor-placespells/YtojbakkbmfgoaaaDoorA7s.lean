/- PlaceSpells. -/
import Derived.Test.YtojbakkbmfgoaaaDoorSQ
import Derived.Test.YtojbakkbmfgoaaaDoorMsN3
namespace Go.Proofs.YtojbakkbmfgoaaaDoor
open Go.RowKit
set_option linter.unusedVariables false
set_option linter.unusedSimpArgs false

theorem Is.count {w : World} {a : Option Addr} {n c : Nat} {L : List Nat} (h : Hid (Is w (.slice a n c) L)) : n = L.length := by
  obtain ⟨p, c, e, _⟩ := h.out
  exact (Value.slice.inj e).2.1

set_option maxRecDepth 20000 in
set_option maxHeartbeats 16000000 in
theorem placeSpells_walk (a : Option Addr) (len cap : Nat) (f : Nat → Nat) (wa : Option Addr) (wn wc : Nat) (bt : Nat → Nat) (w : World) (hs : Hid (Sl w a len (Bn f))) (hf : ∀ i, i < len → f i < 256) (ha : ∀ q, a = some q → q.block < w.heap.size) (hw : Hid (Sl w wa wn (Bn bt))) (hbt : ∀ i, i < wn → bt i < 256) (hT : Hid (Tab w)) (h0 : 0 < w.heap.size) : Calls Tryd.prog 4 #[.slice a len cap, .slice wa wn wc] w fun e w' => e = .returned (.bool true) ∧ Hid (Qt w w') := by
  have hb := begun_true w hT h0
  have HF : Hid _ := hf
  have HA : Hid _ := ha
  have HBT : Hid _ := hbt
  clear hf ha hbt
  by_cases hl : 30 < len
  · have hli : (30 : Int) < (len : Int) := by omega
    clear hl
    go_enter Tryd.func4, Tryd.ntmps4
    go_wp2_with fail
    refine hb.mono ?_
    rintro e1 w1 ⟨rfl, q1⟩
    go_wp2_with fail
    go_ret
    exact ⟨rfl, q1.out⟩
  by_cases hl2 : 10 < wn
  · have hli : (len : Int) ≤ 30 := by omega
    have hli2 : (10 : Int) < (wn : Int) := by omega
    clear hl hl2
    go_enter Tryd.func4, Tryd.ntmps4
    go_wp2_with fail
    refine hb.mono ?_
    rintro e1 w1 ⟨rfl, q1⟩
    go_wp2_with fail
    go_ret
    exact ⟨rfl, q1.out⟩
  · have hli : (len : Int) ≤ 30 := by omega
    have hli2 : (wn : Int) ≤ 10 := by omega
    have HWN : Hid (wn ≤ 10) := (by omega : wn ≤ 10)
    have HLn : Hid (len < 1000000) := (by omega : len < 1000000)
    have hrx : ∀ g n W, Hid (Pk W g a len cap f n) → Calls Tryd.prog 9 #[.pointer (some ⟨g, 0, none⟩), .int .i64 3] W fun e w' => RxP 3 W g a len cap f e w' := fun g n W h => rx_any 3 (by omega) g a len cap f n W h
    clear hl hl2
    go_enter Tryd.func4, Tryd.ntmps4
    go_wp2_with fail
    refine hb.mono ?_
    rintro e1 w1 ⟨rfl, q1⟩
    go_wp2_with fail
    refine (made_any a len cap f w1 (show Hid _ from hs.out.mv q1.out (fun _ _ h => h)) HLn.out HF.out (fun q hq => Nat.lt_of_lt_of_le (HA.out q hq) q1.out.size)).mono ?_
    rintro e2 w2 ⟨rfl, p2, q2⟩
    go_wp2_with fail
    refine (hrx _ _ _ p2).mono ?_
    intro e3 w3 h3
    obtain ⟨x, pa, pc, n3, rfl, plx, px, p3, m3⟩ := h3
    have Q2 : Hid (Qt w w2) := q1.out.comp q2.out
    have Q3 : Hid (Qt w w3) := Mv.trans Q2.out m3.out (fun j hj e => by have := q1.out.size; omega)
    have X3 := Tx.new (w := w) (W := w3) Q3.out px.out
    have HTl : Hid (x.tall < 90000) := plx.out.tall5 (by decide)
    have HFo : Hid (x.formed = true) := plx.out.formed
    have HNo : Hid (x.nodes ≤ 40) := Nat.le_trans plx.out.nodes (Nd_le (by decide))
    have HDe : Hid (x.depth ≤ 12) := Nat.le_trans plx.out.depth (by decide)
    have HM : Hid (may x = 0) := (by
      unfold may
      have h1 := HNo.out
      have h2 := HDe.out
      rw [if_neg (by rw [HFo.out]; decide), if_pos ⟨by omega, by omega⟩] : may x = 0)
    obtain ⟨b0, b1, b2, b3, b4, b5, _⟩ := B6.facts (show Hid _ from X3.out.box)
    clear hrx hb p3 px m3 p2 q2 Q2 plx hs HF HA
    go_wp2_with fail
    have hg3 : w3.heap.size < (w3.alloc (.cells #[.int .i64 x.kind, .int .u64 (limb x.set 0), .int .u64 (limb x.set 1), .int .u64 (limb x.set 2), .int .u64 (limb x.set 3), .slice pa x.args.length pc] 29)).heap.size := by simp
    generalize w3.alloc (.cells #[.int .i64 x.kind, .int .u64 (limb x.set 0), .int .u64 (limb x.set 1), .int .u64 (limb x.set 2), .int .u64 (limb x.set 3), .slice pa x.args.length pc] 29) = W3 at *
    have hof := of_yes x HM.out _ pa pc W3 (fun j h => Nat.lt_trans h hg3) X3.out.parts HTl.out (show Hid _ from hT.out.qt X3.out.qt) (Nat.lt_of_lt_of_le h0 X3.out.qt.size)
    have HFI : Hid (x.pla.Fine) := pla_fine x
    have HC : Hid (x.pla.cnt ≤ 40) := Nat.le_trans (cnt_le x) (may_small HM.out).2.1
    refine hof.mono ?_
    rintro e4 w4 ⟨s, fv, l, g, rfl, PV, q4⟩
    clear b0 b1 b2 b3 b4 b5
    have X4 := Tx.step X3 q4.out
    obtain ⟨sa, sc', rfl, _⟩ := PV.out.sets
    obtain ⟨fa, fc, rfl⟩ := PV.out.fst.form
    obtain ⟨la, lc, rfl⟩ := PV.out.lst.form
    obtain ⟨ga, gc, _, rfl, _⟩ := PV.out.fol
    have QA : Hid (Qt w4 (w4.alloc (.cells #[.slice sa x.pla.sets.length sc', .slice fa (asc 64 (x.pla.fst 0)).length fc, .slice la (asc 64 (x.pla.lst 0)).length lc, .slice ga x.pla.cnt gc, .bool x.pla.null] 37))) := Mv.alloc _ _ _
    have X5 := Tx.step X4 QA.out
    have P5 : Hid (B5p 37 w4.heap.size (.slice sa x.pla.sets.length sc') (.slice fa (asc 64 (x.pla.fst 0)).length fc) (.slice la (asc 64 (x.pla.lst 0)).length lc) (.slice ga x.pla.cnt gc) (.bool x.pla.null) (w4.alloc (.cells #[.slice sa x.pla.sets.length sc', .slice fa (asc 64 (x.pla.fst 0)).length fc, .slice la (asc 64 (x.pla.lst 0)).length lc, .slice ga x.pla.cnt gc, .bool x.pla.null] 37))) := heap_alloc_new w4 _
    have V5 : Hid (Pv (w4.alloc (.cells #[.slice sa x.pla.sets.length sc', .slice fa (asc 64 (x.pla.fst 0)).length fc, .slice la (asc 64 (x.pla.lst 0)).length lc, .slice ga x.pla.cnt gc, .bool x.pla.null] 37)) (.slice sa x.pla.sets.length sc') (.slice fa (asc 64 (x.pla.fst 0)).length fc) (.slice la (asc 64 (x.pla.lst 0)).length lc) (.slice ga x.pla.cnt gc) x.pla.sets x.pla.cnt (asc 64 (x.pla.fst 0)) (asc 64 (x.pla.lst 0)) (fun i => asc 64 (x.pla.fol 0 i))) := PV.out.qt QA.out
    have hw5 : Hid (Sl (w4.alloc (.cells #[.slice sa x.pla.sets.length sc', .slice fa (asc 64 (x.pla.fst 0)).length fc, .slice la (asc 64 (x.pla.lst 0)).length lc, .slice ga x.pla.cnt gc, .bool x.pla.null] 37)) wa wn (Bn bt)) := hw.out.mv X5.out.qt (fun _ _ h => h)
    have HSN : Hid (x.pla.sets.length = x.pla.cnt) := HFI.out.len
    have c3 : (((x.pla.cnt : Nat) : Int) != ((x.pla.sets.length : Nat) : Int)) = false := by rw [HSN.out]; simp
    have HM0 : Hid (x.pla.null = true ↔ Mch x.pla 0 bt 0 0) := (mch_zero _ _).symm
    have HN0 : Hid (Now x.pla bt 0 (asc 64 (x.pla.fst 0))) := Now.first HFI.out HC.out bt
    have E2 : Hid ((asc 64 (x.pla.lst 0)).length < 90000) := (by have := asc_length 64 (x.pla.lst 0); omega : (asc 64 (x.pla.lst 0)).length < 90000)
    have HEN : Hid (∀ i N, Now x.pla bt i N → ((flt x.pla (bt i) N).any (fun c => (asc 64 (x.pla.lst 0)).any (· == c)) = true ↔ Mch x.pla 0 bt 0 (i + 1))) := fun i N n => n.ends HFI.out HC.out
    generalize x.pla.null = zn at *
    generalize hA2 : asc 64 (x.pla.lst 0) = A2 at *
    obtain ⟨x0, x1, x2, x3, x4, x5, x6, x7, x8, x9⟩ := B5p.facts P5
    clear hof hw hA2 QA q4 PV X3 X4
    go_wp2_with fail
    generalize w4.alloc (.cells #[.slice sa x.pla.sets.length sc', .slice fa (asc 64 (x.pla.fst 0)).length fc, .slice la A2.length lc, .slice ga x.pla.cnt gc, .bool zn] 37) = W5 at *
    generalize w4.heap.size = pg at *
    clear x0 x1 x2 x3 x4 x5 x6 x7 x8 x9 c3
    go_loopw [8, 9, 10] (fun s8 s9 s10 wr => ∃ (i : Nat) (N : List Nat) (na : Option Addr) (nn nc : Nat) (z : Bool), i ≤ wn ∧ s10 = .int .i64 i ∧ s8 = .slice na nn nc ∧ s9 = .bool z ∧ Hid (Is wr (.slice na nn nc) N) ∧ Hid (Now x.pla bt i N) ∧ Hid (z = true ↔ Mch x.pla 0 bt 0 i) ∧ Hid (Qt W5 wr)) (fun _ _ s10 _ => wn - (intOf s10).toNat)
    case atStart => exact ⟨0, _, _, _, _, _, by omega, rfl, rfl, rfl, V5.out.fst, HN0, HM0, Qt.refl W5⟩
    case round =>
      obtain ⟨i, N, na, nn, nc, z, hi, rfl, rfl, rfl, IN, NW, ZM, QW⟩ := hrel
      obtain rfl := Is.count IN
      by_cases hlt : i < wn
      · have HNL : Hid (N.length ≤ 40) := Nat.le_trans NW.out.len HC.out
        obtain ⟨v, hv⟩ : ∃ v, v = bt i := ⟨_, rfl⟩
        have hv256 : v < 256 := by rw [hv]; exact HBT.out i hlt
        obtain ⟨wb, wo', rfl, _, kw⟩ := hw5.out i hlt
        have kw' : W5.cell? ⟨wb, wo' + i, none⟩ = some (.int .u8 (v : Int)) := by rw [hv]; exact kw
        have HKw : Hid (∀ w', Qt W5 w' → w'.cell? ⟨wb, wo' + i, none⟩ = some (.int .u8 (v : Int))) := fun w' q => q.cell (p := ⟨wb, wo' + i, none⟩) kw' (fun h => h)
        have HVI : Hid (bt i = v) := hv.symm
        have hwi : (i : Int) < (wn : Int) := by omega
        have hi100 : i < 100 := by have := HWN.out; omega
        clear kw kw' hv
        go_wp2_with fail
        obtain ⟨wo, hwo⟩ : ∃ wo, wo = wr := ⟨_, rfl⟩
        subst hwo
        go_loopw [11, 12] (fun s11 s12 w2 => ∃ (k : Nat) (ta : Option Addr) (tn tc : Nat), k ≤ N.length ∧ s12 = .int .i64 k ∧ s11 = .slice ta tn tc ∧ Hid (Oi w2 wo.heap.size (.slice ta tn tc) (flt x.pla v (N.take k))) ∧ Hid (Qt wo w2)) (fun _ s12 _ => N.length - (intOf s12).toNat)
        case atStart => exact ⟨0, none, 0, 0, by omega, rfl, rfl, Oi.nil _ _, Qt.refl _⟩
        case round =>
          obtain ⟨k, ta, tn, tc, hk, rfl, rfl, OT, QK⟩ := hrel
          have QKW : Hid (Qt W5 wr) := QW.out.comp QK.out
          by_cases hkl : k < N.length
          · obtain ⟨c, hc⟩ : ∃ c, N[k]? = some c := ⟨_, List.getElem?_eq_getElem hkl⟩
            have hcn := NW.out.lt c (List.mem_of_getElem? hc)
            obtain ⟨p, hp⟩ : ∃ p, x.pla.sets[c]? = some p := ⟨_, List.getElem?_eq_getElem (by rw [HSN.out]; exact hcn)⟩
            have HPV : Hid (x.pla.has 0 c v = p v) := has_set hp
            have HFT : Hid (flt x.pla v (N.take (k + 1)) = flt x.pla v (N.take k) ++ (if x.pla.has 0 c v then [c] else [])) := flt_take hc
            have HFL : Hid ((flt x.pla v (N.take k)).length < 90000) := (by have h1 := flt_len x.pla v (N.take k); have h2 := HNL.out; rw [List.length_take] at h1; omega : (flt x.pla v (N.take k)).length < 90000)
            obtain ⟨nb, no, np, e, _, kn⟩ := IN.out.at hc
            obtain ⟨rfl, _, rfl⟩ := Value.slice.inj e
            have HKn : Hid (∀ w', Qt wo w' → w'.cell? ⟨nb, no + k, none⟩ = some (.int .i64 (c : Int))) := fun w' q => q.cell (p := ⟨nb, no + k, none⟩) kn (fun h => h)
            obtain ⟨sb, so, sc3, e', c0, c1, c2, c3⟩ := V5.out.sets.at hp
            obtain ⟨rfl, _, rfl⟩ := Value.slice.inj e'
            have hki : (k : Int) < (N.length : Int) := by omega
            have hk100 : k < 100 := by have := HNL.out; omega
            have hci : (c : Int) < (x.pla.sets.length : Int) := by rw [HSN.out]; omega
            have hc100 : c < 100 := by have := HC.out; omega
            have t1 : decide ((c : Int) < 0) = false := by simp
            have t2 : decide (x.pla.sets.length ≤ c) = false := by simp; rw [HSN.out]; omega
            have k1 := HKn.out wr QK.out
            obtain ⟨x0, x1, x2, x3, x4, x5, x6, x7, x8, x9⟩ := B5p.facts (B5p.mv P5.out QKW.out (fun h => h))
            have Hc0 : Hid (W5.cell? ⟨sb, so + c * 4, none⟩ = some (.int .u64 (limb p 0))) := c0
            have Hc1 : Hid (W5.cell? ⟨sb, so + c * 4 + 1, none⟩ = some (.int .u64 (limb p 1))) := c1
            have Hc2 : Hid (W5.cell? ⟨sb, so + c * 4 + 2, none⟩ = some (.int .u64 (limb p 2))) := c2
            have Hc3 : Hid (W5.cell? ⟨sb, so + c * 4 + 3, none⟩ = some (.int .u64 (limb p 3))) := c3
            clear e e' kn hc hp c0 c1 c2 c3
            go_wp2_with fail
            go_quiet (fail)
            go_wp2_with fail
            have QD0 : Hid (Qt wr (wr.drewN nq)) := Mv.drewN (fun _ => False) _ _
            have OT2 : Hid (Oi (wr.drewN nq) wo.heap.size (.slice ta tn tc) (flt x.pla v (N.take k))) := OT.out.qt QD0.out
            have QK2 : Hid (Qt wo (wr.drewN nq)) := QK.out.comp QD0.out
            clear x0 x1 x2 x3 x4 x5 x6 x7 x8 x9 k1 t1 t2 QD0 OT QK QKW
            generalize wr.drewN nq = wq at *
            have QD : Hid (Qt wq wq.drew) := Qt.drew (Qt.refl _)
            have hcall := rhas_any p v hv256 wq.drew
            obtain ⟨z2, hz2⟩ : ∃ z2, z2 = p v := ⟨_, rfl⟩
            rw [← hz2] at hcall
            rw [HPV.out, ← hz2] at HFT
            clear hz2
            generalize hP0 : limb p 0 = l0 at *
            generalize hP1 : limb p 1 = l1 at *
            generalize hP2 : limb p 2 = l2 at *
            generalize hP3 : limb p 3 = l3 at *
            clear hP0 hP1 hP2 hP3
            have QWW : Hid (Qt W5 wq) := QW.out.comp QK2.out
            obtain ⟨Kx0, _⟩ := B5p.facts P5
            have HKx0 : Hid (W5.cell? ⟨pg, 0, none⟩ = some (.slice (some ⟨sb, so, none⟩) x.pla.sets.length sc')) := Kx0
            clear Kx0
            have KS : Hid (∀ w', Qt wq w' → w'.cell? ⟨pg, 0, none⟩ = some (.slice (some ⟨sb, so, none⟩) x.pla.sets.length sc') ∧ w'.cell? ⟨nb, no + k, none⟩ = some (.int .i64 (c : Int)) ∧ w'.cell? ⟨wb, wo' + i, none⟩ = some (.int .u8 (v : Int)) ∧ w'.cell? ⟨sb, so + c * 4, none⟩ = some (.int .u64 l0) ∧ w'.cell? ⟨sb, so + c * 4 + 1, none⟩ = some (.int .u64 l1) ∧ w'.cell? ⟨sb, so + c * 4 + 2, none⟩ = some (.int .u64 l2) ∧ w'.cell? ⟨sb, so + c * 4 + 3, none⟩ = some (.int .u64 l3)) := fun w' q => ⟨(QWW.out.comp q).cell (p := ⟨pg, 0, none⟩) HKx0.out (fun h => h), HKn.out w' (QK2.out.comp q), HKw.out w' (QWW.out.comp q), (QWW.out.comp q).cell (p := ⟨sb, so + c * 4, none⟩) Hc0.out (fun h => h), (QWW.out.comp q).cell (p := ⟨sb, so + c * 4 + 1, none⟩) Hc1.out (fun h => h), (QWW.out.comp q).cell (p := ⟨sb, so + c * 4 + 2, none⟩) Hc2.out (fun h => h), (QWW.out.comp q).cell (p := ⟨sb, so + c * 4 + 3, none⟩) Hc3.out (fun h => h)⟩
            refine Rest.begin (S := (fun w' => w'.cell? ⟨pg, 0, none⟩ = some (.slice (some ⟨sb, so, none⟩) x.pla.sets.length sc') ∧ w'.cell? ⟨nb, no + k, none⟩ = some (.int .i64 (c : Int)) ∧ w'.cell? ⟨wb, wo' + i, none⟩ = some (.int .u8 (v : Int)) ∧ w'.cell? ⟨sb, so + c * 4, none⟩ = some (.int .u64 l0) ∧ w'.cell? ⟨sb, so + c * 4 + 1, none⟩ = some (.int .u64 l1) ∧ w'.cell? ⟨sb, so + c * 4 + 2, none⟩ = some (.int .u64 l2) ∧ w'.cell? ⟨sb, so + c * 4 + 3, none⟩ = some (.int .u64 l3))) (st := ([] : List Nat)) (by kernel_rfl) (KS.out _ (QD.out)) (fun hHeld => ?_)
            refine Rest.plain (i := 0) _ (some 73) ?_ rfl rfl (by kernel_rfl) (by kernel_rfl) (by kernel_rfl) (by kernel_rfl) (fun _ _ _ h => h) (Or.inl ⟨by rfl, ?_⟩) (by assumption) ?_
            rotate_left
            · (intro w _; go_simp; try with_reducible rfl)
            try simp only [Act.put, List.setIfInBounds_toArray, List.set_cons_zero, List.set_cons_succ]
            refine Rest.take (i := 1) _ (some 74) ?_ rfl rfl (by kernel_rfl) (by kernel_rfl) (by kernel_rfl) (by kernel_rfl) (fun _ _ _ h => h) (Or.inl ⟨by rfl, ?_⟩) (by assumption) ?_
            rotate_left
            · (intro w hSw; (try dsimp only at hSw); go_simp; try with_reducible rfl)
            try simp only [Act.put, List.setIfInBounds_toArray, List.set_cons_zero, List.set_cons_succ]
            refine Rest.plain (i := 2) _ (some 75) ?_ rfl rfl (by kernel_rfl) (by kernel_rfl) (by kernel_rfl) (by kernel_rfl) (fun _ _ _ h => h) (Or.inl ⟨by rfl, ?_⟩) (by assumption) ?_
            rotate_left
            · (intro w _; go_simp; try with_reducible rfl)
            try simp only [Act.put, List.setIfInBounds_toArray, List.set_cons_zero, List.set_cons_succ]
            refine Rest.plain (i := 3) _ (some 76) ?_ rfl rfl (by kernel_rfl) (by kernel_rfl) (by kernel_rfl) (by kernel_rfl) (fun _ _ _ h => h) (Or.inl ⟨by rfl, ?_⟩) (by assumption) ?_
            rotate_left
            · (intro w _; go_simp; try with_reducible rfl)
            try simp only [Act.put, List.setIfInBounds_toArray, List.set_cons_zero, List.set_cons_succ]
            refine Rest.plain (i := 4) _ (some 77) ?_ rfl rfl (by kernel_rfl) (by kernel_rfl) (by kernel_rfl) (by kernel_rfl) (fun _ _ _ h => h) (Or.inl ⟨by rfl, ?_⟩) (by assumption) ?_
            rotate_left
            · (intro w _; go_simp; try with_reducible rfl)
            try simp only [Act.put, List.setIfInBounds_toArray, List.set_cons_zero, List.set_cons_succ]
            refine Rest.take (i := 5) _ (some 78) ?_ rfl rfl (by kernel_rfl) (by kernel_rfl) (by kernel_rfl) (by kernel_rfl) (fun _ _ _ h => h) (Or.inl ⟨by rfl, ?_⟩) (by assumption) ?_
            rotate_left
            · (intro w hSw; (try dsimp only at hSw); go_simp; try with_reducible rfl)
            try simp only [Act.put, List.setIfInBounds_toArray, List.set_cons_zero, List.set_cons_succ]
            refine Rest.plain (i := 6) _ (some 79) ?_ rfl rfl (by kernel_rfl) (by kernel_rfl) (by kernel_rfl) (by kernel_rfl) (fun _ _ _ h => h) (Or.inl ⟨by rfl, ?_⟩) (by assumption) ?_
            rotate_left
            · (intro w _; go_simp; try with_reducible rfl)
            try simp only [Act.put, List.setIfInBounds_toArray, List.set_cons_zero, List.set_cons_succ]
            refine Rest.take (i := 7) _ (some 80) ?_ rfl rfl (by kernel_rfl) (by kernel_rfl) (by kernel_rfl) (by kernel_rfl) (fun _ _ _ h => h) (Or.inl ⟨by rfl, ?_⟩) (by assumption) ?_
            rotate_left
            · (intro w hSw; (try dsimp only at hSw); go_simp; try with_reducible rfl)
            try simp only [Act.put, List.setIfInBounds_toArray, List.set_cons_zero, List.set_cons_succ]
            refine Rest.plain (i := 8) _ (some 81) ?_ rfl rfl (by kernel_rfl) (by kernel_rfl) (by kernel_rfl) (by kernel_rfl) (fun _ _ _ h => h) (Or.inl ⟨by rfl, ?_⟩) (by assumption) ?_
            rotate_left
            · (intro w _; go_simp; try with_reducible rfl)
            try simp only [Act.put, List.setIfInBounds_toArray, List.set_cons_zero, List.set_cons_succ]
            refine Rest.plain (i := 9) _ (some 82) ?_ rfl rfl (by kernel_rfl) (by kernel_rfl) (by kernel_rfl) (by kernel_rfl) (fun _ _ _ h => h) (Or.inl ⟨by rfl, ?_⟩) (by assumption) ?_
            rotate_left
            · (intro w _; go_simp; try with_reducible rfl)
            try simp only [Act.put, List.setIfInBounds_toArray, List.set_cons_zero, List.set_cons_succ]
            refine Rest.plain (i := 10) _ (some 83) ?_ rfl rfl (by kernel_rfl) (by kernel_rfl) (by kernel_rfl) (by kernel_rfl) (fun _ _ _ h => h) (Or.inl ⟨by rfl, ?_⟩) (by assumption) ?_
            rotate_left
            · (intro w _; go_simp; try with_reducible rfl)
            try simp only [Act.put, List.setIfInBounds_toArray, List.set_cons_zero, List.set_cons_succ]
            refine Rest.take (i := 11) _ (some 84) ?_ rfl rfl (by kernel_rfl) (by kernel_rfl) (by kernel_rfl) (by kernel_rfl) (fun _ _ _ h => h) (Or.inl ⟨by rfl, ?_⟩) (by assumption) ?_
            rotate_left
            · (intro w hSw; (try dsimp only at hSw); go_simp; try with_reducible rfl)
            try simp only [Act.put, List.setIfInBounds_toArray, List.set_cons_zero, List.set_cons_succ]
            refine Rest.one (i := 12) (by kernel_rfl) rfl (fun K hK => ?_)
            go_simp
            go_at_call 13
            refine hcall.mono ?_
            rintro e10 w10 ⟨rfl, q10⟩
            go_wp2_with fail
            refine hK.out _ _ (KS.out _ (QD.out.comp q10.out)) (fun hHeld => ?_)
            try simp only [Act.put, List.setIfInBounds_toArray, List.set_cons_zero, List.set_cons_succ]
            clear hK K
            refine Rest.done (by kernel_rfl) ?_ _
            cases z2 with
            | true =>
              have HN2 : Hid (flt x.pla v (N.take (k + 1)) = flt x.pla v (N.take k) ++ [c]) := HFT
              have Q10 : Hid (Qt wo w10) := QK2.out.comp (QD.out.comp q10.out)
              have O10 : Hid (Oi w10 wo.heap.size (.slice ta tn tc) (flt x.pla v (N.take k))) := OT2.out.qt (QD.out.comp q10.out)
              obtain ⟨v', W, hr, hO, hM, _⟩ := Oi.push O10.out HFL.out Q10.out.size c
              have hBk := ow_blk O10.out
              have HQ : Hid (Qt wo W) := Mv.trans Q10.out hM (fun j hj e => by have := (hBk j e).1; omega)
              obtain ⟨va, vn, vc, ev⟩ := Oi.form (show Hid _ from hO)
              obtain rfl := ev
              rw [← HN2.out] at hO
              have HE : Hid (Oi W wo.heap.size (.slice va vn vc) (flt x.pla v (N.take (k + 1)))) := hO
              have k1 := HKn.out w10 Q10.out
              clear hO hM hBk O10 OT2 KS HKx0 QWW
              go_wp2_with (at_builtin; refine wpList_append_given rfl _ _ 34 rfl _ _ _ W rfl rfl hr ?_)
              exact ⟨⟨k + 1, va, vn, vc, by omega, by go_num, rfl, HE, HQ⟩, by simp [intOf]; omega⟩
            | false =>
              have HN2 : Hid (Oi w10 wo.heap.size (.slice ta tn tc) (flt x.pla v (N.take (k + 1)))) := (by rw [HFT.out]; simp only [Bool.false_eq_true, if_false, List.append_nil]; exact OT2.out.qt (QD.out.comp q10.out) : Oi _ _ _ _)
              have Q10 : Hid (Qt wo w10) := QK2.out.comp (QD.out.comp q10.out)
              go_wp2_with fail
              exact ⟨⟨k + 1, ta, tn, tc, by omega, by go_num, rfl, HN2, Q10⟩, by simp [intOf]; omega⟩
          · obtain rfl : k = N.length := by omega
            rw [List.take_length] at OT
            have HTN : Hid ((flt x.pla v N).length ≤ 40) := Nat.le_trans (flt_len _ _ _) HNL.out
            have HTS : Hid (∀ c ∈ flt x.pla v N, c < x.pla.cnt) := fun c hc => NW.out.lt c (flt_sub hc)
            have HPT : Hid (∀ k, (jns x.pla.F ((flt x.pla v N).take k)).length ≤ 40) := fun k => NW.out.part HFI.out HC.out v k
            have HNX : Hid (Now x.pla bt (i + 1) (jns x.pla.F (flt x.pla v N))) := (by have := NW.out.next HFI.out HC.out; rw [HVI.out] at this; exact this : Now _ _ _ _)
            have HZX : Hid ((flt x.pla v N).any (fun c => A2.any (· == c)) = true ↔ Mch x.pla 0 bt 0 (i + 1)) := (by have := HEN.out i N NW.out; rw [HVI.out] at this; exact this : _ ↔ _)
            have IT : Hid (Is wr (.slice ta tn tc) (flt x.pla v N)) := OT.out.is
            generalize flt x.pla v N = T at *
            obtain rfl := Is.count IT
            clear OT
            go_wp2_with fail
            obtain ⟨wt, hwt⟩ : ∃ wt, wt = wr := ⟨_, rfl⟩
            subst hwt
            go_loopw [8, 9, 13] (fun s8 s9 s13 w3 => ∃ (k : Nat) (ja : Option Addr) (jl jc : Nat), k ≤ T.length ∧ s13 = .int .i64 k ∧ s8 = .slice ja jl jc ∧ s9 = .bool ((T.take k).any (fun c => A2.any (· == c))) ∧ Hid (Is w3 (.slice ja jl jc) (jns x.pla.F (T.take k))) ∧ Hid (Qt wt w3)) (fun _ _ s13 _ => T.length - (intOf s13).toNat)
            case atStart => exact ⟨0, none, 0, 0, by omega, rfl, rfl, rfl, Is.nil _, Qt.refl _⟩
            case round =>
              obtain ⟨k, ja, jl, jc, hk2, rfl, rfl, rfl, IJ, QJ⟩ := hrel
              have QJW : Hid (Qt W5 wr) := QKW.out.comp QJ.out
              by_cases hkt : k < T.length
              · obtain ⟨c, hc⟩ : ∃ c, T[k]? = some c := ⟨_, List.getElem?_eq_getElem hkt⟩
                have hcn := HTS.out c (List.mem_of_getElem? hc)
                have HZ3 : Hid ((T.take (k + 1)).any (fun c => A2.any (· == c)) = ((T.take k).any (fun c => A2.any (· == c)) || A2.any (· == c))) := any_ends hc
                have HJ3 : Hid (jns x.pla.F (T.take (k + 1)) = jn (jns x.pla.F (T.take k)) (x.pla.F c)) := jns_take hc
                have HPk := HPT.out k
                have HJL : Hid ((jns x.pla.F (T.take k)).length ≤ 1000) := (by omega : (jns x.pla.F (T.take k)).length ≤ 1000)
                obtain ⟨tb, to, tp, e, _, kt⟩ := IT.out.at hc
                obtain ⟨rfl, _, rfl⟩ := Value.slice.inj e
                have HKt : Hid (∀ w', Qt wt w' → w'.cell? ⟨tb, to + k, none⟩ = some (.int .i64 (c : Int))) := fun w' q => q.cell (p := ⟨tb, to + k, none⟩) kt (fun h => h)
                obtain ⟨va, vc, vs, ev, HV, HVI'⟩ := V5.out.fol
                obtain ⟨rfl, _, rfl⟩ := Value.slice.inj ev
                obtain ⟨vb, vo, rfl, _, kv⟩ := HV c hcn
                have I1 : Hid (Is W5 (vs c) (x.pla.F c)) := HVI' c hcn
                have HFc : Hid ((x.pla.F c).length ≤ 1000) := (by have := asc_length 64 (x.pla.fol 0 c); unfold Pla.F; omega : (x.pla.F c).length ≤ 1000)
                have hkt2 : (k : Int) < (T.length : Int) := by omega
                have hkt100 : k < 100 := by have := HTN.out; omega
                have hci : (c : Int) < (x.pla.cnt : Int) := by omega
                have hc100 : c < 100 := by have := HC.out; omega
                clear e ev HV HVI' hc kt HPk
                generalize jns x.pla.F (T.take k) = J at *
                generalize x.pla.F c = G at *
                generalize vs c = vv at *
                obtain ⟨ia, ic, rfl⟩ := I1.out.form
                have HKv : Hid (∀ w', Qt W5 w' → w'.cell? ⟨vb, vo + c, none⟩ = some (.slice ia G.length ic)) := fun w' q => q.cell (p := ⟨vb, vo + c, none⟩) kv (fun h => h)
                clear kv
                generalize (T.take k).any (fun c => A2.any (· == c)) = z0 at *
                go_wp2_with fail
                obtain ⟨wu, hwu⟩ : ∃ wu, wu = wr := ⟨_, rfl⟩
                subst hwu
                go_loopw [9, 14] (fun s9 s14 w4 => ∃ m : Nat, m ≤ A2.length ∧ s14 = .int .i64 m ∧ s9 = .bool (z0 || (A2.take m).any (· == c)) ∧ Hid (Qt wu w4)) (fun _ s14 _ => A2.length - (intOf s14).toNat)
                case atStart => exact ⟨0, by omega, rfl, by simp, Qt.refl _⟩
                case round =>
                  obtain ⟨m, hm, rfl, rfl, QM⟩ := hrel
                  have QMW : Hid (Qt W5 wr) := QJW.out.comp QM.out
                  have QMT : Hid (Qt wt wr) := QJ.out.comp QM.out
                  by_cases hml : m < A2.length
                  · obtain ⟨u, hu⟩ : ∃ u, A2[m]? = some u := ⟨_, List.getElem?_eq_getElem hml⟩
                    obtain ⟨lb, lo, lp, e, _, kl⟩ := (V5.out.lst.qt QMW.out).at hu
                    obtain ⟨rfl, _, rfl⟩ := Value.slice.inj e
                    have k1 := HKt.out wr QMT.out
                    obtain ⟨x0, x1, x2, x3, x4, x5, x6, x7, x8, x9⟩ := B5p.facts (B5p.mv P5.out QMW.out (fun h => h))
                    have hmi : (m : Int) < (A2.length : Int) := by omega
                    have hbm : m < 90000 := by have := E2.out; omega
                    have HNX' : Hid ((A2.take (m + 1)).any (· == c) = ((A2.take m).any (· == c) || u == c)) := any_last hu
                    clear e
                    cases hin : (z0 || (A2.take m).any (· == c)) with
                    | true =>
                      have HT2 : Hid ((z0 || (A2.take (m + 1)).any (· == c)) = true) := (by rw [HNX'.out, ← Bool.or_assoc, hin]; rfl : _ = true)
                      go_wp2_with fail
                      go_quiet (fail)
                      go_wp2_with fail
                      exact ⟨⟨m + 1, by omega, by go_num, by rw [HT2.out], QM.out.comp (Mv.drewN (fun _ => False) _ _)⟩, by simp [intOf]; omega⟩
                    | false =>
                      have HT2 : Hid ((z0 || (A2.take (m + 1)).any (· == c)) = (u == c)) := (by rw [HNX'.out, ← Bool.or_assoc, hin]; rfl : _ = (u == c))
                      go_wp2_with fail
                      go_quiet (fail)
                      go_wp2_with fail
                      exact ⟨⟨m + 1, by omega, by go_num, by rw [HT2.out, beq_int], QM.out.comp (Mv.drewN (fun _ => False) _ _)⟩, by simp [intOf]; omega⟩
                  · obtain rfl : m = A2.length := by omega
                    rw [List.take_length]
                    rw [← HZ3.out]
                    obtain ⟨x0, x1, x2, x3, x4, x5, x6, x7, x8, x9⟩ := B5p.facts (B5p.mv P5.out QMW.out (fun h => h))
                    obtain ⟨z9, hz9⟩ : ∃ z9, z9 = (T.take (k + 1)).any (fun c => A2.any (· == c)) := ⟨_, rfl⟩
                    rw [← hz9]
                    have HZ9 : Hid ((T.take (k + 1)).any (fun c => A2.any (· == c)) = z9) := hz9.symm
                    clear hz9
                    have Hx3 : Hid (wr.cell? ⟨pg, 3, none⟩ = some (.slice (some ⟨vb, vo, none⟩) x.pla.cnt gc)) := x3
                    clear x0 x1 x3 x4 x5 x6 x7 x8 x9
                    have KS : Hid (∀ w', Qt wr w' → w'.cell? ⟨pg, 3, none⟩ = some (.slice (some ⟨vb, vo, none⟩) x.pla.cnt gc) ∧ w'.cell? ⟨tb, to + k, none⟩ = some (.int .i64 (c : Int)) ∧ w'.cell? ⟨vb, vo + c, none⟩ = some (.slice ia G.length ic)) := fun w' q => ⟨q.cell (p := ⟨pg, 3, none⟩) Hx3.out (fun h => h), HKt.out w' (QMT.out.comp q), HKv.out w' (QMW.out.comp q)⟩
                    have QD : Hid (Qt wr wr.drew) := Qt.drew (Qt.refl _)
                    have hcall := join_any J G HJL.out HFc.out _ _ wr.drew (show Hid _ from IJ.out.qt (QM.out.comp QD.out)) (show Hid _ from I1.out.qt (QMW.out.comp QD.out))
                    go_wp2_with fail
                    clear x2
                    refine Rest.begin (S := (fun w' => w'.cell? ⟨pg, 3, none⟩ = some (.slice (some ⟨vb, vo, none⟩) x.pla.cnt gc) ∧ w'.cell? ⟨tb, to + k, none⟩ = some (.int .i64 (c : Int)) ∧ w'.cell? ⟨vb, vo + c, none⟩ = some (.slice ia G.length ic))) (st := ([] : List Nat)) (by kernel_rfl) (KS.out _ (QD.out)) (fun hHeld => ?_)
                    refine Rest.plain (i := 0) _ (some 119) ?_ rfl rfl (by kernel_rfl) (by kernel_rfl) (by kernel_rfl) (by kernel_rfl) (fun _ _ _ h => h) (Or.inl ⟨by rfl, ?_⟩) (by assumption) ?_
                    rotate_left
                    · (intro w _; go_simp; try with_reducible rfl)
                    try simp only [Act.put, List.setIfInBounds_toArray, List.set_cons_zero, List.set_cons_succ]
                    refine Rest.plain (i := 1) _ (some 120) ?_ rfl rfl (by kernel_rfl) (by kernel_rfl) (by kernel_rfl) (by kernel_rfl) (fun _ _ _ h => h) (Or.inl ⟨by rfl, ?_⟩) (by assumption) ?_
                    rotate_left
                    · (intro w _; go_simp; try with_reducible rfl)
                    try simp only [Act.put, List.setIfInBounds_toArray, List.set_cons_zero, List.set_cons_succ]
                    refine Rest.take (i := 2) _ (some 121) ?_ rfl rfl (by kernel_rfl) (by kernel_rfl) (by kernel_rfl) (by kernel_rfl) (fun _ _ _ h => h) (Or.inl ⟨by rfl, ?_⟩) (by assumption) ?_
                    rotate_left
                    · (intro w hSw; (try dsimp only at hSw); go_simp; try with_reducible rfl)
                    try simp only [Act.put, List.setIfInBounds_toArray, List.set_cons_zero, List.set_cons_succ]
                    refine Rest.plain (i := 3) _ (some 122) ?_ rfl rfl (by kernel_rfl) (by kernel_rfl) (by kernel_rfl) (by kernel_rfl) (fun _ _ _ h => h) (Or.inl ⟨by rfl, ?_⟩) (by assumption) ?_
                    rotate_left
                    · (intro w _; go_simp; try with_reducible rfl)
                    try simp only [Act.put, List.setIfInBounds_toArray, List.set_cons_zero, List.set_cons_succ]
                    refine Rest.plain (i := 4) _ (some 123) ?_ rfl rfl (by kernel_rfl) (by kernel_rfl) (by kernel_rfl) (by kernel_rfl) (fun _ _ _ h => h) (Or.inl ⟨by rfl, ?_⟩) (by assumption) ?_
                    rotate_left
                    · (intro w _; go_simp; try with_reducible rfl)
                    try simp only [Act.put, List.setIfInBounds_toArray, List.set_cons_zero, List.set_cons_succ]
                    refine Rest.plain (i := 5) _ (some 124) ?_ rfl rfl (by kernel_rfl) (by kernel_rfl) (by kernel_rfl) (by kernel_rfl) (fun _ _ _ h => h) (Or.inl ⟨by rfl, ?_⟩) (by assumption) ?_
                    rotate_left
                    · (intro w _; go_simp; try with_reducible rfl)
                    try simp only [Act.put, List.setIfInBounds_toArray, List.set_cons_zero, List.set_cons_succ]
                    refine Rest.take (i := 6) _ (some 125) ?_ rfl rfl (by kernel_rfl) (by kernel_rfl) (by kernel_rfl) (by kernel_rfl) (fun _ _ _ h => h) (Or.inl ⟨by rfl, ?_⟩) (by assumption) ?_
                    rotate_left
                    · (intro w hSw; (try dsimp only at hSw); go_simp; try with_reducible rfl)
                    try simp only [Act.put, List.setIfInBounds_toArray, List.set_cons_zero, List.set_cons_succ]
                    refine Rest.plain (i := 7) _ (some 126) ?_ rfl rfl (by kernel_rfl) (by kernel_rfl) (by kernel_rfl) (by kernel_rfl) (fun _ _ _ h => h) (Or.inl ⟨by rfl, ?_⟩) (by assumption) ?_
                    rotate_left
                    · (intro w _; go_simp; try with_reducible rfl)
                    try simp only [Act.put, List.setIfInBounds_toArray, List.set_cons_zero, List.set_cons_succ]
                    refine Rest.take (i := 8) _ (some 127) ?_ rfl rfl (by kernel_rfl) (by kernel_rfl) (by kernel_rfl) (by kernel_rfl) (fun _ _ _ h => h) (Or.inl ⟨by rfl, ?_⟩) (by assumption) ?_
                    rotate_left
                    · (intro w hSw; (try dsimp only at hSw); go_simp; try with_reducible rfl)
                    try simp only [Act.put, List.setIfInBounds_toArray, List.set_cons_zero, List.set_cons_succ]
                    refine Rest.one (i := 9) (by kernel_rfl) rfl (fun K hK => ?_)
                    go_simp
                    go_at_call 14
                    refine hcall.mono ?_
                    rintro e10 w10 ⟨v10, rfl, o10, q10⟩
                    have I10 : Hid (Is w10 v10 (jns x.pla.F (T.take (k + 1)))) := (by rw [HJ3.out]; exact o10.out.is : Is _ _ _)
                    have Q10 : Hid (Qt wt w10) := QMT.out.comp (QD.out.comp q10.out)
                    obtain ⟨va', vn', vc', ev'⟩ := Oi.form o10
                    obtain rfl := ev'
                    go_wp2_with fail
                    refine hK.out _ _ (KS.out _ (QD.out.comp q10.out)) (fun hHeld => ?_)
                    try simp only [Act.put, List.setIfInBounds_toArray, List.set_cons_zero, List.set_cons_succ]
                    clear hK K
                    refine Rest.plain (i := 10) _ (some 8) ?_ rfl rfl (by kernel_rfl) (by kernel_rfl) (by kernel_rfl) (by kernel_rfl) (fun _ _ _ h => h) (Or.inl ⟨by rfl, ?_⟩) (by assumption) ?_
                    rotate_left
                    · (intro w _; go_simp; try with_reducible rfl)
                    try simp only [Act.put, List.setIfInBounds_toArray, List.set_cons_zero, List.set_cons_succ]
                    refine Rest.done (by kernel_rfl) ?_ _
                    go_wp2_with fail
                    go_roundw
                    case rel => exact ⟨k + 1, va', vn', vc', by omega, by go_num, rfl, by rw [HZ9.out], I10, Q10⟩
                    case measure => simp [intOf]; omega
              · obtain rfl : k = T.length := by omega
                rw [List.take_length] at IJ ⊢
                go_wp2_with fail
                go_roundw
                case rel => exact ⟨i + 1, _, _, _, _, _, by omega, by go_num, rfl, rfl, IJ, HNX, HZX, QJW⟩
                case measure => simp [intOf]; omega
      · obtain rfl : i = wn := by omega
        have X6 := Tx.step X5 QW.out
        obtain ⟨b0, b1, b2, b3, b4, b5, _⟩ := B6.facts (show Hid _ from X6.out.box)
        have hin := rin_any bt i (by have := HWN.out; omega) HBT.out x _ pa wa pc wc wr X6.out.parts HFo.out HNo.out (show Hid _ from hw5.out.mv QW.out (fun _ _ h => h))
        rw [show x.mt bt i 0 i = z from bool_iff (spells_in HFo.out i bt) ZM.out] at hin
        have hzz : (z == z) = true := by simp
        have QF : Hid (Qt w wr) := X6.out.qt
        clear X6
        go_wp2_with fail
        refine hin.mono ?_
        rintro e9 w9 ⟨rfl, q9⟩
        go_wp2_with fail
        go_ret
        exact ⟨rfl, QF.out.comp q9.out⟩
theorem placeSpells_row (a : Option Addr) (len cap : Nat) (f : Nat → Int) (wa : Option Addr) (wn wc : Nat) (bt : Nat → Int) (w : World) (hs : Sl w a len (fun i => .int .u8 (f i))) (ho : ∀ i, (Lit.int .u8 (f i)).wf = true) (ha : ∀ q, a = some q → q.block < w.heap.size) (hs' : Sl w wa wn (fun i => .int .u8 (bt i))) (ho' : ∀ i, (Lit.int .u8 (bt i)).wf = true) (ha' : ∀ q, wa = some q → q.block < w.heap.size) (hT : Hid (Tab w)) : Calls Tryd.prog 4 #[.slice a len cap, .slice wa wn wc] w fun e w' => e = .returned (.bool true) ∧ Below w.heap.size w w' := by
  obtain ⟨g, h1, h2⟩ := bytes_of hs ho
  obtain ⟨g', h3, h4⟩ := bytes_of hs' ho'
  exact (placeSpells_walk a len cap g wa wn wc g' w h1 (fun i _ => h2 i) ha h3 (fun i _ => h4 i) hT (Tab.pos hT)).mono fun e w' ⟨he, hq⟩ => ⟨he, mv_below hq.out⟩

end Go.Proofs.YtojbakkbmfgoaaaDoor
