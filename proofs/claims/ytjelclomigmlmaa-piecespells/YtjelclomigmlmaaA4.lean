/- PieceSpells. -/
import Derived.Test.YtjelclomigmlmaaE6
namespace Go.Proofs.Ytjelclomigmlmaa
open Go.RowKit

/-- A text, and the row of what it spells. -/
structure SwAt (w wr : World) (q nb : Nat) (G : Nat → Int) (vn : Value) (L : List Bt) (m : Nat) (A : Nat → Int) (Y : Nat → Prop) : Prop where
  tx : Tx wr q nb L m A Y
  low : ∀ k, k < w.heap.size → Y k
  now : ∀ k, vn.ownBlock = some k → Y k
  row : OB wr 0 vn (L.map (bt G A))
  bel : Below w.heap.size w wr
section
variable {w wr w' : World} {q nb : Nat} {G : Nat → Int} {vn : Value} {L : List Bt} {m : Nat} {A : Nat → Int} {Y : Nat → Prop}
theorem SwAt.qt (h : SwAt w wr q nb G vn L m A Y) (k : Qt wr w') : SwAt w w' q nb G vn L m A (fun j => Y j ∨ wr.heap.size ≤ j ∧ j < w'.heap.size) :=
  ⟨h.tx.qt k, fun j hj => .inl (h.low j hj), fun j hj => .inl (h.now j hj), k.owns h.row (fun _ _ h => h), h.bel.trans (k.below _ h.bel.size)⟩
end

set_option maxHeartbeats 8000000 in
set_option maxRecDepth 20000 in
theorem spells_any (w : World) (ba : Option Addr) (nb cb : Nat) (G : Nat → Int) (hBs : Hid (Sl w ba nb (By G))) (hBn : Hid (ba = none → nb = 0 ∧ cb = 0)) (hBc : nb ≤ cb) (ua : Option Addr) (ka ca : Nat) (hA : Hid (So w ua ka)) (h1 : ka ≤ 20) (h2 : nb ≤ 200) :
    Calls Try.prog 4 #[.slice ba nb cb, .slice ua ka ca] w fun e w' => e = .returned (.bool true) ∧ Below w.heap.size w w' := by
  have h1z : (ka : Int) ≤ 20 := by omega
  have h2z : (nb : Int) ≤ 200 := by omega
  go_enter Try.func4, Try.ntmps4
  go_wp2_with fail
  refine (begun_any w).mono ?_
  rintro e w1 ⟨rfl, bl⟩
  have B1 : Hid (Below w.heap.size w w1) := bl
  clear bl
  go_wp2_with fail
  refine (new_any (nb : Int) (by omega) w1).mono ?_
  rintro e w2 ⟨q, rfl, hq, T2⟩
  have T2a : Hid (Tx w2 q nb (sp1 ⟨false, 0, nb⟩) 0 (fun _ => 0) (fun k => k < w1.heap.size)) := by
    have h1 := T2.out.1
    rw [Int.toNat_natCast] at h1
    exact h1
  have Q2 : Hid (Qt w1 w2) := T2.out.2
  clear T2
  have q3 : Qt w2 (w2.alloc (.cells #[] 5)) := (Qt.refl w2).alloc _
  have B2 : Below w.heap.size w w2 := B1.out.trans (Q2.out.below _ B1.out.size)
  obtain ⟨v3, W3, hr3, o3, g3, _⟩ := append_b 28 (w2.alloc (.cells #[] 5)) w2.heap.size (.slice (some ⟨w2.heap.size, 0, none⟩) 0 0) [] ((List.range nb).map G) ba cb (ob_empty w2 _ _ rfl (Nat.le_refl _)) ((sl_ls (hBs.out.below B2)).qt q3) (by simp; omega) (by simpa using hBn.out) q3.size
  have Q3 : Hid (Qt w2 W3) := q3.trans (Mv.of_grown g3) (fun j hj e => by simp [Value.ownBlock] at e; omega)
  have SW : Hid (SwAt w W3 q nb G v3 (sp1 ⟨false, 0, nb⟩) 0 (fun _ => 0) (fun j => j < w1.heap.size ∨ w2.heap.size ≤ j ∧ j < W3.heap.size)) := by
    refine ⟨T2a.out.qt Q3.out, fun k hk => .inl (Nat.lt_of_lt_of_le hk B1.out.size), fun k hk => .inr (ow_blk o3 k hk), ?_, B2.trans (Q3.out.below _ B2.size)⟩
    have := part_bt G (fun _ => 0) false nb 0 nb (Nat.le_refl _)
    simp at this
    rw [← this]
    have o4 : OB W3 w2.heap.size v3 ((List.range nb).map G) := by simpa using o3
    have e : ((List.range nb).map G).take nb = (List.range nb).map G := List.take_of_length_le (by simp)
    rw [e]
    exact ow_mono o4 (fun _ _ => Nat.zero_le _)
  have hl3 : ((List.range nb).map G).length = nb := by simp
  rw [hl3] at hr3
  clear hl3 o3 g3 q3 T2a Q2 Q3 B1 B2
  go_wp2_with (at_builtin; first | (refine wpList_append_given rfl _ _ 28 rfl _ _ _ W3 rfl rfl hr3 ?_))
  go_loopw [6, 7] (fun vn vi wr => ∃ i : Nat, i ≤ ka ∧ vi = .int .i64 i ∧ Hid (∃ L m A Y, SwAt w wr q nb G vn L m A Y ∧ L.length ≤ 200 + 100 * i ∧ m ≤ 100 * i)) (fun _ vi _ => ka - (intOf vi).toNat)
  case atStart => exact ⟨0, by omega, rfl, _, _, _, _, SW.out, by rw [sp1_length]; show nb - 0 ≤ _; omega, by omega⟩
  case round =>
    clear SW hr3
    obtain ⟨i, hi, rfl, S⟩ := hrel
    by_cases hlt : i < ka
    · have hltz : (i : Int) < (ka : Int) := by omega
      obtain ⟨L, m, A, Y, sw, x1, x2⟩ := S.out
      have SW : Hid (SwAt w wr q nb G u6 L m A Y) := sw
      obtain ⟨b, off, o, rfl, hb, oq⟩ := hA.out i hlt
      have OQ : Hid (OqAt w b (off + i * 4) o) := oq
      have o2 := oq.below sw.bel
      have c0 := o2.c0
      have c1 := o2.c1
      have c2 := o2.c2
      clear oq o2 S
      by_cases hk : 100 < o.sn
      · have hkz : (100 : Int) < o.sn := by omega
        have BL : Hid (Below w.heap.size w wr) := sw.bel
        clear sw SW
        go_wp2_with fail
        go_ret
        exact ⟨rfl, BL.out⟩
      · have hkz : (o.sn : Int) ≤ 100 := by omega
        have hsn : o.sn ≤ 100 := by omega
        have KP : Hid (∀ W, Below w.heap.size w W → W.cell? ⟨b, off + i * 4 + 2, none⟩ = some (.slice o.sa o.sn o.sc)) := fun W hW => (OQ.out.below hW).c2
        have OQS : Hid (∀ W, Below w.heap.size w W → Sl W o.sa o.sn (By o.f)) := fun W hW => (OQ.out.below hW).sl
        have OQN : Hid (o.sa = none → o.sn = 0 ∧ o.sc = 0) := OQ.out.none
        obtain ⟨xa, xb, sa, sn, sc, f, cp⟩ := o
        simp only at c0 c1 c2 hkz KP OQS OQN hsn
        obtain ⟨na, nc, rfl, ln, hnc, hnn, -⟩ := ow_ls sw.row
        have LN : Hid (Ls wr na (bv (L.map (bt G A)))) := ln
        obtain ⟨k, hkL⟩ : ∃ k, k = L.length := ⟨_, rfl⟩
        have KL : Hid (k = L.length) := hkL
        have e1 : (L.map (bt G A)).length = k := by rw [List.length_map]; exact hkL.symm
        rw [e1] at SW hnc hnn ⊢
        rw [← hkL] at x1
        clear sw ln OQ hk e1 hkL
        have hw1 : (k : Int) + 1 = ((k + 1 : Nat) : Int) := by omega
        have PL := placeOf_any xa (k + 1) (by omega) (by omega) wr
        rw [← hw1] at PL
        clear hw1
        go_wp2_with fail
        refine PL.mono ?_
        rintro e w4 ⟨r, rfl, hr, hw⟩
        obtain rfl := hw
        clear PL
        obtain ⟨d, hd⟩ : ∃ d : Nat, (k : Int) - r = (d : Int) := ⟨k - r, by omega⟩
        have PL := placeOf_any xb (d + 1) (by omega) (by omega) w4
        have hw1 : (d : Int) + 1 = ((d + 1 : Nat) : Int) := by omega
        rw [← hw1] at PL
        clear hw1
        go_wp2_with fail
        refine PL.mono ?_
        rintro e w5 ⟨r2, rfl, hr2, hw⟩
        obtain rfl := hw
        clear PL
        obtain ⟨y, hy⟩ : ∃ y : Nat, (r : Int) + r2 = (y : Int) := ⟨r + r2, by omega⟩
        have hry : r ≤ y := by omega
        have hyk : y ≤ k := by omega
        have ED := edit_ok SW.out.tx r y sa sn sc f hry (by rw [← KL.out]; exact hyk) (by omega) (OQS.out _ SW.out.bel) OQN (by omega) (by rw [← KL.out]; omega)
        go_wp2_with fail
        refine ED.mono ?_
        rintro e w6 ⟨rfl, F6⟩
        have B6 : Hid (Below w.heap.size w w6) := Tx.edit SW.out.bel F6.out.2 (Nat.le_refl _) SW.out.low
        have R6 : Hid (OB w6 0 (.slice na k nc) (L.map (bt G A))) := F6.out.2.owns SW.out.row (fun j hj hn => hn (SW.out.now j hj))
        have T6 : Hid (Tx w6 q nb (ins L r y m sn) (m + sn) (catI A m f) Y) := F6.out.1
        have LOW : Hid (∀ k, k < w.heap.size → Y k) := SW.out.low
        have WFL : Hid (Wf nb m L) := by
          obtain ⟨_, _, t⟩ := SW.out.tx
          exact t.wf
        have hlen : Hid ((L.map (bt G A)).length = k) := by show _ = _; rw [List.length_map]; exact KL.out.symm
        obtain ⟨p1, k1, s1, f1, z1⟩ := slice_toB na k nc r (by omega) hnc hnn
        obtain ⟨p2, k2, s2, f2, z2⟩ := slice_fromB na k nc y hyk hnc hnn
        have LN6 : Ls w6 na (bv (L.map (bt G A))) := by
          obtain ⟨na', nc', e', l', _⟩ := ow_ls R6.out
          cases e'
          exact l'
        have P1 : Hid (Ls w6 p1 (bv ((L.map (bt G A)).take r))) := f1 w6 _ hlen.out LN6
        have P2 : Hid (Ls w6 p2 (bv ((L.map (bt G A)).drop y))) := f2 w6 _ hlen.out LN6
        have PS : Hid (Ls w6 sa (bv ((List.range sn).map f))) := sl_ls (OQS.out _ B6.out)
        have n1 : Hid (((L.map (bt G A)).take r).length = r) := by show _ = _; rw [List.length_take, hlen.out]; omega
        have n2 : Hid (((L.map (bt G A)).drop y).length = k - y) := by show _ = _; rw [List.length_drop, hlen.out]
        have n3 : Hid (((List.range sn).map f).length = sn) := by show _ = _; simp
        have Z1 : Hid (p1 = none → ((L.map (bt G A)).take r).length = 0 ∧ k1 = 0) := by rw [n1.out]; exact z1
        have Z2 : Hid (p2 = none → ((L.map (bt G A)).drop y).length = 0 ∧ k2 = 0) := by rw [n2.out]; exact z2
        have Z3 : Hid (sa = none → ((List.range sn).map f).length = 0 ∧ sc = 0) := by rw [n3.out]; exact OQN.out
        have BA : Hid (Below w6.heap.size w6 (w6.alloc (.cells #[] 5))) := (Below.refl _ _).alloc (Nat.le_refl _) _
        have KB : Hid (∀ W, Below w6.heap.size w6 W → Below w.heap.size w W) := fun W h => B6.out.trans (h.mono B6.out.size)
        have d2 := KP.out _ B6.out
        have yk : (y : Int) ≤ k := by omega
        have rk : (r : Int) ≤ k := by omega
        have r0 : (0 : Int) ≤ r := by omega
        have y0 : (0 : Int) ≤ y := by omega
        have FIN : Hid (∀ v W, OB W w6.heap.size v ([] ++ (L.map (bt G A)).take r ++ (List.range sn).map f ++ (L.map (bt G A)).drop y) → Below w6.heap.size w6 W → SwAt w W q nb G v (ins L r y m sn) (m + sn) (catI A m f) (fun j => Y j ∨ w6.heap.size ≤ j ∧ j < W.heap.size)) := by
          intro v W o bl
          have qq := qt_of_below bl
          refine ⟨T6.out.qt qq, fun j hj => .inl (LOW.out j hj), fun j hj => .inr (ow_blk o j hj), ?_, KB.out W bl⟩
          rw [bt_ins WFL.out]
          rw [List.nil_append] at o
          exact ow_mono o (fun _ _ => Nat.zero_le _)
        clear ED F6 SW LN6 f1 f2 z1 z2 c0 c1 c2 hnn hnc LN R6
        go_wp2_with fail
        go_region_held3 (fun w' => w'.cell? ⟨b, off + i * 4 + 2, none⟩ = some (.slice sa sn sc)) (first | go_keep | exact KP.out _ (KB.out _ bel3) | exact KP.out _ (KB.out _ bel2) | exact KP.out _ (KB.out _ bel1))
          ((first
            | (refine step_append_b (by rfl) (.tmp 76) (.tmp 79) (by rfl) w6.heap.size w6 (.slice (some ⟨_, 0, none⟩) 0 0) [] p1 r k1 ((L.map (bt G A)).take r) (by rfl) (by rfl) n1.out.symm (by first | exact ob_empty_drew _ _ _ (by simp) (by simp) | exact ob_empty _ _ _ (by simp) (by simp)) (P1.out.below (by first | exact BA.out.drew | exact BA.out)) (by have := n1.out; simp only [List.length_nil]; omega) Z1.out (by first | exact BA.out.drew | exact BA.out) (Nat.le_refl _) ?_; intro v1 W1 own1 gr1 bel1)
            | (refine step_append_b (by rfl) (.tmp 80) (.tmp 85) (by rfl) w6.heap.size w6 v1 ([] ++ (L.map (bt G A)).take r) sa sn sc ((List.range sn).map f) (by rfl) (by rfl) n3.out.symm own1 (PS.out.below bel1) (by have h1 := n1.out; have h3 := n3.out; simp only [List.nil_append]; omega) Z3.out bel1 (Nat.le_refl _) ?_; intro v2 W2 own2 gr2 bel2)
            | (refine step_append_b (by rfl) (.tmp 86) (.tmp 89) (by rfl) w6.heap.size w6 v2 ([] ++ (L.map (bt G A)).take r ++ (List.range sn).map f) p2 (k - y) k2 ((L.map (bt G A)).drop y) (by rfl) (by rfl) n2.out.symm own2 (P2.out.below bel2) (by have h1 := n1.out; have h3 := n3.out; have h2 := n2.out; simp only [List.nil_append, List.length_append]; omega) Z2.out bel2 (Nat.le_refl _) ?_; intro v3 W3 own3 gr3 bel3)))
        have S9 : Hid (SwAt w W3 q nb G v3 (ins L r y m sn) (m + sn) (catI A m f) (fun j => Y j ∨ w6.heap.size ≤ j ∧ j < W3.heap.size)) := FIN.out v3 W3 own3 bel3
        have BD : (ins L r y m sn).length ≤ 200 + 100 * (i + 1) := by
          rw [ins_length _ _ _ _ _ hry (by rw [← KL.out]; exact hyk), ← KL.out]
          omega
        have BM : m + sn ≤ 100 * (i + 1) := by omega
        clear own1 own2 own3 gr1 gr2 gr3 bel1 bel2 bel3 FIN d2 P1 P2 PS Z1 Z2 Z3 n1 n2 n3 s1 s2 BA KB KP OQS OQN T6 B6 LOW WFL hlen yk rk r0 y0
        generalize (ins L r y m sn) = L9 at *
        generalize m + sn = m9 at *
        generalize catI A m f = A9 at *
        generalize (fun j => Y j ∨ w6.heap.size ≤ j ∧ j < W3.heap.size) = Y9 at *
        obtain ⟨na9, nc9, rfl, -⟩ := ow_ls S9.out.row
        obtain ⟨k9, hk9⟩ : ∃ k9, k9 = L9.length := ⟨_, rfl⟩
        have K9 : Hid (k9 = L9.length) := hk9
        have e9 : (L9.map (bt G A9)).length = k9 := by rw [List.length_map]; exact hk9.symm
        rw [e9] at S9 ⊢
        have hk9b : k9 ≤ 2300 := by omega
        clear e9 hk9
        go_wp2_with fail
        refine (pieces_any S9.out.tx).mono ?_
        rintro e w10 ⟨v10, rfl, F10⟩
        have S10 := S9.out.qt F10.out.2
        obtain ⟨pa, pc, rfl, l10, -⟩ := ow_ls F10.out.1
        have L10 : Hid (Ls w10 pa (cellsP (nf L9))) := l10
        have S10 : Hid (SwAt w w10 q nb G (.slice na9 k9 nc9) L9 m9 A9 _) := S10
        clear S9 F10 l10
        obtain ⟨np, hnp⟩ : ∃ np, np = (nf L9).length := ⟨_, rfl⟩
        have NP : Hid (np = (nf L9).length) := hnp
        have hnp2 : np ≤ 2300 := by have := nf_length L9; omega
        rw [← hnp]
        clear hnp
        go_wp2_with fail
        refine (added_any S10.out.tx).mono ?_
        rintro e w11 ⟨v11, rfl, F11⟩
        have S11 := S10.out.qt F11.out.2
        obtain ⟨aa, ac, rfl, s11, hAc, hAn⟩ := F11.out.1.sl
        have AD : Hid (Ls w11 aa (bv ((List.range m9).map A9))) := sl_ls s11
        have L11 : Hid (Ls w11 pa (cellsP (nf L9))) := L10.out.qt F11.out.2
        have B11 : Hid (Below w.heap.size w w11) := S11.bel
        have S11 : Hid (SwAt w w11 q nb G (.slice na9 k9 nc9) L9 m9 A9 _) := S11
        have hAn : Hid (aa = none → m9 = 0 ∧ ac = 0) := hAn
        have FT : Hid (Fit (nf L9)) := by
          obtain ⟨_, _, t⟩ := S11.out.tx
          exact t.fit
        have WF9 : Hid (Wf nb m9 L9) := by
          obtain ⟨_, _, t⟩ := S11.out.tx
          exact t.wf
        have SPN : Hid (spl (nf L9) = L9) := spl_nf L9
        have POS : Hid (∀ p ∈ nf L9, p.fr < p.to) := nf_pos L9
        have PIN : Hid (∀ ad fr to, (⟨ad, fr, to⟩ : Pc) ∈ nf L9 → ((ad, to - 1) : Bt) ∈ L9) := fun ad fr to h => nf_last h
        clear S10 L10 F11 s11
        generalize nf L9 = ps at *
        go_wp2_with fail
        go_loopw [10, 13] (fun vo vi wr => ∃ j : Nat, j ≤ np ∧ vi = .int .i64 j ∧ Hid (Sp w11 wr vo ((spl (ps.take j)).map (bt G A9)))) (fun _ vi _ => np - (intOf vi).toNat)
        case atStart => exact ⟨0, by omega, rfl, ow_nil _ _ _ _, Qt.refl _⟩
        case round =>
          obtain ⟨j, hj, rfl, S⟩ := hrel
          by_cases hlt2 : j < np
          · have hlt2z : (j : Int) < (np : Int) := by omega
            obtain ⟨p, hp⟩ : ∃ p, ps[j]? = some p := ⟨ps[j]'(by have := NP.out; omega), List.getElem?_eq_getElem _⟩
            have hpm := List.mem_of_getElem? hp
            have ft := FT.out p hpm
            have ps1 := POS.out p hpm
            obtain ⟨b7, off7, rfl, hb7, d0, d1, d2⟩ := ls_get (L11.out.qt S.out.2) hp
            have TS : Hid (spl (ps.take (j + 1)) = spl (ps.take j) ++ sp1 p) := by
              show _ = _
              rw [take_succ_get hp, spl_append, spl_cons, spl_nil, List.append_nil]
            have LEN : Hid ((spl (ps.take j)).length + (p.to - p.fr) ≤ 2300) := by
              have h2 : (spl (ps.take (j + 1))).length ≤ (spl ps).length := by
                conv => rhs; rw [← List.take_append_drop (j + 1) ps, spl_append, List.length_append]
                omega
              rw [SPN.out, TS.out, List.length_append, sp1_length, ← K9.out] at h2
              show _ ≤ _
              omega
            obtain ⟨ad, fr, to⟩ := p
            simp only at ft ps1 d0 d1 d2 LEN
            obtain ⟨ft1, ft2⟩ := ft
            have hft : (fr : Int) < to := by omega
            have g1 : decide ((fr : Int) < 0) = false := decide_eq_false (by omega)
            have g2 : decide ((to : Int) ≤ fr) = false := decide_eq_false (by omega)
            have KC : Hid (∀ W, Below w11.heap.size w11 W → W.cell? ⟨b7, off7 + j * 3 + 1, none⟩ = some (.int .i64 fr) ∧ W.cell? ⟨b7, off7 + j * 3 + 2, none⟩ = some (.int .i64 to)) := by
              intro W hW
              obtain ⟨b', off', e, _, _, k1, k2⟩ := ls_get (L11.out.below hW) hp
              cases e
              exact ⟨k1, k2⟩
            cases ad
            · have hto : to ≤ nb := by
                have h1 := (WF9.out _ (PIN.out false fr to hpm)).1 rfl
                simp only at h1
                omega
              have hto2 : (to : Int) ≤ (nb : Int) := by omega
              have hfr2 : (fr : Int) ≤ (to : Int) := by omega
              have g3 : decide ((nb : Int) < to) = false := decide_eq_false (by omega)
              obtain ⟨p5, k5, s5, f5, z5⟩ := slice_midB ba nb cb fr to (by omega) hto hBc hBn.out
              have LS5 : Hid (∀ W, Below w11.heap.size w11 W → Ls W p5 (bv ((sp1 ⟨false, fr, to⟩).map (bt G A9)))) := by
                intro W hW
                have h1 : Ls W ba (bv ((List.range nb).map (if false = true then A9 else G))) := (sl_ls (hBs.out.below B11.out)).below hW
                have h2 := f5 W _ (by simp) h1
                have h3 := part_bt G A9 false nb fr to hto
                rw [h3] at h2
                exact h2
              have N5 : Hid (((sp1 ⟨false, fr, to⟩).map (bt G A9)).length = to - fr) := by
                show _ = _
                rw [List.length_map, sp1_length]
              have Z5 : Hid (p5 = none → ((sp1 ⟨false, fr, to⟩).map (bt G A9)).length = 0 ∧ k5 = 0) := by rw [N5.out]; exact z5
              have LB5 : Hid (((spl (ps.take j)).map (bt G A9)).length + ((sp1 ⟨false, fr, to⟩).map (bt G A9)).length < 100000) := by
                show _ < _
                rw [N5.out, List.length_map]
                have := LEN.out
                omega
              clear f5 z5 hp hpm
              go_wp2_with fail
              go_quiet (fail)
              have S6 : Hid (Sp w11 (wr.drewN nq) u10 ((spl (ps.take j)).map (bt G A9))) := ⟨S.out.1, S.out.2.comp (Mv.drewN _ wr nq)⟩
              have e1 : (wr.drewN nq).cell? ⟨b7, off7 + j * 3 + 1, none⟩ = some (.int .i64 fr) := d1
              have e2 : (wr.drewN nq).cell? ⟨b7, off7 + j * 3 + 2, none⟩ = some (.int .i64 to) := d2
              clear S d0 d1 d2 g1 g2 g3
              generalize wr.drewN nq = wq at *
              have BQ : Hid (Below w11.heap.size w11 wq) := S6.out.2.below _ (Nat.le_refl _)
              go_wp2_with fail
              go_region_held3 (fun w' => w'.cell? ⟨b7, off7 + j * 3 + 1, none⟩ = some (.int .i64 fr) ∧ w'.cell? ⟨b7, off7 + j * 3 + 2, none⟩ = some (.int .i64 to)) (first | go_keep | exact KC.out _ bel8)
                ((first
                  | (refine step_append_b (by rfl) (.tmp 137) (.tmp 149) (by rfl) w11.heap.size w11 u10 ((spl (ps.take j)).map (bt G A9)) p5 (to - fr) k5 ((sp1 ⟨false, fr, to⟩).map (bt G A9)) (by rfl) (by rfl) N5.out.symm (by exact S6.out.1) (LS5.out _ (by first | exact BQ.out.drew | exact BQ.out)) LB5.out Z5.out (by first | exact BQ.out.drew | exact BQ.out) (Nat.le_refl _) ?_; intro v8 W8 own8 gr8 bel8)))
              have S8 : Hid (Sp w11 W8 v8 ((spl (ps.take (j + 1))).map (bt G A9))) := by
                rw [TS.out, List.map_append]
                exact ⟨own8, qt_of_below bel8⟩
              clear own8 gr8 bel8 S6 BQ e1 e2 s5 LS5 N5 Z5 LB5
              go_wp2_with fail
              go_roundw
              case rel => exact ⟨j + 1, by omega, by go_num, S8⟩
              case measure => simp [intOf]; omega
            · have hto : to ≤ m9 := by
                have h1 := (WF9.out _ (PIN.out true fr to hpm)).2 rfl
                simp only at h1
                omega
              have hto2 : (to : Int) ≤ (m9 : Int) := by omega
              have hfr2 : (fr : Int) ≤ (to : Int) := by omega
              have g3 : decide ((m9 : Int) < to) = false := decide_eq_false (by omega)
              obtain ⟨p5, k5, s5, f5, z5⟩ := slice_midB aa m9 ac fr to (by omega) hto hAc hAn.out
              have LS5 : Hid (∀ W, Below w11.heap.size w11 W → Ls W p5 (bv ((sp1 ⟨true, fr, to⟩).map (bt G A9)))) := by
                intro W hW
                have h1 : Ls W aa (bv ((List.range m9).map (if true = true then A9 else G))) := AD.out.below hW
                have h2 := f5 W _ (by simp) h1
                have h3 := part_bt G A9 true m9 fr to hto
                rw [h3] at h2
                exact h2
              have N5 : Hid (((sp1 ⟨true, fr, to⟩).map (bt G A9)).length = to - fr) := by
                show _ = _
                rw [List.length_map, sp1_length]
              have Z5 : Hid (p5 = none → ((sp1 ⟨true, fr, to⟩).map (bt G A9)).length = 0 ∧ k5 = 0) := by rw [N5.out]; exact z5
              have LB5 : Hid (((spl (ps.take j)).map (bt G A9)).length + ((sp1 ⟨true, fr, to⟩).map (bt G A9)).length < 100000) := by
                show _ < _
                rw [N5.out, List.length_map]
                have := LEN.out
                omega
              clear f5 z5 hp hpm
              go_wp2_with fail
              go_quiet (fail)
              have S6 : Hid (Sp w11 (wr.drewN nq) u10 ((spl (ps.take j)).map (bt G A9))) := ⟨S.out.1, S.out.2.comp (Mv.drewN _ wr nq)⟩
              have e1 : (wr.drewN nq).cell? ⟨b7, off7 + j * 3 + 1, none⟩ = some (.int .i64 fr) := d1
              have e2 : (wr.drewN nq).cell? ⟨b7, off7 + j * 3 + 2, none⟩ = some (.int .i64 to) := d2
              clear S d0 d1 d2 g1 g2 g3
              generalize wr.drewN nq = wq at *
              have BQ : Hid (Below w11.heap.size w11 wq) := S6.out.2.below _ (Nat.le_refl _)
              go_wp2_with fail
              go_region_held3 (fun w' => w'.cell? ⟨b7, off7 + j * 3 + 1, none⟩ = some (.int .i64 fr) ∧ w'.cell? ⟨b7, off7 + j * 3 + 2, none⟩ = some (.int .i64 to)) (first | go_keep | exact KC.out _ bel8)
                ((first
                  | (refine step_append_b (by rfl) (.tmp 137) (.tmp 149) (by rfl) w11.heap.size w11 u10 ((spl (ps.take j)).map (bt G A9)) p5 (to - fr) k5 ((sp1 ⟨true, fr, to⟩).map (bt G A9)) (by rfl) (by rfl) N5.out.symm (by exact S6.out.1) (LS5.out _ (by first | exact BQ.out.drew | exact BQ.out)) LB5.out Z5.out (by first | exact BQ.out.drew | exact BQ.out) (Nat.le_refl _) ?_; intro v8 W8 own8 gr8 bel8)))
              have S8 : Hid (Sp w11 W8 v8 ((spl (ps.take (j + 1))).map (bt G A9))) := by
                rw [TS.out, List.map_append]
                exact ⟨own8, qt_of_below bel8⟩
              clear own8 gr8 bel8 S6 BQ e1 e2 s5 LS5 N5 Z5 LB5
              go_wp2_with fail
              go_roundw
              case rel => exact ⟨j + 1, by omega, by go_num, S8⟩
              case measure => simp [intOf]; omega
          · obtain rfl : j = np := by omega
            have ES : (spl (ps.take j)).map (bt G A9) = L9.map (bt G A9) := by
              rw [List.take_of_length_le (by have := NP.out; omega), SPN.out]
            have S3 := S.out
            rw [ES] at S3
            obtain ⟨a4, c4, e4, cv⟩ := conv_list _ _ _ _ S3.1
            subst e4
            have S12 := S11.out.qt S3.2
            obtain ⟨a5, c5, e5, cv2⟩ := conv_list _ _ _ _ S12.row
            have hk9' : (L9.map (bt G A9)).length = k9 := by rw [List.length_map]; exact K9.out.symm
            rw [hk9'] at cv cv2 e5 ⊢
            cases e5
            obtain ⟨tx, htx⟩ : ∃ tx, tx = strOfNums (L9.map (bt G A9)) := ⟨_, rfl⟩
            rw [← htx] at cv cv2
            have S12 : Hid (SwAt w _ q nb G (.slice na9 k9 nc9) L9 m9 A9 _) := S12
            clear S S3 ES hk9' htx S11
            go_wp2_with fail
            refine (len_any S12.out.tx).mono ?_
            rintro e w13 ⟨rfl, q13⟩
            rw [← K9.out]
            have S13 : Hid (∃ L m A Y, SwAt w w13 q nb G (.slice na9 k9 nc9) L m A Y ∧ L.length ≤ 200 + 100 * (i + 1) ∧ m ≤ 100 * (i + 1)) := ⟨L9, m9, A9, _, S12.out.qt q13.out, BD, BM⟩
            clear S12 q13 cv cv2
            go_wp2_with fail
            go_roundw
            case rel => exact ⟨i + 1, by omega, by go_num, S13⟩
            case measure => simp [intOf]; omega
    · obtain rfl : i = ka := by omega
      obtain ⟨L, m, A, Y, sw, _, _⟩ := S.out
      have BL : Hid (Below w.heap.size w wr) := sw.bel
      clear sw S
      go_wp2_with fail
      go_ret
      exact ⟨rfl, BL.out⟩
end Go.Proofs.Ytjelclomigmlmaa
