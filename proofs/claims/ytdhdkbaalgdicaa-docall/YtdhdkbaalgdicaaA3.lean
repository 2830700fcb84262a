/- DocAll. -/
import Derived.Test.YtdhdkbaalgdicaaLC
import Derived.Test.YtdhdkbaalgdicaaA5
import Derived.Deep.CutRange
import Derived.Deep.CutBlock
namespace Go.Proofs.Ytdhdkbaalgdicaa
open Go.RowKit
set_option linter.unusedVariables false

/-- A round of windows: the text over its file, and what it spells; rows in J are kept too. -/
structure Rn (w w5 wr : World) (dp fq q : Nat) (d : Pd) (mo : Int) (l R : List Int) (L : List Bt) (m : Nat) (A : Nat → Int) (vn : Value) (f0 : Nat → Int) (J : Nat → Prop) (B : Nat) : Prop where
  D : Dd w wr dp fq q d mo l (fun _ => false) R L m A (fun j => vn.ownBlock = some j ∨ J j)
  ob : OB wr w5.heap.size vn (L.map (bt f0 A))
  R : R.length ≤ B
section
variable {w w5 wr w' : World} {dp fq q : Nat} {d : Pd} {mo : Int} {l R : List Int} {L : List Bt} {m : Nat} {A : Nat → Int} {vn : Value} {f0 : Nat → Int} {J : Nat → Prop} {B : Nat}
theorem Rn.qt (h : Rn w w5 wr dp fq q d mo l R L m A vn f0 J B) (k : Qt wr w') : Rn w w5 w' dp fq q d mo l R L m A vn f0 J B := ⟨Dd.qt h.D k, k.owns h.ob (fun _ _ h => h), h.R⟩
theorem Rn.mono {C : Nat} {I : Nat → Prop} (h : Rn w w5 wr dp fq q d mo l R L m A vn f0 J B) (k : B ≤ C) (hI : ∀ j, I j → J j) : Rn w w5 wr dp fq q d mo l R L m A vn f0 I C := ⟨Dd.monoK h.D (fun j hj => hj.imp id (hI j)), h.ob, Nat.le_trans h.R k⟩
theorem Rn.left {X : List Bt} (h : Rn w w5 wr dp fq q d mo l R L m A vn f0 J B) (k : Left8 w wr w' dp fq q d mo (fun _ => false) R L m A (fun j => vn.ownBlock = some j ∨ J j) X) (n : Nat) (hn : X.length ≤ n) : (∃ l' R', Rn w w5 w' dp fq q d mo l' R' L m A vn f0 J (B + n)) ∧ Mv (fun j => ¬ (vn.ownBlock = some j ∨ J j)) wr w' := by
  obtain ⟨l', R', D', M, rd⟩ := k
  exact ⟨⟨l', R', D', M.owns h.ob (fun j hj e => e (.inl hj)), by have := rd.2; have := h.R; omega⟩, M⟩
theorem Rn.told {X : List Bt} {xa : Option Addr} {v : Value} (h : Rn w w5 wr dp fq q d mo l R L m A vn f0 J B) (k : Told8 w wr w' dp fq q d mo (fun _ => false) R L m A (fun j => vn.ownBlock = some j ∨ J j) X xa v) (n : Nat) (hn : X.length ≤ n) : (∃ l' R', Rn w w5 w' dp fq q d mo l' R' L m A vn f0 (fun j => bk xa = some j) (B + n)) ∧ OB w' wr.heap.size v (X.map (bt d.f A)) := by
  obtain ⟨l', R', D', O, M, rd⟩ := k
  exact ⟨⟨l', R', Dd.monoK D' (fun j hj => hj.imp .inl id), M.owns h.ob (fun j hj e => e (.inl hj)), by have := rd.2; have := h.R; omega⟩, O⟩
end

set_option maxHeartbeats 8000000 in
set_option maxRecDepth 20000 in
theorem all_walk (w : World) (a0 : Option Addr) (n c0 : Nat) (f0 : Nat → Int) (s0 : Hid (Sl w a0 n (By f0))) (y : Int) (hy0 : 0 ≤ y) (hy1 : y ≤ 255) (y2 : Int) (hz0 : 0 ≤ y2) (hz1 : y2 ≤ 255) (u : Option Addr) (ka kc : Nat) (hA : Hid (So w u ka)) (aw : Option Addr) (nw cw : Nat) (fw : Nat → Int) (sw : Hid (Sl w aw nw (In fw))) (ow : Hid (∀ i, (Lit.int .i64 (fw i)).wf = true)) (hn : n ≤ 200) (hka : ka ≤ 10) (hnw : nw ≤ 30) :
    Calls Try.prog 3 #[.slice a0 n c0, .int .u8 y, .int .u8 y2, .slice u ka kc, .slice aw nw cw] w fun e w' => e = .returned (.bool true) ∧ Below w.heap.size w w' := by
  have z2 : (n : Int) ≤ 200 := by omega
  have z4 : (ka : Int) ≤ 10 := by omega
  have z6 : (nw : Int) ≤ 30 := by omega
  obtain ⟨sz, hsz⟩ : ∃ sz : Nat, (1 : Int) + y % 20 = sz := ⟨(1 + y % 20).toNat, by omega⟩
  have hsz0 : 0 < sz := by omega
  have hsz1 : sz ≤ 20 := by omega
  obtain ⟨mo, hmo⟩ : ∃ mo : Nat, y2 % 4 = mo := ⟨(y2 % 4).toNat, by omega⟩
  have hmo3 : mo ≤ 3 := by omega
  go_enter Try.func3, Try.ntmps3
  go_wp2_with fail
  refine (begun7 w).mono ?_
  rintro e w1 ⟨rfl, B0⟩
  have S0 : Hid (Sl w1 a0 n (By f0)) := s0.out.below B0.out
  go_wp2_with fail
  refine (new_ok a0 n c0 sz f0 w1 (by omega) hsz0 (by omega) S0).mono ?_
  rintro e W1 ⟨d, rfl, hd, P1, B1⟩
  have B2 : Hid (Below w.heap.size w W1) := B0.out.trans (B1.out.mono B0.out.size)
  have D0 : Hid (w.heap.size ≤ d.base) := by show _ ≤ _; rw [hd.out.1]; exact B0.out.size
  have DN : Hid (d.n = n) := hd.out.2.2.1
  have DZ : Hid (d.sz = sz) := hd.out.2.2.2.1
  have DF : Hid (d.f = f0) := hd.out.2.2.2.2
  have DT : Hid (d.top = W1.heap.size) := hd.out.2.1
  clear B1 B0 S0 hd
  go_wp2_with fail
  refine (new_any n (by omega) W1).mono ?_
  rintro e w2 ⟨q, rfl, hq, T2⟩
  go_wp2_with fail
  refine (newText_new n (by omega) w2).mono ?_
  rintro e w3 ⟨rfl, vl0, T3⟩
  have ED0 : Hid (∃ Y, Ed w w3 d q (sp1 ⟨false, 0, n⟩) 0 (fun _ => 0) w2.heap.size vl0 (.slice none 0 0) Y) := Ed.new P1.out B2.out D0.out DT.out (by rw [DN.out]; exact T2.out.1) T2.out.2 T3.out.1 T3.out.2.1 T3.out.2.2
  obtain ⟨r, hr⟩ : ∃ r, r = w2.heap.size := ⟨_, rfl⟩
  rw [← hr] at ED0
  rw [← hr]
  clear hr T3 T2 P1 B2 D0 DT hq
  go_wp2_with fail
  go_loopw [15] (fun vi wr => ∃ i : Nat, i ≤ ka ∧ vi = .int .i64 i ∧ Hid (∃ L m A vl va Y, Ed w wr d q L m A r vl va Y ∧ L.length ≤ 200 + 100 * i ∧ m ≤ 100 * i)) (fun vi _ => ka - (intOf vi).toNat)
  case atStart =>
    obtain ⟨Y, E⟩ := ED0.out
    exact ⟨0, by omega, rfl, _, _, _, _, _, _, E, by rw [sp1_length]; show n - 0 ≤ _; omega, by omega⟩
  case round =>
    clear ED0
    obtain ⟨i, hi, rfl, S⟩ := hrel
    by_cases hlt : i < ka
    · have hltz : (i : Int) < (ka : Int) := by omega
      obtain ⟨L, m, A, vl, va, Y, ed, x1, x2⟩ := S.out
      have E : Hid (Ed w wr d q L m A r vl va Y) := ed
      obtain ⟨b, off, o, rfl, hb, oq⟩ := hA.out i hlt
      have OQ : Hid (OqAt w b (off + i * 4) o) := oq
      have o2 := oq.below ed.al.bel
      have c0 := o2.c0
      have c1 := o2.c1
      have c2 := o2.c2
      clear oq o2 S
      by_cases hk : 100 < o.sn
      · have hkz : (100 : Int) < o.sn := by omega
        have BL : Hid (Below w.heap.size w wr) := ed.al.bel
        clear ed E
        go_wp2_with fail
        go_ret
        exact ⟨rfl, BL.out⟩
      · have hkz : (o.sn : Int) ≤ 100 := by omega
        have hsn : o.sn ≤ 100 := by omega
        have KP : Hid (∀ W, Below w.heap.size w W → W.cell? ⟨b, off + i * 4, none⟩ = some (.int .i64 o.a) ∧ W.cell? ⟨b, off + i * 4 + 1, none⟩ = some (.int .i64 o.b) ∧ W.cell? ⟨b, off + i * 4 + 2, none⟩ = some (.slice o.sa o.sn o.sc)) := fun W hW => ⟨(OQ.out.below hW).c0, (OQ.out.below hW).c1, (OQ.out.below hW).c2⟩
        have OQS : Hid (∀ W, Below w.heap.size w W → Sl W o.sa o.sn (By o.f)) := fun W hW => (OQ.out.below hW).sl
        have OQN : Hid (o.sa = none → o.sn = 0 ∧ o.sc = 0) := OQ.out.none
        obtain ⟨xa, xb, sa, sn, sc, f, cp⟩ := o
        simp only at c0 c1 c2 hkz KP OQS OQN hsn
        obtain ⟨la, lc, rfl, -⟩ := ow_ls ed.al.rx.ll
        have r0 := ed.al.rx.c0
        obtain ⟨k, hkL⟩ : ∃ k, k = L.length := ⟨_, rfl⟩
        have KL : Hid (k = L.length) := hkL
        rw [← hkL] at r0 x1
        have R0 : Hid (wr.cell? ⟨r, 0, none⟩ = some (.slice la k lc)) := r0
        clear ed OQ hk hkL
        have hw1 : IntKind.i64.wrap ((k : Int) + 1) = (k : Int) + 1 := wrap_small (by omega) (by omega)
        have PL := fun W => placeOf_any xa (k + 1) (by omega) (by omega) W
        rw [show ((k + 1 : Nat) : Int) = (k : Int) + 1 by omega] at PL
        go_wp2_with fail
        go_region_held3 (fun w' => w'.cell? ⟨b, off + i * 4, none⟩ = some (.int .i64 xa) ∧ w'.cell? ⟨r, 0, none⟩ = some (.slice la k lc)) (first | go_keep)
          ((first
            | (go_at_call 11; refine (PL _).mono ?_; rintro e w4 ⟨y1, rfl, hy1, hw⟩; obtain rfl := hw)))
        have E4 : Hid (Ed w wr.drew d q L m A r (.slice la L.length lc) va (fun j => Y j ∨ wr.heap.size ≤ j ∧ j < wr.drew.heap.size)) := E.out.qt (Mv.drewN _ wr 1)
        have R4 : Hid (wr.drew.cell? ⟨r, 0, none⟩ = some (.slice la k lc)) := R0.out
        generalize (fun j => Y j ∨ wr.heap.size ≤ j ∧ j < wr.drew.heap.size) = Y4 at E4
        clear E R0 r0 c0 c1 c2 PL hw1
        obtain ⟨w4, hw4⟩ : ∃ w4, w4 = wr.drew := ⟨_, rfl⟩
        rw [← hw4] at E4 R4
        rw [← hw4]
        clear hw4
        have c1 := (KP.out _ E4.out.al.bel).2.1
        have r0 := R4.out
        obtain ⟨dd, hdd⟩ : ∃ dd : Nat, (k : Int) - y1 = (dd : Int) := ⟨k - y1, by omega⟩
        have hd2 : dd ≤ k := by omega
        have hw2 : IntKind.i64.wrap (dd : Int) = (dd : Int) := wrap_small (by omega) (by omega)
        have hw3 : IntKind.i64.wrap ((dd : Int) + 1) = (dd : Int) + 1 := wrap_small (by omega) (by omega)
        have PL2 := fun W => placeOf_any xb (dd + 1) (by omega) (by omega) W
        rw [show ((dd + 1 : Nat) : Int) = (dd : Int) + 1 by omega] at PL2
        go_wp2_with fail
        go_region_held3 (fun w' => w'.cell? ⟨b, off + i * 4 + 1, none⟩ = some (.int .i64 xb) ∧ w'.cell? ⟨r, 0, none⟩ = some (.slice la k lc)) (first | go_keep)
          ((first
            | (go_at_call 11; refine (PL2 _).mono ?_; rintro e w5 ⟨y2, rfl, hy2, hw⟩; obtain rfl := hw; have hw4 : IntKind.i64.wrap ((y1 : Int) + (y2 : Int)) = (y1 : Int) + y2 := wrap_small (by omega) (by omega))))
        have E5 : Hid (Ed w w4.drew d q L m A r (.slice la L.length lc) va (fun j => Y4 j ∨ w4.heap.size ≤ j ∧ j < w4.drew.heap.size)) := E4.out.qt (Mv.drewN _ w4 1)
        generalize (fun j => Y4 j ∨ w4.heap.size ≤ j ∧ j < w4.drew.heap.size) = Y5 at E5
        clear E4 R4 r0 c1 PL2 hw2 hw3 hw4
        obtain ⟨w5, hw5⟩ : ∃ w5, w5 = w4.drew := ⟨_, rfl⟩
        rw [← hw5] at E5
        rw [← hw5]
        clear hw5
        have c2 := (KP.out _ E5.out.al.bel).2.2
        obtain ⟨z, hz⟩ : ∃ z : Nat, (y1 : Int) + y2 = (z : Int) := ⟨y1 + y2, by omega⟩
        have hyz : y1 ≤ z := by omega
        have hzk : z ≤ k := by omega
        have EDC := edit_ok (h := (E5.out.al.tx : Hid _)) y1 z sa sn sc f hyz (by rw [← KL.out]; exact hzk) (by omega) (OQS.out _ E5.out.al.bel) OQN (by omega) (by rw [← KL.out]; omega)
        go_wp2_with fail
        refine EDC.mono ?_
        rintro e w6 ⟨rfl, F6⟩
        clear EDC c2
        have B6 : Hid (Below w.heap.size w w6) := Tx.edit E5.out.al.bel F6.out.2 (Nat.le_refl _) E5.out.al.low
        have RX6 : Hid (RxAt w6 r L m A (.slice la L.length lc) va) := E5.out.al.rx.mv F6.out.2 (fun h => h E5.out.al.yr) (fun j e h => h (E5.out.al.yl j e)) (fun j e h => h (E5.out.al.ya j e))
        have c2 := (KP.out _ B6.out).2.2
        have EDC := redit_ok RX6 y1 z sa sn sc f hyz (by rw [← KL.out]; exact hzk) (by omega) (OQS.out _ B6.out) OQN (by omega) (by rw [← KL.out]; omega)
        go_wp2_with fail
        refine EDC.mono ?_
        rintro e w7 ⟨rfl, vl7, va7, F7⟩
        clear EDC c2
        have FIN : Hid (∃ L m A vl va Y, Ed w w7 d q L m A r vl va Y ∧ L.length ≤ 200 + 100 * (i + 1) ∧ m ≤ 100 * (i + 1)) := by
          refine ⟨_, _, _, _, _, _, E5.out.edited F6.out.1 F6.out.2 F7.out.1 F7.out.2.1 F7.out.2.2.1 F7.out.2.2.2, ?_, by omega⟩
          rw [ins_length _ _ _ _ _ hyz (by rw [← KL.out]; exact hzk), ← KL.out]
          omega
        clear F6 F7 E5 RX6 B6
        go_wp2_with fail
        exact ⟨⟨i + 1, by omega, by go_num, FIN⟩, by simp [intOf]; omega⟩
    · obtain rfl : i = ka := by omega
      obtain ⟨L, m, A, vl, va, Y, ed, x1, x2⟩ := S.out
      have WF : Hid (Wf d.n m L) := ed.al.wf
      obtain ⟨k, hkL⟩ : ∃ k, k = L.length := ⟨_, rfl⟩
      have KL : Hid (k = L.length) := hkL
      rw [← hkL] at x1
      have hk1 : k ≤ 1200 := by omega
      have hm1 : m ≤ 1000 := by omega
      have FC := ed.file mo
      clear ed S hkL x1 x2 hi hlt
      go_wp2_with fail
      refine FC.mono ?_
      rintro e w4 ⟨fq, rfl, D4⟩
      clear FC
      go_wp2_with fail
      refine (dnew_any _ _ w4).mono ?_
      rintro e w5 ⟨rfl, hw⟩
      obtain ⟨dp, hdp⟩ : ∃ dp, dp = w4.heap.size := ⟨_, rfl⟩
      rw [← hdp, ← hw] at D4
      rw [← hdp]
      clear hw hdp
      have SP := spell_any w5 a0 n c0 f0 D4.out.2 (s0.out.below (Dd.B D4.out.1)) (by rw [← DN.out]; exact WF.out) (by rw [← KL.out]; omega) (by omega) (by omega)
      go_wp2_with fail
      refine SP.mono ?_
      rintro e w6 ⟨v6, rfl, H6⟩
      clear SP
      have hlk : (L.map (bt f0 A)).length = k := by rw [List.length_map]; exact KL.out.symm
      obtain ⟨na, nc, rfl, _, hcap, hnn, _⟩ := ow_ls H6.out.1
      rw [hlk] at H6 hcap hnn ⊢
      have HC : Hid (k ≤ nc ∧ (na = none → k = 0 ∧ nc = 0)) := ⟨hcap, hnn⟩
      have RN0 : Hid (Rn w w5 w6 dp fq q d mo [] [] L m A (.slice na k nc) f0 (fun _ => False) 0) := by
        refine ⟨Dd.monoK (Dd.add D4.out.1 H6.out.2 (fun j => (Value.slice na k nc).ownBlock = some j) (fun j hj => ow_blk H6.out.1 j hj)) (fun j hj => .inr (hj.resolve_right id)), ?_, Nat.le_refl _⟩
        have := H6.out.1
        exact this
      clear H6 D4 hcap hnn hlk
      have LN := Dd.len (h := (RN0.out.D : Hid _))
      rw [← KL.out] at LN
      go_wp2_with fail
      refine LN.mono ?_
      rintro e w7 ⟨rfl, q7⟩
      clear LN
      have RN : Hid (Rn w w5 w7 dp fq q d mo [] [] L m A (.slice na k nc) f0 (fun _ => False) 0) := RN0.out.qt q7.out
      clear RN0 q7
      go_wp2_with fail
      go_loopw [20] (fun vi wr => ∃ j i : Nat, i = 2 * j ∧ i ≤ nw + 1 ∧ vi = .int .i64 i ∧ Hid (∃ l R, Rn w w5 wr dp fq q d mo l R L m A (.slice na k nc) f0 (fun _ => False) (1201 * j))) (fun vi _ => nw + 2 - (intOf vi).toNat)
      case atStart => exact ⟨0, 0, rfl, by omega, rfl, [], [], RN⟩
      case round =>
        clear RN
        obtain ⟨j, i2, hij, hi2, rfl, S2⟩ := hrel
        have HIJ : Hid (i2 = 2 * j) := hij
        clear hij
        by_cases hlt : i2 + 1 < nw
        · have hltz : (i2 : Int) + 1 < (nw : Int) := by omega
          have hi30 : (i2 : Int) ≤ 30 := by omega
          obtain ⟨wb, wo, rfl, hwb, hca0⟩ := sw.out i2 (by omega)
          obtain ⟨wb2, wo2, e2, _, hcb0⟩ := sw.out (i2 + 1) hlt
          cases e2
          obtain ⟨ia, hia⟩ : ∃ ia, ia = fw i2 := ⟨_, rfl⟩
          obtain ⟨ib, hib⟩ : ∃ ib, ib = fw (i2 + 1) := ⟨_, rfl⟩
          have KP : Hid (∀ W, Below w.heap.size w W → W.cell? ⟨wb, wo + i2, none⟩ = some (.int .i64 ia) ∧ W.cell? ⟨wb, wo + (i2 + 1), none⟩ = some (.int .i64 ib)) := fun W bl => ⟨by rw [hia]; exact (bl.cell (p := ⟨wb, wo + i2, none⟩) hwb).trans hca0, by rw [hib]; exact (bl.cell (p := ⟨wb, wo + (i2 + 1), none⟩) hwb).trans hcb0⟩
          have WA : Hid (-9223372036854775808 ≤ ia ∧ ia ≤ 9223372036854775807) := by rw [hia]; exact b64 (ow.out i2)
          clear hca0 hcb0 hia hib
          obtain ⟨l, R, RN⟩ := S2.out
          have RN : Hid (Rn w w5 wr dp fq q d mo l R L m A (.slice na k nc) f0 (fun _ => False) (1201 * j)) := RN
          clear S2
          have c0 := (KP.out _ (Dd.B RN.out.D)).1
          have c1 := (KP.out _ (Dd.B RN.out.D)).2
          have hw1 : IntKind.i64.wrap ((i2 : Int) + 1) = (i2 : Int) + 1 := wrap_small (by omega) (by omega)
          have i20 : (0 : Int) ≤ (i2 : Int) := by omega
          have i21 : (0 : Int) ≤ (i2 : Int) + 1 := by omega
          have i22 : i2 < nw := by omega
          have i23 : (i2 : Int) < nw := by omega
          have QB : Hid (∀ W, Qt wr.drew W → Below w.heap.size w W) := fun W hW => (Dd.B RN.out.D).trans (Qt.below (Qt.comp (Mv.drewN _ wr 1) hW) _ (Dd.B RN.out.D).size)
          by_cases ha0 : ia < 0
          · as_aux_lemma =>
              have BA := Dd.bytes_arg (h := (Dd.qt RN.out.D (Mv.drewN _ wr 1) : Hid _)) ia ib (.inl ha0)
              go_wp2_with fail
              go_region_held3 (fun w' => w'.cell? ⟨wb, wo + i2, none⟩ = some (.int .i64 ia) ∧ w'.cell? ⟨wb, wo + (i2 + 1), none⟩ = some (.int .i64 ib)) (first | go_keep | exact KP.out _ (QB.out _ q8.out))
                ((first
                  | (go_at_call 18; refine BA.mono ?_; rintro e w8 ⟨rfl, q8⟩)))
              have RN8 : Hid (Rn w w5 w8 dp fq q d mo l R L m A (.slice na k nc) f0 (fun _ => False) (1201 * j + 1200)) := (RN.out.qt (Qt.comp (Mv.drewN _ wr 1) q8.out)).mono (by omega) (fun _ h => h)
              clear RN q8 c0 c1 BA QB
              have c0 := (KP.out _ (Dd.B RN8.out.D)).1
              have AT := Dd.at_arg (h := (RN8.out.D : Hid _)) ia (.inl ha0) WA.out.2
              go_wp2_with fail
              refine AT.mono ?_
              rintro e w9 ⟨rfl, q9⟩
              clear AT c0
              have RN9 : Hid (Rn w w5 w9 dp fq q d mo l R L m A (.slice na k nc) f0 (fun _ => False) (1201 * (j + 1))) := (RN8.out.qt q9.out).mono (by omega) (fun _ h => h)
              clear q9
              have c0 := (KP.out _ (Dd.B RN9.out.D)).1
              have c1 := (KP.out _ (Dd.B RN9.out.D)).2
              clear RN8
              go_wp2_with fail
              go_quiet (fail)
              have RNa : Hid (Rn w w5 (w9.drewN nq) dp fq q d mo l R L m A (.slice na k nc) f0 (fun _ => False) (1201 * (j + 1))) := RN9.out.qt (Mv.drewN _ w9 nq)
              clear RN9 c0 c1
              generalize w9.drewN nq = wx at *
              have c0 := (KP.out _ (Dd.B RNa.out.D)).1
              have c1 := (KP.out _ (Dd.B RNa.out.D)).2
              have FIN : Hid (∃ l R, Rn w w5 wx dp fq q d mo l R L m A (.slice na k nc) f0 (fun _ => False) (1201 * (j + 1))) := ⟨_, _, RNa.out.mono (Nat.le_refl _) (fun _ h => h.elim)⟩
              clear RNa
              go_wp2_with fail
              exact ⟨⟨j + 1, i2 + 2, by have := HIJ.out; omega, by omega, by go_num, FIN⟩, by simp [intOf]; omega⟩
          · obtain ⟨an, rfl⟩ : ∃ an : Nat, ia = (an : Int) := ⟨ia.toNat, by omega⟩
            clear ha0
            have hq0 : (0 : Int) ≤ (an : Int) := by omega
            have hq1 : decide ((an : Int) < 0) = false := decide_eq_false (by omega)
            by_cases hba : ib < (an : Int)
            · have hd1 : decide (ib < (an : Int)) = true := decide_eq_true hba
              by_cases hak : (an : Int) < k
              · as_aux_lemma =>
                  have BA := Dd.bytes_arg (h := (Dd.qt RN.out.D (Mv.drewN _ wr 1) : Hid _)) (an : Int) ib (.inr (.inl hba))
                  go_wp2_with fail
                  go_region_held3 (fun w' => w'.cell? ⟨wb, wo + i2, none⟩ = some (.int .i64 (an : Int)) ∧ w'.cell? ⟨wb, wo + (i2 + 1), none⟩ = some (.int .i64 ib)) (first | go_keep | exact KP.out _ (QB.out _ q8.out))
                    ((first
                      | (go_at_call 18; refine BA.mono ?_; rintro e w8 ⟨rfl, q8⟩)))
                  have RN8 : Hid (Rn w w5 w8 dp fq q d mo l R L m A (.slice na k nc) f0 (fun _ => False) (1201 * j + 1200)) := (RN.out.qt (Qt.comp (Mv.drewN _ wr 1) q8.out)).mono (by omega) (fun _ h => h)
                  clear RN q8 c0 c1 BA QB
                  have c0 := (KP.out _ (Dd.B RN8.out.D)).1
                  obtain ⟨x0, hx0⟩ : ∃ x, L[an]? = some x := ⟨L[an]'(by rw [← KL.out]; omega), List.getElem?_eq_getElem _⟩
                  have HX0 : Hid (L[an]? = some x0) := hx0
                  obtain ⟨zv, hzv⟩ : ∃ zv, zv = bt f0 A x0 := ⟨_, rfl⟩
                  have HZV : Hid (zv = bt f0 A x0) := hzv
                  have AT := Dd.at (h := (RN8.out.D : Hid _)) an x0 hx0 (by have := RN8.out.R; have := HIJ.out; omega) (gd_none _ _)
                  rw [DF.out, ← hzv] at AT
                  clear hx0 hzv
                  go_wp2_with fail
                  refine AT.mono ?_
                  rintro e w9 ⟨rfl, T9⟩
                  clear AT c0
                  obtain ⟨⟨l9, R9, RN90⟩, M9⟩ := RN8.out.left T9.out 1 (by simp)
                  have RN9 : Hid (Rn w w5 w9 dp fq q d mo l9 R9 L m A (.slice na k nc) f0 (fun _ => False) (1201 * (j + 1))) := RN90.mono (by omega) (fun _ h => h)
                  clear M9 T9 RN90
                  have c0 := (KP.out _ (Dd.B RN9.out.D)).1
                  have c1 := (KP.out _ (Dd.B RN9.out.D)).2
                  clear RN8
                  go_wp2_with fail
                  go_quiet (fail)
                  have RNa : Hid (Rn w w5 (w9.drewN nq) dp fq q d mo l9 R9 L m A (.slice na k nc) f0 (fun _ => False) (1201 * (j + 1))) := RN9.out.qt (Mv.drewN _ w9 nq)
                  clear RN9 c0 c1
                  generalize w9.drewN nq = wx at *
                  have c0 := (KP.out _ (Dd.B RNa.out.D)).1
                  have c1 := (KP.out _ (Dd.B RNa.out.D)).2
                  obtain ⟨nb, no, hna, _, hcn0⟩ : ∃ nb no, na = some ⟨nb, no, none⟩ ∧ nb < wx.heap.size ∧ wx.cell? ⟨nb, no + an, none⟩ = some (.int .u8 zv) := by
                    obtain ⟨a2, c2, e2, h2, _⟩ := ow_ls RNa.out.ob
                    cases e2
                    exact h2 an _ (by rw [bv, List.getElem?_map, List.getElem?_map, HX0.out, HZV.out]; rfl)
                  subst hna
                  have FIN : Hid (∃ l R, Rn w w5 wx dp fq q d mo l R L m A (.slice (some ⟨nb, no, none⟩) k nc) f0 (fun _ => False) (1201 * (j + 1))) := ⟨_, _, RNa.out.mono (Nat.le_refl _) (fun _ h => h.elim)⟩
                  clear RNa
                  go_wp2_with fail
                  exact ⟨⟨j + 1, i2 + 2, by have := HIJ.out; omega, by omega, by go_num, FIN⟩, by simp [intOf]; omega⟩
              · have hka2 : (k : Int) ≤ an := by omega
                as_aux_lemma =>
                  have BA := Dd.bytes_arg (h := (Dd.qt RN.out.D (Mv.drewN _ wr 1) : Hid _)) (an : Int) ib (.inr (.inl hba))
                  go_wp2_with fail
                  go_region_held3 (fun w' => w'.cell? ⟨wb, wo + i2, none⟩ = some (.int .i64 (an : Int)) ∧ w'.cell? ⟨wb, wo + (i2 + 1), none⟩ = some (.int .i64 ib)) (first | go_keep | exact KP.out _ (QB.out _ q8.out))
                    ((first
                      | (go_at_call 18; refine BA.mono ?_; rintro e w8 ⟨rfl, q8⟩)))
                  have RN8 : Hid (Rn w w5 w8 dp fq q d mo l R L m A (.slice na k nc) f0 (fun _ => False) (1201 * j + 1200)) := (RN.out.qt (Qt.comp (Mv.drewN _ wr 1) q8.out)).mono (by omega) (fun _ h => h)
                  clear RN q8 c0 c1 BA QB
                  have c0 := (KP.out _ (Dd.B RN8.out.D)).1
                  have AT := Dd.at_arg (h := (RN8.out.D : Hid _)) (an : Int) (.inr (by rw [← KL.out]; exact hka2)) WA.out.2
                  go_wp2_with fail
                  refine AT.mono ?_
                  rintro e w9 ⟨rfl, q9⟩
                  clear AT c0
                  have RN9 : Hid (Rn w w5 w9 dp fq q d mo l R L m A (.slice na k nc) f0 (fun _ => False) (1201 * (j + 1))) := (RN8.out.qt q9.out).mono (by omega) (fun _ h => h)
                  clear q9
                  have c0 := (KP.out _ (Dd.B RN9.out.D)).1
                  have c1 := (KP.out _ (Dd.B RN9.out.D)).2
                  clear RN8
                  go_wp2_with fail
                  go_quiet (fail)
                  have RNa : Hid (Rn w w5 (w9.drewN nq) dp fq q d mo l R L m A (.slice na k nc) f0 (fun _ => False) (1201 * (j + 1))) := RN9.out.qt (Mv.drewN _ w9 nq)
                  clear RN9 c0 c1
                  generalize w9.drewN nq = wx at *
                  have c0 := (KP.out _ (Dd.B RNa.out.D)).1
                  have c1 := (KP.out _ (Dd.B RNa.out.D)).2
                  have FIN : Hid (∃ l R, Rn w w5 wx dp fq q d mo l R L m A (.slice na k nc) f0 (fun _ => False) (1201 * (j + 1))) := ⟨_, _, RNa.out.mono (Nat.le_refl _) (fun _ h => h.elim)⟩
                  clear RNa
                  go_wp2_with fail
                  exact ⟨⟨j + 1, i2 + 2, by have := HIJ.out; omega, by omega, by go_num, FIN⟩, by simp [intOf]; omega⟩
            · have hab : (an : Int) ≤ ib := by omega
              clear hba
              have hd1 : decide (ib < (an : Int)) = false := decide_eq_false (by omega)
              by_cases hkb : (k : Int) < ib
              · have hd2 : decide ((k : Int) < ib) = true := decide_eq_true hkb
                by_cases hak : (an : Int) < k
                · as_aux_lemma =>
                    have BA := Dd.bytes_arg (h := (Dd.qt RN.out.D (Mv.drewN _ wr 1) : Hid _)) (an : Int) ib (.inr (.inr (by rw [← KL.out]; exact hkb)))
                    go_wp2_with fail
                    go_region_held3 (fun w' => w'.cell? ⟨wb, wo + i2, none⟩ = some (.int .i64 (an : Int)) ∧ w'.cell? ⟨wb, wo + (i2 + 1), none⟩ = some (.int .i64 ib)) (first | go_keep | exact KP.out _ (QB.out _ q8.out))
                      ((first
                        | (go_at_call 18; refine BA.mono ?_; rintro e w8 ⟨rfl, q8⟩)))
                    have RN8 : Hid (Rn w w5 w8 dp fq q d mo l R L m A (.slice na k nc) f0 (fun _ => False) (1201 * j + 1200)) := (RN.out.qt (Qt.comp (Mv.drewN _ wr 1) q8.out)).mono (by omega) (fun _ h => h)
                    clear RN q8 c0 c1 BA QB
                    have c0 := (KP.out _ (Dd.B RN8.out.D)).1
                    obtain ⟨x0, hx0⟩ : ∃ x, L[an]? = some x := ⟨L[an]'(by rw [← KL.out]; omega), List.getElem?_eq_getElem _⟩
                    have HX0 : Hid (L[an]? = some x0) := hx0
                    obtain ⟨zv, hzv⟩ : ∃ zv, zv = bt f0 A x0 := ⟨_, rfl⟩
                    have HZV : Hid (zv = bt f0 A x0) := hzv
                    have AT := Dd.at (h := (RN8.out.D : Hid _)) an x0 hx0 (by have := RN8.out.R; have := HIJ.out; omega) (gd_none _ _)
                    rw [DF.out, ← hzv] at AT
                    clear hx0 hzv
                    go_wp2_with fail
                    refine AT.mono ?_
                    rintro e w9 ⟨rfl, T9⟩
                    clear AT c0
                    obtain ⟨⟨l9, R9, RN90⟩, M9⟩ := RN8.out.left T9.out 1 (by simp)
                    have RN9 : Hid (Rn w w5 w9 dp fq q d mo l9 R9 L m A (.slice na k nc) f0 (fun _ => False) (1201 * (j + 1))) := RN90.mono (by omega) (fun _ h => h)
                    clear M9 T9 RN90
                    have c0 := (KP.out _ (Dd.B RN9.out.D)).1
                    have c1 := (KP.out _ (Dd.B RN9.out.D)).2
                    clear RN8
                    go_wp2_with fail
                    go_quiet (fail)
                    have RNa : Hid (Rn w w5 (w9.drewN nq) dp fq q d mo l9 R9 L m A (.slice na k nc) f0 (fun _ => False) (1201 * (j + 1))) := RN9.out.qt (Mv.drewN _ w9 nq)
                    clear RN9 c0 c1
                    generalize w9.drewN nq = wx at *
                    have c0 := (KP.out _ (Dd.B RNa.out.D)).1
                    have c1 := (KP.out _ (Dd.B RNa.out.D)).2
                    obtain ⟨nb, no, hna, _, hcn0⟩ : ∃ nb no, na = some ⟨nb, no, none⟩ ∧ nb < wx.heap.size ∧ wx.cell? ⟨nb, no + an, none⟩ = some (.int .u8 zv) := by
                      obtain ⟨a2, c2, e2, h2, _⟩ := ow_ls RNa.out.ob
                      cases e2
                      exact h2 an _ (by rw [bv, List.getElem?_map, List.getElem?_map, HX0.out, HZV.out]; rfl)
                    subst hna
                    have FIN : Hid (∃ l R, Rn w w5 wx dp fq q d mo l R L m A (.slice (some ⟨nb, no, none⟩) k nc) f0 (fun _ => False) (1201 * (j + 1))) := ⟨_, _, RNa.out.mono (Nat.le_refl _) (fun _ h => h.elim)⟩
                    clear RNa
                    go_wp2_with fail
                    exact ⟨⟨j + 1, i2 + 2, by have := HIJ.out; omega, by omega, by go_num, FIN⟩, by simp [intOf]; omega⟩
                · have hka2 : (k : Int) ≤ an := by omega
                  as_aux_lemma =>
                    have BA := Dd.bytes_arg (h := (Dd.qt RN.out.D (Mv.drewN _ wr 1) : Hid _)) (an : Int) ib (.inr (.inr (by rw [← KL.out]; exact hkb)))
                    go_wp2_with fail
                    go_region_held3 (fun w' => w'.cell? ⟨wb, wo + i2, none⟩ = some (.int .i64 (an : Int)) ∧ w'.cell? ⟨wb, wo + (i2 + 1), none⟩ = some (.int .i64 ib)) (first | go_keep | exact KP.out _ (QB.out _ q8.out))
                      ((first
                        | (go_at_call 18; refine BA.mono ?_; rintro e w8 ⟨rfl, q8⟩)))
                    have RN8 : Hid (Rn w w5 w8 dp fq q d mo l R L m A (.slice na k nc) f0 (fun _ => False) (1201 * j + 1200)) := (RN.out.qt (Qt.comp (Mv.drewN _ wr 1) q8.out)).mono (by omega) (fun _ h => h)
                    clear RN q8 c0 c1 BA QB
                    have c0 := (KP.out _ (Dd.B RN8.out.D)).1
                    have AT := Dd.at_arg (h := (RN8.out.D : Hid _)) (an : Int) (.inr (by rw [← KL.out]; exact hka2)) WA.out.2
                    go_wp2_with fail
                    refine AT.mono ?_
                    rintro e w9 ⟨rfl, q9⟩
                    clear AT c0
                    have RN9 : Hid (Rn w w5 w9 dp fq q d mo l R L m A (.slice na k nc) f0 (fun _ => False) (1201 * (j + 1))) := (RN8.out.qt q9.out).mono (by omega) (fun _ h => h)
                    clear q9
                    have c0 := (KP.out _ (Dd.B RN9.out.D)).1
                    have c1 := (KP.out _ (Dd.B RN9.out.D)).2
                    clear RN8
                    go_wp2_with fail
                    go_quiet (fail)
                    have RNa : Hid (Rn w w5 (w9.drewN nq) dp fq q d mo l R L m A (.slice na k nc) f0 (fun _ => False) (1201 * (j + 1))) := RN9.out.qt (Mv.drewN _ w9 nq)
                    clear RN9 c0 c1
                    generalize w9.drewN nq = wx at *
                    have c0 := (KP.out _ (Dd.B RNa.out.D)).1
                    have c1 := (KP.out _ (Dd.B RNa.out.D)).2
                    have FIN : Hid (∃ l R, Rn w w5 wx dp fq q d mo l R L m A (.slice na k nc) f0 (fun _ => False) (1201 * (j + 1))) := ⟨_, _, RNa.out.mono (Nat.le_refl _) (fun _ h => h.elim)⟩
                    clear RNa
                    go_wp2_with fail
                    exact ⟨⟨j + 1, i2 + 2, by have := HIJ.out; omega, by omega, by go_num, FIN⟩, by simp [intOf]; omega⟩
              · have hbk0 : ib ≤ (k : Int) := by omega
                clear hkb
                obtain ⟨bn, hbn⟩ : ∃ bn : Nat, (bn : Int) = ib := ⟨ib.toNat, by omega⟩
                have HBN : Hid ((bn : Int) = ib) := hbn
                have hanb : an ≤ bn := by omega
                have hbnk : bn ≤ k := by omega
                have hd2 : decide ((k : Int) < ib) = false := decide_eq_false (by omega)
                clear hbn
                by_cases hak : (an : Int) < k
                · as_aux_lemma =>
                    have BA := Dd.bytes (h := (Dd.qt RN.out.D (Mv.drewN _ wr 1) : Hid _)) an bn (by omega) (by rw [← KL.out]; omega) (by have := RN.out.R; have := HIJ.out; omega) (gd_none _ _)
                    obtain ⟨l1, hl1⟩ : ∃ l1, l1 = bn - an := ⟨_, rfl⟩
                    have HL1 : Hid (l1 = bn - an) := hl1
                    rw [← hl1, HBN.out] at BA
                    clear hl1
                    have KB : Hid (∀ W xa v, Told8 w wr.drew W dp fq q d mo (fun _ => false) R L m A (fun j => (Value.slice na k nc).ownBlock = some j ∨ False) ((L.take bn).drop an) xa v → Below w.heap.size w W) := fun W xa v T => by
                      obtain ⟨_, _, D, _⟩ := T
                      exact Dd.B D
                    go_wp2_with fail
                    go_region_held3 (fun w' => w'.cell? ⟨wb, wo + i2, none⟩ = some (.int .i64 (an : Int)) ∧ w'.cell? ⟨wb, wo + (i2 + 1), none⟩ = some (.int .i64 ib)) (first | go_keep | exact KP.out _ (KB.out _ _ _ T8.out))
                      ((first
                        | (go_at_call 18; refine BA.mono ?_; rintro e w8 ⟨xa, xc, rfl, T8⟩)))
                    obtain ⟨⟨l8, R8, RN80⟩, O80⟩ := (RN.out.qt (Mv.drewN _ wr 1)).told T8.out 1200 (by rw [mid_len L an bn (by rw [← KL.out]; omega)]; omega)
                    have RN8 : Hid (Rn w w5 w8 dp fq q d mo l8 R8 L m A (.slice na k nc) f0 (fun j => bk xa = some j) (1201 * j + 1200)) := RN80
                    have O8 : Hid (OB w8 wr.heap.size (.slice xa l1 xc) (((L.take bn).drop an).map (bt d.f A))) := O80
                    clear RN RN80 O80 T8 c0 c1 BA QB KB
                    have c0 := (KP.out _ (Dd.B RN8.out.D)).1
                    obtain ⟨x0, hx0⟩ : ∃ x, L[an]? = some x := ⟨L[an]'(by rw [← KL.out]; omega), List.getElem?_eq_getElem _⟩
                    have HX0 : Hid (L[an]? = some x0) := hx0
                    obtain ⟨zv, hzv⟩ : ∃ zv, zv = bt f0 A x0 := ⟨_, rfl⟩
                    have HZV : Hid (zv = bt f0 A x0) := hzv
                    have AT := Dd.at (h := (RN8.out.D : Hid _)) an x0 hx0 (by have := RN8.out.R; have := HIJ.out; omega) (gd_none _ _)
                    rw [DF.out, ← hzv] at AT
                    clear hx0 hzv
                    go_wp2_with fail
                    refine AT.mono ?_
                    rintro e w9 ⟨rfl, T9⟩
                    clear AT c0
                    obtain ⟨⟨l9, R9, RN90⟩, M9⟩ := RN8.out.left T9.out 1 (by simp)
                    have RN9 : Hid (Rn w w5 w9 dp fq q d mo l9 R9 L m A (.slice na k nc) f0 (fun j => bk xa = some j) (1201 * (j + 1))) := RN90.mono (by omega) (fun _ h => h)
                    have O9 : Hid (OB w9 wr.heap.size (.slice xa l1 xc) (((L.take bn).drop an).map (bt d.f A))) := M9.owns O8.out (fun j hj e => e (.inr (by rw [own_blk] at hj; exact hj)))
                    clear O8 M9 T9 RN90
                    have c0 := (KP.out _ (Dd.B RN9.out.D)).1
                    have c1 := (KP.out _ (Dd.B RN9.out.D)).2
                    clear RN8
                    go_wp2_with fail
                    go_quiet (fail)
                    have RNa : Hid (Rn w w5 (w9.drewN nq) dp fq q d mo l9 R9 L m A (.slice na k nc) f0 (fun j => bk xa = some j) (1201 * (j + 1))) := RN9.out.qt (Mv.drewN _ w9 nq)
                    have Oa : Hid (OB (w9.drewN nq) wr.heap.size (.slice xa l1 xc) (((L.take bn).drop an).map (bt d.f A))) := (Mv.drewN (fun _ => False) w9 nq).owns O9.out (fun _ _ h => h)
                    clear O9
                    clear RN9 c0 c1
                    generalize w9.drewN nq = wx at *
                    have c0 := (KP.out _ (Dd.B RNa.out.D)).1
                    have c1 := (KP.out _ (Dd.B RNa.out.D)).2
                    have hlk : Hid ((L.map (bt f0 A)).length = k) := by show _ = _; rw [List.length_map]; exact KL.out.symm
                    obtain ⟨p, kk, hsl, hs2, _⟩ := slice_midB na k nc an bn (by omega) (by omega) HC.out.1 HC.out.2
                    rw [← HL1.out, HBN.out] at hsl
                    have hq : ((L.map (bt f0 A)).drop an).take (bn - an) = ((L.take bn).drop an).map (bt d.f A) := by
                      rw [DF.out, List.map_drop, List.map_take, List.drop_take]
                    have hXl : (((L.take bn).drop an).map (bt d.f A)).length = l1 := by rw [List.length_map, mid_len L an bn (by rw [← KL.out]; omega), HL1.out]
                    have hls : Ls wx p (bv (((L.take bn).drop an).map (bt d.f A))) := by
                      obtain ⟨a2, c2, e2, h2, _⟩ := ow_ls RNa.out.ob
                      cases e2
                      have := hs2 wx _ hlk.out h2
                      rw [hq] at this
                      exact this
                    obtain ⟨tt, htt⟩ : ∃ tt, tt = strOfNums (((L.take bn).drop an).map (bt d.f A)) := ⟨_, rfl⟩
                    have cv1 : ∀ q, (convert 22 9 (.slice xa l1 xc)).run Try.prog (wx.drewN q) = .ok (.string tt) (wx.drewN q) := fun q => by
                      rw [htt]
                      exact conv_row (Mv.owns (Mv.drewN (fun _ => False) wx q) Oa.out (fun _ _ h => h)) hXl
                    have cv2 : ∀ q, (convert 22 9 (.slice p l1 kk)).run Try.prog (wx.drewN q) = .ok (.string tt) (wx.drewN q) := fun q => by
                      have := conv_any p l1 kk _ (wx.drewN q) (by have := ls_sl (hls.qt (Mv.drewN (fun _ => False) wx q)); rw [hXl] at this; exact this)
                      rw [this, htt]
                      congr 2
                      rw [← hXl]
                      exact txt_list _
                    clear hq hXl hls htt hs2
                    go_wp2_with fail
                    go_quiet (fail)
                    have RNb : Hid (Rn w w5 (wx.drewN nq) dp fq q d mo l9 R9 L m A (.slice na k nc) f0 (fun j => bk xa = some j) (1201 * (j + 1))) := RNa.out.qt (Mv.drewN _ wx nq)
                    clear RNa Oa c0 c1 cv1 cv2 hsl
                    generalize wx.drewN nq = wy at *
                    have c0 := (KP.out _ (Dd.B RNb.out.D)).1
                    have c1 := (KP.out _ (Dd.B RNb.out.D)).2
                    obtain ⟨nb, no, hna, _, hcn0⟩ : ∃ nb no, na = some ⟨nb, no, none⟩ ∧ nb < wy.heap.size ∧ wy.cell? ⟨nb, no + an, none⟩ = some (.int .u8 zv) := by
                      obtain ⟨a2, c2, e2, h2, _⟩ := ow_ls RNb.out.ob
                      cases e2
                      exact h2 an _ (by rw [bv, List.getElem?_map, List.getElem?_map, HX0.out, HZV.out]; rfl)
                    subst hna
                    have FIN : Hid (∃ l R, Rn w w5 wy dp fq q d mo l R L m A (.slice (some ⟨nb, no, none⟩) k nc) f0 (fun _ => False) (1201 * (j + 1))) := ⟨_, _, RNb.out.mono (Nat.le_refl _) (fun _ h => h.elim)⟩
                    clear RNb
                    go_wp2_with fail
                    exact ⟨⟨j + 1, i2 + 2, by have := HIJ.out; omega, by omega, by go_num, FIN⟩, by simp [intOf]; omega⟩
                · have hka2 : (k : Int) ≤ an := by omega
                  as_aux_lemma =>
                    have BA := Dd.bytes (h := (Dd.qt RN.out.D (Mv.drewN _ wr 1) : Hid _)) an bn (by omega) (by rw [← KL.out]; omega) (by have := RN.out.R; have := HIJ.out; omega) (gd_none _ _)
                    obtain ⟨l1, hl1⟩ : ∃ l1, l1 = bn - an := ⟨_, rfl⟩
                    have HL1 : Hid (l1 = bn - an) := hl1
                    rw [← hl1, HBN.out] at BA
                    clear hl1
                    have KB : Hid (∀ W xa v, Told8 w wr.drew W dp fq q d mo (fun _ => false) R L m A (fun j => (Value.slice na k nc).ownBlock = some j ∨ False) ((L.take bn).drop an) xa v → Below w.heap.size w W) := fun W xa v T => by
                      obtain ⟨_, _, D, _⟩ := T
                      exact Dd.B D
                    go_wp2_with fail
                    go_region_held3 (fun w' => w'.cell? ⟨wb, wo + i2, none⟩ = some (.int .i64 (an : Int)) ∧ w'.cell? ⟨wb, wo + (i2 + 1), none⟩ = some (.int .i64 ib)) (first | go_keep | exact KP.out _ (KB.out _ _ _ T8.out))
                      ((first
                        | (go_at_call 18; refine BA.mono ?_; rintro e w8 ⟨xa, xc, rfl, T8⟩)))
                    obtain ⟨⟨l8, R8, RN80⟩, O80⟩ := (RN.out.qt (Mv.drewN _ wr 1)).told T8.out 1200 (by rw [mid_len L an bn (by rw [← KL.out]; omega)]; omega)
                    have RN8 : Hid (Rn w w5 w8 dp fq q d mo l8 R8 L m A (.slice na k nc) f0 (fun j => bk xa = some j) (1201 * j + 1200)) := RN80
                    have O8 : Hid (OB w8 wr.heap.size (.slice xa l1 xc) (((L.take bn).drop an).map (bt d.f A))) := O80
                    clear RN RN80 O80 T8 c0 c1 BA QB KB
                    have c0 := (KP.out _ (Dd.B RN8.out.D)).1
                    have AT := Dd.at_arg (h := (RN8.out.D : Hid _)) (an : Int) (.inr (by rw [← KL.out]; exact hka2)) WA.out.2
                    go_wp2_with fail
                    refine AT.mono ?_
                    rintro e w9 ⟨rfl, q9⟩
                    clear AT c0
                    have RN9 : Hid (Rn w w5 w9 dp fq q d mo l8 R8 L m A (.slice na k nc) f0 (fun j => bk xa = some j) (1201 * (j + 1))) := (RN8.out.qt q9.out).mono (by omega) (fun _ h => h)
                    have O9 : Hid (OB w9 wr.heap.size (.slice xa l1 xc) (((L.take bn).drop an).map (bt d.f A))) := q9.out.owns O8.out (fun _ _ h => h)
                    clear O8 q9
                    have c0 := (KP.out _ (Dd.B RN9.out.D)).1
                    have c1 := (KP.out _ (Dd.B RN9.out.D)).2
                    clear RN8
                    go_wp2_with fail
                    go_quiet (fail)
                    have RNa : Hid (Rn w w5 (w9.drewN nq) dp fq q d mo l8 R8 L m A (.slice na k nc) f0 (fun j => bk xa = some j) (1201 * (j + 1))) := RN9.out.qt (Mv.drewN _ w9 nq)
                    have Oa : Hid (OB (w9.drewN nq) wr.heap.size (.slice xa l1 xc) (((L.take bn).drop an).map (bt d.f A))) := (Mv.drewN (fun _ => False) w9 nq).owns O9.out (fun _ _ h => h)
                    clear O9
                    clear RN9 c0 c1
                    generalize w9.drewN nq = wx at *
                    have c0 := (KP.out _ (Dd.B RNa.out.D)).1
                    have c1 := (KP.out _ (Dd.B RNa.out.D)).2
                    have hlk : Hid ((L.map (bt f0 A)).length = k) := by show _ = _; rw [List.length_map]; exact KL.out.symm
                    obtain ⟨p, kk, hsl, hs2, _⟩ := slice_midB na k nc an bn (by omega) (by omega) HC.out.1 HC.out.2
                    rw [← HL1.out, HBN.out] at hsl
                    have hq : ((L.map (bt f0 A)).drop an).take (bn - an) = ((L.take bn).drop an).map (bt d.f A) := by
                      rw [DF.out, List.map_drop, List.map_take, List.drop_take]
                    have hXl : (((L.take bn).drop an).map (bt d.f A)).length = l1 := by rw [List.length_map, mid_len L an bn (by rw [← KL.out]; omega), HL1.out]
                    have hls : Ls wx p (bv (((L.take bn).drop an).map (bt d.f A))) := by
                      obtain ⟨a2, c2, e2, h2, _⟩ := ow_ls RNa.out.ob
                      cases e2
                      have := hs2 wx _ hlk.out h2
                      rw [hq] at this
                      exact this
                    obtain ⟨tt, htt⟩ : ∃ tt, tt = strOfNums (((L.take bn).drop an).map (bt d.f A)) := ⟨_, rfl⟩
                    have cv1 : ∀ q, (convert 22 9 (.slice xa l1 xc)).run Try.prog (wx.drewN q) = .ok (.string tt) (wx.drewN q) := fun q => by
                      rw [htt]
                      exact conv_row (Mv.owns (Mv.drewN (fun _ => False) wx q) Oa.out (fun _ _ h => h)) hXl
                    have cv2 : ∀ q, (convert 22 9 (.slice p l1 kk)).run Try.prog (wx.drewN q) = .ok (.string tt) (wx.drewN q) := fun q => by
                      have := conv_any p l1 kk _ (wx.drewN q) (by have := ls_sl (hls.qt (Mv.drewN (fun _ => False) wx q)); rw [hXl] at this; exact this)
                      rw [this, htt]
                      congr 2
                      rw [← hXl]
                      exact txt_list _
                    clear hq hXl hls htt hs2
                    go_wp2_with fail
                    go_quiet (fail)
                    have RNb : Hid (Rn w w5 (wx.drewN nq) dp fq q d mo l8 R8 L m A (.slice na k nc) f0 (fun j => bk xa = some j) (1201 * (j + 1))) := RNa.out.qt (Mv.drewN _ wx nq)
                    clear RNa Oa c0 c1 cv1 cv2 hsl
                    generalize wx.drewN nq = wy at *
                    have c0 := (KP.out _ (Dd.B RNb.out.D)).1
                    have c1 := (KP.out _ (Dd.B RNb.out.D)).2
                    have FIN : Hid (∃ l R, Rn w w5 wy dp fq q d mo l R L m A (.slice na k nc) f0 (fun _ => False) (1201 * (j + 1))) := ⟨_, _, RNb.out.mono (Nat.le_refl _) (fun _ h => h.elim)⟩
                    clear RNb
                    go_wp2_with fail
                    exact ⟨⟨j + 1, i2 + 2, by have := HIJ.out; omega, by omega, by go_num, FIN⟩, by simp [intOf]; omega⟩
        · have hge : (nw : Int) ≤ (i2 : Int) + 1 := by omega
          have BE : Hid (Below w.heap.size w wr) := by
            obtain ⟨l, R, RN⟩ := S2.out
            exact Dd.B RN.D
          clear S2
          go_wp2_with fail
          refine (dat_nil wr).mono ?_
          rintro e w8 ⟨rfl, B8⟩
          have BF : Hid (Below w.heap.size w w8) := BE.out.trans (B8.mono BE.out.size)
          clear B8 BE
          go_wp2_with fail
          refine (dnew_any none (some ⟨q, 0, none⟩) w8).mono ?_
          rintro e w9 ⟨rfl, hw⟩
          have BG : Hid (Below w.heap.size w w9) := by show Below _ _ _; rw [hw]; exact BF.out.alloc BF.out.size _
          have c9 : w9.cell? ⟨w8.heap.size, 0, none⟩ = some (.pointer none) := by rw [hw]; exact (alloc_new w8 _ 74 0 _ rfl).1
          obtain ⟨dz, hdz⟩ : ∃ dz, dz = w8.heap.size := ⟨_, rfl⟩
          rw [← hdz] at c9 ⊢
          clear hw hdz BF
          go_wp2_with fail
          refine (dbytes_nof dz 0 0 w9 c9).mono ?_
          rintro e wa ⟨rfl, Ba⟩
          have BH : Hid (Below w.heap.size w wa) := BG.out.trans (Ba.mono BG.out.size)
          clear Ba BG c9
          go_wp2_with fail
          refine (dlen_nil wa).mono ?_
          rintro e wb2 ⟨rfl, hw⟩
          subst hw
          go_wp2_with fail
          go_ret
          exact ⟨rfl, BH.out⟩


set_option maxHeartbeats 2000000 in
set_option maxRecDepth 20000 in
theorem all_out (a0 : Option Addr) (n c0 : Nat) (y y2 : Int) (u : Option Addr) (ka kc : Nat) (aw : Option Addr) (nw cw : Nat) (w : World) (h : 200 < n ∨ 10 < ka ∨ 30 < nw) :
    Calls Try.prog 3 #[.slice a0 n c0, .int .u8 y, .int .u8 y2, .slice u ka kc, .slice aw nw cw] w fun e w' => e = .returned (.bool true) ∧ Below w.heap.size w w' := by
  by_cases h1 : 200 < n
  · have z1 : (200 : Int) < n := by omega
    clear h h1
    go_enter Try.func3, Try.ntmps3
    go_wp2_with fail
    refine (begun7 w).mono ?_
    rintro e w1 ⟨rfl, B⟩
    go_wp2_with fail
    go_ret
    exact ⟨rfl, B.out⟩
  · have z1 : (n : Int) ≤ 200 := by omega
    by_cases h2 : 10 < ka
    · have z2 : (10 : Int) < ka := by omega
      clear h h1 h2
      go_enter Try.func3, Try.ntmps3
      go_wp2_with fail
      refine (begun7 w).mono ?_
      rintro e w1 ⟨rfl, B⟩
      go_wp2_with fail
      go_ret
      exact ⟨rfl, B.out⟩
    · have z2 : (ka : Int) ≤ 10 := by omega
      have z3 : (30 : Int) < nw := by omega
      clear h h1 h2
      go_enter Try.func3, Try.ntmps3
      go_wp2_with fail
      refine (begun7 w).mono ?_
      rintro e w1 ⟨rfl, B⟩
      go_wp2_with fail
      go_ret
      exact ⟨rfl, B.out⟩

theorem docAll_row (W : World) (a0 : Option Addr) (n c0 : Nat) (f0 : Nat → Int) (s0 : Sl W a0 n (fun i => .int .u8 (f0 i))) (_o0 : ∀ i, (Lit.int .u8 (f0 i)).wf = true) (_e0 : a0 = none → n = 0 ∧ c0 = 0) (x0 : Int) (w0 : (Lit.int .u8 x0).wf = true) (x1 : Int) (w1 : (Lit.int .u8 x1).wf = true) (u : Option Addr) (ka kc : Nat) (hA : So W u ka) (aw : Option Addr) (nw cw : Nat) (fw : Nat → Int) (sw : Sl W aw nw (fun i => .int .i64 (fw i))) (ow : ∀ i, (Lit.int .i64 (fw i)).wf = true) (_ew : aw = none → nw = 0 ∧ cw = 0) :
    Calls Try.prog 3 #[.slice a0 n c0, .int .u8 x0, .int .u8 x1, .slice u ka kc, .slice aw nw cw] W fun e w' => e = .returned (.bool true) ∧ Below W.heap.size W w' := by
  by_cases h : 200 < n ∨ 10 < ka ∨ 30 < nw
  · exact all_out a0 n c0 x0 x1 u ka kc aw nw cw W h
  · have h1 := b8 w0
    have h2 := b8 w1
    exact all_walk W a0 n c0 f0 s0 x0 h1.1 h1.2 x1 h2.1 h2.2 u ka kc hA aw nw cw fw sw ow (by omega) (by omega) (by omega)
end Go.Proofs.Ytdhdkbaalgdicaa
