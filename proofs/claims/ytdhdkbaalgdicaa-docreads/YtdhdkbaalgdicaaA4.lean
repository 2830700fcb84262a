/- DocReads. -/
import Derived.Test.YtdhdkbaalgdicaaLC
import Derived.Test.YtdhdkbaalgdicaaA5
import Derived.Deep.CutRange
import Derived.Deep.CutBlock
namespace Go.Proofs.Ytdhdkbaalgdicaa
open Go.RowKit
set_option linter.unusedVariables false


set_option maxHeartbeats 8000000 in
set_option maxRecDepth 20000 in
theorem reads_walk (w : World) (a0 : Option Addr) (n c0 : Nat) (f0 : Nat → Int) (s0 : Hid (Sl w a0 n (By f0))) (y : Int) (hy0 : 0 ≤ y) (hy1 : y ≤ 255) (u : Option Addr) (ka kc : Nat) (hA : Hid (So w u ka)) (fr0 to0 bad0 : Int) (hn : n ≤ 200) (hka : ka ≤ 10) :
    Calls Try.prog 4 #[.slice a0 n c0, .int .u8 y, .slice u ka kc, .int .i64 fr0, .int .i64 to0, .int .i64 bad0] w fun e w' => e = .returned (.bool true) ∧ Below w.heap.size w w' := by
  have z2 : (n : Int) ≤ 200 := by omega
  have z4 : (ka : Int) ≤ 10 := by omega
  obtain ⟨sz, hsz⟩ : ∃ sz : Nat, (1 : Int) + y % 20 = sz := ⟨(1 + y % 20).toNat, by omega⟩
  have hsz0 : 0 < sz := by omega
  have hsz1 : sz ≤ 20 := by omega
  go_enter Try.func4, Try.ntmps4
  go_wp2_with fail
  refine (begun7 w).mono ?_
  rintro e w1 ⟨rfl, B0⟩
  have S0 : Hid (Sl w1 a0 n (By f0)) := s0.out.below B0.out
  go_wp2_with fail
  refine (new_ok a0 n c0 sz f0 w1 (by omega) hsz0 (by omega) S0).mono ?_
  rintro e W1 ⟨d, rfl, hd, P1, B1⟩
  have B2 : Hid (Below w.heap.size w W1) := B0.out.trans (B1.out.mono B0.out.size)
  have D0 : Hid (w.heap.size ≤ d.base) := by show _ ≤ _; rw [hd.out.1]; exact B0.out.size
  have DN : Hid (d.n = n) := hd.out.2.2.1
  have DZ : Hid (d.sz = sz) := hd.out.2.2.2.1
  have DF : Hid (d.f = f0) := hd.out.2.2.2.2
  have DT : Hid (d.top = W1.heap.size) := hd.out.2.1
  clear B1 B0 S0 hd
  go_wp2_with fail
  refine (new_any n (by omega) W1).mono ?_
  rintro e w2 ⟨q, rfl, hq, T2⟩
  go_wp2_with fail
  refine (newText_new n (by omega) w2).mono ?_
  rintro e w3 ⟨rfl, vl0, T3⟩
  have ED0 : Hid (∃ Y, Ed w w3 d q (sp1 ⟨false, 0, n⟩) 0 (fun _ => 0) w2.heap.size vl0 (.slice none 0 0) Y) := Ed.new P1.out B2.out D0.out DT.out (by rw [DN.out]; exact T2.out.1) T2.out.2 T3.out.1 T3.out.2.1 T3.out.2.2
  obtain ⟨r, hr⟩ : ∃ r, r = w2.heap.size := ⟨_, rfl⟩
  rw [← hr] at ED0
  rw [← hr]
  clear hr T3 T2 P1 B2 D0 DT hq
  go_wp2_with fail
  go_loopw [18] (fun vi wr => ∃ i : Nat, i ≤ ka ∧ vi = .int .i64 i ∧ Hid (∃ L m A vl va Y, Ed w wr d q L m A r vl va Y ∧ L.length ≤ 200 + 100 * i ∧ m ≤ 100 * i)) (fun vi _ => ka - (intOf vi).toNat)
  case atStart =>
    obtain ⟨Y, E⟩ := ED0.out
    exact ⟨0, by omega, rfl, _, _, _, _, _, _, E, by rw [sp1_length]; show n - 0 ≤ _; omega, by omega⟩
  case round =>
    clear ED0
    obtain ⟨i, hi, rfl, S⟩ := hrel
    by_cases hlt : i < ka
    · have hltz : (i : Int) < (ka : Int) := by omega
      obtain ⟨L, m, A, vl, va, Y, ed, x1, x2⟩ := S.out
      have E : Hid (Ed w wr d q L m A r vl va Y) := ed
      obtain ⟨b, off, o, rfl, hb, oq⟩ := hA.out i hlt
      have OQ : Hid (OqAt w b (off + i * 4) o) := oq
      have o2 := oq.below ed.al.bel
      have c0 := o2.c0
      have c1 := o2.c1
      have c2 := o2.c2
      clear oq o2 S
      by_cases hk : 100 < o.sn
      · have hkz : (100 : Int) < o.sn := by omega
        have BL : Hid (Below w.heap.size w wr) := ed.al.bel
        clear ed E
        go_wp2_with fail
        go_ret
        exact ⟨rfl, BL.out⟩
      · have hkz : (o.sn : Int) ≤ 100 := by omega
        have hsn : o.sn ≤ 100 := by omega
        have KP : Hid (∀ W, Below w.heap.size w W → W.cell? ⟨b, off + i * 4, none⟩ = some (.int .i64 o.a) ∧ W.cell? ⟨b, off + i * 4 + 1, none⟩ = some (.int .i64 o.b) ∧ W.cell? ⟨b, off + i * 4 + 2, none⟩ = some (.slice o.sa o.sn o.sc)) := fun W hW => ⟨(OQ.out.below hW).c0, (OQ.out.below hW).c1, (OQ.out.below hW).c2⟩
        have OQS : Hid (∀ W, Below w.heap.size w W → Sl W o.sa o.sn (By o.f)) := fun W hW => (OQ.out.below hW).sl
        have OQN : Hid (o.sa = none → o.sn = 0 ∧ o.sc = 0) := OQ.out.none
        obtain ⟨xa, xb, sa, sn, sc, f, cp⟩ := o
        simp only at c0 c1 c2 hkz KP OQS OQN hsn
        obtain ⟨la, lc, rfl, -⟩ := ow_ls ed.al.rx.ll
        have r0 := ed.al.rx.c0
        obtain ⟨k, hkL⟩ : ∃ k, k = L.length := ⟨_, rfl⟩
        have KL : Hid (k = L.length) := hkL
        rw [← hkL] at r0 x1
        have R0 : Hid (wr.cell? ⟨r, 0, none⟩ = some (.slice la k lc)) := r0
        clear ed OQ hk hkL
        have hw1 : IntKind.i64.wrap ((k : Int) + 1) = (k : Int) + 1 := wrap_small (by omega) (by omega)
        have PL := fun W => placeOf_any xa (k + 1) (by omega) (by omega) W
        rw [show ((k + 1 : Nat) : Int) = (k : Int) + 1 by omega] at PL
        go_wp2_with fail
        go_region_held3 (fun w' => w'.cell? ⟨b, off + i * 4, none⟩ = some (.int .i64 xa) ∧ w'.cell? ⟨r, 0, none⟩ = some (.slice la k lc)) (first | go_keep)
          ((first
            | (go_at_call 11; refine (PL _).mono ?_; rintro e w4 ⟨y1, rfl, hy1, hw⟩; obtain rfl := hw)))
        have E4 : Hid (Ed w wr.drew d q L m A r (.slice la L.length lc) va (fun j => Y j ∨ wr.heap.size ≤ j ∧ j < wr.drew.heap.size)) := E.out.qt (Mv.drewN _ wr 1)
        have R4 : Hid (wr.drew.cell? ⟨r, 0, none⟩ = some (.slice la k lc)) := R0.out
        generalize (fun j => Y j ∨ wr.heap.size ≤ j ∧ j < wr.drew.heap.size) = Y4 at E4
        clear E R0 r0 c0 c1 c2 PL hw1
        obtain ⟨w4, hw4⟩ : ∃ w4, w4 = wr.drew := ⟨_, rfl⟩
        rw [← hw4] at E4 R4
        rw [← hw4]
        clear hw4
        have c1 := (KP.out _ E4.out.al.bel).2.1
        have r0 := R4.out
        obtain ⟨dd, hdd⟩ : ∃ dd : Nat, (k : Int) - y1 = (dd : Int) := ⟨k - y1, by omega⟩
        have hd2 : dd ≤ k := by omega
        have hw2 : IntKind.i64.wrap (dd : Int) = (dd : Int) := wrap_small (by omega) (by omega)
        have hw3 : IntKind.i64.wrap ((dd : Int) + 1) = (dd : Int) + 1 := wrap_small (by omega) (by omega)
        have PL2 := fun W => placeOf_any xb (dd + 1) (by omega) (by omega) W
        rw [show ((dd + 1 : Nat) : Int) = (dd : Int) + 1 by omega] at PL2
        go_wp2_with fail
        go_region_held3 (fun w' => w'.cell? ⟨b, off + i * 4 + 1, none⟩ = some (.int .i64 xb) ∧ w'.cell? ⟨r, 0, none⟩ = some (.slice la k lc)) (first | go_keep)
          ((first
            | (go_at_call 11; refine (PL2 _).mono ?_; rintro e w5 ⟨y2, rfl, hy2, hw⟩; obtain rfl := hw; have hw4 : IntKind.i64.wrap ((y1 : Int) + (y2 : Int)) = (y1 : Int) + y2 := wrap_small (by omega) (by omega))))
        have E5 : Hid (Ed w w4.drew d q L m A r (.slice la L.length lc) va (fun j => Y4 j ∨ w4.heap.size ≤ j ∧ j < w4.drew.heap.size)) := E4.out.qt (Mv.drewN _ w4 1)
        generalize (fun j => Y4 j ∨ w4.heap.size ≤ j ∧ j < w4.drew.heap.size) = Y5 at E5
        clear E4 R4 r0 c1 PL2 hw2 hw3 hw4
        obtain ⟨w5, hw5⟩ : ∃ w5, w5 = w4.drew := ⟨_, rfl⟩
        rw [← hw5] at E5
        rw [← hw5]
        clear hw5
        have c2 := (KP.out _ E5.out.al.bel).2.2
        obtain ⟨z, hz⟩ : ∃ z : Nat, (y1 : Int) + y2 = (z : Int) := ⟨y1 + y2, by omega⟩
        have hyz : y1 ≤ z := by omega
        have hzk : z ≤ k := by omega
        have EDC := edit_ok (h := (E5.out.al.tx : Hid _)) y1 z sa sn sc f hyz (by rw [← KL.out]; exact hzk) (by omega) (OQS.out _ E5.out.al.bel) OQN (by omega) (by rw [← KL.out]; omega)
        go_wp2_with fail
        refine EDC.mono ?_
        rintro e w6 ⟨rfl, F6⟩
        clear EDC c2
        have B6 : Hid (Below w.heap.size w w6) := Tx.edit E5.out.al.bel F6.out.2 (Nat.le_refl _) E5.out.al.low
        have RX6 : Hid (RxAt w6 r L m A (.slice la L.length lc) va) := E5.out.al.rx.mv F6.out.2 (fun h => h E5.out.al.yr) (fun j e h => h (E5.out.al.yl j e)) (fun j e h => h (E5.out.al.ya j e))
        have c2 := (KP.out _ B6.out).2.2
        have EDC := redit_ok RX6 y1 z sa sn sc f hyz (by rw [← KL.out]; exact hzk) (by omega) (OQS.out _ B6.out) OQN (by omega) (by rw [← KL.out]; omega)
        go_wp2_with fail
        refine EDC.mono ?_
        rintro e w7 ⟨rfl, vl7, va7, F7⟩
        clear EDC c2
        have FIN : Hid (∃ L m A vl va Y, Ed w w7 d q L m A r vl va Y ∧ L.length ≤ 200 + 100 * (i + 1) ∧ m ≤ 100 * (i + 1)) := by
          refine ⟨_, _, _, _, _, _, E5.out.edited F6.out.1 F6.out.2 F7.out.1 F7.out.2.1 F7.out.2.2.1 F7.out.2.2.2, ?_, by omega⟩
          rw [ins_length _ _ _ _ _ hyz (by rw [← KL.out]; exact hzk), ← KL.out]
          omega
        clear F6 F7 E5 RX6 B6
        go_wp2_with fail
        exact ⟨⟨i + 1, by omega, by go_num, FIN⟩, by simp [intOf]; omega⟩
    · obtain rfl : i = ka := by omega
      obtain ⟨L, m, A, vl, va, Y, ed, x1, x2⟩ := S.out
      have WF : Hid (Wf d.n m L) := ed.al.wf
      have BS : Hid (w.heap.size ≤ d.base ∧ d.base ≤ d.top) := ed.base
      obtain ⟨la, lc, rfl, -⟩ := ow_ls ed.al.rx.ll
      obtain ⟨k, hkL⟩ : ∃ k, k = L.length := ⟨_, rfl⟩
      have KL : Hid (k = L.length) := hkL
      rw [← hkL] at x1
      have hk1 : k ≤ 1200 := by omega
      have hm1 : m ≤ 1000 := by omega
      have FC := ed.file 50
      clear ed S hkL x1 x2 hi hlt
      go_wp2_with fail
      refine FC.mono ?_
      rintro e w4 ⟨fq, rfl, D4⟩
      clear FC
      go_wp2_with fail
      refine (dnew_any _ _ w4).mono ?_
      rintro e w5 ⟨rfl, hw⟩
      obtain ⟨dp, hdp⟩ : ∃ dp, dp = w4.heap.size := ⟨_, rfl⟩
      rw [← hdp, ← hw] at D4
      rw [← hdp]
      clear hw hdp
      have r0 := D4.out.2.c0
      rw [← KL.out] at r0
      have PL := placeOf_any fr0 (k + 1) (by omega) (by omega) w5
      rw [show ((k + 1 : Nat) : Int) = (k : Int) + 1 by omega] at PL
      go_wp2_with fail
      refine PL.mono ?_
      rintro e w5b ⟨fr, rfl, hfr, hw⟩
      obtain rfl := hw
      clear PL
      obtain ⟨dd, hdd⟩ : ∃ dd : Nat, (k : Int) - fr = (dd : Int) := ⟨k - fr, by omega⟩
      have PL := placeOf_any to0 (dd + 1) (by omega) (by omega) w5b
      rw [show ((dd + 1 : Nat) : Int) = (dd : Int) + 1 by omega] at PL
      go_wp2_with fail
      refine PL.mono ?_
      rintro e w5c ⟨t2, rfl, ht2, hw⟩
      obtain rfl := hw
      clear PL
      obtain ⟨en, hen⟩ : ∃ en : Nat, (fr : Int) + t2 = (en : Int) := ⟨fr + t2, by omega⟩
      have hfe : fr ≤ en := by omega
      have hek : en ≤ k := by omega
      have HFE : Hid (fr ≤ en ∧ en ≤ L.length) := ⟨hfe, by rw [← KL.out]; exact hek⟩
      have SL1 := sl_one w5c bad0 w5c.heap.size rfl
      have TP : Hid (d.top ≤ w5c.heap.size) := (Dd.facts D4.out.1).2.2.2.2
      have D5 : Hid (Dd w (w5c.alloc (.cells #[.int .i64 bad0] 3)) dp fq q d 50 [] (fun _ => false) [] L m A (Kr r (.slice la L.length lc) va)) := Dd.qt D4.out.1 ((Qt.refl w5c).alloc _)
      have X5 : Hid (RxAt (w5c.alloc (.cells #[.int .i64 bad0] 3)) r L m A (.slice la L.length lc) va) := D4.out.2.qt ((Qt.refl w5c).alloc _)
      have FT := Dd.fault2 D5.out (some ⟨w5c.heap.size, 0, none⟩) 1 1 (fun _ => bad0) (by omega) SL1 (fun p hp => by cases hp; exact TP.out)
      clear SL1 r0 D4 hdd
      go_wp2_with fail
      refine FT.mono ?_
      rintro e w6 ⟨rfl, D6⟩
      clear FT
      have X6 : Hid (RxAt w6 r L m A (.slice la L.length lc) va) := X5.out.kr D6.out.2 (fun j hj => hj)
      have AM : Hid (∀ j : Nat, among (fun _ => bad0) 1 j = decide (bad0 = (j : Int))) := by
        intro j
        rw [among_succ, among_zero, Bool.false_or]
      generalize among (fun _ => bad0) 1 = bad at *
      have CL := Dd.clear D6.out.1
      clear D5 X5
      go_wp2_with fail
      refine CL.mono ?_
      rintro e w7 ⟨rfl, D7⟩
      clear CL
      have X7 : Hid (RxAt w7 r L m A (.slice la L.length lc) va) := X6.out.kr D7.out.2 (fun j hj => hj)
      have D7a : Hid (Dd w w7 dp fq q d 50 [] bad [] L m A (Kr r (.slice la L.length lc) va)) := D7.out.1
      clear X6 D6 D7
      obtain ⟨X, hX⟩ : ∃ X, X = (L.take en).drop fr := ⟨_, rfl⟩
      have HX : Hid (X = (L.take en).drop fr) := hX
      have XL : Hid (X.length = en - fr) := by show _ = _; rw [hX, mid_len L fr en HFE.out.2]
      by_cases hg : Gd d bad X
      · have HG : Hid (Gd d bad X) := hg
        have BY := Dd.bytes D7a fr en hfe HFE.out.2 (by simp; omega) (by rw [← hX]; exact hg)
        obtain ⟨l1, hl1⟩ : ∃ l1, l1 = en - fr := ⟨_, rfl⟩
        have HL1 : Hid (l1 = en - fr) := hl1
        rw [← hl1, ← hX] at BY
        clear hl1 hX hg
        go_wp2_with fail
        refine BY.mono ?_
        rintro e w8 ⟨xa, xc, rfl, T8⟩
        clear BY
        obtain ⟨l8, R8, D8, O8, M8, rd8⟩ := T8.out
        have RD : Hid (Rd d [] R8 (fun x => (false, x) ∈ X) X.length) := rd8
        have X8 : RxAt w8 r L m A (.slice la L.length lc) va := X7.out.kr M8 (fun j hj => hj)
        have KK : Hid (∀ j, (Kr r (.slice la L.length lc) va j ∨ bk xa = some j) → w.heap.size ≤ j) := Dd.kr D8 BS.out.1 BS.out.2
        have ST0 : Hid (∀ W g, g = w8.heap.size → Qt w8 W → g < W.heap.size → Own W g 4 (.slice (some ⟨g, 0, none⟩) 300 300) 300 (fun _ => .bool false) → St w w8 W dp fq q d l8 bad R8 L m A (fun j => Kr r (.slice la L.length lc) va j ∨ bk xa = some j) r (.slice la L.length lc) va (.slice xa l1 xc) (X.map (bt d.f A)) (hb L sz fr fr)) := by
          intro W g hg qt glt ho
          subst hg
          have hlt : ∀ j, Kr r (.slice la L.length lc) va j → j < w8.heap.size := by
            rintro j (rfl | e | e)
            · exact X8.lt
            · exact (ow_blk X8.ll j e).2
            · exact (X8.ad.blk j e).2
          refine ⟨Dd.add D8 qt (fun j => j = w8.heap.size) (fun j e => by omega), X8.qt qt, ow_mono (qt.owns O8 (fun _ _ h => h)) (fun _ _ => Nat.zero_le _), ho.congr (fun j hj => by rw [hb_zero]), hlt, fun j e => (ow_blk O8 j e).2, KK.out, (Dd.B D8).size⟩
        clear T8 D8 O8 M8 rd8 X8 X7 D7a
        obtain ⟨hmk, ho9⟩ := made 53 4 Try.t4 (.bool false) 1 Try.underlying53 info4 (by kernel_rfl) (by kernel_rfl) (by kernel_rfl) rfl (by omega) 300 (by omega) w8 w8.heap.size (Nat.le_refl _)
        rw [show ((300 : Nat) : Int) = 300 from rfl] at hmk
        obtain ⟨g, hg8⟩ : ∃ g, g = w8.heap.size := ⟨_, rfl⟩
        have G8 : Hid (g = w8.heap.size) := hg8
        obtain ⟨W9, hW9⟩ : ∃ W9, W9 = w8.alloc (.cells (madeCells #[.bool false] 300) 4) := ⟨_, rfl⟩
        rw [← hW9] at hmk ho9
        have ST9 : Hid (St w w8 W9 dp fq q d l8 bad R8 L m A (fun j => Kr r (.slice la L.length lc) va j ∨ bk xa = some j) r (.slice la L.length lc) va (.slice xa l1 xc) (X.map (bt d.f A)) (hb L sz fr fr)) := ST0.out W9 w8.heap.size rfl (by rw [hW9]; exact (Qt.refl w8).alloc _) (by rw [hW9]; simp) ho9
        rw [← hg8] at hmk
        clear hW9 ho9 ST0 hg8
        go_wp2_with fail
        go_loopw [25] (fun vi wr => ∃ i : Nat, fr ≤ i ∧ i ≤ en ∧ vi = .int .i64 i ∧ Hid (St w w8 wr dp fq q d l8 bad R8 L m A (fun j => Kr r (.slice la L.length lc) va j ∨ bk xa = some j) r (.slice la L.length lc) va (.slice xa l1 xc) (X.map (bt d.f A)) (hb L sz fr i))) (fun vi _ => en - (intOf vi).toNat)
        case atStart => exact ⟨fr, Nat.le_refl _, hfe, rfl, ST9⟩
        case round =>
          clear ST9 hmk
          obtain ⟨i2, hi1, hi2, rfl, S2⟩ := hrel
          by_cases hlt : i2 < en
          · have hltz : (i2 : Int) < (en : Int) := by omega
            obtain ⟨x, hx⟩ : ∃ x, L[i2]? = some x := ⟨L[i2]'(by have := HFE.out; omega), List.getElem?_eq_getElem _⟩
            have r0 := S2.out.rx.c0
            rw [← KL.out] at r0
            have LSL : Ls wr la (cellsB L) := by
              obtain ⟨a2, c2, e2, h2, _⟩ := ow_ls S2.out.rx.ll
              cases e2
              exact h2
            obtain ⟨b, off, rfl, hbl, e0, e1⟩ := lsb_get LSL hx
            have hw := WF.out x (List.mem_of_getElem? hx)
            have HS := hb_succ (sz := sz) hx hi1
            obtain ⟨xa1, xk⟩ := x
            simp only at e0 e1 hw HS
            have hik : (i2 : Int) < k := by omega
            cases xa1 with
            | true =>
              have FIN : Hid (St w w8 wr dp fq q d l8 bad R8 L m A (fun j => Kr r (.slice (some ⟨b, off, none⟩) L.length lc) va j ∨ bk xa = some j) r (.slice (some ⟨b, off, none⟩) L.length lc) va (.slice xa l1 xc) (X.map (bt d.f A)) (hb L sz fr (i2 + 1))) := S2.out.congr (fun j => by rw [HS j]; simp)
              clear hx LSL hbl hw HS S2
              go_wp2_with fail
              exact ⟨⟨i2 + 1, by omega, by omega, by go_num, FIN⟩, by simp [intOf]; omega⟩
            | false =>
              have hkn : xk < 200 := by have := hw.1 rfl; have := DN.out; omega
              obtain ⟨p, hp⟩ : ∃ p, p = xk / sz := ⟨_, rfl⟩
              have hp3 : p < 300 := by have := Nat.div_le_self xk sz; omega
              have hpd : (xk : Int) / (sz : Int) = (p : Int) := by rw [hp]; rfl
              have hpt : (xk : Int).tdiv (sz : Int) = (p : Int) := by rw [hp]; rfl
              have hpz : (p : Int) < 300 := by omega
              have hszn : ¬ sz = 0 := by omega
              have FIN : Hid (St w w8 (wr.setCell ⟨w8.heap.size, p, none⟩ (.bool true)) dp fq q d l8 bad R8 L m A (fun j => Kr r (.slice (some ⟨b, off, none⟩) L.length lc) va j ∨ bk xa = some j) r (.slice (some ⟨b, off, none⟩) L.length lc) va (.slice xa l1 xc) (X.map (bt d.f A)) (hb L sz fr (i2 + 1))) := by
                refine S2.out.set p hp3 (fun j => ?_)
                rw [HS j, ← hp]
                by_cases hj : j = p
                · rw [if_pos hj]; simp [hj]
                · rw [if_neg hj]
                  have hj2 : ¬ p = j := fun e => hj e.symm
                  simp [hj2]
              obtain ⟨hc1, hc2⟩ := S2.out.cell p hp3
              rw [← G8.out] at hc1 hc2 FIN
              clear hx LSL hbl hw HS S2 hp
              go_wp2_with fail
              exact ⟨⟨i2 + 1, by omega, by omega, by go_num, FIN⟩, by simp [intOf]; omega⟩
          · obtain rfl : i2 = en := by omega
            have hRL : R8.length ≤ 1200 := by have h1 := RD.out.2; have h2 := XL.out; simp at h1; omega
            have RE := Dd.reads S2.out.D (by omega)
            obtain ⟨nr, hnr⟩ : ∃ nr, nr = R8.length := ⟨_, rfl⟩
            have NR : Hid (nr = R8.length) := hnr
            rw [← hnr] at hRL RE
            obtain ⟨gr, hgr⟩ : ∃ gr, gr = wr.heap.size := ⟨_, rfl⟩
            rw [← hgr] at RE
            clear hnr hgr
            go_wp2_with fail
            refine RE.mono ?_
            rintro e w11 ⟨rfl, H11⟩
            clear RE
            have S11 : Hid (St w w8 w11 dp fq q d l8 bad R8 L m A (fun j => Kr r (.slice la L.length lc) va j ∨ bk xa = some j) r (.slice la L.length lc) va (.slice xa l1 xc) (X.map (bt d.f A)) (hb L sz fr i2) ∧ Own w11 gr 3 (.slice (some ⟨gr, 0, none⟩) nr nr) nr (In (lof R8))) := ⟨S2.out.qt H11.out.2, H11.out.1⟩
            clear S2 H11
            go_wp2_with fail
            go_loopw [27] (fun vi wr => ∃ j : Nat, j ≤ nr ∧ vi = .int .i64 j ∧ Hid (St w w8 wr dp fq q d l8 bad R8 L m A (fun j => Kr r (.slice la L.length lc) va j ∨ bk xa = some j) r (.slice la L.length lc) va (.slice xa l1 xc) (X.map (bt d.f A)) (hb L sz fr i2) ∧ Own wr gr 3 (.slice (some ⟨gr, 0, none⟩) nr nr) nr (In (lof R8)))) (fun vi _ => nr - (intOf vi).toNat)
            case atStart => exact ⟨0, by omega, rfl, S11⟩
            case round =>
              clear S11
              obtain ⟨j, hj, rfl, S3⟩ := hrel
              by_cases hlt3 : j < nr
              · have hltz3 : (j : Int) < (nr : Int) := by omega
                have rc0 := (S3.out.2.at hlt3).1
                obtain ⟨yv, hyv, hy3, hyt⟩ : ∃ yv : Nat, lof R8 j = (yv : Int) ∧ yv < 300 ∧ hb L sz fr i2 yv = true := by
                  have hm : lof R8 j ∈ R8 := by
                    have hj8 : j < R8.length := by have := NR.out; omega
                    unfold lof
                    rw [List.getElem?_eq_getElem hj8]
                    exact List.getElem_mem hj8
                  rcases RD.out.1 _ hm with h1 | ⟨x, h1, h2⟩
                  · cases h1
                  · rw [HX.out] at h1
                    have hxl : (false, x) ∈ L := List.mem_of_mem_take (List.mem_of_mem_drop h1)
                    have hx1 := (WF.out _ hxl).1 rfl
                    have hx2 : x < d.n := hx1
                    rw [DZ.out] at h2
                    have := Nat.div_le_self x sz
                    have := DN.out
                    exact ⟨x / sz, h2, by omega, hb_of.2 ⟨x, h1, rfl⟩⟩
                have rc : wr.cell? ⟨gr, j, none⟩ = some (.int .i64 yv) := by rw [rc0]; unfold In; rw [hyv]
                clear rc0
                have hc := (S3.out.1.cell yv hy3).1
                rw [hyt, ← G8.out] at hc
                have hyz : (yv : Int) < 300 := by omega
                clear hyt hyv
                go_wp2_with fail
                exact ⟨⟨j + 1, by omega, by go_num, S3⟩, by simp [intOf]; omega⟩
              · obtain rfl : j = nr := by omega
                have hlk : (L.map (bt f0 A)).length = k := by rw [List.length_map]; exact KL.out.symm
                have SP := fun W (h : RxAt W r L m A (.slice la L.length lc) va) (h2 : Below w.heap.size w W) => spell_any W a0 n c0 f0 h (s0.out.below h2) (by rw [← DN.out]; exact WF.out) (by rw [← KL.out]; omega) (by omega) (by omega)
                have SPW := SP wr S3.out.1.rx (Dd.B S3.out.1.D)
                clear SP
                have ALL : Hid (∀ W v, (OB W wr.heap.size v (L.map (bt f0 A)) ∧ Qt wr W) → ∃ sa sc p kk t, v = .slice sa k sc ∧ (∀ W2, (Instr.slice 22 (.slice sa k sc) (some (.int .i64 (fr : Int))) (some (.int .i64 (i2 : Int))) none).run Try.prog W2 = .ok (.slice p l1 kk) W2) ∧ (∀ q, (convert 22 9 (.slice xa l1 xc)).run Try.prog (W.drewN q) = .ok (.string t) (W.drewN q)) ∧ (∀ q, (convert 22 9 (.slice p l1 kk)).run Try.prog (W.drewN q) = .ok (.string t) (W.drewN q)) ∧ Below w.heap.size w W) := by
                  rintro W v ⟨O, Q⟩
                  obtain ⟨sa, sc, e, hs, hcap, hnn, _⟩ := ow_ls O
                  rw [hlk] at e hcap hnn
                  obtain ⟨p, kk, h1, h2, h3⟩ := slice_midB sa k sc fr i2 hfe hek hcap hnn
                  have hls : Ls W p (bv (((L.map (bt f0 A)).drop fr).take (i2 - fr))) := h2 W _ hlk hs
                  have hq : ((L.map (bt f0 A)).drop fr).take (i2 - fr) = X.map (bt d.f A) := by
                    rw [HX.out, DF.out, List.map_drop, List.map_take, List.drop_take]
                  have hXl : (X.map (bt d.f A)).length = l1 := by rw [List.length_map, XL.out, HL1.out]
                  rw [hq] at hls
                  rw [← HL1.out] at h1
                  have St' := S3.out.1.qt Q
                  refine ⟨sa, sc, p, kk, strOfNums (X.map (bt d.f A)), e, h1, fun q => ?_, fun q => ?_, Dd.B St'.D⟩
                  · exact conv_row (Mv.owns (Mv.drewN (fun _ => False) W q) St'.ob (fun _ _ h => h)) hXl
                  · have := conv_any p l1 kk _ (W.drewN q) (by have := ls_sl (hls.qt (Mv.drewN (fun _ => False) W q)); rw [hXl] at this; exact this)
                    rw [this]
                    congr 2
                    rw [← hXl]
                    exact txt_list _
                have NOB : ∀ bn : Nat, bad0 = (bn : Int) → hb L sz fr i2 bn = false := by
                  intro bn hbn
                  cases hc : hb L sz fr i2 bn with
                  | false => rfl
                  | true =>
                    obtain ⟨x, h1, h2⟩ := hb_of.1 hc
                    have := HG.out x (by rw [HX.out]; exact h1)
                    rw [AM.out, DZ.out, h2, hbn] at this
                    simp at this
                by_cases hb0 : bad0 < 0
                · clear NOB hlk
                  go_wp2_with fail
                  refine SPW.mono ?_
                  rintro e w12 ⟨v, rfl, H12⟩
                  obtain ⟨sa, sc, p, kk, t, rfl, hsl, cv1, cv2, B12⟩ := ALL.out w12 v H12.out
                  have HB12 : Hid _ := B12
                  clear SPW ALL H12 B12 S3
                  go_wp2_with fail
                  go_quiet (fail)
                  go_wp2_with fail
                  go_ret
                  exact ⟨by simp, HB12.out.trans (Qt.below (Mv.drewN _ w12 nq) _ HB12.out.size)⟩
                · by_cases hb3 : bad0 < 300
                  · obtain ⟨bn, hbn⟩ : ∃ bn : Nat, bad0 = (bn : Int) := ⟨bad0.toNat, by omega⟩
                    have hcb := (S3.out.1.cell bn (by omega)).1
                    rw [NOB bn hbn, ← G8.out] at hcb
                    subst hbn
                    clear NOB hlk
                    go_wp2_with fail
                    refine SPW.mono ?_
                    rintro e w12 ⟨v, rfl, H12⟩
                    obtain ⟨sa, sc, p, kk, t, rfl, hsl, cv1, cv2, B12⟩ := ALL.out w12 v H12.out
                    have HB12 : Hid _ := B12
                    clear SPW ALL H12 B12 S3
                    go_wp2_with fail
                    go_quiet (fail)
                    go_wp2_with fail
                    go_ret
                    exact ⟨by simp, HB12.out.trans (Qt.below (Mv.drewN _ w12 nq) _ HB12.out.size)⟩
                  · have hb4 : (300 : Int) ≤ bad0 := by omega
                    clear NOB hlk
                    go_wp2_with fail
                    refine SPW.mono ?_
                    rintro e w12 ⟨v, rfl, H12⟩
                    obtain ⟨sa, sc, p, kk, t, rfl, hsl, cv1, cv2, B12⟩ := ALL.out w12 v H12.out
                    have HB12 : Hid _ := B12
                    clear SPW ALL H12 B12 S3
                    go_wp2_with fail
                    go_quiet (fail)
                    go_wp2_with fail
                    go_ret
                    exact ⟨by simp, HB12.out.trans (Qt.below (Mv.drewN _ w12 nq) _ HB12.out.size)⟩
      · have HG : Hid (¬ Gd d bad X) := hg
        have BY := Dd.bytes_bad D7a fr en hfe HFE.out.2 (by simp; omega) (by rw [← hX]; exact hg)
        rw [← hX] at BY
        clear hX hg
        go_wp2_with fail
        refine BY.mono ?_
        rintro e w8 ⟨rfl, T8⟩
        clear BY
        obtain ⟨l8, R8, D8, M8, rd8⟩ := T8.out
        have RD : Hid (Rd d [] R8 (fun x => (false, x) ∈ X) X.length) := rd8
        have X8 : RxAt w8 r L m A (.slice la L.length lc) va := X7.out.kr M8 (fun j hj => hj)
        have KK : Hid (∀ j, Kr r (.slice la L.length lc) va j → w.heap.size ≤ j) := Dd.kr D8 BS.out.1 BS.out.2
        have ST0 : Hid (∀ W g, g = w8.heap.size → Qt w8 W → g < W.heap.size → Own W g 4 (.slice (some ⟨g, 0, none⟩) 300 300) 300 (fun _ => .bool false) → St w w8 W dp fq q d l8 bad R8 L m A (Kr r (.slice la L.length lc) va) r (.slice la L.length lc) va (.slice none 0 0) [] (hb L sz fr fr)) := by
          intro W g hg qt glt ho
          subst hg
          have hlt : ∀ j, Kr r (.slice la L.length lc) va j → j < w8.heap.size := by
            rintro j (rfl | e | e)
            · exact X8.lt
            · exact (ow_blk X8.ll j e).2
            · exact (X8.ad.blk j e).2
          refine ⟨Dd.add D8 qt (fun j => j = w8.heap.size) (fun j e => by omega), X8.qt qt, ow_nil _ _ _ _, ho.congr (fun j hj => by rw [hb_zero]), hlt, fun j e => (by simp [Value.ownBlock] at e), KK.out, (Dd.B D8).size⟩
        clear T8 D8 M8 rd8 X8 X7 D7a
        obtain ⟨hmk, ho9⟩ := made 53 4 Try.t4 (.bool false) 1 Try.underlying53 info4 (by kernel_rfl) (by kernel_rfl) (by kernel_rfl) rfl (by omega) 300 (by omega) w8 w8.heap.size (Nat.le_refl _)
        rw [show ((300 : Nat) : Int) = 300 from rfl] at hmk
        obtain ⟨g, hg8⟩ : ∃ g, g = w8.heap.size := ⟨_, rfl⟩
        have G8 : Hid (g = w8.heap.size) := hg8
        obtain ⟨W9, hW9⟩ : ∃ W9, W9 = w8.alloc (.cells (madeCells #[.bool false] 300) 4) := ⟨_, rfl⟩
        rw [← hW9] at hmk ho9
        have ST9 : Hid (St w w8 W9 dp fq q d l8 bad R8 L m A (Kr r (.slice la L.length lc) va) r (.slice la L.length lc) va (.slice none 0 0) ([]) (hb L sz fr fr)) := ST0.out W9 w8.heap.size rfl (by rw [hW9]; exact (Qt.refl w8).alloc _) (by rw [hW9]; simp) ho9
        rw [← hg8] at hmk
        clear hW9 ho9 ST0 hg8
        go_wp2_with fail
        go_loopw [25] (fun vi wr => ∃ i : Nat, fr ≤ i ∧ i ≤ en ∧ vi = .int .i64 i ∧ Hid (St w w8 wr dp fq q d l8 bad R8 L m A (Kr r (.slice la L.length lc) va) r (.slice la L.length lc) va (.slice none 0 0) ([]) (hb L sz fr i))) (fun vi _ => en - (intOf vi).toNat)
        case atStart => exact ⟨fr, Nat.le_refl _, hfe, rfl, ST9⟩
        case round =>
          clear ST9 hmk
          obtain ⟨i2, hi1, hi2, rfl, S2⟩ := hrel
          by_cases hlt : i2 < en
          · have hltz : (i2 : Int) < (en : Int) := by omega
            obtain ⟨x, hx⟩ : ∃ x, L[i2]? = some x := ⟨L[i2]'(by have := HFE.out; omega), List.getElem?_eq_getElem _⟩
            have r0 := S2.out.rx.c0
            rw [← KL.out] at r0
            have LSL : Ls wr la (cellsB L) := by
              obtain ⟨a2, c2, e2, h2, _⟩ := ow_ls S2.out.rx.ll
              cases e2
              exact h2
            obtain ⟨b, off, rfl, hbl, e0, e1⟩ := lsb_get LSL hx
            have hw := WF.out x (List.mem_of_getElem? hx)
            have HS := hb_succ (sz := sz) hx hi1
            obtain ⟨xa1, xk⟩ := x
            simp only at e0 e1 hw HS
            have hik : (i2 : Int) < k := by omega
            cases xa1 with
            | true =>
              have FIN : Hid (St w w8 wr dp fq q d l8 bad R8 L m A (Kr r (.slice (some ⟨b, off, none⟩) L.length lc) va) r (.slice (some ⟨b, off, none⟩) L.length lc) va (.slice none 0 0) ([]) (hb L sz fr (i2 + 1))) := S2.out.congr (fun j => by rw [HS j]; simp)
              clear hx LSL hbl hw HS S2
              go_wp2_with fail
              exact ⟨⟨i2 + 1, by omega, by omega, by go_num, FIN⟩, by simp [intOf]; omega⟩
            | false =>
              have hkn : xk < 200 := by have := hw.1 rfl; have := DN.out; omega
              obtain ⟨p, hp⟩ : ∃ p, p = xk / sz := ⟨_, rfl⟩
              have hp3 : p < 300 := by have := Nat.div_le_self xk sz; omega
              have hpd : (xk : Int) / (sz : Int) = (p : Int) := by rw [hp]; rfl
              have hpt : (xk : Int).tdiv (sz : Int) = (p : Int) := by rw [hp]; rfl
              have hpz : (p : Int) < 300 := by omega
              have hszn : ¬ sz = 0 := by omega
              have FIN : Hid (St w w8 (wr.setCell ⟨w8.heap.size, p, none⟩ (.bool true)) dp fq q d l8 bad R8 L m A (Kr r (.slice (some ⟨b, off, none⟩) L.length lc) va) r (.slice (some ⟨b, off, none⟩) L.length lc) va (.slice none 0 0) ([]) (hb L sz fr (i2 + 1))) := by
                refine S2.out.set p hp3 (fun j => ?_)
                rw [HS j, ← hp]
                by_cases hj : j = p
                · rw [if_pos hj]; simp [hj]
                · rw [if_neg hj]
                  have hj2 : ¬ p = j := fun e => hj e.symm
                  simp [hj2]
              obtain ⟨hc1, hc2⟩ := S2.out.cell p hp3
              rw [← G8.out] at hc1 hc2 FIN
              clear hx LSL hbl hw HS S2 hp
              go_wp2_with fail
              exact ⟨⟨i2 + 1, by omega, by omega, by go_num, FIN⟩, by simp [intOf]; omega⟩
          · obtain rfl : i2 = en := by omega
            have hRL : R8.length ≤ 1200 := by have h1 := RD.out.2; have h2 := XL.out; simp at h1; omega
            have RE := Dd.reads S2.out.D (by omega)
            obtain ⟨nr, hnr⟩ : ∃ nr, nr = R8.length := ⟨_, rfl⟩
            have NR : Hid (nr = R8.length) := hnr
            rw [← hnr] at hRL RE
            obtain ⟨gr, hgr⟩ : ∃ gr, gr = wr.heap.size := ⟨_, rfl⟩
            rw [← hgr] at RE
            clear hnr hgr
            go_wp2_with fail
            refine RE.mono ?_
            rintro e w11 ⟨rfl, H11⟩
            clear RE
            have S11 : Hid (St w w8 w11 dp fq q d l8 bad R8 L m A (Kr r (.slice la L.length lc) va) r (.slice la L.length lc) va (.slice none 0 0) ([]) (hb L sz fr i2) ∧ Own w11 gr 3 (.slice (some ⟨gr, 0, none⟩) nr nr) nr (In (lof R8))) := ⟨S2.out.qt H11.out.2, H11.out.1⟩
            clear S2 H11
            go_wp2_with fail
            go_loopw [27] (fun vi wr => ∃ j : Nat, j ≤ nr ∧ vi = .int .i64 j ∧ Hid (St w w8 wr dp fq q d l8 bad R8 L m A (Kr r (.slice la L.length lc) va) r (.slice la L.length lc) va (.slice none 0 0) ([]) (hb L sz fr i2) ∧ Own wr gr 3 (.slice (some ⟨gr, 0, none⟩) nr nr) nr (In (lof R8)))) (fun vi _ => nr - (intOf vi).toNat)
            case atStart => exact ⟨0, by omega, rfl, S11⟩
            case round =>
              clear S11
              obtain ⟨j, hj, rfl, S3⟩ := hrel
              by_cases hlt3 : j < nr
              · have hltz3 : (j : Int) < (nr : Int) := by omega
                have rc0 := (S3.out.2.at hlt3).1
                obtain ⟨yv, hyv, hy3, hyt⟩ : ∃ yv : Nat, lof R8 j = (yv : Int) ∧ yv < 300 ∧ hb L sz fr i2 yv = true := by
                  have hm : lof R8 j ∈ R8 := by
                    have hj8 : j < R8.length := by have := NR.out; omega
                    unfold lof
                    rw [List.getElem?_eq_getElem hj8]
                    exact List.getElem_mem hj8
                  rcases RD.out.1 _ hm with h1 | ⟨x, h1, h2⟩
                  · cases h1
                  · rw [HX.out] at h1
                    have hxl : (false, x) ∈ L := List.mem_of_mem_take (List.mem_of_mem_drop h1)
                    have hx1 := (WF.out _ hxl).1 rfl
                    have hx2 : x < d.n := hx1
                    rw [DZ.out] at h2
                    have := Nat.div_le_self x sz
                    have := DN.out
                    exact ⟨x / sz, h2, by omega, hb_of.2 ⟨x, h1, rfl⟩⟩
                have rc : wr.cell? ⟨gr, j, none⟩ = some (.int .i64 yv) := by rw [rc0]; unfold In; rw [hyv]
                clear rc0
                have hc := (S3.out.1.cell yv hy3).1
                rw [hyt, ← G8.out] at hc
                have hyz : (yv : Int) < 300 := by omega
                clear hyt hyv
                go_wp2_with fail
                exact ⟨⟨j + 1, by omega, by go_num, S3⟩, by simp [intOf]; omega⟩
              · obtain rfl : j = nr := by omega
                obtain ⟨x, hx1, hx2⟩ : ∃ x, (false, x) ∈ X ∧ bad (x / d.sz) = true := by
                  apply Classical.byContradiction
                  intro hno
                  refine HG.out (fun x hx => ?_)
                  cases e : bad (x / d.sz) with
                  | false => rfl
                  | true => exact (hno ⟨x, hx, e⟩).elim
                rw [AM.out, DZ.out] at hx2
                have hx3 : bad0 = ((x / sz : Nat) : Int) := of_decide_eq_true hx2
                rw [HX.out] at hx1
                have hxl : (false, x) ∈ L := List.mem_of_mem_take (List.mem_of_mem_drop hx1)
                have hx4 : x < d.n := (WF.out _ hxl).1 rfl
                have hx5 : x / sz < 300 := by have := Nat.div_le_self x sz; have := DN.out; omega
                have hcb := (S3.out.1.cell (x / sz) hx5).1
                rw [hb_of.2 ⟨x, hx1, rfl⟩, ← G8.out] at hcb
                have BE : Hid (Below w.heap.size w wr) := Dd.B S3.out.1.D
                obtain ⟨bn, hbn⟩ : ∃ bn, bn = x / sz := ⟨_, rfl⟩
                rw [← hbn] at hcb hx3 hx5
                subst hx3
                have hx6 : (bn : Int) < 300 := by omega
                clear hx1 hx2 hxl hx4 hbn S3
                go_wp2_with fail
                go_ret
                exact ⟨by simp, BE.out⟩

set_option maxHeartbeats 2000000 in
set_option maxRecDepth 20000 in
theorem reads_out (a0 : Option Addr) (n c0 : Nat) (y : Int) (u : Option Addr) (ka kc : Nat) (x1 x2 x3 : Int) (w : World) (h : 200 < n ∨ 10 < ka) :
    Calls Try.prog 4 #[.slice a0 n c0, .int .u8 y, .slice u ka kc, .int .i64 x1, .int .i64 x2, .int .i64 x3] w fun e w' => e = .returned (.bool true) ∧ Below w.heap.size w w' := by
  by_cases h1 : 200 < n
  · have z1 : (200 : Int) < n := by omega
    clear h h1
    go_enter Try.func4, Try.ntmps4
    go_wp2_with fail
    refine (begun7 w).mono ?_
    rintro e w1 ⟨rfl, B⟩
    go_wp2_with fail
    go_ret
    exact ⟨rfl, B.out⟩
  · have z1 : (n : Int) ≤ 200 := by omega
    have z2 : (10 : Int) < ka := by omega
    clear h h1
    go_enter Try.func4, Try.ntmps4
    go_wp2_with fail
    refine (begun7 w).mono ?_
    rintro e w1 ⟨rfl, B⟩
    go_wp2_with fail
    go_ret
    exact ⟨rfl, B.out⟩

theorem docReads_row (W : World) (a0 : Option Addr) (n c0 : Nat) (f0 : Nat → Int) (s0 : Sl W a0 n (fun i => .int .u8 (f0 i))) (_o0 : ∀ i, (Lit.int .u8 (f0 i)).wf = true) (_e0 : a0 = none → n = 0 ∧ c0 = 0) (x0 : Int) (w0 : (Lit.int .u8 x0).wf = true) (u : Option Addr) (ka kc : Nat) (hA : So W u ka) (x1 : Int) (_w1 : (Lit.int .i64 x1).wf = true) (x2 : Int) (_w2 : (Lit.int .i64 x2).wf = true) (x3 : Int) (_w3 : (Lit.int .i64 x3).wf = true) :
    Calls Try.prog 4 #[.slice a0 n c0, .int .u8 x0, .slice u ka kc, .int .i64 x1, .int .i64 x2, .int .i64 x3] W fun e w' => e = .returned (.bool true) ∧ Below W.heap.size W w' := by
  by_cases h : 200 < n ∨ 10 < ka
  · exact reads_out a0 n c0 x0 u ka kc x1 x2 x3 W h
  · have h1 := b8 w0
    exact reads_walk W a0 n c0 f0 s0 x0 h1.1 h1.2 u ka kc hA x1 x2 x3 (by omega) (by omega)
end Go.Proofs.Ytdhdkbaalgdicaa
