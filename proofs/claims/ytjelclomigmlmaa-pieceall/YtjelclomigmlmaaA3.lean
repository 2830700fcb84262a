/- PieceAll. -/
import Derived.Test.YtjelclomigmlmaaS1
import Derived.Test.YtjelclomigmlmaaS2
import Derived.Deep.CutRange
import Derived.Deep.RegionHeldLaw
import Derived.Deep.CutBlock
namespace Go.Proofs.Ytjelclomigmlmaa
open Go.RowKit

/-- Both texts behind i edits. -/
def Aw (w wr : World) (p n r i : Nat) : Prop := ∃ L m A vl va Y, Al w wr p n L m A r vl va Y ∧ L.length ≤ 200 + 300 * i ∧ m ≤ 300 * i

set_option maxHeartbeats 8000000 in
set_option maxRecDepth 20000 in
theorem all_any (w : World) (z : Int) (hz : z ≤ 200) (ua : Option Addr) (ka ca : Nat) (hA : Hid (So w ua ka)) (h1 : ka ≤ 30) (at' : Int) :
    Calls Try.prog 3 #[.int .i64 z, .slice ua ka ca, .int .i64 at'] w fun e w' => e = .returned (.bool true) ∧ Below w.heap.size w w' := by
  have h1z : (ka : Int) ≤ 30 := by omega
  go_enter Try.func3, Try.ntmps3
  go_wp2_with fail
  refine (begun_any w).mono ?_
  rintro e w1 ⟨rfl, bl⟩
  have B1 : Hid (Below w.heap.size w w1) := bl
  clear bl
  go_wp2_with fail
  refine (new_any z (by omega) w1).mono ?_
  rintro e w2 ⟨p, rfl, hp, T2⟩
  go_wp2_with fail
  refine (newText2 z (by omega) w2).mono ?_
  rintro e w3 ⟨rfl, vl, T3⟩
  obtain ⟨n, hn⟩ : ∃ n, n = z.toNat := ⟨_, rfl⟩
  obtain ⟨r, hr⟩ : ∃ r, r = w2.heap.size := ⟨_, rfl⟩
  have HR : Hid (w.heap.size ≤ r) := by
    have h1 := B1.out.size
    have h2 := T2.out.2.size
    show _ ≤ _
    omega
  have AW : Hid (Aw w w3 p n r 0) := by
    have t := T2.out.1
    have x := T3.out.1
    rw [← hn] at t x
    rw [← hr] at x
    have s1 := B1.out.size
    have s2 := T2.out.2.size
    have b2 : Below w.heap.size w w2 := B1.out.trans (T2.out.2.below _ s1)
    refine ⟨_, _, _, vl, _, _, ⟨t.qt T3.out.2.1, x, .inr ⟨by omega, by have := x.lt; omega⟩, fun j e => ?_, fun j e => (by simp [Value.ownBlock] at e), fun j hj => .inl (by omega), b2.trans (T3.out.2.1.below _ b2.size)⟩, ?_, by omega⟩
    · exact .inr ⟨Nat.le_of_lt (T3.out.2.2 j e), (ow_blk x.ll j e).2⟩
    · rw [sp1_length]; show n - 0 ≤ _; omega
  rw [← hr]
  clear T2 T3 hn hr B1 hp
  go_wp2_with fail
  go_loopw [7, 9] (fun vp vi wr => ∃ i p : Nat, i ≤ ka ∧ vi = .int .i64 i ∧ vp = .pointer (some ⟨p, 0, none⟩) ∧ Hid (Aw w wr p n r i)) (fun _ vi _ => ka - (intOf vi).toNat)
  case atStart => exact ⟨0, p, by omega, rfl, rfl, AW⟩
  case round =>
    clear AW
    obtain ⟨i, p, hi, rfl, rfl, AW⟩ := hrel
    obtain ⟨L, m, A, vl, va, Y, al, x1, x2⟩ := AW.out
    by_cases hlt : i < ka
    · have hltz : (i : Int) < (ka : Int) := by omega
      obtain ⟨b, off, o, rfl, hb, oq⟩ := hA.out i hlt
      have o2 := oq.below al.bel
      have c0 := o2.c0
      have c1 := o2.c1
      have c2 := o2.c2
      have c3 := o2.c3
      have OQS : Hid (∀ W, Below w.heap.size w W → Sl W o.sa o.sn (By o.f)) := fun W hW => (oq.below hW).sl
      have OQN : Hid (o.sa = none → o.sn = 0 ∧ o.sc = 0) := oq.none
      have AL : Hid (Al w wr p n L m A r vl va Y) := al
      clear oq o2 al AW
      by_cases hk : 320 < o.sn
      · have hkz : (320 : Int) < o.sn := by omega
        have BL : Hid (Below w.heap.size w wr) := AL.out.bel
        clear AL
        go_wp2_with fail
        go_ret
        exact ⟨rfl, (BL.out.alloc BL.out.size _)⟩
      · have hkz : (o.sn : Int) ≤ 320 := by omega
        have hsn : o.sn ≤ 320 := by omega
        obtain ⟨xa, xb, sa, sn, sc, f, cp⟩ := o
        simp only at c0 c1 c2 c3 hkz hsn OQS OQN
        clear hk
        have A1 : Hid (Al w (wr.alloc (.cells #[.int .i64 xa, .int .i64 xb, .slice sa sn sc, .bool cp] 30)) p n L m A r vl va _) := AL.out.qt ((Qt.refl wr).alloc _)
        have hsz : (wr.alloc (.cells #[.int .i64 xa, .int .i64 xb, .slice sa sn sc, .bool cp] 30)).heap.size = wr.heap.size + 1 := by simp
        obtain ⟨g, hg⟩ : ∃ g, g = wr.heap.size + 1 := ⟨_, rfl⟩
        have TW := twin_any sa sn sc f (wr.alloc (.cells #[.int .i64 xa, .int .i64 xb, .slice sa sn sc, .bool cp] 30)) (by omega) (OQS.out _ A1.out.bel)
        have QO : Hid (∀ W, Below g (wr.alloc (.cells #[.int .i64 xa, .int .i64 xb, .slice sa sn sc, .bool cp] 30)) W → Qt (wr.alloc (.cells #[.int .i64 xa, .int .i64 xb, .slice sa sn sc, .bool cp] 30)) W) := fun W hW => qt_of_below (by rw [hsz, ← hg]; exact hW)
        rw [hsz, ← hg] at TW
        have HG : Hid (g = wr.heap.size + 1) := hg
        clear hsz hg
        go_wp2_with fail
        refine TW.mono ?_
        rintro e w4 ⟨rfl, W4, B4⟩
        clear TW
        have Q4 : Hid (Qt (wr.alloc (.cells #[.int .i64 xa, .int .i64 xb, .slice sa sn sc, .bool cp] 30)) w4) := QO.out _ B4.out
        have old := AL.out.old
        obtain ⟨Y4, al4, yob, yg⟩ : ∃ Y4, Al w w4.drew p n L m A r vl va Y4 ∧ Y4 wr.heap.size ∧ Y4 g := by
          have a4 := A1.out.qt (Q4.out.comp (Mv.drewN _ w4 1))
          have h1 := (W4.out.blk g rfl).2
          have h2 := HG.out
          exact ⟨_, a4, .inl (.inr ⟨Nat.le_refl _, by simp⟩), .inr ⟨by simp; omega, h1⟩⟩
        have AL4 : Hid (Al w w4.drew p n L m A r vl va Y4) := al4
        have YO : Hid (Y4 wr.heap.size ∧ Y4 g) := ⟨yob, yg⟩
        have OLD : Hid (r < wr.heap.size ∧ (∀ j, vl.ownBlock = some j → j < wr.heap.size) ∧ ∀ j, va.ownBlock = some j → j < wr.heap.size) := old
        have e0 := Q4.out.cell (alloc_new wr #[.int .i64 xa, .int .i64 xb, .slice sa sn sc, .bool cp] 30 0 _ rfl).1 (fun h => h)
        have e1 := Q4.out.cell (alloc_new wr #[.int .i64 xa, .int .i64 xb, .slice sa sn sc, .bool cp] 30 1 _ rfl).1 (fun h => h)
        have e2 := Q4.out.cell (alloc_new wr #[.int .i64 xa, .int .i64 xb, .slice sa sn sc, .bool cp] 30 2 _ rfl).1 (fun h => h)
        have e3 := Q4.out.cell (alloc_new wr #[.int .i64 xa, .int .i64 xb, .slice sa sn sc, .bool cp] 30 3 _ rfl).1 (fun h => h)
        have KP : Hid (∀ W, Mv (fun j => ¬ Y4 j) w4.drew W → ∀ W', Mv (fun j => j = r) W W' → (W.cell? ⟨wr.heap.size, 0, none⟩ = some (.int .i64 xa) ∧ W.cell? ⟨wr.heap.size, 1, none⟩ = some (.int .i64 xb) ∧ W.cell? ⟨wr.heap.size, 2, none⟩ = some (.slice sa sn sc)) ∧ (W'.cell? ⟨wr.heap.size, 0, none⟩ = some (.int .i64 xa) ∧ W'.cell? ⟨wr.heap.size, 1, none⟩ = some (.int .i64 xb) ∧ W'.cell? ⟨wr.heap.size, 2, none⟩ = some (.slice sa sn sc)) ∧ W'.cell? ⟨wr.heap.size, 3, none⟩ = some (.bool cp)) := by
          intro W k W' k'
          have no : ¬ ¬ Y4 wr.heap.size := fun h => h YO.out.1
          have nr : ¬ wr.heap.size = r := by have := OLD.out.1; omega
          have c0 := k.cell (p := ⟨wr.heap.size, 0, none⟩) e0 no
          have c1 := k.cell (p := ⟨wr.heap.size, 1, none⟩) e1 no
          have c2 := k.cell (p := ⟨wr.heap.size, 2, none⟩) e2 no
          have c3 := k.cell (p := ⟨wr.heap.size, 3, none⟩) e3 no
          exact ⟨⟨c0, c1, c2⟩, ⟨k'.cell c0 nr, k'.cell c1 nr, k'.cell c2 nr⟩, k'.cell c3 nr⟩
        have TWN : Hid (∀ W, Mv (fun j => ¬ Y4 j) w4.drew W → ∀ W', Mv (fun j => j = r) W W' → Own W' g 5 (.slice (some ⟨g, 0, none⟩) (sn + 3) (sn + 3)) (sn + 3) (twV f sn)) := by
          intro W k W' k'
          have h1 : Own w4.drew g 5 (.slice (some ⟨g, 0, none⟩) (sn + 3) (sn + 3)) (sn + 3) (twV f sn) := W4.out
          have hgr : ¬ g = r := by have := OLD.out.1; have := HG.out; omega
          exact (h1.mv k (fun j e hn => by simp [Value.ownBlock] at e; subst e; exact hn YO.out.2)).mv k' (fun j e e' => by simp [Value.ownBlock] at e; omega)
        obtain ⟨zz, L', m', A', l1, l2, l3, E13, E14⟩ := both (p := p) (n := n) (L := L) (m := m) (A := A) (r := r) (vl := vl) (va := va) xa xb sn f (by omega) (by omega)
        have TSL : Hid (Sl w4.drew (some ⟨g, 0, none⟩) sn (By f)) := by
          intro j hj
          have h1 : Own w4.drew g 5 (.slice (some ⟨g, 0, none⟩) (sn + 3) (sn + 3)) (sn + 3) (twV f sn) := W4.out
          refine ⟨g, 0, rfl, (h1.blk g rfl).2, ?_⟩
          rw [Nat.zero_add, (h1.at (show j < sn + 3 by omega)).1]
          unfold twV
          rw [if_pos hj]
        have C13 := E13 w4.drew (some ⟨g, 0, none⟩) (sn + 3) Y4 AL4.out.tx TSL.out (fun e => by cases e)
        have BW : Hid (∀ W, Mv (fun j => ¬ Y4 j) w4.drew W → ∀ W', Mv (fun j => j = r) W W' → Below w.heap.size w W ∧ Below w.heap.size w W') := by
          intro W k W' k'
          have b3 : Below w.heap.size w W := Tx.edit AL4.out.bel k (Nat.le_refl _) AL4.out.low
          exact ⟨b3, b3.trans (k'.below b3.size (fun j hj e => by have := HR.out; omega))⟩
        have C14 : Hid (∀ W, Mv (fun j => ¬ Y4 j) w4.drew W → Calls Try.prog 14 #[.pointer (some ⟨r, 0, none⟩), .int .i64 xa, .int .i64 xb, .slice sa sn sc] W fun e w' => e = .returned (.int .i64 zz) ∧ ∃ vl' va', Hid (RxAt w' r L' m' A' vl' va' ∧ Mv (fun j => j = r) W w' ∧ (∀ j, vl'.ownBlock = some j → vl.ownBlock = some j ∨ W.heap.size ≤ j) ∧ ∀ j, va'.ownBlock = some j → va.ownBlock = some j ∨ W.heap.size ≤ j)) := fun W k => E14 W sa sc (AL4.out.rx.mv k (fun h => h AL4.out.yr) (fun j e h => h (AL4.out.yl j e)) (fun j e h => h (AL4.out.ya j e))) (OQS.out _ (BW.out W k W (Mv.refl _ _)).1) OQN.out
        have C15 : Hid (∀ W, Mv (fun j => ¬ Y4 j) w4.drew W → ∀ W', Mv (fun j => j = r) W W' → Calls Try.prog 15 #[.slice (some ⟨g, 0, none⟩) sn (sn + 3), .slice sa sn sc] W' fun e w' => e = .returned (.bool true) ∧ w' = W') := fun W k W' k' => kept_any g g sa sn sc f W' (by omega) (TWN.out W k W' k') (OQS.out _ (BW.out W k W' k').2)
        clear c0 c1 c2 c3 E13 E14 B4 AL A1 al4 yob yg old e3
        go_wp2_with fail
        go_region_held3 (fun w' => w'.cell? ⟨wr.heap.size, 0, none⟩ = some (.int .i64 xa) ∧ w'.cell? ⟨wr.heap.size, 1, none⟩ = some (.int .i64 xb) ∧ w'.cell? ⟨wr.heap.size, 2, none⟩ = some (.slice sa sn sc)) (first | go_keep | exact (KP.out _ F5.out.2 _ F6.out.2.1).2.1 | exact (KP.out _ F5.out.2 _ (Mv.refl _ _)).1)
          ((first
            | (go_at_call 13; refine C13.mono ?_; rintro e w5 ⟨rfl, F5⟩)
            | (go_at_call 14; refine (C14.out _ F5.out.2).mono ?_; rintro e w6 ⟨rfl, vl6, va6, F6⟩)
            | (go_at_call 15; refine (C15.out _ F5.out.2 _ F6.out.2.1).mono ?_; rintro e w7 ⟨rfl, hw⟩; obtain rfl := hw)))
        obtain ⟨Y7, al7, y7g⟩ : ∃ Y7, Al w w7 p n L' m' A' r vl6 va6 Y7 ∧ Y7 g := ⟨_, AL4.out.edited F5.out.1 F5.out.2 F6.out.1 F6.out.2.1 F6.out.2.2.1 F6.out.2.2.2 HR.out, .inl YO.out.2⟩
        have TW7 : Hid (Own w7 g 5 (.slice (some ⟨g, 0, none⟩) (sn + 3) (sn + 3)) (sn + 3) (twV f sn)) := TWN.out _ F5.out.2 _ F6.out.2.1
        have c3 := (KP.out _ F5.out.2 _ F6.out.2.1).2.2
        have g5 : g < w5.heap.size := by
          have h1 : g < w4.heap.size := (W4.out.blk g rfl).2
          have h2 : w4.heap.size ≤ w5.heap.size := F5.out.2.size
          omega
        have NL : Hid (vl6.ownBlock ≠ some g ∧ va6.ownBlock ≠ some g ∧ g ≠ r ∧ w.heap.size ≤ g) := by
          have hG := HG.out
          have o := OLD.out
          refine ⟨fun e => ?_, fun e => ?_, by omega, by have := HR.out; omega⟩
          · rcases F6.out.2.2.1 g e with h1 | h1
            · have := o.2.1 g h1; omega
            · omega
          · rcases F6.out.2.2.2 g e with h1 | h1
            · have := o.2.2 g h1; omega
            · omega
        have AL7 : Hid (Al w w7 p n L' m' A' r vl6 va6 Y7 ∧ Y7 g) := ⟨al7, y7g⟩
        have BD : Hid (L'.length ≤ 200 + 300 * (i + 1) ∧ m' ≤ 300 * (i + 1)) := by
          show _ ∧ _
          rcases l3 with h | ⟨h, h'⟩
          · constructor
            · omega
            · omega
          · rw [h, h']
            constructor
            · omega
            · omega
        have HGo : Hid (wr.heap.size ≠ g) := by show _ ≠ _; have := HG.out; omega
        obtain ⟨ob, hob⟩ : ∃ ob, ob = wr.heap.size := ⟨_, rfl⟩
        rw [← hob] at c3 HGo
        rw [← hob]
        clear al7 y7g F5 F6 C13 C14 C15 BW TSL TWN KP YO OLD AL4 W4 Q4 QO e0 e1 e2 l1 l2 l3 g5 hob HG OQS OQN
        have SPL := spoil_any g sn (sn + 3) g _ w7 (by omega) (by omega) TW7
        go_wp2_with fail
        refine SPL.mono ?_
        rintro e w8 ⟨rfl, k8⟩
        clear SPL
        obtain ⟨Y8, al8⟩ : ∃ Y8, Al w w8 p n L' m' A' r vl6 va6 Y8 := ⟨_, AL7.out.1.spoil k8.out AL7.out.2 NL.out.2.2.1 NL.out.1 NL.out.2.1 NL.out.2.2.2⟩
        have AL8 : Hid (Al w w8 p n L' m' A' r vl6 va6 Y8) := al8
        have d3 := k8.out.cell c3 HGo.out
        clear al8 AL7 TW7 k8 c3 NL HGo
        go_upto_if 79 with fail
        go_cut [7, 12] from 36 to 144 (fun v7 v12 wx => ∃ p', v7 = .pointer (some ⟨p', 0, none⟩) ∧ Hid (∃ vl va Y, Al w wx p' n L' m' A' r vl va Y))
        case first =>
          cases cp with
          | false =>
            go_wp2_with fail
            go_meet
            exact ⟨p, rfl, vl6, va6, Y8, AL8.out⟩
          | true =>
            have e28 := kc28
            go_wp2_with fail
            refine (copy_any AL8.out.tx).mono ?_
            rintro e w9 ⟨c, rfl, hc, F9⟩
            have C9 : Hid (Tx w9 c n L' m' A' (fun k => k < w8.heap.size)) := F9.out.1
            have Q9 : Hid (Qt w8 w9) := F9.out.2
            clear F9
            go_wp2_with fail
            refine (len_any (AL8.out.tx.qt Q9.out)).mono ?_
            rintro e w10 ⟨rfl, q10⟩
            have SX : Hid (Sl (w10.alloc (.cells #[.int .u8 115, .int .u8 112, .int .u8 111, .int .u8 105, .int .u8 108, .int .u8 116] 5 (6, 7))) (some ⟨w10.heap.size, 0, none⟩) 6 (By fun i => [115, 112, 111, 105, 108, 116].getD i 0)) := sl_lit w10 #[.int .u8 115, .int .u8 112, .int .u8 111, .int .u8 105, .int .u8 108, .int .u8 116] (6, 7) (fun i => [115, 112, 111, 105, 108, 116].getD i 0) (fun i hi => by
              have hi : i < 6 := hi
              obtain rfl | rfl | rfl | rfl | rfl | rfl : i = 0 ∨ i = 1 ∨ i = 2 ∨ i = 3 ∨ i = 4 ∨ i = 5 := by omega
              · rfl
              · rfl
              · rfl
              · rfl
              · rfl
              · rfl)
            have Q10 : Hid (Qt w9 (w10.alloc (.cells #[.int .u8 115, .int .u8 112, .int .u8 111, .int .u8 105, .int .u8 108, .int .u8 116] 5 (6, 7)))) := q10.out.alloc _
            have T10 := (AL8.out.tx.qt Q9.out).qt Q10.out
            have ED := edit_z T10 0 L'.length 0 (L'.length : Int) rfl rfl (some ⟨w10.heap.size, 0, none⟩) 6 6 _ (Nat.zero_le _) (Nat.le_refl _) (by omega) SX (fun e => by cases e) (by have := BD.out; omega) (by have := BD.out; omega)
            clear q10
            go_wp2_with fail
            refine ED.mono ?_
            rintro e w11 ⟨rfl, F11⟩
            have FN : Hid (∃ vl va Y, Al w w11 c n L' m' A' r vl va Y) := by
              obtain ⟨Y', a⟩ := AL8.out.copied C9.out Q9.out Q10.out rfl F11.out.1 F11.out.2
              exact ⟨vl6, va6, Y', a⟩
            clear ED F11 T10 Q10 SX C9 Q9 AL8
            go_wp2_with fail
            go_meet
            exact ⟨c, rfl, FN⟩
        case rest =>
          obtain ⟨p', rfl, AC⟩ := hcut
          obtain ⟨vlc, vac, Yc, alc⟩ := AC.out
          have ALC : Hid (Al w wc p' n L' m' A' r vlc vac Yc) := alc
          obtain ⟨fx, fy, fe, FD, RD⟩ := bothFind (p := p') (n := n) (L := L') (m := m') (A := A') (r := r) (vl := vlc) (va := vac) at' alc.small.2.2 alc.places
          have FT := FD wc Yc alc.tx
          clear AC alc d3 AL8 FD
          go_wp2_with fail
          refine FT.mono ?_
          rintro e w12 ⟨rfl, q12⟩
          have FR := RD w12 (ALC.out.rx.qt q12.out)
          clear FT RD
          go_wp2_with fail
          refine FR.mono ?_
          rintro e w13 ⟨rfl, q13⟩
          obtain ⟨Y13, al13⟩ : ∃ Y13, Al w w13.drew p' n L' m' A' r vlc vac Y13 := ⟨_, ALC.out.qt ((q12.out.comp q13.out).comp (Mv.drewN _ w13 1))⟩
          have AL13 : Hid (Al w w13.drew p' n L' m' A' r vlc vac Y13) := al13
          clear al13 FR ALC q12 q13
          obtain ⟨la, lc, rfl, -⟩ := ow_ls AL13.out.rx.ll
          obtain ⟨aa, ac, rfl, -⟩ := AL13.out.rx.ad.sl
          obtain ⟨tx, htx⟩ : ∃ tx, tx = txt A' m' := ⟨_, rfl⟩
          have CVT : Hid (∀ W a c, Sl W a m' (By A') → (convert 28 9 (.slice a m' c)).run Try.prog W = .ok (.string tx) W) := fun W a c h => by rw [htx]; exact conv_any a m' c A' W h
          have RC : Hid (∀ W, Qt w13.drew W → W.cell? ⟨r, 0, none⟩ = some (.slice la L'.length lc) ∧ W.cell? ⟨r, 1, none⟩ = some (.slice aa m' ac) ∧ (convert 28 9 (.slice aa m' ac)).run Try.prog W = .ok (.string tx) W) := by
            intro W q
            have x := AL13.out.rx.qt q
            obtain ⟨aa', ac', e', s', _⟩ := x.ad.sl
            cases e'
            exact ⟨x.c0, x.c1, CVT.out W aa ac s'⟩
          have P22 : Hid (∀ W, Qt w13.drew W → Calls Try.prog 22 #[.pointer (some ⟨p', 0, none⟩)] W fun e w' => ∃ v, e = .returned v ∧ Hid (Op3 w' W.heap.size v (nf L') ∧ Qt W w')) := fun W q => pieces_any (AL13.out.tx.qt q)
          have P23 : Hid (∀ W, Qt w13.drew W → Calls Try.prog 23 #[.pointer (some ⟨r, 0, none⟩)] W fun e w' => ∃ v, e = .returned v ∧ Hid (Op3 w' W.heap.size v (nf L') ∧ Qt W w')) := fun W q => rpieces_any (AL13.out.rx.qt q) AL13.out.small.2.2 AL13.out.places
          have P24 : Hid (∀ W, Qt w13.drew W → Calls Try.prog 24 #[.pointer (some ⟨p', 0, none⟩)] W fun e w' => ∃ v, e = .returned v ∧ Hid (Own w' W.heap.size 5 v m' (By A') ∧ Qt W w')) := fun W q => added_any (AL13.out.tx.qt q)
          have P18 : Hid (∀ W, Qt w13.drew W → Calls Try.prog 18 #[.pointer (some ⟨p', 0, none⟩)] W fun e w' => e = .returned (.int .i64 L'.length) ∧ Hid (Qt W w')) := fun W q => len_any (AL13.out.tx.qt q)
          have P21 : Hid (∀ W a b ca cb, Ls W a (cellsP (nf L')) → Ls W b (cellsP (nf L')) → Calls Try.prog 21 #[.slice a (nf L').length ca, .slice b (nf L').length cb] W fun e w' => e = .returned (.bool true) ∧ Hid (Qt W w')) := fun W a b ca cb h1 h2 => same_any a b ca cb (nf L') W (Nat.le_trans (nf_length L') AL13.out.small.2.2) h1 h2
          have AWF : Hid (∀ W, Qt w13.drew W → Aw w W p' n r (i + 1)) := fun W q => ⟨_, _, _, _, _, _, AL13.out.qt q, BD.out.1, BD.out.2⟩
          clear htx AL13
          go_wp2_with fail
          have RC0 := RC.out _ (Qt.refl _)
          obtain ⟨rc0, rc1, rc2⟩ := RC0
          go_region_held_law (fun w' => w'.cell? ⟨r, 0, none⟩ = some (.slice la L'.length lc) ∧ w'.cell? ⟨r, 1, none⟩ = some (.slice aa m' ac) ∧ (convert 28 9 (.slice aa m' ac)).run Try.prog w' = .ok (.string tx) w') (first | exact RC.out _ (Q17.out.comp q18.out) | exact RC.out _ Q17.out | exact RC.out _ Q16.out | exact RC.out _ (F14.out.2.comp F15.out.2) | exact RC.out _ F14.out.2 | go_keep) ((first
            | (go_at_call 22; refine (P22.out _ (Qt.refl _)).mono ?_; rintro e w14 ⟨v14, rfl, F14⟩; obtain ⟨a14, c14, rfl, l14, -⟩ := ow_ls F14.out.1)
            | (go_at_call 23; refine (P23.out _ F14.out.2).mono ?_; rintro e w15 ⟨v15, rfl, F15⟩; obtain ⟨a15, c15, rfl, l15, -⟩ := ow_ls F15.out.1)
            | (go_at_call 21; refine (P21.out _ a14 a15 c14 c15 (l14.qt F15.out.2) l15).mono ?_; rintro e w16 ⟨rfl, q16⟩; have Q16 : Hid (Qt w13.drew w16) := (F14.out.2.comp F15.out.2).comp q16.out; obtain ⟨cr0, cr1, cvr⟩ := RC.out _ Q16.out)
            | (go_at_call 24; refine (P24.out _ Q16.out).mono ?_; rintro e w17 ⟨v17, rfl, F17⟩; obtain ⟨a17, c17, rfl, s17, -⟩ := F17.out.1.sl; have cv17 := CVT.out w17 a17 c17 s17; have Q17 : Hid (Qt w13.drew w17) := Q16.out.comp F17.out.2; obtain ⟨cs0, cs1, cvs⟩ := RC.out _ Q17.out; clear s17)
            | (go_at_call 18; refine (P18.out _ Q17.out).mono ?_; rintro e w18 ⟨rfl, q18⟩; have AWN : Hid (Aw w w18 p' n r (i + 1)) := AWF.out _ (Q17.out.comp q18.out); obtain ⟨ct0, ct1, -⟩ := RC.out _ (Q17.out.comp q18.out))))
          all_goals (go_wp2_with fail)
          all_goals exact ⟨⟨i + 1, p', by omega, by go_num, rfl, AWN⟩, by simp [intOf]; omega⟩
    · obtain rfl : i = ka := by omega
      have BL : Hid (Below w.heap.size w wr) := al.bel
      clear al AW
      go_wp2_with fail
      refine (find_nil 0 wr).mono ?_
      rintro e w4 ⟨rfl, hw⟩
      obtain rfl := hw.symm
      clear hw
      go_wp2_with fail
      refine (edit_nil 0 0 (.slice none 0 0) wr).mono ?_
      rintro e w4 ⟨rfl, hw⟩
      obtain rfl := hw.symm
      clear hw
      go_wp2_with fail
      refine (len_nil wr).mono ?_
      rintro e w4 ⟨rfl, hw⟩
      obtain rfl := hw.symm
      clear hw
      go_wp2_with fail
      refine (pieces_nil wr).mono ?_
      rintro e w4 ⟨rfl, hw⟩
      obtain rfl := hw.symm
      clear hw
      go_wp2_with fail
      refine (added_nil wr).mono ?_
      rintro e w4 ⟨rfl, hw⟩
      obtain rfl := hw.symm
      clear hw
      go_wp2_with fail
      refine (copy_nil wr).mono ?_
      rintro e w4 ⟨rfl, hw⟩
      obtain rfl := hw.symm
      clear hw
      go_wp2_with fail
      go_ret
      exact ⟨by simp, BL.out⟩
end Go.Proofs.Ytjelclomigmlmaa
