/- PieceCopies. -/
import Derived.Test.YtjelclomigmlmaaE5
namespace Go.Proofs.Ytjelclomigmlmaa
open Go.RowKit

set_option maxHeartbeats 4000000 in
theorem copies_any (w : World) (n : Int) (hn : 0 ≤ n ∧ n ≤ 255) (ua : Option Addr) (ka ca : Nat) (hA : Hid (So w ua ka)) (ub : Option Addr) (kb cb : Nat) (hB : Hid (So w ub kb)) (h1 : ka ≤ 8) (h2 : kb ≤ 8) :
    Calls Try.prog 5 #[.int .u8 n, .slice ua ka ca, .slice ub kb cb] w fun e w' => e = .returned (.bool true) ∧ Below w.heap.size w w' := by
  obtain ⟨n1, n2⟩ := hn
  have h1z : (ka : Int) ≤ 8 := by omega
  have h2z : (kb : Int) ≤ 8 := by omega
  go_enter Try.func5, Try.ntmps5
  go_wp2_with fail
  refine (begun_any w).mono ?_
  rintro e w1 ⟨rfl, bl⟩
  have B1 : Hid (Below w.heap.size w w1) := bl
  clear bl
  go_wp2_with fail
  refine (new_any n (by omega) w1).mono ?_
  rintro e w2 ⟨q, rfl, hq, T2⟩
  obtain ⟨N, hN⟩ : ∃ N, N = n.toNat := ⟨_, rfl⟩
  have T : Hid (Tu w w2 q w1.heap.size N 255 0) := by
    have h1 := T2.out.1
    rw [← hN] at h1
    obtain ⟨⟨L, m, A, t, x1, x2⟩, b, l⟩ := new_tu B1.out h1 T2.out.2
    exact ⟨⟨L, m, A, t, by omega, x2⟩, b, l⟩
  clear T2 hN B1
  generalize w1.heap.size = H at *
  go_wp2_with fail
  go_loopw [8] (fun vi wr => ∃ i : Nat, i ≤ ka ∧ vi = .int .i64 i ∧ Hid (Tu w wr q H N (255 + 50 * i) (50 * i))) (fun vi _ => ka - (intOf vi).toNat)
  case atStart => exact ⟨0, by omega, rfl, T⟩
  case round =>
    clear T
    obtain ⟨i, hi, rfl, T⟩ := hrel
    by_cases hlt : i < ka
    · have hltz : (i : Int) < (ka : Int) := by omega
      obtain ⟨b, off, o, rfl, hb, oq⟩ := hA.out i hlt
      have OQ : Hid (OqAt w b (off + i * 4) o) := oq
      have o2 := oq.below T.out.2.1
      have c0 := o2.c0
      have c1 := o2.c1
      have c2 := o2.c2
      clear oq o2
      by_cases hk : 50 < o.sn
      · have hkz : (50 : Int) < o.sn := by omega
        go_wp2_with fail
        go_ret
        exact ⟨rfl, T.out.2.1⟩
      · have hkz : (o.sn : Int) ≤ 50 := by omega
        have ED := Tu.edit (wr := wr.drew) (T.out.qt (Mv.drewN _ wr 1)) o.a o.b o.sa o.sn o.sc o.f 50 (by omega) (by omega) (OQ.out.below (T.out.qt (Mv.drewN _ wr 1)).2.1).sl OQ.out.none (by omega) (by omega)
        have KP : Hid (∀ W, Below w.heap.size w W → W.cell? ⟨b, off + i * 4, none⟩ = some (.int .i64 o.a) ∧ W.cell? ⟨b, off + i * 4 + 1, none⟩ = some (.int .i64 o.b) ∧ W.cell? ⟨b, off + i * 4 + 2, none⟩ = some (.slice o.sa o.sn o.sc)) := fun W hW => ⟨(OQ.out.below hW).c0, (OQ.out.below hW).c1, (OQ.out.below hW).c2⟩
        obtain ⟨xa, xb, sa, sn, sc, f, cp⟩ := o
        simp only at c0 c1 c2 hkz ED KP
        go_wp2_with fail
        go_region_held3 (fun w' => w'.cell? ⟨b, off + i * 4, none⟩ = some (.int .i64 xa) ∧ w'.cell? ⟨b, off + i * 4 + 1, none⟩ = some (.int .i64 xb) ∧ w'.cell? ⟨b, off + i * 4 + 2, none⟩ = some (.slice sa sn sc)) (first | go_keep | exact KP.out _ T3.out.2.1)
          ((first
            | (go_at_call 13; refine ED.mono ?_; rintro e w3 ⟨z, rfl, T3⟩)))
        clear ED T c0 c1 c2 KP
        go_wp2_with fail
        exact ⟨⟨i + 1, by omega, by go_num, by rw [show 255 + 50 * (i + 1) = 255 + 50 * i + 50 by omega, show 50 * (i + 1) = 50 * i + 50 by omega]; exact T3⟩, by simp [intOf]; omega⟩
    · obtain rfl : i = ka := by omega
      have T9 : Hid (Tu w wr q H N 700 400) := by
        obtain ⟨⟨L, m, A, t, x1, x2⟩, b, l⟩ := T.out
        exact ⟨⟨L, m, A, t, by omega, by omega⟩, b, l⟩
      clear T
      obtain ⟨⟨L, m, A, t, x1, x2⟩, b, l⟩ := T9.out
      have TX : Hid (Tx wr q N L m A (fun k => k < H)) := t
      have BL : Hid (Below w.heap.size w wr) := b
      have HL : Hid (w.heap.size ≤ H) := l
      have PC := pieces_any (w := wr.drew) ((TX.out.qt (Mv.drewN _ wr 1)).mono (fun k hk => .inl hk))
      clear T9 t b l
      go_wp2_with fail
      go_region_with ((first
          | (go_at_call 22; refine PC.mono ?_; rintro e w3 ⟨v3, rfl, F3⟩; obtain ⟨pa, pc, rfl, l3, -⟩ := ow_ls F3.out.1)
          | (go_at_call 24; refine (added_any ((TX.out.qt ((Mv.drewN (fun _ => False) wr 1).trans F3.out.2 (fun _ _ h => h))).mono (fun k hk => .inl hk))).mono ?_; rintro e w4 ⟨v4, rfl, F4⟩; obtain ⟨aa, ac, rfl, s4, -⟩ := F4.out.1.sl; have cv := conv_any aa m ac A w4 s4)))
      have Q34 : Qt wr w4 := ((Mv.drewN (fun _ => False) wr 1).trans F3.out.2 (fun _ _ h => h)).trans F4.out.2 (fun _ _ h => h)
      have T4 : Hid (Tx w4 q N L m A (fun k => k < H)) := (TX.out.qt Q34).mono (fun k hk => .inl hk)
      have P4 : Hid (Ls w4 pa (cellsP (nf L))) := l3.qt F4.out.2
      have B4 : Hid (Below w.heap.size w w4) := BL.out.trans (Q34.below _ BL.out.size)
      have NL : Hid ((nf L).length ≤ 20000) := by have := nf_length L; show _ ≤ _; omega
      have X1 : Hid (L.length ≤ 700 ∧ m ≤ 400) := ⟨x1, x2⟩
      clear Q34 l3 F3 F4 s4 cv PC TX BL HL x1 x2 hA hi hlt h1 h1z
      obtain ⟨tx, htx⟩ : ∃ tx, tx = txt A m := ⟨_, rfl⟩
      have TXT : Hid (tx = txt A m) := htx
      rw [← htx]
      clear htx
      obtain ⟨np, hnp⟩ : ∃ np, np = (nf L).length := ⟨_, rfl⟩
      have NP : Hid (np = (nf L).length) := hnp
      rw [← hnp]
      clear hnp
      go_wp2_with fail
      refine (copy_any T4).mono ?_
      rintro e w5 ⟨c, rfl, hc, F5⟩
      have C5 : Hid (Tx w5 c N L m A (fun k => k < w4.heap.size)) := F5.out.1
      have Q5 : Hid (Qt w4 w5) := F5.out.2
      clear F5
      go_wp2_with fail
      refine (pieces_any C5).mono ?_
      rintro e w6 ⟨v6, rfl, F6⟩
      have C6 : Hid (Tx w6 c N L m A (fun k => k < w4.heap.size)) := (C5.out.qt F6.out.2).mono (fun k hk => .inl hk)
      have Q6 : Hid (Qt w4 w6) := Q5.out.comp F6.out.2
      obtain ⟨a6, c6, rfl, l6, -⟩ := ow_ls F6.out.1
      have SP := same_any a6 pa c6 pc (nf L) w6 NL.out l6 (P4.out.qt Q6.out)
      rw [← NP.out] at SP ⊢
      clear l6 F6 C5 Q5
      go_wp2_with fail
      refine SP.mono ?_
      rintro e w7 ⟨rfl, q7⟩
      have C7 : Hid (Tx w7 c N L m A (fun k => k < w4.heap.size)) := (C6.out.qt q7.out).mono (fun k hk => .inl hk)
      have Q7 : Hid (Qt w4 w7) := Q6.out.comp q7.out
      clear SP q7 C6 Q6
      go_wp2_with fail
      refine (added_any C7).mono ?_
      rintro e w8 ⟨v8, rfl, F8⟩
      obtain ⟨a8, c8, rfl, s8, -⟩ := F8.out.1.sl
      have cv8 := conv_any a8 m c8 A w8 s8
      rw [← TXT.out] at cv8
      have C8 : Hid (Tx w8 c N L m A (fun k => k < w4.heap.size)) := (C7.out.qt F8.out.2).mono (fun k hk => .inl hk)
      have Q8 : Hid (Qt w4 w8) := Q7.out.comp F8.out.2
      have T8 : Hid (Tu w4 w8 c w4.heap.size N 700 400) := ⟨⟨L, m, A, C8.out, X1.out.1, X1.out.2⟩, Q8.out.below _ (Nat.le_refl _), Nat.le_refl _⟩
      clear F8 s8 C7 Q7 C8 Q8
      go_wp2_with fail
      clear cv8
      go_loopw [12] (fun vi wr => ∃ i : Nat, i ≤ kb ∧ vi = .int .i64 i ∧ Hid (Tu w4 wr c w4.heap.size N (700 + 50 * i) (400 + 50 * i))) (fun vi _ => kb - (intOf vi).toNat)
      case atStart => exact ⟨0, by omega, rfl, T8⟩
      case round =>
        clear T8
        obtain ⟨j, hj, rfl, T⟩ := hrel
        by_cases hlt : j < kb
        · have hltz : (j : Int) < (kb : Int) := by omega
          obtain ⟨b, off, o, rfl, hb, oq⟩ := hB.out j hlt
          have OQ : Hid (OqAt w b (off + j * 4) o) := oq
          have BW : ∀ W, Below w4.heap.size w4 W → Below w.heap.size w W := fun W h => B4.out.trans (h.mono B4.out.size)
          have o2 := oq.below (BW _ T.out.2.1)
          have d0 := o2.c0
          have d1 := o2.c1
          have d2 := o2.c2
          have BWH : Hid (∀ W, Below w4.heap.size w4 W → Below w.heap.size w W) := BW
          clear oq o2 BW
          by_cases hk : 50 < o.sn
          · have hkz : (50 : Int) < o.sn := by omega
            go_wp2_with fail
            go_ret
            exact ⟨rfl, BWH.out _ T.out.2.1⟩
          · have hkz : (o.sn : Int) ≤ 50 := by omega
            have ED := Tu.edit (wr := World.drew _) (T.out.qt (Mv.drewN _ _ 1)) o.a o.b o.sa o.sn o.sc o.f 50 (by omega) (by omega) (OQ.out.below (BWH.out _ (T.out.qt (Mv.drewN _ _ 1)).2.1)).sl OQ.out.none (by omega) (by omega)
            have KP : Hid (∀ W, Below w4.heap.size w4 W → W.cell? ⟨b, off + j * 4, none⟩ = some (.int .i64 o.a) ∧ W.cell? ⟨b, off + j * 4 + 1, none⟩ = some (.int .i64 o.b) ∧ W.cell? ⟨b, off + j * 4 + 2, none⟩ = some (.slice o.sa o.sn o.sc)) := fun W hW => ⟨(OQ.out.below (BWH.out W hW)).c0, (OQ.out.below (BWH.out W hW)).c1, (OQ.out.below (BWH.out W hW)).c2⟩
            obtain ⟨xa, xb, sa, sn, sc, f, cp⟩ := o
            simp only at d0 d1 d2 hkz ED KP
            go_wp2_with fail
            go_region_held3 (fun w' => w'.cell? ⟨b, off + j * 4, none⟩ = some (.int .i64 xa) ∧ w'.cell? ⟨b, off + j * 4 + 1, none⟩ = some (.int .i64 xb) ∧ w'.cell? ⟨b, off + j * 4 + 2, none⟩ = some (.slice sa sn sc)) (first | go_keep | exact KP.out _ T3.out.2.1)
              ((first
                | (go_at_call 13; refine ED.mono ?_; rintro e w9 ⟨z, rfl, T3⟩)))
            clear ED T d0 d1 d2 KP
            go_wp2_with fail
            exact ⟨⟨j + 1, by omega, by go_num, by rw [show 700 + 50 * (j + 1) = 700 + 50 * j + 50 by omega, show 400 + 50 * (j + 1) = 400 + 50 * j + 50 by omega]; exact T3⟩, by simp [intOf]; omega⟩
        · obtain rfl : j = kb := by omega
          obtain ⟨⟨Lc, mc, Ac, t, y1, y2⟩, b, l⟩ := T.out
          have TC : Hid (Tx _ c N Lc mc Ac (fun k => k < w4.heap.size)) := t
          have BC : Hid (Below w4.heap.size w4 _) := b
          clear T t b l
          have e28 := kc28
          go_wp2_with fail
          refine (len_any TC).mono ?_
          rintro e w10 ⟨rfl, q10⟩
          have TC2 : Hid (Tx (w10.alloc (.cells #[.int .u8 97, .int .u8 108, .int .u8 108] 5 (3, 4))) c N Lc mc Ac (fun k => k < w4.heap.size)) := (TC.out.qt (q10.out.alloc _)).mono (fun k hk => .inl hk)
          have BC2 : Hid (Below w4.heap.size w4 (w10.alloc (.cells #[.int .u8 97, .int .u8 108, .int .u8 108] 5 (3, 4)))) := BC.out.trans ((q10.out.alloc _).below _ BC.out.size)
          have SX : Hid (Sl (w10.alloc (.cells #[.int .u8 97, .int .u8 108, .int .u8 108] 5 (3, 4))) (some ⟨w10.heap.size, 0, none⟩) 3 (By fun i => if i = 0 then 97 else 108)) := sl_lit w10 #[.int .u8 97, .int .u8 108, .int .u8 108] (3, 4) (fun i => if i = 0 then 97 else 108) (fun i hi => by
            have hi : i < 3 := hi
            obtain rfl | rfl | rfl : i = 0 ∨ i = 1 ∨ i = 2 := by omega
            · rfl
            · rfl
            · rfl)
          clear TC BC q10
          go_wp2_with fail
          refine (edit_z TC2 0 Lc.length _ _ rfl rfl (some ⟨w10.heap.size, 0, none⟩) 3 3 _ (Nat.zero_le _) (Nat.le_refl _) (by omega) SX (fun e => by cases e) (by omega) (by omega)).mono ?_
          rintro e w11 ⟨rfl, F11⟩
          have L3 : Hid ((ins Lc 0 Lc.length mc 3).length = 3) := by
            show _ = _
            rw [ins_length _ _ _ _ _ (Nat.zero_le _) (Nat.le_refl _)]; omega
          have C11 : Hid (∃ L m A, Tx w11 c N L m A (fun k => k < w4.heap.size) ∧ L.length = 3) := ⟨_, _, _, F11.out.1, L3.out⟩
          have Q11 : Hid (Qt w4 w11) := qt_of_below (Tx.edit BC2.out F11.out.2 (Nat.le_refl _) (fun _ h => h))
          have T11 : Hid (Tx w11 q N L m A (fun k => k < H)) := (T4.out.qt Q11.out).mono (fun k hk => .inl hk)
          clear TC2 BC2 SX F11 L3 T4
          go_wp2_with fail
          refine (pieces_any T11).mono ?_
          rintro e w12 ⟨v12, rfl, F12⟩
          have Q12 : Hid (Qt w4 w12) := Q11.out.comp F12.out.2
          have T12 : Hid (Tx w12 q N L m A (fun k => k < H)) := (T11.out.qt F12.out.2).mono (fun k hk => .inl hk)
          have C12 : Hid (∃ L m A, Tx w12 c N L m A (fun k => k < w4.heap.size) ∧ L.length = 3) := by
            obtain ⟨L1, m1, A1, t1, z1⟩ := C11.out
            exact ⟨L1, m1, A1, (t1.qt F12.out.2).mono (fun k hk => .inl hk), z1⟩
          obtain ⟨a12, c12, rfl, l12, -⟩ := ow_ls F12.out.1
          have SP := same_any a12 pa c12 pc (nf L) w12 NL.out l12 (P4.out.qt Q12.out)
          rw [← NP.out] at SP ⊢
          clear l12 F12 T11 Q11 C11
          go_wp2_with fail
          refine SP.mono ?_
          rintro e w13 ⟨rfl, q13⟩
          have Q13 : Hid (Qt w4 w13) := Q12.out.comp q13.out
          have T13 : Hid (Tx w13 q N L m A (fun k => k < H)) := (T12.out.qt q13.out).mono (fun k hk => .inl hk)
          have C13 : Hid (∃ L m A, Tx w13 c N L m A (fun k => k < w4.heap.size) ∧ L.length = 3) := by
            obtain ⟨L1, m1, A1, t1, z1⟩ := C12.out
            exact ⟨L1, m1, A1, (t1.qt q13.out).mono (fun k hk => .inl hk), z1⟩
          clear SP q13 T12 Q12 C12
          go_wp2_with fail
          refine (added_any T13).mono ?_
          rintro e w14 ⟨v14, rfl, F14⟩
          obtain ⟨a14, c14, rfl, s14, -⟩ := F14.out.1.sl
          have cv14 := conv_any a14 m c14 A w14 s14
          rw [← TXT.out] at cv14
          have Q14 : Hid (Qt w4 w14) := Q13.out.comp F14.out.2
          obtain ⟨L1, m1, A1, t1, z1⟩ := C13.out
          have C14 : Hid (Tx w14 c N L1 m1 A1 (fun k => k < w4.heap.size)) := (t1.qt F14.out.2).mono (fun k hk => .inl hk)
          have Z1 : Hid (L1.length = 3) := z1
          clear F14 s14 T13 Q13 C13 t1 z1
          go_wp2_with fail
          refine (len_any C14).mono ?_
          rintro e w15 ⟨rfl, q15⟩
          rw [Z1.out]
          have B15 : Below w.heap.size w w15 := B4.out.trans ((Q14.out.comp q15.out).below _ B4.out.size)
          clear cv14
          go_wp2_with fail
          go_ret
          exact ⟨by simp, B15⟩

set_option maxHeartbeats 1000000 in
theorem copies_out (w : World) (n : Int) (ua : Option Addr) (ka ca : Nat) (ub : Option Addr) (kb cb : Nat) (h : 8 < ka ∨ 8 < kb) :
    Calls Try.prog 5 #[.int .u8 n, .slice ua ka ca, .slice ub kb cb] w fun e w' => e = .returned (.bool true) ∧ Below w.heap.size w w' := by
  by_cases h1 : 8 < ka
  · have h1z : (8 : Int) < ka := by omega
    clear h
    go_enter Try.func5, Try.ntmps5
    go_wp2_with fail
    refine (begun_any w).mono ?_
    rintro e w1 ⟨rfl, bl⟩
    have B1 : Hid (Below w.heap.size w w1) := bl
    clear bl
    go_wp2_with fail
    go_ret
    exact ⟨rfl, B1.out⟩
  · have h1z : (ka : Int) ≤ 8 := by omega
    have h2z : (8 : Int) < kb := by omega
    clear h
    go_enter Try.func5, Try.ntmps5
    go_wp2_with fail
    refine (begun_any w).mono ?_
    rintro e w1 ⟨rfl, bl⟩
    have B1 : Hid (Below w.heap.size w w1) := bl
    clear bl
    go_wp2_with fail
    go_ret
    exact ⟨rfl, B1.out⟩
theorem pieceCopies_row (W : World) (n : Int) (wn : (Lit.int .u8 n).wf = true) (ua : Option Addr) (ka ca : Nat) (sa : So W ua ka) (ub : Option Addr) (kb cb : Nat) (sb : So W ub kb) :
    Calls Try.prog 5 #[.int .u8 n, .slice ua ka ca, .slice ub kb cb] W fun e w' => e = .returned (.bool true) ∧ Below W.heap.size W w' := by
  by_cases h : 8 < ka ∨ 8 < kb
  · exact copies_out W n ua ka ca ub kb cb h
  · exact copies_any W n (u8_wf' wn) ua ka ca sa ub kb cb sb (by omega) (by omega)
end Go.Proofs.Ytjelclomigmlmaa
