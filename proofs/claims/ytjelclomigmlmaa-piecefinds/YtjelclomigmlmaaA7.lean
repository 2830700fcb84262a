/- PieceFinds. -/
import Derived.Test.YtjelclomigmlmaaE5
namespace Go.Proofs.Ytjelclomigmlmaa
open Go.RowKit

set_option maxHeartbeats 4000000 in
set_option maxRecDepth 20000 in
theorem finds_any (w : World) (n : Int) (hn : 0 ≤ n ∧ n ≤ 255) (ua : Option Addr) (ka ca : Nat) (hA : Hid (So w ua ka)) (h1 : ka ≤ 15) :
    Calls Try.prog 7 #[.int .u8 n, .slice ua ka ca] w fun e w' => e = .returned (.bool true) ∧ Below w.heap.size w w' := by
  obtain ⟨n1, n2⟩ := hn
  have h1z : (ka : Int) ≤ 15 := by omega
  go_enter Try.func7, Try.ntmps7
  go_wp2_with fail
  refine (begun_any w).mono ?_
  rintro e w1 ⟨rfl, bl⟩
  have B1 : Hid (Below w.heap.size w w1) := bl
  clear bl
  go_wp2_with fail
  refine (new_any n (by omega) w1).mono ?_
  rintro e w2 ⟨q, rfl, hq, T2⟩
  obtain ⟨N, hN⟩ : ∃ N, N = n.toNat := ⟨_, rfl⟩
  have T : Hid (Tu w w2 q w1.heap.size N 255 0) := by
    have h1 := T2.out.1
    rw [← hN] at h1
    obtain ⟨⟨L, m, A, t, x1, x2⟩, b, l⟩ := new_tu B1.out h1 T2.out.2
    exact ⟨⟨L, m, A, t, by omega, x2⟩, b, l⟩
  clear T2 hN B1
  generalize w1.heap.size = H at *
  go_wp2_with fail
  go_loopw [6] (fun vi wr => ∃ i : Nat, i ≤ ka ∧ vi = .int .i64 i ∧ Hid (Tu w wr q H N (255 + 30 * i) (30 * i))) (fun vi _ => ka - (intOf vi).toNat)
  case atStart => exact ⟨0, by omega, rfl, T⟩
  case round =>
    clear T
    obtain ⟨i, hi, rfl, T⟩ := hrel
    by_cases hlt : i < ka
    · have hltz : (i : Int) < (ka : Int) := by omega
      obtain ⟨b, off, o, rfl, hb, oq⟩ := hA.out i hlt
      have OQ : Hid (OqAt w b (off + i * 4) o) := oq
      have o2 := oq.below T.out.2.1
      have c0 := o2.c0
      have c1 := o2.c1
      have c2 := o2.c2
      clear oq o2
      by_cases hk : 30 < o.sn
      · have hkz : (30 : Int) < o.sn := by omega
        go_wp2_with fail
        go_ret
        exact ⟨rfl, T.out.2.1⟩
      · have hkz : (o.sn : Int) ≤ 30 := by omega
        obtain ⟨⟨L, m, A, t, x1, x2⟩, bb, ll⟩ := T.out
        have TX : Hid (Tx wr q N L m A (fun k => k < H)) := t
        have BL : Hid (Below w.heap.size w wr) := bb
        have LN := len_any (w := wr.drew) ((TX.out.qt (Mv.drewN _ wr 1)).mono (fun k hk => .inl hk))
        have KP : Hid (∀ W, Below w.heap.size w W → W.cell? ⟨b, off + i * 4, none⟩ = some (.int .i64 o.a) ∧ W.cell? ⟨b, off + i * 4 + 1, none⟩ = some (.int .i64 o.b) ∧ W.cell? ⟨b, off + i * 4 + 2, none⟩ = some (.slice o.sa o.sn o.sc)) := fun W hW => ⟨(OQ.out.below hW).c0, (OQ.out.below hW).c1, (OQ.out.below hW).c2⟩
        have OQS : Hid (∀ W, Below w.heap.size w W → Sl W o.sa o.sn (By o.f)) := fun W hW => (OQ.out.below hW).sl
        have OQN : Hid (o.sa = none → o.sn = 0 ∧ o.sc = 0) := OQ.out.none
        have hsn : o.sn ≤ 30 := by omega
        obtain ⟨xa, xb, sa, sn, sc, f, cp⟩ := o
        simp only at c0 c1 c2 hkz KP OQS OQN hsn
        clear T t bb OQ hk
        obtain ⟨lc, hlc⟩ : ∃ lc, lc = L.length := ⟨_, rfl⟩
        have LC : Hid (lc = L.length) := hlc
        rw [← hlc] at LN x1
        clear hlc
        have hw1 : IntKind.i64.wrap ((lc : Int) + 1) = (lc : Int) + 1 := wrap_small (by omega) (by omega)
        have PL := fun W => placeOf_any xa (lc + 1) (by omega) (by omega) W
        rw [show ((lc + 1 : Nat) : Int) = (lc : Int) + 1 by omega] at PL
        have QB : Hid (∀ W, Qt wr.drew W → Below w.heap.size w W) := fun W hW => BL.out.trans (Qt.below (Qt.comp (Mv.drewN _ wr 1) hW) _ BL.out.size)
        go_wp2_with fail
        go_region_held3 (fun w' => w'.cell? ⟨b, off + i * 4, none⟩ = some (.int .i64 xa)) (first | go_keep | exact (KP.out _ (QB.out _ q3.out)).1)
          ((first
            | (go_at_call 18; refine LN.mono ?_; rintro e w3 ⟨rfl, q3⟩)
            | (go_at_call 25; refine (PL _).mono ?_; rintro e w4 ⟨r, rfl, hr, hw⟩; obtain rfl := hw)))
        have B4 : Hid (Below w.heap.size w w4) := QB.out _ q3.out
        have T4 : Hid (Tx w4 q N L m A (fun k => k < H)) := (TX.out.qt (Qt.comp (Mv.drewN _ wr 1) q3.out)).mono (fun k hk => .inl hk)
        have d1 := (KP.out _ B4.out).2.1
        have d2 := (KP.out _ B4.out).2.2
        obtain ⟨d, hd⟩ : ∃ d : Nat, (lc : Int) - r = (d : Int) := ⟨lc - r, by omega⟩
        have hd2 : d ≤ lc := by omega
        have hw2 : IntKind.i64.wrap (d : Int) = (d : Int) := wrap_small (by omega) (by omega)
        have hw3 : IntKind.i64.wrap ((d : Int) + 1) = (d : Int) + 1 := wrap_small (by omega) (by omega)
        have PL2 := fun W => placeOf_any xb (d + 1) (by omega) (by omega) W
        rw [show ((d + 1 : Nat) : Int) = (d : Int) + 1 by omega] at PL2
        have LN2 := len_any (w := w4.drew) ((T4.out.qt (Mv.drewN _ w4 1)).mono (fun k hk => .inl hk))
        rw [← LC.out] at LN2
        have HL : Hid (w.heap.size ≤ H) := ll
        have X2 : Hid (L.length ≤ 255 + 30 * i ∧ m ≤ 30 * i) := ⟨by rw [← LC.out]; exact x1, x2⟩
        have ED : Hid (∀ (W : World) (y : Int), Qt w4.drew W → Calls Try.prog 13 #[.pointer (some ⟨q, 0, none⟩), .int .i64 (r : Int), .int .i64 y, .slice sa sn sc] W fun e w' => ∃ z : Int, e = .returned (.int .i64 z) ∧ Hid (Tu w w' q H N (255 + 30 * i + 30) (30 * i + 30))) := by
          intro W y hW
          have hq := Qt.comp (Mv.drewN _ w4 1) hW
          have hT : Tu w W q H N (255 + 30 * i) (30 * i) := ⟨⟨L, m, A, (T4.out.qt hq).mono (fun k hk => .inl hk), X2.out.1, X2.out.2⟩, B4.out.trans (Qt.below hq _ B4.out.size), HL.out⟩
          exact Tu.edit hT (r : Int) y sa sn sc f 30 hsn (by omega) (OQS.out W hT.2.1) OQN (by omega) (by omega)
        have QB2 : Hid (∀ W, Qt w4.drew W → Below w.heap.size w W) := fun W hW => B4.out.trans (Qt.below (Qt.comp (Mv.drewN _ w4 1) hW) _ B4.out.size)
        clear LN PL QB TX BL q3 c0 c1 c2 hw1
        go_wp2_with fail
        go_region_held3 (fun w' => w'.cell? ⟨b, off + i * 4 + 1, none⟩ = some (.int .i64 xb) ∧ w'.cell? ⟨b, off + i * 4 + 2, none⟩ = some (.slice sa sn sc)) (first | go_keep | exact (KP.out _ T7.out.2.1).2 | exact (KP.out _ (QB2.out _ q5.out)).2)
          ((first
            | (go_at_call 18; refine LN2.mono ?_; rintro e w5 ⟨rfl, q5⟩)
            | (go_at_call 25; refine (PL2 _).mono ?_; rintro e w6 ⟨r2, rfl, hr2, hw⟩; obtain rfl := hw; have hw4 : IntKind.i64.wrap ((r : Int) + (r2 : Int)) = (r : Int) + r2 := wrap_small (by omega) (by omega))
            | (go_at_call 13; refine (ED.out _ _ q5.out).mono ?_; rintro e w7 ⟨z, rfl, T7⟩)))
        all_goals (go_wp2_with fail)
        all_goals exact ⟨⟨i + 1, by omega, by go_num, by rw [show 255 + 30 * (i + 1) = 255 + 30 * i + 30 by omega, show 30 * (i + 1) = 30 * i + 30 by omega]; exact T7⟩, by simp [intOf]; omega⟩
    · obtain rfl : i = ka := by omega
      obtain ⟨⟨L, m, A, t, x1, x2⟩, bb, ll⟩ := T.out
      have TX : Hid (Tx wr q N L m A (fun k => k < H)) := t
      have BL : Hid (Below w.heap.size w wr) := bb
      have hL : L.length ≤ 1000 := by omega
      clear T t bb ll x1 x2
      go_wp2_with fail
      refine (pieces_any TX).mono ?_
      rintro e w3 ⟨v3, rfl, F3⟩
      have T3 : Hid (Tx w3 q N L m A (fun k => k < H)) := (TX.out.qt F3.out.2).mono (fun k hk => .inl hk)
      have B3 : Hid (Below w.heap.size w w3) := BL.out.trans (F3.out.2.below _ BL.out.size)
      obtain ⟨pa, pc, rfl, l3, -⟩ := ow_ls F3.out.1
      have P3 : Hid (Ls w3 pa (cellsP (nf L))) := l3
      have FT : Hid (Fit (nf L)) := by
        obtain ⟨_, _, t⟩ := T3.out
        exact t.fit
      have SPN : Hid (spl (nf L) = L) := spl_nf L
      have FD : Hid (∀ W (z : Nat), Qt w3 W → z < L.length → Calls Try.prog 19 #[.pointer (some ⟨q, 0, none⟩), .int .i64 z] W fun e w' => e = .returned (.tuple #[.int .i64 (plc (nf L) z).1, .int .i64 (plc (nf L) z).2, .int .i64 0]) ∧ Hid (Qt W w')) := fun W z hW hz => find_ok (T3.out.qt hW) z hz
      have FB : Hid (∀ W, Qt w3 W → Calls Try.prog 19 #[.pointer (some ⟨q, 0, none⟩), .int .i64 (L.length : Int)] W fun e w' => e = .returned (.tuple #[.int .i64 0, .int .i64 0, .int .i64 1]) ∧ Hid (Qt W w')) := fun W hW => find_bad (T3.out.qt hW) _ (.inr (Int.le_refl _))
      have LN : Hid (∀ W, Qt w3 W → Calls Try.prog 18 #[.pointer (some ⟨q, 0, none⟩)] W fun e w' => e = .returned (.int .i64 L.length) ∧ Hid (Qt W w')) := fun W hW => len_any (T3.out.qt hW)
      obtain ⟨np, hnp⟩ : ∃ np, np = (nf L).length := ⟨_, rfl⟩
      have NP : Hid (np = (nf L).length) := hnp
      have hnp2 : np ≤ 1000 := by have := nf_length L; omega
      rw [← hnp]
      clear hnp l3 F3 TX BL T3
      generalize nf L = ps at *
      obtain ⟨ln, hln⟩ : ∃ ln, ln = L.length := ⟨_, rfl⟩
      have LL : Hid (ln = L.length) := hln
      have hln2 : ln ≤ 1000 := by omega
      rw [← hln] at FD FB LN
      clear hln hL
      go_wp2_with fail
      go_loopw [9, 10] (fun va vi wr => ∃ i a : Nat, i ≤ np ∧ vi = .int .i64 i ∧ va = .int .i64 a ∧ a ≤ ln ∧ Hid (a = (spl (ps.take i)).length) ∧ Hid (Qt w3 wr)) (fun _ vi _ => np - (intOf vi).toNat)
      case atStart => exact ⟨0, 0, by omega, rfl, rfl, by omega, rfl, Qt.refl _⟩
      case round =>
        obtain ⟨j, a, hj, rfl, rfl, ha, AE, Q⟩ := hrel
        by_cases hlt2 : j < np
        · have hlt2z : (j : Int) < (np : Int) := by omega
          obtain ⟨p, hp⟩ : ∃ p, ps[j]? = some p := ⟨ps[j]'(by have := NP.out; omega), List.getElem?_eq_getElem _⟩
          have ft := FT.out p (List.mem_of_getElem? hp)
          obtain ⟨b, off, rfl, hb, -⟩ := ls_get P3.out hp
          have CE : Hid (∀ W, Qt w3 W → W.cell? ⟨b, off + j * 3, none⟩ = some (.bool p.ad) ∧ W.cell? ⟨b, off + j * 3 + 1, none⟩ = some (.int .i64 p.fr) ∧ W.cell? ⟨b, off + j * 3 + 2, none⟩ = some (.int .i64 p.to)) := by
            intro W k
            obtain ⟨b', off', e, _, h⟩ := ls_get (P3.out.qt k) hp
            cases e
            exact h
          have NX : Hid (a + (p.to - p.fr) = (spl (ps.take (j + 1))).length ∧ a + (p.to - p.fr) ≤ ln) := by
            have h1 : a + (p.to - p.fr) = (spl (ps.take (j + 1))).length := by
              rw [take_succ_get hp, spl_append, List.length_append, ← AE.out, spl_cons, spl_nil, List.append_nil, sp1_length]
            have h2 : (spl (ps.take (j + 1))).length ≤ (spl ps).length := by
              conv => rhs; rw [← List.take_append_drop (j + 1) ps, spl_append, List.length_append]
              omega
            have h3 := LL.out
            rw [SPN.out] at h2
            exact ⟨h1, by omega⟩
          have PA : Hid (∀ k, k < p.to - p.fr → plc ps (a + k) = (j, k)) := by
            intro k hk
            have := plc_at ps j k p hp hk (fit_le FT.out)
            rw [← AE.out] at this
            exact this
          obtain ⟨ad, fr, to⟩ := p
          simp only at ft CE NX PA
          obtain ⟨ft1, ft2⟩ := ft
          have NX2 := NX.out.2
          obtain ⟨c0, c1, c2⟩ := CE.out _ Q.out
          clear hp hb
          go_wp2_with fail
          clear c0 c1 c2
          go_loopw [9, 11] (fun va vk wr => ∃ k : Nat, fr ≤ k ∧ k ≤ to ∧ vk = .int .i64 k ∧ va = .int .i64 ((a + (k - fr) : Nat) : Int) ∧ Hid (Qt w3 wr)) (fun _ vk _ => to - (intOf vk).toNat)
          case atStart => exact ⟨fr, by omega, by omega, rfl, by rw [Nat.sub_self, Nat.add_zero], Q⟩
          case round =>
            clear Q
            obtain ⟨k, hk1, hk2, rfl, rfl, Q⟩ := hrel
            obtain ⟨c0, c1, c2⟩ := CE.out _ Q.out
            by_cases hlt3 : k < to
            · have hlt3z : (k : Int) < (to : Int) := by omega
              have FF := FD.out _ (a + (k - fr)) Q.out (by omega)
              rw [PA.out (k - fr) (by omega)] at FF
              obtain ⟨u, hu⟩ : ∃ u, u = k - fr := ⟨_, rfl⟩
              have hkf : (k : Int) - fr = (u : Int) := by omega
              obtain ⟨z, hz⟩ : ∃ z, z = a + (k - fr) := ⟨_, rfl⟩
              have HZ : Hid (z = a + (k - fr)) := hz
              have hz2 : z ≤ 1000 := by omega
              rw [← hz] at FF ⊢
              rw [← hu] at FF
              clear hz hu
              go_wp2_with fail
              refine FF.mono ?_
              rintro e w4 ⟨rfl, q4⟩
              have Q4 : Hid (Qt w3 w4) := Q.out.comp q4.out
              obtain ⟨e0, e1, e2⟩ := CE.out _ Q4.out
              clear c0 c1 c2 q4 FF
              go_wp2_with fail
              go_roundw
              case rel => exact ⟨k + 1, by omega, by omega, by go_num, by rw [show a + (k + 1 - fr) = z + 1 by have := HZ.out; omega]; go_num, Q4⟩
              case measure => simp [intOf]; omega
            · obtain rfl : k = to := by omega
              go_wp2_with fail
              go_roundw
              case rel => exact ⟨j + 1, a + (k - fr), by omega, by go_num, rfl, NX2, NX.out.1, Q⟩
              case measure => simp [intOf]; omega
        · obtain rfl : j = np := by omega
          have EA : a = ln := by
            have h1 := AE.out
            have h2 := LL.out
            rw [List.take_of_length_le (by have := NP.out; omega), SPN.out] at h1
            omega
          subst EA
          have FF := FB.out _ Q.out
          go_wp2_with fail
          refine FF.mono ?_
          rintro e w4 ⟨rfl, q4⟩
          have Q4 : Hid (Qt w3 w4) := Q.out.comp q4.out
          have LL2 := LN.out _ Q4.out
          clear FF q4 Q
          go_wp2_with fail
          refine LL2.mono ?_
          rintro e w5 ⟨rfl, q5⟩
          have B5 : Below w.heap.size w w5 := B3.out.trans ((Q4.out.comp q5.out).below _ B3.out.size)
          clear LL2
          go_wp2_with fail
          go_ret
          exact ⟨by simp, B5⟩

set_option maxHeartbeats 1000000 in
theorem finds_out (w : World) (n : Int) (ua : Option Addr) (ka ca : Nat) (h : 15 < ka) :
    Calls Try.prog 7 #[.int .u8 n, .slice ua ka ca] w fun e w' => e = .returned (.bool true) ∧ Below w.heap.size w w' := by
  have h1z : (15 : Int) < ka := by omega
  go_enter Try.func7, Try.ntmps7
  go_wp2_with fail
  refine (begun_any w).mono ?_
  rintro e w1 ⟨rfl, bl⟩
  have B1 : Hid (Below w.heap.size w w1) := bl
  clear bl
  go_wp2_with fail
  go_ret
  exact ⟨rfl, B1.out⟩
theorem pieceFinds_row (W : World) (n : Int) (wn : (Lit.int .u8 n).wf = true) (ua : Option Addr) (ka ca : Nat) (sa : So W ua ka) :
    Calls Try.prog 7 #[.int .u8 n, .slice ua ka ca] W fun e w' => e = .returned (.bool true) ∧ Below W.heap.size W w' := by
  by_cases h : 15 < ka
  · exact finds_out W n ua ka ca h
  · exact finds_any W n (u8_wf' wn) ua ka ca sa (by omega)
end Go.Proofs.Ytjelclomigmlmaa
