/- PieceTypes. -/
import Derived.Test.YtjelclomigmlmaaE1
import Derived.Laws.StructEq
namespace Go.Proofs.Ytjelclomigmlmaa
open Go.RowKit

/-- A file of which i bytes were typed at a. -/
def Lty (a s i : Nat) : List Bt := sp1 ⟨false, 0, a⟩ ++ sp1 ⟨true, 0, i⟩ ++ sp1 ⟨false, a, s⟩
theorem Lty_zero (a s : Nat) (h : a ≤ s) : Lty a s 0 = sp1 ⟨false, 0, s⟩ := by
  unfold Lty
  rw [sp1_none true 0 0 (Nat.le_refl _), List.append_nil, ← sp1_parts false 0 a s (Nat.zero_le _) h]
theorem Lty_length (a s i : Nat) (h : a ≤ s) : (Lty a s i).length = s + i := by
  unfold Lty
  rw [List.length_append, List.length_append, sp1_length, sp1_length, sp1_length]
  show a - 0 + (i - 0) + (s - a) = _
  omega
theorem Lty_parts (a s i : Nat) : (Lty a s i).take (a + i) = sp1 ⟨false, 0, a⟩ ++ sp1 ⟨true, 0, i⟩ ∧ (Lty a s i).drop (a + i) = sp1 ⟨false, a, s⟩ ∧ (Lty a s i).take a = sp1 ⟨false, 0, a⟩ := by
  have hl : (sp1 ⟨false, 0, a⟩ ++ sp1 ⟨true, 0, i⟩).length = a + i := by
    rw [List.length_append, sp1_length, sp1_length]
    show a - 0 + (i - 0) = _
    omega
  refine ⟨List.take_left' hl, List.drop_left' hl, ?_⟩
  unfold Lty
  rw [List.append_assoc]
  exact List.take_left' (by rw [sp1_length]; show a - 0 = a; omega)
theorem Lty_type (a s i : Nat) : ins (Lty a s i) (a + i) (a + i) i 1 = Lty a s (i + 1) := by
  unfold ins
  rw [(Lty_parts a s i).1, (Lty_parts a s i).2.1]
  unfold Lty
  rw [sp1_parts true 0 i (i + 1) (Nat.zero_le _) (by omega)]
  simp only [List.append_assoc]
theorem Lty_out (a s m : Nat) (h : a ≤ s) : ins (Lty a s m) a (a + m) m 0 = sp1 ⟨false, 0, s⟩ := by
  unfold ins
  rw [(Lty_parts a s m).2.2, (Lty_parts a s m).2.1, sp1_none true m (m + 0) (by omega), List.append_nil, ← sp1_parts false 0 a s (Nat.zero_le _) h]
theorem nf_file (s : Nat) (h : 0 < s) : nf (sp1 ⟨false, 0, s⟩) = [⟨false, 0, s⟩] := by
  have := nf_put [] ⟨false, 0, s⟩ (Nat.zero_le _)
  rw [List.nil_append] at this
  rw [← this]
  exact putP_nil _ (by show s ≠ 0; omega)
theorem nf_ty (a s m : Nat) (ha : 0 < a) (hs : a < s) (hm : 0 < m) : nf (Lty a s m) = [⟨false, 0, a⟩, ⟨true, 0, m⟩, ⟨false, a, s⟩] := by
  unfold Lty
  rw [← nf_put _ ⟨false, a, s⟩ (by show a ≤ s; omega), ← nf_put _ ⟨true, 0, m⟩ (Nat.zero_le _), nf_file a ha]
  have e1 : putP [⟨false, 0, a⟩] ⟨true, 0, m⟩ = [⟨false, 0, a⟩, ⟨true, 0, m⟩] := by
    have := putP_snoc [] ⟨false, 0, a⟩ ⟨true, 0, m⟩ (by show m ≠ 0; omega)
    simpa using this
  rw [e1]
  have := putP_snoc [⟨false, 0, a⟩] ⟨true, 0, m⟩ ⟨false, a, s⟩ (by show s ≠ a; omega)
  simpa using this

/-- A text, and what was there ahead of it. -/
def Ty (w wr : World) (q H : Nat) (s : Nat) (L : List Bt) (m : Nat) : Prop := (∃ A, Tx wr q s L m A (fun k => k < H)) ∧ Below w.heap.size w wr ∧ w.heap.size ≤ H
theorem Ty.qt {w wr w' : World} {q H s : Nat} {L : List Bt} {m : Nat} (h : Ty w wr q H s L m) (k : Qt wr w') : Ty w w' q H s L m := by
  obtain ⟨⟨A, t⟩, b, l⟩ := h
  exact ⟨⟨A, (t.qt k).mono (fun k hk => .inl hk)⟩, b.trans (k.below _ b.size), l⟩
theorem Ty.turn {w wr w' : World} {q H s : Nat} {L L' : List Bt} {m m' : Nat} (h : Ty w wr q H s L m) {A' : Nat → Int} (t : Tx w' q s L' m' A' (fun k => k < H)) (k : Mv (fun j => ¬ j < H) wr w') : Ty w w' q H s L' m' :=
  ⟨⟨A', t⟩, Tx.edit h.2.1 k (Nat.le_refl _) (fun _ hj => Nat.lt_of_lt_of_le hj h.2.2), h.2.2⟩

section
variable {w : World} {p n : Nat} {L : List Bt} {m : Nat} {A : Nat → Int} {Y : Nat → Prop}
/-- Edit, its places given as whole numbers. -/
theorem edit_z (h : Hid (Tx w p n L m A Y)) (a b : Nat) (x y : Int) (hx : x = a) (hy : y = b) (sa : Option Addr) (k sc : Nat) (f : Nat → Int) (hab : a ≤ b) (hb : b ≤ L.length) (hk : k ≤ 300) (hs : Hid (Sl w sa k (By f))) (hn : Hid (sa = none → k = 0 ∧ sc = 0)) (hm : m + k ≤ 20000) (hl : L.length + k ≤ 20000) :
    Calls Try.prog 13 #[.pointer (some ⟨p, 0, none⟩), .int .i64 x, .int .i64 y, .slice sa k sc] w fun e w' => e = .returned (.int .i64 0) ∧ Hid (Tx w' p n (ins L a b m k) (m + k) (catI A m f) Y ∧ Mv (fun j => ¬ Y j) w w') := by
  subst hx hy
  exact edit_ok h a b sa k sc f hab hb hk hs hn hm hl
end

theorem wrap64_small {x : Int} (h1 : -1000000 ≤ x) (h2 : x ≤ 1000000) : wrap64 x = x := by
  unfold wrap64
  omega

set_option maxHeartbeats 4000000 in
theorem types_any (w : World) (n : Int) (hn : 0 ≤ n ∧ n ≤ 255) (t : Int) (ht : 0 ≤ t ∧ t ≤ 255) (k : Int) (hk : 0 ≤ k ∧ k ≤ 255) :
    Calls Try.prog 8 #[.int .u8 n, .int .u8 t, .int .u8 k] w fun e w' => e = .returned (.bool true) ∧ Below w.heap.size w w' := by
  obtain ⟨n1, n2⟩ := hn
  obtain ⟨t1, t2⟩ := ht
  obtain ⟨k1, k2⟩ := hk
  go_enter Try.func8, Try.ntmps8
  go_wp2_with fail
  refine (begun_any w).mono ?_
  rintro e w1 ⟨rfl, b1⟩
  have B1 : Hid (Below w.heap.size w w1) := b1
  clear b1
  go_wp2_with fail
  obtain ⟨s, hs⟩ : ∃ s : Nat, 2 + n % 100 = (s : Int) := ⟨(2 + n % 100).toNat, by omega⟩
  obtain ⟨d, hd⟩ : ∃ d : Nat, (s : Int) - 1 = (d : Int) := ⟨s - 1, by omega⟩
  have hd0 : ¬ d = 0 := by omega
  have hs1 : 2 ≤ s := by omega
  have hs2 : s ≤ 101 := by omega
  have SD : Hid (s = d + 1) := by show _ = _; omega
  rw [hs]
  clear hs n1 n2
  refine (new_any (s : Int) (by omega) w1).mono ?_
  rintro e w2 ⟨q, rfl, hq, T2⟩
  have Y2 : Hid (Ty w w2 q w1.heap.size s (sp1 ⟨false, 0, s⟩) 0) := by
    have h1 := T2.out.1
    rw [Int.toNat_natCast] at h1
    exact ⟨⟨_, h1⟩, B1.out.trans (T2.out.2.below _ B1.out.size), B1.out.size⟩
  clear T2
  go_wp2_with fail
  obtain ⟨a, ha⟩ : ∃ a : Nat, 1 + t % (d : Int) = (a : Int) := ⟨(1 + t % (d : Int)).toNat, by have := Int.emod_nonneg t (show (d : Int) ≠ 0 by omega); omega⟩
  have ha1 : 1 ≤ a := by have := Int.emod_nonneg t (show (d : Int) ≠ 0 by omega); omega
  have ha2 : a < s := by have := Int.emod_lt_of_pos t (show (0 : Int) < d by omega); have := SD.out; omega
  obtain ⟨m, hm⟩ : ∃ m : Nat, k % 30 = (m : Int) := ⟨(k % 30).toNat, by omega⟩
  have hm2 : m < 30 := by omega
  rw [ha, hm, wrap64_small (x := (a : Int)) (by omega) (by omega)]
  have Y3 : Hid (Ty w w2 q w1.heap.size s (Lty a s 0) 0) := by rw [Lty_zero a s (by omega)]; exact Y2
  clear Y2 ha hm SD t1 t2 k1 k2 hd hd0
  generalize w1.heap.size = H at *
  go_loopw [11] (fun vi wr => ∃ i : Nat, i ≤ m ∧ vi = .int .i64 i ∧ Hid (Ty w wr q H s (Lty a s i) i)) (fun vi _ => m - (intOf vi).toNat)
  case atStart => exact ⟨0, by omega, rfl, Y3⟩
  case round =>
    obtain ⟨i, hi, rfl, T⟩ := hrel
    by_cases hlt : i < m
    · have hltz : (i : Int) < (m : Int) := by omega
      go_wp2_with fail
      obtain ⟨⟨A, tx⟩, _⟩ := T.out.qt ((Qt.refl wr).alloc (.cells #[.int .u8 (i : Int)] 5))
      refine (edit_z tx (a + i) (a + i) _ _ (by omega) (by omega) (some ⟨wr.heap.size, 0, none⟩) 1 1 (fun _ => (i : Int)) (by omega) (by rw [Lty_length a s i (by omega)]; omega) (by omega) (sl_lit wr #[.int .u8 (i : Int)] (0, 0) (fun _ => (i : Int)) (fun j hj => by
        have hj : j < 1 := hj
        obtain rfl : j = 0 := by omega
        rfl)) (fun e => by cases e) (by omega) (by rw [Lty_length a s i (by omega)]; omega)).mono ?_
      rintro e w3 ⟨rfl, F⟩
      have T2 : Hid (Ty w w3 q H s (Lty a s (i + 1)) (i + 1)) := by
        have h1 := F.out.1
        rw [Lty_type] at h1
        exact (T.out.qt ((Qt.refl wr).alloc (.cells #[.int .u8 (i : Int)] 5))).turn h1 F.out.2
      clear tx T F
      go_wp2_with fail
      exact ⟨⟨i + 1, by omega, by go_num, T2⟩, by simp [intOf]; omega⟩
    · obtain rfl : i = m := by omega
      go_wp2_with fail
      obtain ⟨⟨A, tx⟩, _⟩ := T.out
      refine (pieces_any tx).mono ?_
      rintro e w3 ⟨v, rfl, F⟩
      have T3 : Hid (Ty w w3 q H s (Lty a s i) i) := T.out.qt F.out.2
      obtain ⟨a3, c3, rfl, l3, -⟩ := ow_ls F.out.1
      have l3 : Hid (Ls w3 a3 (cellsP (nf (Lty a s i)))) := l3
      clear F tx T
      by_cases h0 : i = 0
      · subst h0
        have e1 : (nf (Lty a s 0)).length = 1 := by rw [Lty_zero a s (by omega), nf_file s (by omega)]; rfl
        rw [e1]
        clear l3 e1
        go_wp2_with fail
        go_ret
        exact ⟨rfl, T3.out.2.1⟩
      · have hi0 : ((i : Int) == 0) = false := by simp; omega
        have e1 : nf (Lty a s i) = [⟨false, 0, a⟩, ⟨true, 0, i⟩, ⟨false, a, s⟩] := nf_ty a s i (by omega) (by omega) (by omega)
        rw [e1] at l3 ⊢
        obtain ⟨b, off, rfl, -, p00, p01, p02⟩ := ls_get (i := 0) l3.out rfl
        obtain ⟨b', off', e2, -, p10, p11, p12⟩ := ls_get (i := 1) l3.out rfl
        cases e2
        obtain ⟨b', off', e2, -, p20, p21, p22⟩ := ls_get (i := 2) l3.out rfl
        cases e2
        simp only [Nat.zero_mul, Nat.add_zero, Nat.reduceMul] at p00 p01 p02 p10 p11 p12 p20 p21 p22
        have hl3 : [(⟨false, 0, a⟩ : Pc), ⟨true, 0, i⟩, ⟨false, a, s⟩].length = 3 := rfl
        rw [hl3]
        clear hl3 e1
        go_wp2_with fail
        clear p00 p01 p02 p10 p11 p12 p20 p21 p22 l3
        obtain ⟨⟨A, tx⟩, _⟩ := T3.out
        refine (edit_z tx a (a + i) _ _ rfl (by omega) none 0 0 (fun _ => 0) (by omega) (by rw [Lty_length a s i (by omega)]; omega) (by omega) (fun j hj => by omega) (fun _ => ⟨rfl, rfl⟩) (by omega) (by rw [Lty_length a s i (by omega)]; omega)).mono ?_
        rintro e w4 ⟨rfl, F⟩
        have T4 : Hid (Ty w w4 q H s (sp1 ⟨false, 0, s⟩) i) := by
          have h1 := F.out.1
          rw [Lty_out a s i (by omega)] at h1
          exact T3.out.turn h1 F.out.2
        clear tx T3 F
        go_wp2_with fail
        obtain ⟨⟨A, tx⟩, _⟩ := T4.out
        refine (pieces_any tx).mono ?_
        rintro e w5 ⟨v, rfl, F⟩
        have T5 : Hid (Ty w w5 q H s (sp1 ⟨false, 0, s⟩) i) := T4.out.qt F.out.2
        obtain ⟨a5, c5, rfl, l5, -⟩ := ow_ls F.out.1
        have e1 : nf (sp1 ⟨false, 0, s⟩) = [⟨false, 0, s⟩] := nf_file s (by omega)
        rw [e1] at l5 ⊢
        obtain ⟨b5, off5, rfl, -, p00, p01, p02⟩ := ls_get (i := 0) l5 rfl
        simp only [Nat.zero_mul, Nat.add_zero] at p00 p01 p02
        have hl3 : [(⟨false, 0, s⟩ : Pc)].length = 1 := rfl
        rw [hl3]
        clear hl3 e1 l5 F tx T4
        go_wp2_with fail
        obtain ⟨⟨A, tx⟩, _⟩ := T5.out
        refine (added_any tx).mono ?_
        rintro e w6 ⟨v, rfl, F⟩
        have T6 : Hid (Ty w w6 q H s (sp1 ⟨false, 0, s⟩) i) := T5.out.qt F.out.2
        obtain ⟨a6, c6, rfl, -⟩ := F.out.1.sl
        clear F tx T5 p00 p01 p02
        have hmk : (Instr.makeSlice 28 (.int .i64 301) (.int .i64 301)).run Try.prog w6 = .ok (.slice (some ⟨w6.heap.size, 0, none⟩) 301 301) (w6.alloc (.cells (madeCells #[.int .u8 0] 301) 5)) := (made 28 5 Try.t5 (.int .u8 0) 1 Try.underlying28 info5 (by kernel_rfl) (by kernel_rfl) (by kernel_rfl) rfl (by omega) 301 (by omega) w6 w6.heap.size (Nat.le_refl _)).1
        have T7 : Hid (Ty w (w6.alloc (.cells (madeCells #[.int .u8 0] 301) 5)) q H s (sp1 ⟨false, 0, s⟩) i) := T6.out.qt ((Qt.refl w6).alloc _)
        generalize madeCells #[.int .u8 0] 301 = MC at *
        go_wp2_with fail
        obtain ⟨⟨A, tx⟩, _⟩ := T7.out
        refine (edit_big tx 0 0 (some ⟨w6.heap.size, 0, none⟩) 301 301 (by omega) (by omega)).mono ?_
        rintro e w7 ⟨rfl, Q⟩
        have B7 := (T7.out.qt Q.out).2.1
        go_wp2_with fail
        go_ret
        exact ⟨by simp, B7⟩

theorem u8_wf' {x : Int} (h : (Lit.int .u8 x).wf = true) : 0 ≤ x ∧ x ≤ 255 := by
  simpa [Lit.wf, IntKind.min, IntKind.max, IntKind.signed, IntKind.bits] using h
theorem pieceTypes_row (W : World) (n : Int) (wn : (Lit.int .u8 n).wf = true) (t : Int) (wt : (Lit.int .u8 t).wf = true) (k : Int) (wk : (Lit.int .u8 k).wf = true) :
    Calls Try.prog 8 #[.int .u8 n, .int .u8 t, .int .u8 k] W fun e w' => e = .returned (.bool true) ∧ Below W.heap.size W w' := types_any W n (u8_wf' wn) t (u8_wf' wt) k (u8_wf' wk)
end Go.Proofs.Ytjelclomigmlmaa
