/- New, Find, Copy, Edit. -/
import Derived.Test.YtjelclomigmlmaaD2
namespace Go.Proofs.Ytjelclomigmlmaa
open Go.RowKit

section
variable {w : World} {p n : Nat} {L : List Bt} {m : Nat} {A : Nat → Int} {Y : Nat → Prop}

set_option maxHeartbeats 1000000 in
theorem find_bad (h : Hid (Tx w p n L m A Y)) (z : Int) (hz : z < 0 ∨ (L.length : Int) ≤ z) :
    Calls Try.prog 19 #[.pointer (some ⟨p, 0, none⟩), .int .i64 z] w fun e w' => e = .returned (.tuple #[.int .i64 0, .int .i64 0, .int .i64 1]) ∧ Hid (Qt w w') := by
  by_cases h0 : z < 0
  · clear hz
    go_enter Try.func19, Try.ntmps19
    go_wp2_with fail
    go_ret3
    exact ⟨rfl, Qt.refl w⟩
  · have hz : (L.length : Int) ≤ z := by omega
    have C := len_any h
    generalize L.length = k at *
    go_enter Try.func19, Try.ntmps19
    go_wp2_with fail
    refine C.mono ?_
    rintro e w1 ⟨rfl, q⟩
    go_wp2_with fail
    go_ret3
    exact ⟨rfl, q⟩

set_option maxHeartbeats 1000000 in
theorem find_ok (h : Hid (Tx w p n L m A Y)) (z : Nat) (hz : z < L.length) :
    Calls Try.prog 19 #[.pointer (some ⟨p, 0, none⟩), .int .i64 z] w fun e w' => e = .returned (.tuple #[.int .i64 (plc (nf L) z).1, .int .i64 (plc (nf L) z).2, .int .i64 0]) ∧ Hid (Qt w w') := by
  have C := len_any h
  obtain ⟨vp, va, H⟩ := h.out
  obtain ⟨sa, sc, rfl, li⟩ := H.li
  have PL : Hid (∀ W, Qt w W → Calls Try.prog 31 #[.slice sa (nf L).length sc, .int .i64 z] W fun e w' => e = .returned (.tuple #[.int .i64 (plc (nf L) z).1, .int .i64 (plc (nf L) z).2]) ∧ Hid (Qt W w')) :=
    fun W q => place_any sa sc (nf L) z W (li.qt q).ls H.fit (by have := H.len; omega) (by have := H.small; omega)
  have c0 := H.c0
  have hzz : (z : Int) < L.length := by omega
  clear H li
  generalize (plc (nf L) z).1 = x at *
  generalize (plc (nf L) z).2 = y at *
  generalize (nf L).length = N at *
  generalize L.length = k at *
  go_enter Try.func19, Try.ntmps19
  go_wp2_with fail
  refine C.mono ?_
  rintro e w1 ⟨rfl, q⟩
  have d0 := q.out.cell c0 (fun h => h)
  go_wp2_with fail
  refine (PL.out w1 q.out).mono ?_
  rintro e w2 ⟨rfl, q2⟩
  have Q2 : Hid (Qt w w2) := q.out.comp q2.out
  go_wp2_with fail
  go_ret3
  exact ⟨rfl, Q2⟩

set_option maxHeartbeats 1000000 in
theorem copy_any (h : Hid (Tx w p n L m A Y)) :
    Calls Try.prog 17 #[.pointer (some ⟨p, 0, none⟩)] w fun e w' => ∃ q, e = .returned (.pointer (some ⟨q, 0, none⟩)) ∧ w.heap.size ≤ q ∧ Hid (Tx w' q n L m A (fun k => k < w.heap.size) ∧ Qt w w') := by
  have C := pieces_any h
  go_enter Try.func17, Try.ntmps17
  go_wp2_with fail
  refine C.mono ?_
  rintro e w1 ⟨v1, rfl, F1⟩
  go_wp2_with fail
  refine (added_any (h.out.qt F1.out.2)).mono ?_
  rintro e w2 ⟨v2, rfl, F2⟩
  have FIN : Hid (Tx (w2.alloc (.cells #[v1, v2] 59)) w2.heap.size n L m A (fun k => k < w.heap.size) ∧ Qt w (w2.alloc (.cells #[v1, v2] 59))) := by
    obtain ⟨vp, va, H⟩ := h.out
    have q1 := F1.out.2
    have q2 := F2.out.2
    have qa : Qt w2 (w2.alloc (.cells #[v1, v2] 59)) := (Qt.refl w2).alloc _
    have b1 := fun j e => ow_blk F1.out.1 j e
    have b2 := fun j e => F2.out.1.blk j e
    have s1 := q1.size
    have s2 := q2.size
    refine ⟨⟨v1, v2, (alloc_new w2 _ 59 0 _ rfl).1, (alloc_new w2 _ 59 1 _ rfl).1, (alloc_new w2 _ 59 0 _ rfl).2, (alloc_new w2 _ 59 1 _ rfl).2, ?_, ?_, ?_, ?_, H.wf, H.small⟩, (q1.comp q2).comp qa⟩
    · exact ow_mono ((q2.comp qa).owns F1.out.1 (fun _ _ h => h)) (fun _ _ => Nat.zero_le _)
    · exact ow_mono (qa.owns F2.out.1 (fun _ _ h => h)) (fun _ _ => Nat.zero_le _)
    · intro k hk
      refine ⟨by simp; omega, by omega, fun e => ?_, fun e => ?_⟩
      · have := b1 k e; omega
      · have := b2 k e; omega
    · refine ⟨fun e => ?_, fun e => ?_, fun k e e' => ?_⟩
      · have := b1 _ e; omega
      · have := b2 _ e; omega
      · have h1 := b1 _ e; have h2 := b2 _ e'; omega
  have LE : w.heap.size ≤ w2.heap.size := Nat.le_trans F1.out.2.size F2.out.2.size
  obtain ⟨a1, k1, rfl, -⟩ := ow_ls F1.out.1
  obtain ⟨a2, k2, rfl, -⟩ := F2.out.1.sl
  clear F1 F2 C
  generalize (nf L).length = N at *
  go_wp2_with fail
  go_ret
  exact ⟨_, rfl, LE, FIN⟩
end

theorem wf_file (n : Nat) : Wf n 0 (sp1 ⟨false, 0, n⟩) := by
  intro x hx
  obtain ⟨h1, h2, h3⟩ := sp1_mem.1 hx
  exact ⟨fun _ => h3, fun e => by rw [h1] at e; cases e⟩


theorem jd_nf {w w' : World} {v : Value} {qs : List Pc} (h : Jd w w' v qs) (f : Fit qs) : Op3 w' w.heap.size v (nf (spl qs)) := by
  have := h.1
  rw [putP_fold _ _ (fit_le f)] at this
  exact this

theorem new_core (w : World) (x : Int) (n : Nat) (hx : x = n) (hn' : n ≤ 10000) :
    Calls Try.prog 27 #[.slice (some ⟨w.heap.size + 1, 0, none⟩) 1 1] ((w.alloc (.cells #[.bool false, .int .i64 0, .int .i64 x] 50)).alloc (.cells #[.slice (some ⟨w.heap.size, 0, none⟩) 1 1] 41)) fun e w' => ∃ a k c, e = .returned (.slice a k c) ∧ w.heap.size ≤ w'.heap.size ∧
      Hid (Tx (w'.alloc (.cells #[.slice a k c, .slice none 0 0] 59)) w'.heap.size n (sp1 ⟨false, 0, n⟩) 0 (fun _ => 0) (fun k => k < w.heap.size) ∧ Qt w (w'.alloc (.cells #[.slice a k c, .slice none 0 0] 59))) := by
  subst hx
  obtain ⟨W2, hW2⟩ : ∃ W2, W2 = (w.alloc (.cells #[.bool false, .int .i64 0, .int .i64 n] 50)).alloc (.cells #[.slice (some ⟨w.heap.size, 0, none⟩) 1 1] 41) := ⟨_, rfl⟩
  have q2 : Qt w W2 := by rw [hW2]; exact Qt.two _ _ _
  have fit : Fit [⟨false, 0, n⟩] := by
    intro p hp
    simp at hp
    subst hp
    exact ⟨Nat.zero_le _, by show n < _; omega⟩
  have J := join_any (some ⟨w.heap.size + 1, 0, none⟩) 1 [(some ⟨w.heap.size, 0, none⟩, 1, [⟨false, 0, n⟩])] W2 (by
    refine ⟨?_, ?_⟩
    · rw [hW2]
      have := Ls.new (w.alloc (.cells #[.bool false, .int .i64 0, .int .i64 n] 50)) #[.slice (some ⟨w.heap.size, 0, none⟩) 1 1] 41
      simp only [World.size_alloc] at this
      exact this
    · intro s hs
      simp at hs
      subst hs
      refine ⟨?_, fit⟩
      rw [hW2]
      exact (Ls.new w #[.bool false, .int .i64 0, .int .i64 n] 50).qt (Mv.alloc _ _ _)) (by simp [pre]) (by simp)
  rw [← hW2]
  refine J.mono ?_
  rintro e W ⟨v, rfl, jh⟩
  have j : Jd W2 W v [⟨false, 0, n⟩] := jh.out
  have o := jd_nf j fit
  rw [spl_cons, spl_nil, List.append_nil] at o
  have s1 := q2.size
  have s2 := j.2.size
  have b := fun k e => ow_blk o k e
  obtain ⟨a, c, rfl, _⟩ := ow_ls o
  have qa : Qt W (W.alloc (.cells #[.slice a (nf (sp1 ⟨false, 0, n⟩)).length c, .slice none 0 0] 59)) := (Qt.refl W).alloc _
  refine ⟨a, _, c, rfl, Nat.le_trans s1 s2, ⟨_, .slice none 0 0, (alloc_new W _ 59 0 _ rfl).1, (alloc_new W _ 59 1 _ rfl).1, (alloc_new W _ 59 0 _ rfl).2, (alloc_new W _ 59 1 _ rfl).2, ow_mono (qa.owns o (fun _ _ h => h)) (fun _ _ => Nat.zero_le _), own_nil _ _ _ _, ?_, ?_, wf_file n, ?_⟩, (q2.comp j.2).comp qa⟩
  · intro k hk
    refine ⟨by simp; omega, by omega, fun e => ?_, fun e => by simp [Value.ownBlock] at e⟩
    have := b k e; omega
  · refine ⟨fun e => ?_, fun e => by simp [Value.ownBlock] at e, fun k e e' => by simp [Value.ownBlock] at e'⟩
    have := b _ e; omega
  · refine ⟨by omega, by omega, ?_⟩
    rw [sp1_length]; show n - 0 ≤ _; omega

set_option maxHeartbeats 1000000 in
theorem new_any (z : Int) (hz : z ≤ 10000) (w : World) :
    Calls Try.prog 10 #[.int .i64 z] w fun e w' => ∃ q, e = .returned (.pointer (some ⟨q, 0, none⟩)) ∧ w.heap.size ≤ q ∧ Hid (Tx w' q z.toNat (sp1 ⟨false, 0, z.toNat⟩) 0 (fun _ => 0) (fun k => k < w.heap.size) ∧ Qt w w') := by
  by_cases h0 : z < 0
  · have J := new_core w 0 z.toNat (by omega) (by omega)
    go_enter Try.func10, Try.ntmps10
    go_wp2_with fail
    · refine J.mono ?_
      rintro e W ⟨a, k, c, rfl, LE, F⟩
      clear J
      go_wp2_with fail
      go_ret
      exact ⟨_, rfl, LE, F⟩
  · have J := new_core w z z.toNat (by omega) (by omega)
    have h1 : 0 ≤ z := by omega
    clear h0
    go_enter Try.func10, Try.ntmps10
    go_wp2_with fail
    · refine J.mono ?_
      rintro e W ⟨a, k, c, rfl, LE, F⟩
      clear J
      go_wp2_with fail
      go_ret
      exact ⟨_, rfl, LE, F⟩
end Go.Proofs.Ytjelclomigmlmaa
