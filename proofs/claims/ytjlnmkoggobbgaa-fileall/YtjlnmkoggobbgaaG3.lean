/- Pages that are turned beneath a file; the statements' first call. -/
import Derived.Test.YtjlnmkoggobbgaaG2
namespace Go.Proofs.Ytjlnmkoggobbgaa
open Go.RowKit

section
variable {w : World} {q : Nat} {d : Pd} {mo : Int} {l : List Int} {bad : Nat → Bool} {R : List Int} {Y : Nat → Prop}

theorem Pg.cleared {ra : Option Addr} {rc k : Nat} {rd rd' : Nat → Int} (h : Pg w d ra rc bad k rd) : Pg (w.setCell ⟨d.bp, 4, none⟩ (.slice none 0 0)) d none 0 bad 0 rd' := by
  have hm := Mv.setCell w ⟨d.bp, 4, none⟩ (.slice none 0 0)
  obtain ⟨d1, d2, d3⟩ := h.dist
  refine ⟨h.b0, h.t0, Nat.le_trans h.tp hm.size, ?_, ?_, ?_, ?_, World.cell?_setCell_same _ _ _ h.c3, by rw [World.frozen?_setCell]; exact h.z3, fun i hi => hm.cell (h.file i hi) (fun e => d1 e.symm), h.pages.mv hm (fun j hj e => ?_), h.pat, h.faulty.mv hm (fun j hj e => ?_), own_nil _ _ _ _, h.dist, h.cnt, h.small⟩
  · rw [World.cell?_setCell_other _ _ _ _ (by simp)]; exact h.cs
  · rw [World.cell?_setCell_other _ _ _ _ (by simp)]; exact h.c0
  · rw [World.cell?_setCell_other _ _ _ _ (by simp)]; exact h.c1
  · rw [World.cell?_setCell_other _ _ _ _ (by simp)]; exact h.c2
  · rw [own_blk] at hj
    exact (h.pat j hj).2.1 e
  · cases hj
    exact d2 e.symm

/-- Its pages have turned: what fails, what was read. -/
theorem Fi.pages {c : Nat} {ra ra' : Option Addr} {rc rc' : Nat} {S : List Kw} {X : Nat → Prop} {w1 : World} {bad' : Nat → Bool} {R' : List Int} (h : Fi w q d mo bad R Y c ra rc S X) (P : Pg w1 d ra' rc' bad' R'.length (lof R')) (M : Mv (fun j => j = d.bp ∨ j = d.bl) w w1) (K : ∀ j, bk ra' = some j → bk ra = some j) : Fi w1 q d mo bad' R' Y c ra' rc' S X ∧ Mv (fun j => ¬ Y j) w w1 := by
  obtain ⟨t1, t2, t3⟩ := h.P.t0
  have hq := h.qn
  have hn : ∀ j, d.top ≤ j → ¬ (j = d.bp ∨ j = d.bl) := fun j hj e => by omega
  refine ⟨⟨M.cell h.fp (hn _ hq.1), M.cell h.fk (hn _ hq.1), P, ?_, h.xy, h.xt, h.xq, fun j hj => h.xr j (K j hj), fun j hj => Nat.lt_of_lt_of_le (h.xw j hj) M.size, fun j hj => ?_, ⟨hq.1, fun e => hq.2 (K _ e)⟩, h.len, fun p hp => ?_⟩, M.mono (fun j _ e hy => ?_)⟩
  · refine (h.C.mv M (fun j hj => ?_)).mono (fun j hj => .inl hj)
    rcases hj with e | e
    · rw [e]; exact h.xt _ t1
    · rw [e]; exact h.xt _ t3
  · have y := h.yp j hj
    exact ⟨y.1, y.2.1, fun e => y.2.2.1 (K _ e), y.2.2.2⟩
  · obtain ⟨i, g, h1, h2, h3, h4, h5, h6, h7, h8⟩ := h.pg p hp
    exact ⟨i, g, h1, h2, h3, h4, fun e => h5 (K _ e), h6, h7, fun j hj => M.cell (h8 j hj) (hn g h4)⟩
  · have y := h.yp j hy
    rcases e with e | e
    · exact y.1 e
    · exact y.2.1 e

theorem clear_fs (h : Fs w q d mo l bad R Y) : Calls Try.prog 19 #[.pointer (some ⟨d.bp, 0, none⟩)] w fun e w' => e = .returned (.tuple #[]) ∧ Hid (LeftB w w' q d mo l bad [] Y) := by
  obtain ⟨c, ra, rc, S, X, h, rfl⟩ := h
  refine (clear_any d.bp _ w h.P.c3 h.P.z3).mono ?_
  rintro e w' ⟨rfl, rfl⟩
  have := h.pages (R' := []) (ra' := none) (rc' := 0) (h.P.cleared (rd' := lof [])) ((Mv.setCell w ⟨d.bp, 4, none⟩ (.slice none 0 0)).mono (fun j _ e => .inl e)) (fun j e => by cases e)
  exact ⟨rfl, ⟨c, none, 0, S, X, this.1, rfl⟩, this.2⟩
theorem fault_fs (h : Fs w q d mo l bad R Y) (a : Option Addr) (n c : Nat) (f : Nat → Int) (hn : n < 50000) (hl : Sl w a n (In f)) (hne : ∀ p, a = some p → p.block ≠ d.bl) : Calls Try.prog 18 #[.pointer (some ⟨d.bp, 0, none⟩), .slice a n c] w fun e w' => e = .returned (.tuple #[]) ∧ Hid (LeftB w w' q d mo l (among f n) R Y) := by
  obtain ⟨c', ra, rc, S, X, h, rfl⟩ := h
  refine (fault_any d ra rc R.length bad (lof R) a n c f w h.P hn hl hne).mono ?_
  rintro e w' ⟨rfl, P, M⟩
  have := h.pages P.out (M.out.mono (fun j _ e => .inr e)) (fun j e => e)
  exact ⟨rfl, ⟨c', ra, rc, S, X, this.1, rfl⟩, this.2⟩
theorem reads_fs (h : Fs w q d mo l bad R Y) (hR : R.length < 90000) : Calls Try.prog 21 #[.pointer (some ⟨d.bp, 0, none⟩)] w fun e w' => e = .returned (.slice (some ⟨w.heap.size, 0, none⟩) R.length R.length) ∧ Hid (Own w' w.heap.size 3 (.slice (some ⟨w.heap.size, 0, none⟩) R.length R.length) R.length (In (lof R)) ∧ Below w.heap.size w w') := by
  obtain ⟨c', ra, rc, S, X, h, rfl⟩ := h
  obtain ⟨a, c, e, hs, _⟩ := h.P.reads.sl
  cases e
  refine (reads_any d.bp ra R.length rc (lof R) w h.P.c3 (by omega) hs).mono ?_
  rintro e w' ⟨rfl, O, B⟩
  exact ⟨rfl, O.out, B.out⟩
theorem count_fs (h : Fs w q d mo l bad R Y) : Calls Try.prog 23 #[.pointer (some ⟨d.bp, 0, none⟩)] w fun e w' => e = .returned (.int .i64 d.m) ∧ w' = w := by
  obtain ⟨c', ra, rc, S, X, h, rfl⟩ := h
  exact count_any d.bp d.pa d.m d.pc w h.P.c1
theorem Fs.blk (h : Fs w q d mo l bad R Y) : d.base ≤ d.bp ∧ d.base ≤ d.bl ∧ d.bp < d.top ∧ d.bl < d.top ∧ d.top ≤ w.heap.size := by
  obtain ⟨c', ra, rc, S, X, h, rfl⟩ := h
  exact ⟨h.P.b0.1, h.P.b0.2.2, h.P.t0.1, h.P.t0.2.2, h.P.tp⟩

/-- A new file of new pages. -/
theorem fnew_of {mo : Int} {rd : Nat → Int} {Y : Nat → Prop} (P : Pg w d none 0 bad 0 rd) (hY : ∀ j, Y j → j < w.heap.size ∧ (j < d.base ∨ d.top ≤ j)) : Calls Try.prog 25 #[.pointer (some ⟨d.bp, 0, none⟩), .int .i64 mo] w fun e w' => e = .returned (.pointer (some ⟨w.heap.size + 1, 0, none⟩)) ∧ Hid (Fs w' (w.heap.size + 1) d mo [] bad [] Y ∧ Below w.heap.size w w') := by
  have h1 := P.b0
  have h2 := P.t0
  exact fnew_any mo (R := []) (P.rds (fun j hj => by omega)) (fun j hj => by have := hY j hj; exact ⟨this.1, by omega, by omega, fun e => by cases e⟩)
end

theorem none_fails (N : Nat) (l : List Int) (i0 s : Nat) : ¬ fails N l i0 (fun _ => false) s := fun h => by cases h.2

theorem sl_12345 (w : World) : Sl (w.alloc (.cells #[.int .u8 1, .int .u8 2, .int .u8 3, .int .u8 4, .int .u8 5] 5)) (some ⟨w.heap.size, 0, none⟩) 5 (By fun i => (i : Int) + 1) := by
  intro i hi
  refine ⟨_, _, rfl, by simp, ?_⟩
  rw [Nat.zero_add]
  refine (alloc_new w _ 5 i _ ?_).1
  obtain rfl | rfl | rfl | rfl | rfl : i = 0 ∨ i = 1 ∨ i = 2 ∨ i = 3 ∨ i = 4 := by omega
  all_goals rfl

set_option maxHeartbeats 2000000 in
theorem begun5 (w : World) : Calls Try.prog 24 #[] w fun e w' => e = .returned (.bool true) ∧ Below w.heap.size w w' := by
  have s1 : Hid _ := sl_12345 w
  go_enter Try.func24, Try.ntmps24
  go_wp2_with fail
  refine (new_ok _ 5 5 2 _ _ (by omega) (by omega) (by omega) s1).mono ?_
  rintro e W1 ⟨d, rfl, hd, P1, B1⟩
  have B2 : Hid (Below w.heap.size w W1) := ((Below.refl w.heap.size w).alloc (Nat.le_refl _) _).trans (B1.out.mono (by simp))
  have D0 : Hid (w.heap.size < d.base) := by show _ < _; rw [hd.out.1]; simp
  clear s1 B1
  go_wp2_with fail
  refine (fnew_of (mo := 2) (Y := fun j => j < w.heap.size) P1.out (fun j hj => ⟨Nat.lt_of_lt_of_le hj B2.out.size, .inl (by have := D0.out; omega)⟩)).mono ?_
  rintro e W2 ⟨rfl, F2⟩
  have B3 : Hid (Below w.heap.size w W2) := B2.out.trans (F2.out.2.mono B2.out.size)
  generalize W1.heap.size + 1 = q at *
  have e3 : d.n = 5 := hd.out.2.2.1
  have e4 : d.sz = 2 := hd.out.2.2.2.1
  have E3 : Hid _ := e3
  have BT := bytes_ok F2.out.1 1 5 (by omega) (by omega) (by simp) (fun s _ => none_fails _ _ _ s)
  rw [e4] at BT
  clear e3
  go_wp2_with fail
  refine BT.mono ?_
  rintro e W3 ⟨xa, xc, rfl, T3⟩
  clear BT
  have B4 : Hid (Below w.heap.size w W3) := below_mv B3.out T3.out.2.2 (Nat.le_refl _) (fun j hj h => h hj)
  have AT := at_ok T3.out.1 4 (by have := E3.out; omega) (by simp; decide) (none_fails _ _ _ _)
  rw [e4, show d.f 4 = 5 by rw [hd.out.2.2.2.2]; rfl, show ((4 : Nat) : Int) = 4 from rfl] at AT
  obtain ⟨b1, o1, rfl, hc3⟩ : ∃ b1 o1, xa = some ⟨b1, o1, none⟩ ∧ W3.cell? ⟨b1, o1 + 3, none⟩ = some (.int .u8 5) := by
    obtain ⟨a, c, e, s, _⟩ := T3.out.2.1.sl
    cases e
    obtain ⟨b1, o1, e, _, hc⟩ := s 3 (by omega)
    refine ⟨b1, o1, e, ?_⟩
    rw [hc]
    unfold By
    rw [hd.out.2.2.2.2]
    rfl
  go_wp2_with fail
  refine AT.mono ?_
  rintro e W4 ⟨rfl, F4⟩
  clear AT
  have hc4 : W4.cell? ⟨b1, o1 + 3, none⟩ = some (.int .u8 5) := F4.out.2.cell hc3 (fun h => h (.inr rfl))
  have B5 : Hid (Below w.heap.size w W4) := below_mv B4.out F4.out.2 (Nat.le_refl _) (fun j hj h => h (.inl hj))
  have KP := kept_len F4.out.1
  rw [show (rk (cap 2) (rk (cap 2) [] (1 / 2) (cntp 2 1 5)) (4 / 2) 1).length = 2 by decide, show ((2 : Nat) : Int) = 2 from rfl] at KP
  clear hc3 e4
  go_wp2_with fail
  refine KP.mono ?_
  rintro e W5 ⟨rfl, B6⟩
  clear KP
  have B7 : Hid (Below w.heap.size w W5) := B5.out.trans (B6.out.mono B5.out.size)
  have LN := flen_any (F4.out.1.below B6.out)
  rw [E3.out, show ((5 : Nat) : Int) = 5 from rfl] at LN
  go_wp2_with fail
  refine LN.mono ?_
  rintro e w' ⟨rfl, hw⟩
  obtain rfl := hw.symm
  clear hw LN
  go_wp2_with fail
  go_ret
  exact ⟨rfl, B7.out⟩
end Go.Proofs.Ytjlnmkoggobbgaa
