/- The statements' first call: begun. -/
import Derived.Test.YtjlnmkoggobbgaaC5
namespace Go.Proofs.Ytjlnmkoggobbgaa
open Go.RowKit

theorem below_mv {B : Nat} {w a b : World} {S : Nat → Prop} (h : Below B w a) (k : Mv S a b) (hB : B ≤ w.heap.size) (hs : ∀ j, j < B → ¬ S j) : Below B w b := h.trans (k.below (Nat.le_trans hB h.size) hs)

theorem sl_123 (w : World) : Sl (w.alloc (.cells #[.int .u8 1, .int .u8 2, .int .u8 3] 5)) (some ⟨w.heap.size, 0, none⟩) 3 (By fun i => (i : Int) + 1) := by
  intro i hi
  refine ⟨_, _, rfl, by simp, ?_⟩
  rw [Nat.zero_add]
  refine (alloc_new w _ 5 i _ ?_).1
  obtain rfl | rfl | rfl : i = 0 ∨ i = 1 ∨ i = 2 := by omega
  · rfl
  · rfl
  · rfl

/-- What a reading of file d may have turned, is from its first block on. -/
theorem Pg.low {w : World} {d : Pd} {ra : Option Addr} {rc k : Nat} {bad : Nat → Bool} {rd : Nat → Int} (h : Pg w d ra rc bad k rd) : ∀ j, j < d.base → ¬ (j = d.bp ∨ bk ra = some j) := by
  have h1 := h.b0
  have h2 := h.t0
  intro j hj hS
  rcases hS with e | e
  · omega
  · have := (h.reads.blk j (by rw [own_blk]; exact e)).1
    omega

set_option maxHeartbeats 1000000 in
theorem begun_any (w : World) : Calls Try.prog 12 #[] w fun e w' => e = .returned (.bool true) ∧ Below w.heap.size w w' := by
  have s1 : Hid _ := sl_123 w
  go_enter Try.func12, Try.ntmps12
  go_wp2_with fail
  refine (new_ok _ 3 3 2 _ _ (by omega) (by omega) (by omega) s1).mono ?_
  rintro e W1 ⟨d, rfl, hd, P1, B1⟩
  obtain ⟨hd1, hd2, hd3, hd4, hd5⟩ := hd.out
  have hm : d.m = 2 := by
    have h1 := P1.out.cnt 1
    have h2 := P1.out.cnt 2
    rw [hd3, hd4] at h1 h2
    omega
  have hmin : min d.sz (d.n - 1 * d.sz) = 1 := by rw [hd3, hd4]; rfl
  have B2 : Hid (Below w.heap.size w W1) := ((Below.refl w.heap.size w).alloc (Nat.le_refl _) _).trans (B1.out.mono (by simp))
  have D1 : Hid (d.base = w.heap.size + 1) := by show _ = _; rw [hd1]; simp
  have DM : Hid _ := hm
  have DN : Hid _ := hd3
  have DZ : Hid _ := hd4
  have DF : Hid _ := hd5
  have DMin : Hid _ := hmin
  have hlt : 1 < d.m := by omega
  clear hd hd1 hd2 hd3 hd4 hd5 hm hmin B1 s1
  go_wp2_with fail
  refine (read_ok d 1 none 0 0 _ _ W1 P1 (by omega) hlt rfl).mono ?_
  rintro e W2 ⟨g, rfl, ra', rc', P2, K2, M2, N2, O2⟩
  rw [DMin.out] at O2 ⊢
  have hc := (O2.out.at (show 0 < 1 by omega)).1
  unfold By at hc
  rw [DF.out, DZ.out] at hc
  have hc' : W2.cell? ⟨g, 0, none⟩ = some (.int .u8 3) := hc
  clear hc
  have B3 : Hid (Below w.heap.size w W2) := below_mv B2.out M2.out (Nat.le_refl _) (fun j hj => P1.out.low j (by have := D1.out; omega))
  go_wp2_with fail
  refine (count_any d.bp d.pa d.m d.pc W2 P2.out.c1).mono ?_
  rintro e w' ⟨rfl, hw⟩
  obtain rfl := hw.symm
  rw [DM.out]
  clear hw
  go_wp2_with fail
  refine (len_any d.bp _ d.n d.n W2 P2.out.c0).mono ?_
  rintro e w' ⟨rfl, hw⟩
  obtain rfl := hw.symm
  rw [DN.out]
  clear hw
  go_wp2_with fail
  refine (reads_any d.bp ra' 1 rc' _ W2 P2.out.c3 (by omega) (by
    obtain ⟨a, c, e, h, _⟩ := P2.out.reads.sl
    cases e
    exact h)).mono ?_
  rintro e W3 ⟨rfl, O3, B4⟩
  have B5 : Hid (Below w.heap.size w W3) := B3.out.trans (B4.out.mono B3.out.size)
  clear B4 O3
  go_wp2_with fail
  go_ret
  exact ⟨rfl, B5.out⟩
end Go.Proofs.Ytjlnmkoggobbgaa
