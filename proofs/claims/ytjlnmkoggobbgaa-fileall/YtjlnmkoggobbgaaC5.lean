/- Fault; the first call of each statement. -/
import Derived.Test.YtjlnmkoggobbgaaC4
import Derived.Deep.RegionWith
import Derived.BigRegion
namespace Go.Proofs.Ytjlnmkoggobbgaa
open Go.RowKit

/-- Is page j among the first k of l? -/
def among (l : Nat → Int) (k : Nat) (j : Nat) : Bool := (List.range k).any fun i => decide (l i = (j : Int))
theorem among_zero (l : Nat → Int) (j : Nat) : among l 0 j = false := rfl
theorem among_succ (l : Nat → Int) (k j : Nat) : among l (k + 1) j = (among l k j || decide (l k = (j : Int))) := by
  unfold among; rw [List.range_succ, List.any_append]; simp

/-- A page that can't be read any more. -/
theorem Pg.fault {w : World} {d : Pd} {ra : Option Addr} {rc k : Nat} {bad : Nat → Bool} {rd : Nat → Int} (h : Pg w d ra rc bad k rd) (i : Nat) :
    Pg (w.setCell ⟨d.bl, i, none⟩ (.bool true)) d ra rc (fun j => bad j || decide (j = i)) k rd := by
  have hm := Mv.setCell w ⟨d.bl, i, none⟩ (.bool true)
  obtain ⟨t1, t2, t3⟩ := h.t0
  obtain ⟨d1, d2, d3⟩ := h.dist
  refine ⟨h.b0, h.t0, Nat.le_trans h.tp hm.size, hm.cell h.cs d2, hm.cell h.c0 d2, hm.cell h.c1 d2, hm.cell h.c2 d2, hm.cell h.c3 d2, ?_, fun i hi => hm.cell (h.file i hi) d3, h.pages.mv hm ?_, h.pat, ?_, h.reads.mv hm ?_, h.dist, h.cnt, h.small⟩
  · rw [World.frozen?_setCell]; exact h.z3
  · intro j hj
    rw [own_blk] at hj
    exact (h.pat j hj).2.2
  · refine Own.of (World.ownsRow.stored h.faulty i (.bool true)).1 ?_
    intro j hj
    by_cases e : j = i
    · subst e
      rw [World.cell?_setCell_same _ _ _ (h.faulty.at hj).1]
      simp
    · rw [World.cell?_setCell_other _ _ _ _ (fun h => e (by injection h with _ h2; exact h2.symm)), (h.faulty.at hj).1]
      simp [e]
  · intro j hj e
    have := (h.reads.blk j hj).1
    have e' : j = d.bl := e
    omega
theorem Pg.same {w : World} {d : Pd} {ra : Option Addr} {rc k : Nat} {bad bad' : Nat → Bool} {rd : Nat → Int} (h : Pg w d ra rc bad k rd) (e : ∀ j, j < d.m → bad j = bad' j) : Pg w d ra rc bad' k rd :=
  ⟨h.b0, h.t0, h.tp, h.cs, h.c0, h.c1, h.c2, h.c3, h.z3, h.file, h.pages, h.pat, h.faulty.congr (fun i hi => by rw [e i hi]), h.reads, h.dist, h.cnt, h.small⟩

/-- None is faulty. -/
theorem Pg.heal {w : World} {d : Pd} {ra : Option Addr} {rc k : Nat} {bad : Nat → Bool} {rd : Nat → Int} (h : Pg w d ra rc bad k rd) (ty : TypeId) :
    ∃ W, (Builtin.clear_ #[66] ty #[.slice (some ⟨d.bl, 0, none⟩) d.m d.m]).run Try.prog w = .ok (.tuple #[]) W ∧ Pg W d ra rc (fun _ => false) k rd ∧ Mv (fun j => j = d.bl) w W := by
  obtain ⟨W, hr, ho, hm⟩ := clear_own 66 4 (.bool false) Try.underlying66 (by intro w; rfl) rfl rfl w ty d.base d.bl d.m d.m _ h.faulty
  obtain ⟨t1, t2, t3⟩ := h.t0
  obtain ⟨d1, d2, d3⟩ := h.dist
  refine ⟨W, hr, ⟨h.b0, h.t0, Nat.le_trans h.tp hm.size, hm.cell h.cs d2, hm.cell h.c0 d2, hm.cell h.c1 d2, hm.cell h.c2 d2, hm.cell h.c3 d2, ?_, fun i hi => hm.cell (h.file i hi) d3, h.pages.mv hm ?_, h.pat, ho, h.reads.mv hm ?_, h.dist, h.cnt, h.small⟩, hm⟩
  · rw [hm.frozen (p := ⟨d.bp, 4, none⟩) (World.block_lt_of_cell? _ _ h.c3) d2]; exact h.z3
  · intro j hj
    rw [own_blk] at hj
    exact (h.pat j hj).2.2
  · intro j hj e
    have := (h.reads.blk j hj).1
    have e' : j = d.bl := e
    omega

theorem fault_nil (a : Option Addr) (n c : Nat) (w : World) : Calls Try.prog 18 #[.pointer none, .slice a n c] w fun e w' => e = .returned (.tuple #[]) ∧ w' = w := by
  go_enter Try.func18, Try.ntmps18
  go_wp2
  (try simp only [Exit.inBlock, Exit.then]); refine bodyPost_ret (results_none rfl _ _ _) rfl ?_
  exact ⟨rfl, rfl⟩

set_option maxHeartbeats 1000000 in
theorem fault_any (d : Pd) (ra : Option Addr) (rc k : Nat) (bad : Nat → Bool) (rd : Nat → Int) (a : Option Addr) (n c : Nat) (l : Nat → Int) (w : World) (h : Hid (Pg w d ra rc bad k rd)) (hn : n < 50000) (hl : Hid (Sl w a n (In l))) (hne : Hid (∀ p, a = some p → p.block ≠ d.bl)) :
    Calls Try.prog 18 #[.pointer (some ⟨d.bp, 0, none⟩), .slice a n c] w fun e w' => e = .returned (.tuple #[]) ∧ Hid (Pg w' d ra rc (among l n) k rd) ∧ Hid (Mv (fun j => j = d.bl) w w') := by
  have hc2 := h.out.c2
  obtain ⟨W, hcl, hP, hM⟩ := h.out.heal 0
  have P1 : Hid _ := hP
  have M1 : Hid _ := hM
  clear hP hM
  go_enter Try.func18, Try.ntmps18
  go_wp2_with fail
  go_loopw [14] (fun vi wr => ∃ i : Nat, i ≤ n ∧ vi = .int .i64 i ∧ Hid (Pg wr d ra rc (among l i) k rd) ∧ Hid (Mv (fun j => j = d.bl) w wr)) (fun vi _ => n - (intOf vi).toNat)
  case atStart => exact ⟨0, by omega, rfl, P1, M1⟩
  case round =>
    obtain ⟨i, hi, rfl, P2, M2⟩ := hrel
    by_cases hlt : i < n
    · have hltz : (i : Int) < (n : Int) := by omega
      obtain ⟨b, off, rfl, hb, hc⟩ := (hl.out.mv M2.out (fun p hp => hne.out p hp)) i hlt
      have hc' : wr.cell? ⟨b, off + i, none⟩ = some (.int .i64 (l i)) := hc
      clear hc
      have E : Hid (∀ j, among l (i + 1) j = (among l i j || decide (l i = (j : Int)))) := fun j => among_succ l i j
      generalize l i = x at hc' E
      have hc1 := P2.out.c1
      have hw2 := P2.out.c2
      cases hh : has x d.m
      · have H : Hid _ := hh
        clear hh
        go_wp2_with fail
        refine (has_any d.bp x d.pa d.m d.pc wr hc1).mono ?_
        rintro e w1 ⟨rfl, hw⟩
        obtain rfl := hw.symm
        rw [H.out]
        clear hw
        go_wp2_with fail
        refine ⟨⟨i + 1, by omega, by go_num, P2.out.same (fun j hj => ?_), M2⟩, by simp [intOf]; omega⟩
        rw [E.out, decide_eq_false, Bool.or_false]
        intro e
        have h2 := H.out
        unfold has at h2
        rw [e, decide_eq_true (by omega), decide_eq_true (by omega)] at h2
        cases h2
      · have H : Hid _ := hh
        have hx : 0 ≤ x ∧ x < d.m := by
          unfold has at hh
          rw [Bool.and_eq_true] at hh
          exact ⟨of_decide_eq_true hh.1, of_decide_eq_true hh.2⟩
        clear hh
        obtain ⟨q, rfl⟩ : ∃ q : Nat, x = q := ⟨x.toNat, by omega⟩
        have hq : q < d.m := by omega
        have hqz : (q : Int) < d.m := hx.2
        have hbl := P2.out.faulty.at hq
        have hbl1 := hbl.1
        have hbl2 := hbl.2
        clear hx hbl
        go_wp2_with fail
        refine (has_any d.bp q d.pa d.m d.pc wr hc1).mono ?_
        rintro e w1 ⟨rfl, hw⟩
        obtain rfl := hw.symm
        rw [H.out]
        clear hw
        go_wp2_with fail
        refine ⟨⟨i + 1, by omega, by go_num, (P2.out.fault q).same (fun j hj => ?_), M2.out.trans (Mv.setCell _ _ _) (fun _ _ h => h)⟩, by simp [intOf]; omega⟩
        rw [E.out]
        congr 1
        rw [Bool.eq_iff_iff, decide_eq_true_iff, decide_eq_true_iff]
        omega
    · obtain rfl : i = n := by omega
      go_wp2_with fail
      go_end0
      exact ⟨rfl, P2, M2⟩
end Go.Proofs.Ytjlnmkoggobbgaa
