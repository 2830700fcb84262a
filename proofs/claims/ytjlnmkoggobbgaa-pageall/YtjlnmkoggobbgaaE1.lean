/- What the run of PageAll carries from one operation to the next. -/
import Derived.Test.YtjlnmkoggobbgaaD2
namespace Go.Proofs.Ytjlnmkoggobbgaa
open Go.RowKit

theorem Pg.mvl {w w' : World} {d : Pd} {ra : Option Addr} {rc k : Nat} {bad : Nat → Bool} {rd : Nat → Int} {S : Nat → Prop} (h : Pg w d ra rc bad k rd) (hm : Mv S w w') (hs : ∀ j, S j → j < d.base) : Pg w' d ra rc bad k rd := by
  have hge : ∀ j, d.base ≤ j → ¬ S j := fun j hj hS => by have := hs j hS; omega
  obtain ⟨b1, b2, b3⟩ := h.b0
  obtain ⟨t1, t2, t3⟩ := h.t0
  refine ⟨h.b0, h.t0, Nat.le_trans h.tp hm.size, hm.cell h.cs (hge _ b1), hm.cell h.c0 (hge _ b1), hm.cell h.c1 (hge _ b1), hm.cell h.c2 (hge _ b1), hm.cell h.c3 (hge _ b1), ?_, fun i hi => hm.cell (h.file i hi) (hge _ b2), h.pages.mv hm ?_, h.pat, h.faulty.mv hm ?_, h.reads.mv hm ?_, h.dist, h.cnt, h.small⟩
  · rw [hm.frozen (p := ⟨d.bp, 4, none⟩) (World.block_lt_of_cell? w _ h.c3) (hge _ b1)]; exact h.z3
  · intro j hj
    exact hge j (h.pages.blk j hj).1
  · intro j hj
    exact hge j (h.faulty.blk j hj).1
  · intro j hj
    have := (h.reads.blk j hj).1
    exact hge j (by omega)

/-- How many pages. -/
theorem pages_count {n sz m : Nat} (h0 : 0 < sz) (h : ∀ i, i * sz < n ↔ i < m) : m = (n + sz - 1) / sz := by
  have e := Nat.div_add_mod (n + sz - 1) sz
  have r := Nat.mod_lt (n + sz - 1) h0
  generalize (n + sz - 1) / sz = q at e ⊢
  generalize (n + sz - 1) % sz = s at e r
  rw [Nat.mul_comm] at e
  have h1 := h q
  cases q with
  | zero => rw [Nat.zero_mul] at e h1; omega
  | succ p =>
    have h2 := h p
    rw [Nat.succ_mul] at e h1
    omega

/-- The list of those that fail: none, or two that are neighbours. -/
def BadL (w : World) (d : Pd) (oa ra ba : Option Addr) (nb bc : Nat) (bad : Nat → Bool) : Prop :=
  (ba = none ∧ nb = 0 ∧ bc = 0 ∧ ∀ j, bad j = false) ∨
  ∃ gb x, ba = some ⟨gb, 0, none⟩ ∧ nb = 2 ∧ bc = 2 ∧ d.top ≤ gb ∧ gb < w.heap.size ∧ bk oa ≠ some gb ∧ bk ra ≠ some gb ∧ w.cell? ⟨gb, 0, none⟩ = some (.int .i64 x) ∧ w.cell? ⟨gb, 1, none⟩ = some (.int .i64 (x + 1)) ∧ ∀ j : Nat, bad j = (decide (x = (j : Int)) || decide (x + 1 = (j : Int)))
theorem BadL.mv {w w' : World} {d : Pd} {oa oa' ra ra' ba : Option Addr} {nb bc : Nat} {bad : Nat → Bool} {S : Nat → Prop} (h : BadL w d oa ra ba nb bc bad) (M : Mv S w w') (hS : ∀ j, d.top ≤ j → j < w.heap.size → bk oa ≠ some j → bk ra ≠ some j → bk ba = some j → ¬ S j ∧ bk oa' ≠ some j ∧ bk ra' ≠ some j) : BadL w' d oa' ra' ba nb bc bad := by
  rcases h with h | ⟨gb, x, rfl, h1, h2, h3, h4, h5, h6, h7, h8, h9⟩
  · exact .inl h
  · obtain ⟨k1, k2, k3⟩ := hS gb h3 h4 h5 h6 rfl
    exact .inr ⟨gb, x, rfl, h1, h2, h3, Nat.lt_of_lt_of_le h4 M.size, k2, k3, M.cell h7 k1, M.cell h8 k1, h9⟩
theorem BadL.lt {w : World} {d : Pd} {oa ra ba : Option Addr} {nb bc : Nat} {bad : Nat → Bool} (h : BadL w d oa ra ba nb bc bad) : ∀ j, bk ba = some j → j < w.heap.size := by
  intro j hj
  rcases h with ⟨rfl, _⟩ | ⟨gb, x, rfl, _, _, _, h4, _⟩
  · cases hj
  · cases hj; exact h4

/-- All of it. -/
structure All (W0 w : World) (d : Pd) (oa : Option Addr) (oc : Nat) (ra : Option Addr) (rc : Nat) (bad : Nat → Bool) (t : Nat) (rd : Nat → Int) (ba : Option Addr) (nb bc : Nat) : Prop where
  S : St W0 w d oa oc ra rc bad t rd
  L : BadL w d oa ra ba nb bc bad
structure AllH (W0 w : World) (d : Pd) (oa : Option Addr) (oc : Nat) (ra : Option Addr) (rc : Nat) (bad : Nat → Bool) (t : Nat) (rd : Nat → Int) (x : Int) (ba : Option Addr) (nb bc : Nat) : Prop where
  S : Half W0 w d oa oc ra rc bad t rd x
  L : BadL w d oa ra ba nb bc bad
section
variable {W0 w w' : World} {d : Pd} {oa ra ra' ba : Option Addr} {oc rc rc' t nb bc : Nat} {bad bad' : Nat → Bool} {rd : Nat → Int} {x : Int}

theorem All.below (h : All W0 w d oa oc ra rc bad t rd ba nb bc) (k : Below w.heap.size w w') : All W0 w' d oa oc ra rc bad t rd ba nb bc :=
  ⟨h.S.below k, h.L.mv ((Mv.of_below k).mono (T := fun _ => False) (fun j h1 h2 => by omega)) (fun j _ _ h1 h2 _ => ⟨fun h => h, h1, h2⟩)⟩
theorem All.quiet (h : All W0 w d oa oc ra rc bad t rd ba nb bc) (k : Mv (fun _ => False) w w') : All W0 w' d oa oc ra rc bad t rd ba nb bc :=
  ⟨h.S.new k (fun _ hj => hj.elim), h.L.mv k (fun _ _ _ h1 h2 _ => ⟨fun h => h, h1, h2⟩)⟩
theorem All.spoil {g : Nat} (h : All W0 w d oa oc ra rc bad t rd ba nb bc) (k : Mv (fun j => j = g) w w') (hg : d.top ≤ g) (h1 : bk oa ≠ some g) (h2 : bk ra ≠ some g) (h3 : bk ba ≠ some g) : All W0 w' d oa oc ra rc bad t rd ba nb bc :=
  ⟨h.S.new k (fun j hj => by have e : j = g := hj; subst e; exact ⟨hg, h1, h2⟩), h.L.mv k (fun j _ _ q1 q2 q3 => ⟨fun e => h3 (by rw [q3, show j = g from e]), q1, q2⟩)⟩
theorem All.half (h : All W0 w d oa oc ra rc bad t rd ba nb bc) (P : Pg w' d ra' rc' bad (t + 1) (app rd t x)) (K : bk ra' = bk ra ∨ ∃ g, bk ra' = some g ∧ w.heap.size ≤ g) (M : Mv (fun j => j = d.bp ∨ bk ra = some j) w w') : AllH W0 w' d oa oc ra' rc' bad t rd x ba nb bc := by
  refine ⟨h.S.half P K M, h.L.mv M (fun j h1 h2 h3 h4 _ => ⟨?_, h3, ?_⟩)⟩
  · have := h.S.P.t0
    rintro (e | e)
    · omega
    · exact h4 e
  · intro e
    rcases K with K | ⟨g, k1, k2⟩
    · rw [K] at e; exact h4 e
    · rw [k1] at e; cases e; omega
theorem AllH.note (h : AllH W0 w d oa oc ra rc bad t rd x ba nb bc) (ht : t < 50000) :
    ∃ oa' oc' W, (Builtin.append_ #[31, 31] 31 #[.slice oa t oc, .slice (some ⟨w.heap.size, 0, none⟩) 1 1]).run Try.prog (w.alloc (.cells #[.int .i64 x] 3)) = .ok (.slice oa' (t + 1) oc') W ∧ All W0 W d oa' oc' ra rc bad (t + 1) (app rd t x) ba nb bc ∧ (bk oa' = bk oa ∨ ∃ g, bk oa' = some g ∧ w.heap.size ≤ g) ∧ Mv (fun j => bk oa = some j) w W := by
  have h1 := h.S.new (Mv.alloc (fun _ => False) w (.cells #[.int .i64 x] 3)) (fun j hj => hj.elim)
  obtain ⟨oa', oc', W, hr, ho, hp, hs, hm, hm2, hf⟩ := grow_row 31 31 3 Try.t3 (.int .i64 0) 8 Try.underlying31 info3 (by kernel_rfl) (by kernel_rfl) (by kernel_rfl) rfl (by omega) (c := 1) h1.P h1.O h1.S (sl_one w x _ rfl) (fun _ => rfl) (by omega) (fun h => by cases h)
  have hf' : bk oa' = bk oa ∨ ∃ g, bk oa' = some g ∧ w.heap.size ≤ g := by
    rcases hf with hf | ⟨g, k1, k2⟩
    · exact .inl hf
    · refine .inr ⟨g, k1, ?_⟩
      simp at k2
      omega
  have hM : Mv (fun j => bk oa = some j) w W := (Mv.alloc (fun j => bk oa = some j) w _).trans hm2 (fun _ _ h => h)
  refine ⟨oa', oc', W, hr, ⟨⟨hp, ho.congr (fun j hj => ?_), hs, h1.K.step hm (fun j hj => .inr (.inr hj))⟩, h.L.mv hM (fun j q1 q2 q3 q4 _ => ⟨q3, ?_, q4⟩)⟩, hf', hM⟩
  · unfold cat In app
    by_cases h : j < t
    · rw [if_pos h, if_pos h]
    · rw [if_neg h, if_neg h]
  · intro e
    rcases hf' with K | ⟨g, k1, k2⟩
    · rw [K] at e; exact q3 e
    · rw [k1] at e; cases e; omega

/-- Two pages fail. -/
theorem two_cells (w : World) (x y : Int) : (w.alloc (.cells #[.int .i64 x, .int .i64 y] 3)).cell? ⟨w.heap.size, 0, none⟩ = some (.int .i64 x) ∧ (w.alloc (.cells #[.int .i64 x, .int .i64 y] 3)).cell? ⟨w.heap.size, 1, none⟩ = some (.int .i64 y) :=
  ⟨(alloc_new w _ 3 0 _ rfl).1, (alloc_new w _ 3 1 _ rfl).1⟩
theorem sl_two (w : World) (x : Int) : Sl (w.alloc (.cells #[.int .i64 x, .int .i64 (x + 1)] 3)) (some ⟨w.heap.size, 0, none⟩) 2 (In fun i => x + i) := by
  intro i hi
  refine ⟨_, _, rfl, by simp, ?_⟩
  rw [Nat.zero_add]
  have := two_cells w x (x + 1)
  obtain rfl | rfl : i = 0 ∨ i = 1 := by omega
  · rw [this.1]; unfold In; simp
  · rw [this.2]; unfold In; simp
theorem All.fault {w1 : World} (h : All W0 w d oa oc ra rc bad t rd ba nb bc) (e1 : w1 = w.alloc (.cells #[.int .i64 x, .int .i64 (x + 1)] 3)) (P : Pg w' d ra rc (among (fun i => x + i) 2) t rd) (k : Mv (fun j => j = d.bl) w1 w') : All W0 w' d oa oc ra rc (among (fun i => x + i) 2) t rd (some ⟨w.heap.size, 0, none⟩) 2 2 := by
  subst e1
  have h1 := (h.quiet (Mv.alloc (fun _ => False) w (.cells #[.int .i64 x, .int .i64 (x + 1)] 3))).S
  have h2 := two_cells w x (x + 1)
  have t0 := h.S.P.t0
  have tp := h.S.P.tp
  have ne : ¬ w.heap.size = d.bl := by omega
  refine ⟨h1.fault P k, .inr ⟨w.heap.size, x, rfl, rfl, rfl, tp, ?_, fun e => ?_, fun e => ?_, k.cell h2.1 ne, k.cell h2.2 ne, fun j => ?_⟩⟩
  · have := k.size
    simp at this
    omega
  · have := (h.S.oa_lt _ e).2; omega
  · have := (h.S.ra_lt _ e).2; omega
  · rw [show (2 : Nat) = 1 + 1 from rfl, among_succ, show (1 : Nat) = 0 + 1 from rfl, among_succ, among_zero, Bool.false_or]
    simp
theorem All.heal (h : All W0 w d oa oc ra rc bad t rd ba nb bc) {l : Nat → Int} (P : Pg w' d ra rc (among l 0) t rd) (k : Mv (fun j => j = d.bl) w w') : All W0 w' d oa oc ra rc (among l 0) t rd none 0 0 :=
  ⟨h.S.fault P k, .inl ⟨rfl, rfl, rfl, fun j => among_zero l j⟩⟩
/-- None is noted. -/
theorem All.clear (h : All W0 w d oa oc ra rc bad t rd ba nb bc) : All W0 (w.setCell ⟨d.bp, 4, none⟩ (.slice none 0 0)) d none 0 none 0 bad 0 rd ba nb bc := by
  have hm := Mv.setCell w ⟨d.bp, 4, none⟩ (.slice none 0 0)
  have P := h.S.P
  obtain ⟨t1, t2, t3⟩ := P.t0
  obtain ⟨d1, d2, d3⟩ := P.dist
  refine ⟨⟨⟨P.b0, P.t0, Nat.le_trans P.tp hm.size, ?_, ?_, ?_, ?_, World.cell?_setCell_same _ _ _ P.c3, ?_, fun i hi => hm.cell (P.file i hi) (fun e => d1 e.symm), P.pages.mv hm ?_, P.pat, P.faulty.mv hm ?_, own_nil _ _ _ _, P.dist, P.cnt, P.small⟩, own_nil _ _ _ _, sep_nil _, h.S.K.step hm (fun j hj => .inl hj)⟩, h.L.mv hm (fun j q1 q2 _ _ _ => ⟨fun e => ?_, fun e => (by cases e), fun e => (by cases e)⟩)⟩
  · rw [World.cell?_setCell_other _ _ _ _ (by simp)]; exact P.cs
  · rw [World.cell?_setCell_other _ _ _ _ (by simp)]; exact P.c0
  · rw [World.cell?_setCell_other _ _ _ _ (by simp)]; exact P.c1
  · rw [World.cell?_setCell_other _ _ _ _ (by simp)]; exact P.c2
  · rw [World.frozen?_setCell]; exact P.z3
  · intro j hj
    rw [own_blk] at hj
    exact (P.pat j hj).2.1
  · intro j hj e
    cases hj
    exact d2 e.symm
  · have e' : j = d.bp := e
    omega
end
end Go.Proofs.Ytjlnmkoggobbgaa
