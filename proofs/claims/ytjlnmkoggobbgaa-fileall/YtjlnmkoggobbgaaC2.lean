/- Reading a page. -/
import Derived.Test.YtjlnmkoggobbgaaC1
namespace Go.Proofs.Ytjlnmkoggobbgaa
open Go.RowKit

/-- Where a file lies, and what is in it: all that never turns. -/
structure Pd where
  base : Nat
  top : Nat
  bp : Nat
  bf : Nat
  bl : Nat
  pa : Option Addr
  pc : Nat
  n : Nat
  sz : Nat
  m : Nat
  f : Nat → Int

def bk (a : Option Addr) : Option Nat := a.map (·.block)
/-- Page i. -/
def Pd.pg (d : Pd) (i : Nat) : Value := .slice (some ⟨d.bf, i * d.sz, none⟩) (min d.sz (d.n - i * d.sz)) (d.n - i * d.sz)

/-- A file that is open: which pages can't be read, which were. -/
structure Pg (w : World) (d : Pd) (ra : Option Addr) (rc : Nat) (bad : Nat → Bool) (k : Nat) (rd : Nat → Int) : Prop where
  b0 : d.base ≤ d.bp ∧ d.base ≤ d.bf ∧ d.base ≤ d.bl
  t0 : d.bp < d.top ∧ d.bf < d.top ∧ d.bl < d.top
  tp : d.top ≤ w.heap.size
  cs : w.cell? ⟨d.bp, 0, none⟩ = some (.int .i64 d.sz)
  c0 : w.cell? ⟨d.bp, 1, none⟩ = some (.slice (some ⟨d.bf, 0, none⟩) d.n d.n)
  c1 : w.cell? ⟨d.bp, 2, none⟩ = some (.slice d.pa d.m d.pc)
  c2 : w.cell? ⟨d.bp, 3, none⟩ = some (.slice (some ⟨d.bl, 0, none⟩) d.m d.m)
  c3 : w.cell? ⟨d.bp, 4, none⟩ = some (.slice ra k rc)
  z3 : w.frozen? ⟨d.bp, 4, none⟩ = false
  file : ∀ i, i < d.n → w.cell? ⟨d.bf, i, none⟩ = some (.int .u8 (d.f i))
  pages : Own w d.base 22 (.slice d.pa d.m d.pc) d.m d.pg
  pat : ∀ j, bk d.pa = some j → j < d.top ∧ j ≠ d.bp ∧ j ≠ d.bl
  faulty : Own w d.base 4 (.slice (some ⟨d.bl, 0, none⟩) d.m d.m) d.m (fun i => .bool (bad i))
  reads : Own w d.top 3 (.slice ra k rc) k (In rd)
  dist : d.bp ≠ d.bf ∧ d.bp ≠ d.bl ∧ d.bf ≠ d.bl
  cnt : ∀ i, i * d.sz < d.n ↔ i < d.m
  small : d.n < 5000 ∧ 0 < d.sz ∧ d.sz ≤ 512 ∧ d.m ≤ d.n

theorem own_blk (a : Option Addr) (n c : Nat) : (Value.slice a n c).ownBlock = bk a := by cases a <;> rfl

/-- What others may turn. -/
theorem Pg.mv {w w' : World} {d : Pd} {ra : Option Addr} {rc k : Nat} {bad : Nat → Bool} {rd : Nat → Int} {S : Nat → Prop} (h : Pg w d ra rc bad k rd) (hm : Mv S w w') (hs : ∀ j, S j → d.top ≤ j ∧ bk ra ≠ some j) : Pg w' d ra rc bad k rd := by
  have hlt : ∀ j, j < d.top → ¬ S j := fun j hj hS => by have := (hs j hS).1; omega
  obtain ⟨t1, t2, t3⟩ := h.t0
  refine ⟨h.b0, h.t0, Nat.le_trans h.tp hm.size, hm.cell h.cs (hlt _ t1), hm.cell h.c0 (hlt _ t1), hm.cell h.c1 (hlt _ t1), hm.cell h.c2 (hlt _ t1), hm.cell h.c3 (hlt _ t1), ?_, fun i hi => hm.cell (h.file i hi) (hlt _ t2), h.pages.mv hm ?_, h.pat, h.faulty.mv hm ?_, h.reads.mv hm ?_, h.dist, h.cnt, h.small⟩
  · rw [hm.frozen (p := ⟨d.bp, 4, none⟩) (World.block_lt_of_cell? w _ h.c3) (hlt _ t1)]; exact h.z3
  · intro j hj
    rw [own_blk] at hj
    exact hlt j (h.pat j hj).1
  · intro j hj
    cases hj
    exact hlt _ t3
  · intro j hj hS
    rw [own_blk] at hj
    exact (hs j hS).2 hj

/-- One more number behind. -/
def app (rd : Nat → Int) (k : Nat) (i : Int) : Nat → Int := fun j => if j < k then rd j else i

theorem sl_one (w : World) (x : Int) (B : Nat) (hB : B = w.heap.size) : Sl (w.alloc (.cells #[.int .i64 x] 3)) (some ⟨B, 0, none⟩) 1 (In fun _ => x) := by
  subst hB
  intro i hi
  obtain rfl : i = 0 := by omega
  exact ⟨_, _, rfl, by simp, (alloc_new w _ 3 0 _ rfl).1⟩

/-- A reading noted: the append, and the store. -/
theorem Pg.note {w w1 : World} {d : Pd} {ra : Option Addr} {rc k : Nat} {bad : Nat → Bool} {rd : Nat → Int} (h : Pg w d ra rc bad k rd) (hm : Mv (fun _ => False) w w1) (hk : k < 50000) (x : Int) (B : Nat) (hB : B = w1.heap.size) :
    ∃ ra' rc' W, (Builtin.append_ #[31, 31] 31 #[.slice ra k rc, .slice (some ⟨B, 0, none⟩) 1 1]).run Try.prog (w1.alloc (.cells #[.int .i64 x] 3)) = .ok (.slice ra' (k + 1) rc') W ∧
      Pg (W.setCell ⟨d.bp, 4, none⟩ (.slice ra' (k + 1) rc')) d ra' rc' bad (k + 1) (app rd k x) ∧ (bk ra' = bk ra ∨ ∃ g, bk ra' = some g ∧ w1.heap.size ≤ g) ∧
      Mv (fun j => bk ra = some j) (w1.alloc (.cells #[.int .i64 x] 3)) W ∧ Mv (fun j => j = d.bp ∨ bk ra = some j) w (W.setCell ⟨d.bp, 4, none⟩ (.slice ra' (k + 1) rc')) := by
  have hm2 : Mv (fun _ => False) w (w1.alloc (.cells #[.int .i64 x] 3)) := hm.trans (Mv.alloc _ _ _) (fun _ _ h => h)
  have h1 : Pg (w1.alloc (.cells #[.int .i64 x] 3)) d ra rc bad k rd := h.mv hm2 (fun j hj => hj.elim)
  obtain ⟨v', W, hr, ho, hg, hf⟩ := append_own 31 31 3 Try.t3 (.int .i64 0) 8 Try.underlying31 info3 (by kernel_rfl) (by kernel_rfl) (by kernel_rfl) rfl (by omega) _ d.top _ k 1 1 (In rd) (In fun _ => x) (some ⟨B, 0, none⟩) h1.reads (sl_one w1 x B hB) (fun _ => rfl) (by omega) (fun h => by cases h) h1.tp
  obtain ⟨ra', rc', rfl, _⟩ := ho.sl
  rw [own_blk, own_blk] at hf
  have hM := Mv.of_grown hg
  rw [own_blk] at hM
  have hB2 : ∀ j, bk ra = some j → d.top ≤ j := fun j hj => (h1.reads.blk j (by rw [own_blk]; exact hj)).1
  obtain ⟨t1, t2, t3⟩ := h1.t0
  obtain ⟨d1, d2, d3⟩ := h1.dist
  have hlt : ∀ j, j < d.top → ¬ bk ra = some j := fun j hj hS => by have := hB2 j hS; omega
  have hM2 := Mv.setCell W ⟨d.bp, 4, none⟩ (.slice ra' (k + 1) rc')
  have hM3 : Mv (fun j => j = d.bp ∨ bk ra = some j) (w1.alloc (.cells #[.int .i64 x] 3)) (W.setCell ⟨d.bp, 4, none⟩ (.slice ra' (k + 1) rc')) := (hM.mono (T := fun j => j = d.bp ∨ bk ra = some j) (fun j _ h => .inr h)).trans hM2 (fun j _ h => .inl h)
  have hW3 : W.cell? ⟨d.bp, 4, none⟩ = some (.slice ra k rc) := hM.cell h1.c3 (hlt _ t1)
  refine ⟨ra', rc', W, hr, ?_, ?_, hM, hm2.mono (fun _ _ h => h.elim) |>.trans hM3 (fun _ _ h => h)⟩
  · refine ⟨h1.b0, h1.t0, Nat.le_trans h1.tp hM3.size, ?_, ?_, ?_, ?_, ?_, ?_, fun i hi => hM3.cell (h1.file i hi) ?_, h1.pages.mv hM3 ?_, h1.pat, h1.faulty.mv hM3 ?_, ?_, h1.dist, h1.cnt, h1.small⟩
    · rw [World.cell?_setCell_other _ _ _ _ (by simp)]; exact hM.cell h1.cs (hlt _ t1)
    · rw [World.cell?_setCell_other _ _ _ _ (by simp)]; exact hM.cell h1.c0 (hlt _ t1)
    · rw [World.cell?_setCell_other _ _ _ _ (by simp)]; exact hM.cell h1.c1 (hlt _ t1)
    · rw [World.cell?_setCell_other _ _ _ _ (by simp)]; exact hM.cell h1.c2 (hlt _ t1)
    · exact World.cell?_setCell_same _ _ _ hW3
    · rw [World.frozen?_setCell, hM.frozen (p := ⟨d.bp, 4, none⟩) (World.block_lt_of_cell? _ _ h1.c3) (hlt _ t1)]; exact h1.z3
    · rintro (h | h)
      · exact d1 h.symm
      · exact hlt _ t2 h
    · intro j hj
      rw [own_blk] at hj
      have := h1.pat j hj
      rintro (h | h)
      · exact this.2.1 h
      · exact hlt _ this.1 h
    · intro j hj
      cases hj
      rintro (h | h)
      · exact d2 h.symm
      · exact hlt _ t3 h
    · have := (ho.congr (U := In (app rd k x)) (fun i hi => by unfold cat In app; split <;> rfl)).mv hM2 (fun j hj e => by
        have := (ho.blk j hj).1
        have e' : j = d.bp := e
        omega)
      exact this
  · rcases hf with hf | ⟨g, h1, h2⟩
    · exact .inl hf
    · refine .inr ⟨g, h1, ?_⟩
      simp at h2
      omega

end Go.Proofs.Ytjlnmkoggobbgaa
