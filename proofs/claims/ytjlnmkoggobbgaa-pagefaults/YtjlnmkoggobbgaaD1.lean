/- A row of the statement's own beside an open file. -/
import Derived.Test.YtjlnmkoggobbgaaC7
namespace Go.Proofs.Ytjlnmkoggobbgaa
open Go.RowKit

/-- Two rows that share no block. -/
def Sep (a b : Option Addr) : Prop := ∀ j, bk a = some j → bk b ≠ some j
theorem sep_nil (b : Option Addr) : Sep none b := fun j h => by cases h

theorem sep_read {w : World} {base l oc N : Nat} {e : TypeId} {V : Nat → Value} {oa ra ra' : Option Addr} (O : Own w base e (.slice oa l oc) l V) (h : Sep oa ra) (K : bk ra' = bk ra ∨ ∃ g, bk ra' = some g ∧ N ≤ g) (hN : w.heap.size ≤ N) : Sep oa ra' := by
  intro j hj e
  rcases K with K | ⟨g, k1, k2⟩
  · rw [K] at e
    exact h j hj e
  · rw [k1] at e
    cases e
    have := (O.blk j (by rw [own_blk]; exact hj)).2
    omega

theorem Own.past {w W : World} {d : Pd} {ra : Option Addr} {rc k : Nat} {bad : Nat → Bool} {rd : Nat → Int} {l oc : Nat} {e : TypeId} {V : Nat → Value} {oa : Option Addr} (O : Own w d.top e (.slice oa l oc) l V) (P : Pg w d ra rc bad k rd) (h : Sep oa ra) (M : Mv (fun j => j = d.bp ∨ bk ra = some j) w W) : Own W d.top e (.slice oa l oc) l V := by
  refine O.mv M (fun j hj hS => ?_)
  have h1 := (O.blk j hj).1
  have h2 := P.t0
  rw [own_blk] at hj
  rcases hS with e | e
  · omega
  · exact h j hj e

theorem grow_row (t ty e : TypeId) (i : TypeInfo) (z : Value) (bytes : Nat) (ht : Try.prog.underlying t = some (.slice e)) (hi : Try.prog.info? e = some i) (hz : i.zero = some z) (hsize : i.size = 1) (hby : i.bytes = bytes) (hzs : z.cells.size = 1) (hb24 : bytes ≤ 24)
    {W : World} {d : Pd} {ra : Option Addr} {rc k : Nat} {bad : Nat → Bool} {rd : Nat → Int} {oa : Option Addr} {l oc m c : Nat} {V U : Nat → Value} {s : Option Addr} (P : Pg W d ra rc bad k rd) (O : Own W d.top e (.slice oa l oc) l V) (h : Sep oa ra) (hs : Sl W s m U) (h1 : ∀ j, (U j).oneCell' = true) (hn : l + m < 100000) (hnone : s = none → m = 0 ∧ c = 0) :
    ∃ oa' oc' W2, (Builtin.append_ #[t, t] ty #[.slice oa l oc, .slice s m c]).run Try.prog W = .ok (.slice oa' (l + m) oc') W2 ∧ Own W2 d.top e (.slice oa' (l + m) oc') (l + m) (cat V l U) ∧ Pg W2 d ra rc bad k rd ∧ Sep oa' ra ∧ Mv (fun j => d.top ≤ j) W W2 ∧ Mv (fun j => bk oa = some j) W W2 ∧ (bk oa' = bk oa ∨ ∃ g, bk oa' = some g ∧ W.heap.size ≤ g) := by
  obtain ⟨v', W2, hr, ho, hg, hf⟩ := append_own t ty e i z bytes ht hi hz hsize hby hzs hb24 W d.top _ l m c V U s O hs h1 hn hnone P.tp
  obtain ⟨oa', oc', rfl, _⟩ := ho.sl
  rw [own_blk, own_blk] at hf
  have hM := Mv.of_grown hg
  rw [own_blk] at hM
  have hlow : ∀ j, bk oa = some j → d.top ≤ j := fun j hj => (O.blk j (by rw [own_blk]; exact hj)).1
  refine ⟨oa', oc', W2, hr, ho, P.mv hM (fun j hj => ⟨hlow j hj, h j hj⟩), ?_, hM.mono (fun j _ hj => hlow j hj), hM, hf⟩
  intro j hj
  rcases hf with hf | ⟨g, k1, k2⟩
  · rw [hf] at hj; exact h j hj
  · rw [k1] at hj
    cases hj
    intro e
    have := (P.reads.blk _ (by rw [own_blk]; exact e)).2
    omega

/-- The file's pages, told one behind the other. -/
theorem whole_len {d : Pd} {w : World} {ra : Option Addr} {rc k : Nat} {bad : Nat → Bool} {rd : Nat → Int} (P : Pg w d ra rc bad k rd) {i : Nat} (hi : i < d.m) : i * d.sz < d.n ∧ 1 ≤ min d.sz (d.n - i * d.sz) ∧ (min d.sz (d.n - i * d.sz) < d.sz → i + 1 = d.m) ∧ min (i * d.sz) d.n + min d.sz (d.n - i * d.sz) = min ((i + 1) * d.sz) d.n := by
  have h1 := (P.cnt i).2 hi
  have h2 := P.small
  have h3 := P.cnt (i + 1)
  rw [Nat.succ_mul] at h3 ⊢
  refine ⟨h1, by omega, fun h => ?_, by omega⟩
  have : ¬ (i + 1 < d.m) := fun h4 => by have := h3.2 h4; omega
  omega

end Go.Proofs.Ytjlnmkoggobbgaa
