/- Are two sets the same? -/
import Derived.Test.YtojbakkbmfgoaaaDoorMg02
import Derived.ChangeKeysEq
namespace Go.Proofs.YtojbakkbmfgoaaaDoor
open Go.RowKit
set_option linter.unusedVariables false

theorem info23 : Tryd.prog.info? 24 = some Tryd.t24 := by kernel_rfl
theorem u64_eq (d : Nat) (a b : Int) (W : World) : (Op.equalIn (d + 1) 24 (.int .u64 a) (.int .u64 b)).run Tryd.prog W = .ok (a == b) W := by
  simp [Op.equalIn, run_underlying Tryd.underlying24]
theorem agg_eq (a b c d a' b' c' d' : Int) (W : World) : (Op.equal 26 (.agg #[.int .u64 a, .int .u64 b, .int .u64 c, .int .u64 d]) (.agg #[.int .u64 a', .int .u64 b', .int .u64 c', .int .u64 d'])).run Tryd.prog W = .ok (a == a' && b == b' && c == c' && d == d') W := by
  have e0 : Op.equal 26 (.agg #[.int .u64 a, .int .u64 b, .int .u64 c, .int .u64 d]) (.agg #[.int .u64 a', .int .u64 b', .int .u64 c', .int .u64 d']) = Op.equalIn (9999 + 1) 26 (.agg #[.int .u64 a, .int .u64 b, .int .u64 c, .int .u64 d]) (.agg #[.int .u64 a', .int .u64 b', .int .u64 c', .int .u64 d']) := rfl
  have hp : Tryd.prog.plainKey 24 = true := by kernel_rfl
  have hc : Tryd.prog.cellsOf 24 = 1 := by kernel_rfl
  have p : ∀ (x y z u : Int), (part 24 #[.int .u64 x, .int .u64 y, .int .u64 z, .int .u64 u] 0).run Tryd.prog W = .ok (.int .u64 x) W ∧ (part 24 #[.int .u64 x, .int .u64 y, .int .u64 z, .int .u64 u] 1).run Tryd.prog W = .ok (.int .u64 y) W ∧ (part 24 #[.int .u64 x, .int .u64 y, .int .u64 z, .int .u64 u] 2).run Tryd.prog W = .ok (.int .u64 z) W ∧ (part 24 #[.int .u64 x, .int .u64 y, .int .u64 z, .int .u64 u] 3).run Tryd.prog W = .ok (.int .u64 u) W :=
    fun x y z u => ⟨run_part_plain W hp rfl, run_part_plain W hp rfl, run_part_plain W hp rfl, run_part_plain W hp rfl⟩
  have q : ∀ x y : Int, (Op.equalIn 9999 24 (.int .u64 x) (.int .u64 y)).run Tryd.prog W = .ok (x == y) W := fun x y => u64_eq 9998 x y W
  have r : List.range 4 = [0, 1, 2, 3] := rfl
  rw [e0, run_equalIn_array W 9999 _ _ Tryd.underlying26 info23, hc, r]
  obtain ⟨p0, p1, p2, p3⟩ := p a b c d
  obtain ⟨r0, r1, r2, r3⟩ := p a' b' c' d'
  unfold Op.eqItems
  simp only [Sem.run_bind, Nat.zero_mul, p0, r0, q, Result.andThen_ok]
  cases h0 : a == a'
  · simp
  simp only [Bool.not_true, Bool.false_eq_true, if_false]
  unfold Op.eqItems
  simp only [Sem.run_bind, Nat.one_mul, p1, r1, q, Result.andThen_ok]
  cases h1 : b == b'
  · simp
  simp only [Bool.not_true, Bool.false_eq_true, if_false]
  unfold Op.eqItems
  simp only [Sem.run_bind, Nat.mul_one, p2, r2, q, Result.andThen_ok]
  cases h2 : c == c'
  · simp
  simp only [Bool.not_true, Bool.false_eq_true, if_false]
  unfold Op.eqItems
  simp only [Sem.run_bind, Nat.mul_one, p3, r3, q, Result.andThen_ok]
  cases h3 : d == d'
  · simp
  simp only [Bool.not_true, Bool.false_eq_true, if_false]
  rfl

/-- Are two sets the same? -/
def same (p q : Nat → Bool) : Bool := (List.range 256).all (fun b => p b == q b)
theorem same_like {p q : Nat → Bool} : same p q = true ↔ Like p q := by
  unfold same Like
  rw [List.all_eq_true]
  simp
theorem same_limbs (p q : Nat → Bool) : ((limb p 0 : Int) == (limb q 0 : Int) && (limb p 1 : Int) == (limb q 1 : Int) && (limb p 2 : Int) == (limb q 2 : Int) && (limb p 3 : Int) == (limb q 3 : Int)) = same p q := by
  rw [Bool.eq_iff_iff, same_like]
  simp only [Bool.and_eq_true, beq_iff_eq, Int.natCast_inj]
  constructor
  · rintro ⟨⟨⟨h0, h1⟩, h2⟩, h3⟩
    refine like_limb (fun i hi => ?_)
    rcases (show i = 0 ∨ i = 1 ∨ i = 2 ∨ i = 3 from by omega) with rfl | rfl | rfl | rfl
    · exact h0
    · exact h1
    · exact h2
    · exact h3
  · intro h
    exact ⟨⟨⟨limb_like h (by decide), limb_like h (by decide)⟩, limb_like h (by decide)⟩, limb_like h (by decide)⟩
theorem eql_run (p q : Nat → Bool) (W : World) : (binOp .eql 26 (sv p) (sv q)).run Tryd.prog W = .ok (.bool (same p q)) W := by
  rw [← same_limbs]
  unfold sv
  simp [binOp, go_sem, agg_eq]
theorem neq_run (p q : Nat → Bool) (W : World) : (binOp .neq 26 (sv p) (sv q)).run Tryd.prog W = .ok (.bool (!same p q)) W := by
  rw [← same_limbs]
  unfold sv
  simp [binOp, go_sem, agg_eq]
theorem same_none (p : Nat → Bool) : (!same p (fun _ => false)) = any p := by
  rw [Bool.eq_iff_iff, any_true]
  simp [same]
end Go.Proofs.YtojbakkbmfgoaaaDoor

namespace Go.Proofs.YtojbakkbmfgoaaaDoor
open Go.RowKit
set_option linter.unusedVariables false

def lvl (k : Int) : Int := if k = 3 then 1 else if k = 2 then 2 else if k = 4 ∨ k = 5 ∨ k = 6 then 3 else if k = 1 then 4 else 0
/-- Has it what its kind asks for? -/
def node (k : Int) (p : Nat → Bool) (n : Nat) : Bool :=
  if k = 3 ∨ k = 2 then !any p && decide (2 ≤ n) else if k = 4 ∨ k = 5 ∨ k = 6 then !any p && decide (n = 1) else if k = 1 then any p && decide (n = 0) else false
def RX.formed : RX → Bool := RX.fold (fun k p l R => node k p l.length && (l.all (fun a => decide (lvl a.kind ≠ lvl k)) && R.all id))
def RX.nodes : RX → Nat := RX.fold (fun _ _ _ R => 1 + R.sum)
def maxl : List Nat → Nat
  | [] => 0
  | n :: l => max n (maxl l)
def RX.depth : RX → Nat := RX.fold (fun _ _ _ R => maxl R + 1)
theorem formed_eq (k : Int) (p : Nat → Bool) (l : List RX) : RX.formed ⟨k, p, l⟩ = (node k p l.length && (l.all (fun a => decide (lvl a.kind ≠ lvl k)) && l.all RX.formed)) := by
  rw [RX.formed, RX.fold_eq, List.all_map]; rfl
theorem nodes_eq (k : Int) (p : Nat → Bool) (l : List RX) : RX.nodes ⟨k, p, l⟩ = 1 + (l.map RX.nodes).sum := by rw [RX.nodes, RX.fold_eq]
theorem depth_eq (k : Int) (p : Nat → Bool) (l : List RX) : RX.depth ⟨k, p, l⟩ = maxl (l.map RX.depth) + 1 := by rw [RX.depth, RX.fold_eq]
def RX.node (x : RX) : Bool := Proofs.YtojbakkbmfgoaaaDoor.node x.kind x.set x.args.length
/-- May it be? -/
def may (x : RX) : Int := if x.formed = false then 2 else if x.nodes ≤ 40 ∧ x.depth ≤ 12 then 0 else 6

theorem formed_kind {x : RX} (h : x.formed = true) : x.kind = 1 ∨ x.kind = 2 ∨ x.kind = 3 ∨ x.kind = 4 ∨ x.kind = 5 ∨ x.kind = 6 := by
  obtain ⟨k, p, l⟩ := x
  rw [formed_eq] at h
  unfold Proofs.YtojbakkbmfgoaaaDoor.node at h
  show k = 1 ∨ k = 2 ∨ k = 3 ∨ k = 4 ∨ k = 5 ∨ k = 6
  by_cases h1 : k = 3 ∨ k = 2
  · omega
  · by_cases h2 : k = 4 ∨ k = 5 ∨ k = 6
    · omega
    · by_cases h3 : k = 1
      · omega
      · rw [if_neg h1, if_neg h2, if_neg h3] at h
        simp at h
theorem le_maxl {l : List Nat} {n : Nat} (h : n ∈ l) : n ≤ maxl l := by
  induction l with
  | nil => cases h
  | cons m l ih =>
    rw [maxl]
    rcases List.mem_cons.1 h with e | e
    · omega
    · have := ih e; omega
theorem maxl_le {l : List Nat} {d : Nat} : maxl l ≤ d ↔ ∀ n ∈ l, n ≤ d := by
  induction l with
  | nil => simp [maxl]
  | cons m l ih => rw [maxl]; simp only [List.mem_cons, forall_eq_or_imp]; rw [← ih]; omega

/-- Equal trees. -/
def sameX : RX → RX → Bool
  | ⟨k, p, l⟩, y => decide (k = y.kind) && (same p y.set && (decide (l.length = y.args.length) && sameL l y.args))
  where sameL : List RX → List RX → Bool
  | [], _ => true
  | x :: l, m => (match m with | [] => false | y :: m => sameX x y && sameL l m)
end Go.Proofs.YtojbakkbmfgoaaaDoor

namespace Go.Proofs.YtojbakkbmfgoaaaDoor
open Go.RowKit
set_option linter.unusedVariables false

abbrev Mat := Nat → Nat → Bool
/-- From one place to the next, over a byte of a set. -/
def setM (p : Nat → Bool) (b : Nat → Nat) (n : Nat) : Mat := fun i j => decide (i < n) && (p (b i) && (j == i + 1))
def idM : Mat := fun i j => j == i
def orM (f g : Mat) : Mat := fun i j => f i j || g i j
def thenM (N : Nat) (f g : Mat) : Mat := fun i j => (List.range N).any (fun k => f i k && g k j)
/-- Any number of matches, so many steps at most. -/
def stM (N : Nat) (f : Mat) : Nat → Mat
  | 0 => idM
  | t + 1 => fun i j => (j == i) || (List.range N).any (fun k => (f i k && !(k == i)) && stM N f t k j)
def starM (N : Nat) (f : Mat) : Mat := stM N f N
/-- Matches go forward, within the places. -/
def Fwd (N : Nat) (f : Mat) : Prop := ∀ i j, f i j = true → i ≤ j ∧ (i < N → j < N)
theorem setM_fwd (p : Nat → Bool) (b : Nat → Nat) (n : Nat) : Fwd (n + 1) (setM p b n) := by
  intro i j h
  unfold setM at h
  simp at h
  omega
theorem idM_fwd (N : Nat) : Fwd N idM := by intro i j h; unfold idM at h; simp at h; omega
theorem orM_fwd {N : Nat} {f g : Mat} (hf : Fwd N f) (hg : Fwd N g) : Fwd N (orM f g) := by
  intro i j h
  unfold orM at h
  rcases Bool.or_eq_true _ _ ▸ h with h | h
  · exact hf i j h
  · exact hg i j h
theorem any_range {N : Nat} {q : Nat → Bool} : (List.range N).any q = true ↔ ∃ k, k < N ∧ q k = true := by
  rw [List.any_eq_true]; simp
theorem thenM_true {N : Nat} {f g : Mat} {i j : Nat} : thenM N f g i j = true ↔ ∃ k, k < N ∧ f i k = true ∧ g k j = true := by
  unfold thenM; rw [any_range]; simp
theorem thenM_fwd {N : Nat} {f g : Mat} (hf : Fwd N f) (hg : Fwd N g) : Fwd N (thenM N f g) := by
  intro i j h
  obtain ⟨k, hk, h1, h2⟩ := thenM_true.1 h
  have a := hf i k h1
  have b := hg k j h2
  exact ⟨by omega, fun hi => b.2 hk⟩
theorem stM_succ {N : Nat} {f : Mat} {t i j : Nat} : stM N f (t + 1) i j = true ↔ j = i ∨ ∃ k, k < N ∧ f i k = true ∧ k ≠ i ∧ stM N f t k j = true := by
  rw [stM, Bool.or_eq_true, any_range]
  simp only [beq_iff_eq, Bool.and_eq_true, Bool.not_eq_true', beq_eq_false_iff_ne]
  constructor
  · rintro (h | ⟨k, h1, ⟨h2, h3⟩, h4⟩)
    · exact .inl h
    · exact .inr ⟨k, h1, h2, h3, h4⟩
  · rintro (h | ⟨k, h1, h2, h3, h4⟩)
    · exact .inl h
    · exact .inr ⟨k, h1, ⟨h2, h3⟩, h4⟩
theorem stM_fwd {N : Nat} {f : Mat} (hf : Fwd N f) : ∀ t, Fwd N (stM N f t)
  | 0 => idM_fwd N
  | t + 1 => by
    intro i j h
    rcases stM_succ.1 h with rfl | ⟨k, hk, h1, h2, h3⟩
    · exact ⟨Nat.le_refl _, id⟩
    · have a := hf i k h1
      have b := stM_fwd hf t k j h3
      exact ⟨by omega, fun _ => b.2 hk⟩
/-- Enough steps are enough. -/
theorem stM_more {N : Nat} {f : Mat} (hf : Fwd N f) : ∀ (d t u i j : Nat), N ≤ i + d + 1 → d ≤ t → d ≤ u → stM N f t i j = true → stM N f u i j = true
  | 0, t, u, i, j, h, _, _, hs => by
    have he : j = i := by
      cases t with
      | zero => unfold stM idM at hs; simpa using hs
      | succ t =>
        rcases stM_succ.1 hs with e | ⟨k, hk, h1, h2, h3⟩
        · exact e
        · have := (hf i k h1).1; omega
    subst he
    cases u with
    | zero => unfold stM idM; simp
    | succ u => exact stM_succ.2 (.inl rfl)
  | d + 1, 0, u, i, j, h, ht, _, hs => by omega
  | d + 1, t, 0, i, j, h, _, hu, hs => by omega
  | d + 1, t + 1, u + 1, i, j, h, ht, hu, hs => by
    rcases stM_succ.1 hs with e | ⟨k, hk, h1, h2, h3⟩
    · exact stM_succ.2 (.inl e)
    · have := (hf i k h1).1
      exact stM_succ.2 (.inr ⟨k, hk, h1, h2, stM_more hf d t u k j (by omega) (by omega) (by omega) h3⟩)
/-- A star, one step on. -/
theorem starM_step {N : Nat} {f : Mat} (hf : Fwd N f) {i j : Nat} (hi : i < N) : starM N f i j = ((j == i) || (List.range N).any (fun k => (f i k && !(k == i)) && starM N f k j)) := by
  unfold starM
  obtain ⟨M, rfl⟩ : ∃ M, N = M + 1 := ⟨N - 1, by omega⟩
  rw [Bool.eq_iff_iff, stM_succ, Bool.or_eq_true, any_range]
  simp only [beq_iff_eq, Bool.and_eq_true, Bool.not_eq_true', beq_eq_false_iff_ne]
  constructor
  · rintro (h | ⟨k, h1, h2, h3, h4⟩)
    · exact .inl h
    · have := (hf i k h2).1
      exact .inr ⟨k, h1, ⟨h2, h3⟩, stM_more hf (M - k) M (M + 1) k j (by omega) (by omega) (by omega) h4⟩
  · rintro (h | ⟨k, h1, ⟨h2, h3⟩, h4⟩)
    · exact .inl h
    · have := (hf i k h2).1
      exact .inr ⟨k, h1, h2, h3, stM_more hf (M - k) (M + 1) M k j (by omega) (by omega) (by omega) h4⟩
theorem starM_fwd {N : Nat} {f : Mat} (hf : Fwd N f) : Fwd N (starM N f) := stM_fwd hf N

end Go.Proofs.YtojbakkbmfgoaaaDoor

namespace Go.Proofs.YtojbakkbmfgoaaaDoor
open Go.RowKit
set_option linter.unusedVariables false

def eset : Nat → Bool := fun _ => false
def one (k : Int) (l : List RX) : RX := match l with
  | [x] => x
  | _ => ⟨k, eset, l⟩
end Go.Proofs.YtojbakkbmfgoaaaDoor

namespace Go.Proofs.YtojbakkbmfgoaaaDoor
open Go.RowKit
set_option linter.unusedVariables false

theorem zero28 : Tryd.t29.zero = some (.agg #[.int .i64 0, .int .u64 0, .int .u64 0, .int .u64 0, .int .u64 0, .slice none 0 0]) := by kernel_rfl
theorem info28' : Tryd.prog.info? 29 = some Tryd.t29 := by kernel_rfl
theorem size28' : Tryd.t29.size = 6 := by kernel_rfl
theorem bytes28 : Tryd.t29.bytes = 64 := by kernel_rfl
/-- A row of its own, from block base on; its trees lie in K, the row itself does not. -/
structure Ro (base : Nat) (K : Nat → Prop) (w : World) (v : Value) (l : List RX) : Prop where
  ow : ∃ ys, w.ownsRow base 29 6 v l.length ys ∧ RX.lies.row l K w ys
  off : ∀ j, K j → v.ownBlock ≠ some j
theorem Ro.mv {X : Nat → Prop} {base : Nat} {K : Nat → Prop} {w w' : World} {v : Value} {l : List RX} (h : Ro base K w v l) (m : Mv X w w') (hk : ∀ j, K j → ¬ X j) (hv : ∀ j, v.ownBlock = some j → ¬ X j) : Ro base K w' v l := by
  obtain ⟨ys, h1, h2⟩ := h.ow
  exact ⟨⟨ys, m.owns h1 hv, row_mv m hk h2⟩, h.off⟩
/-- What lies in K lies there in each world that has the same blocks in K. -/
theorem RX.lies_same {w w' : World} {K : Nat → Prop} (e : ∀ j, K j → w'.heap[j]? = w.heap[j]?) : ∀ (x : RX) (cs : List Value), x.lies K w cs → x.lies K w' cs := by
  refine RX.ind ?_
  intro k p l ih cs h
  obtain ⟨a, c, rfl, ys, h1, h2, h3, h4, h5⟩ := RX.lies_iff.1 h
  refine RX.lies_iff.2 ⟨a, c, rfl, ys, fun q hq => ⟨(h1 q hq).1, ?_⟩, h2, h3, ?_, ?_⟩
  · obtain ⟨e2, cs, t, hg⟩ := (h1 q hq).2
    exact ⟨e2, cs, t, (e _ (h1 q hq).1).trans hg⟩
  · intro j u hj
    obtain ⟨b, off, ea, hb, hc⟩ := h4 j u hj
    have hk := (h1 _ ea).1
    have e2 := e b hk
    refine ⟨b, off, ea, ?_, (World.cell?_of_block e2).trans hc⟩
    rw [Array.getElem?_eq_getElem hb] at e2
    exact (Array.getElem?_eq_some_iff.1 e2).1
  clear h h1 h2 h3 h4
  induction l generalizing ys with
  | nil => exact h5
  | cons x l ih2 =>
    rw [RX.lies.row] at h5 ⊢
    obtain ⟨ds, zs, rfl, g1, g2⟩ := h5
    exact ⟨ds, zs, rfl, ih x (by simp) ds g1, ih2 (fun y hy => ih y (by simp [hy])) zs g2⟩
theorem Parts.same {w w' : World} {K : Nat → Prop} (e : ∀ j, K j → w'.heap[j]? = w.heap[j]?) {l : List RX} {a : Option Addr} {c : Nat} (h : Parts l K w a c) : Parts l K w' a c := by
  have := RX.lies_same e ⟨0, fun _ => false, l⟩ _ (RX.lies_iff.2 ⟨a, c, rfl, h⟩)
  obtain ⟨a', c', e, h'⟩ := RX.lies_iff.1 this
  simp only [cells6, List.cons.injEq, Value.slice.injEq] at e
  obtain ⟨_, _, _, _, _, ⟨rfl, _, rfl⟩, _⟩ := e
  exact h'
theorem ow_take {w : World} {base n k m c : Nat} {e : TypeId} {a : Option Addr} {xs : List Value} (h : w.ownsRow base e k (.slice a n c) n xs) (hm : m ≤ n) (hn : 0 < n) : w.ownsRow base e k (.slice a m c) m (xs.take (m * k)) := by
  have hl := h.1
  have hmk : m * k ≤ n * k := Nat.mul_le_mul_right k hm
  refine ⟨by rw [List.length_take, hl]; omega, ?_⟩
  rcases h.2 with ⟨hv, h0⟩ | ⟨g, cap, cur, hv, h2, h3, h4, h5, h6, h7⟩
  · omega
  · cases hv
    refine .inr ⟨g, c, cur, rfl, h2, h3, by omega, h5, h6, ?_⟩
    rw [← h7, List.take_take]
    congr 1
    omega
theorem row_split {l m : List RX} {K : Nat → Prop} {w : World} {ys : List Value} (h : RX.lies.row (l ++ m) K w ys) : RX.lies.row l K w (ys.take (l.length * 6)) ∧ RX.lies.row m K w (ys.drop (l.length * 6)) := by
  induction l generalizing ys with
  | nil => exact ⟨by simp [RX.lies.row], by simpa using h⟩
  | cons x l ih =>
    rw [List.cons_append, RX.lies.row] at h
    obtain ⟨cs, zs, rfl, h1, h2⟩ := h
    have hc := RX.lies_len h1
    obtain ⟨g1, g2⟩ := ih h2
    have e : (x :: l).length * 6 = cs.length + l.length * 6 := by simp; omega
    rw [e, List.take_append, List.drop_append]
    refine ⟨?_, ?_⟩
    · rw [RX.lies.row]
      refine ⟨cs, zs.take (l.length * 6), ?_, h1, g1⟩
      rw [List.take_of_length_le (by omega), Nat.add_sub_cancel_left]
    · rw [List.drop_eq_nil_of_le (by omega), Nat.add_sub_cancel_left, List.nil_append]
      exact g2
theorem Ro.at {base : Nat} {K : Nat → Prop} {w : World} {a : Option Addr} {n c : Nat} {l : List RX} (h : Ro base K w (.slice a n c) l) {i : Nat} {x : RX} (hx : l[i]? = some x) : ∃ b a' c', a = some ⟨b, 0, none⟩ ∧ base ≤ b ∧ Parts x.args K w a' c' ∧ w.cell? ⟨b, i * 6, none⟩ = some (.int .i64 x.kind) ∧ w.cell? ⟨b, i * 6 + 1, none⟩ = some (.int .u64 (limb x.set 0)) ∧ w.cell? ⟨b, i * 6 + 2, none⟩ = some (.int .u64 (limb x.set 1)) ∧ w.cell? ⟨b, i * 6 + 3, none⟩ = some (.int .u64 (limb x.set 2)) ∧ w.cell? ⟨b, i * 6 + 4, none⟩ = some (.int .u64 (limb x.set 3)) ∧ w.cell? ⟨b, i * 6 + 5, none⟩ = some (.slice a' x.args.length c') := by
  obtain ⟨ys, h1, h2⟩ := h.ow
  have hil := (List.getElem?_eq_some_iff.1 hx).1
  obtain ⟨g, cap, hv, hb⟩ : ∃ g cap, Value.slice a n c = .slice (some ⟨g, 0, none⟩) l.length cap ∧ base ≤ g := by
    rcases h1.2 with ⟨hv, h0⟩ | ⟨g, cap, cur, hv, hb, h3, _⟩
    · omega
    · exact ⟨g, cap, hv, hb⟩
  obtain ⟨rfl, rfl, rfl⟩ := Value.slice.inj hv
  obtain ⟨a2, cap2, hv2, hls, _⟩ := ow_ls h1
  obtain ⟨rfl, _, rfl⟩ := Value.slice.inj hv2
  obtain ⟨cs, g1, g2⟩ := row_at h2 hx
  obtain ⟨k, p, m⟩ := x
  obtain ⟨a', c', rfl, hp⟩ := RX.lies_iff.1 g1
  have key : ∀ j u, j < 6 → (cells6 k p a' m.length c')[j]? = some u → w.cell? ⟨g, i * 6 + j, none⟩ = some u := by
    intro j u hj hu
    obtain ⟨b, o, ea, _, q0⟩ := hls (i * 6 + j) u ((g2 j hj).trans hu)
    cases ea
    rw [Nat.zero_add] at q0
    exact q0
  exact ⟨g, a', c', rfl, hb, hp, key 0 _ (by omega) rfl, key 1 _ (by omega) rfl, key 2 _ (by omega) rfl, key 3 _ (by omega) rfl, key 4 _ (by omega) rfl, key 5 _ (by omega) rfl⟩
/-- The last one is taken off. -/
theorem Ro.pop {base : Nat} {K : Nat → Prop} {w : World} {a : Option Addr} {c : Nat} {l : List RX} {x : RX} (h : Ro base K w (.slice a (l.length + 1) c) (l ++ [x])) : Ro base K w (.slice a l.length c) l := by
  obtain ⟨ys, h1, h2⟩ := h.ow
  rw [List.length_append, List.length_singleton] at h1
  refine ⟨⟨ys.take (l.length * 6), ow_take h1 (by omega) (by omega), (row_split h2).1⟩, ?_⟩
  intro j hj e
  cases a with
  | none => cases e
  | some q => exact h.off j hj e
/-- A row as a slice. -/
theorem Ro.sl {base : Nat} {K : Nat → Prop} {w : World} {v : Value} {l : List RX} (h : Ro base K w v l) (hl : l.length < 100000) : ∃ a c, v = .slice a l.length c ∧ Parts l (fun j => K j ∨ v.ownBlock = some j) w a c ∧ (a = none → l = []) := by
  obtain ⟨ys, h1, h2⟩ := h.ow
  obtain ⟨a, c, rfl, g1, g2, g3, g4⟩ := ow_ls h1
  refine ⟨a, c, rfl, ⟨ys, ?_, g2, ⟨by omega, fun e => ⟨List.length_eq_zero_iff.1 (g3 e).1, (g3 e).2⟩⟩, g1, row_mono (fun j hj => .inl hj) h2⟩, fun e => List.length_eq_zero_iff.1 (g3 e).1⟩
  intro q hq
  refine ⟨.inr (g4 q hq), ?_⟩
  rcases h1.2 with ⟨hv, h0⟩ | ⟨g, cap, cur, hv, h2, h3, _⟩
  · have := (Value.slice.inj hv).1
    rw [hq] at this; cases this
  · have := (Value.slice.inj hv).1
    rw [hq] at this; cases this
    exact ⟨rfl, cur, 29, h3⟩
theorem cells6_one (k : Int) (p : Nat → Bool) (a : Option Addr) (n c : Nat) : ∀ u ∈ cells6 k p a n c, u.oneCell' = true := by
  intro u hu
  simp only [cells6, List.mem_cons, List.not_mem_nil, or_false] at hu
  rcases hu with rfl | rfl | rfl | rfl | rfl | rfl <;> rfl
/-- One more. -/
theorem Ro.push {base : Nat} {K : Nat → Prop} {w : World} {v : Value} {l : List RX} (h : Ro base K w v l) (hb : base ≤ w.heap.size) (hl : l.length < 90000) (hK : ∀ j, K j → j < w.heap.size) {x : RX} {a : Option Addr} {c : Nat} (hx : Parts x.args K w a c) :
    ∃ v' W, (Builtin.append_ #[27, 27] 27 #[v, .slice (some ⟨w.heap.size, 0, none⟩) 1 1]).run Tryd.prog (w.alloc (.cells #[.int .i64 x.kind, .int .u64 (limb x.set 0), .int .u64 (limb x.set 1), .int .u64 (limb x.set 2), .int .u64 (limb x.set 3), .slice a x.args.length c] 29)) = .ok v' W ∧ Hid (Ro base K W v' (l ++ [x])) ∧ Hid (Mv (fun j => v.ownBlock = some j) w W) ∧ Hid (v'.ownBlock = v.ownBlock ∨ ∃ g, v'.ownBlock = some g ∧ w.heap.size ≤ g) := by
  obtain ⟨ys, h1, h2⟩ := h.ow
  have qa := Mv.alloc (fun _ => False) w (.cells #[.int .i64 x.kind, .int .u64 (limb x.set 0), .int .u64 (limb x.set 1), .int .u64 (limb x.set 2), .int .u64 (limb x.set 3), .slice a x.args.length c] 29)
  have hlx := lies_of hx
  obtain ⟨v', W, hr, hown, hgr, hnb⟩ := append_ow 27 27 29 Tryd.t29 _ 6 64 Tryd.underlying27 info28' zero28 size28' bytes28 rfl (by decide) (by decide) (w.alloc (.cells #[.int .i64 x.kind, .int .u64 (limb x.set 0), .int .u64 (limb x.set 1), .int .u64 (limb x.set 2), .int .u64 (limb x.set 3), .slice a x.args.length c] 29)) base v l.length 1 1 ys (cells6 x.kind x.set a x.args.length c) (some ⟨w.heap.size, 0, none⟩) (h1.alloc _) (Ls.new w _ 29) rfl (cells6_one _ _ _ _ _) (by omega) (by simp) (Nat.le_trans hb qa.size)
  have hmv : Mv (fun j => v.ownBlock = some j) w W := by
    refine Mv.trans (qa.mono (fun _ _ h => h.elim)) (Mv.of_grown hgr) (fun j hj e => e)
  have hnb2 : v'.ownBlock = v.ownBlock ∨ ∃ g, v'.ownBlock = some g ∧ w.heap.size ≤ g := by
    rcases hnb with e | ⟨g, e, hg⟩
    · exact .inl e
    · exact .inr ⟨g, e, Nat.le_trans qa.size hg⟩
  refine ⟨v', W, hr, ⟨⟨ys ++ cells6 x.kind x.set a x.args.length c, ?_, ?_⟩, ?_⟩, hmv, hnb2⟩
  · rw [List.length_append, List.length_singleton]; exact hown
  · exact row_append (row_mv hmv (fun j hj e => h.off j hj e) h2) (row_one (RX.lies_mv hmv x K _ (fun j hj e => h.off j hj e) hlx))
  · intro j hj e
    rcases hnb2 with e2 | ⟨g, e2, hg⟩
    · exact h.off j hj (e2.symm.trans e)
    · have hg2 : g = j := by rw [e2] at e; exact Option.some.inj e
      have := hK j hj
      omega
/-- The first one. -/
theorem Ro.new {base : Nat} {K : Nat → Prop} {w : World} (hb : base ≤ w.heap.size) (hK : ∀ j, K j → j < w.heap.size) {x : RX} {a : Option Addr} {c : Nat} (hx : Parts x.args K w a c) :
    Hid (Ro base K (w.alloc (.cells #[.int .i64 x.kind, .int .u64 (limb x.set 0), .int .u64 (limb x.set 1), .int .u64 (limb x.set 2), .int .u64 (limb x.set 3), .slice a x.args.length c] 29)) (.slice (some ⟨w.heap.size, 0, none⟩) 1 1) [x]) := by
  have qa := Mv.alloc (fun _ => False) w (.cells #[.int .i64 x.kind, .int .u64 (limb x.set 0), .int .u64 (limb x.set 1), .int .u64 (limb x.set 2), .int .u64 (limb x.set 3), .slice a x.args.length c] 29)
  refine ⟨⟨cells6 x.kind x.set a x.args.length c, ow_new w base 6 29 _ 1 hb (by omega) rfl, row_one (RX.lies_mv qa x K _ (fun _ _ h => h) (lies_of hx))⟩, ?_⟩
  intro j hj e
  have e2 : w.heap.size = j := Option.some.inj e
  have := hK j hj
  omega
theorem RX.lies_lt : ∀ (x : RX) (K : Nat → Prop) (w : World) (cs : List Value), x.lies K w cs → x.lies (fun j => K j ∧ j < w.heap.size) w cs := by
  refine RX.ind ?_
  intro k p l ih K w cs h
  obtain ⟨a, c, rfl, ys, h1, h2, h3, h4, h5⟩ := RX.lies_iff.1 h
  refine RX.lies_iff.2 ⟨a, c, rfl, ys, fun q hq => ⟨⟨(h1 q hq).1, ?_⟩, (h1 q hq).2⟩, h2, h3, h4, ?_⟩
  · obtain ⟨_, cs, t, hg⟩ := (h1 q hq).2
    exact (Array.getElem?_eq_some_iff.1 hg).1
  clear h h1 h2 h3 h4
  induction l generalizing ys with
  | nil => exact h5
  | cons x l ih2 =>
    rw [RX.lies.row] at h5 ⊢
    obtain ⟨ds, zs, rfl, g1, g2⟩ := h5
    exact ⟨ds, zs, rfl, ih x (by simp) K w ds g1, ih2 (fun y hy => ih y (by simp [hy])) zs g2⟩
theorem Parts.lt {l : List RX} {K : Nat → Prop} {w : World} {a : Option Addr} {c : Nat} (h : Parts l K w a c) : Parts l (fun j => K j ∧ j < w.heap.size) w a c := by
  have := RX.lies_lt ⟨0, fun _ => false, l⟩ K w _ (RX.lies_iff.2 ⟨a, c, rfl, h⟩)
  obtain ⟨a', c', e, h'⟩ := RX.lies_iff.1 this
  simp only [cells6, List.cons.injEq, Value.slice.injEq] at e
  obtain ⟨_, _, _, _, _, ⟨rfl, _, rfl⟩, _⟩ := e
  exact h'

end Go.Proofs.YtojbakkbmfgoaaaDoor

namespace Go.Proofs.YtojbakkbmfgoaaaDoor
open Go.RowKit
set_option linter.unusedVariables false

/-- The places of a part, numbered from k on. -/
structure Pla where
  cnt : Nat
  null : Bool
  sets : List (Nat → Bool)
  fst : Nat → Nat → Bool
  lst : Nat → Nat → Bool
  fol : Nat → Nat → Nat → Bool
def eP : Pla := ⟨0, true, [], fun _ _ => false, fun _ _ => false, fun _ _ _ => false⟩
def oP : Pla := ⟨0, false, [], fun _ _ => false, fun _ _ => false, fun _ _ _ => false⟩
def oneP (p : Nat → Bool) : Pla := ⟨1, false, [p], fun k n => n == k, fun k n => n == k, fun _ _ _ => false⟩
def thenP (p q : Pla) : Pla := ⟨p.cnt + q.cnt, p.null && q.null, p.sets ++ q.sets,
  fun k n => p.fst k n || (p.null && q.fst (k + p.cnt) n), fun k n => q.lst (k + p.cnt) n || (q.null && p.lst k n),
  fun k i j => p.fol k i j || (q.fol (k + p.cnt) i j || (p.lst k i && q.fst (k + p.cnt) j))⟩
def orP (p q : Pla) : Pla := ⟨p.cnt + q.cnt, p.null || q.null, p.sets ++ q.sets,
  fun k n => p.fst k n || q.fst (k + p.cnt) n, fun k n => p.lst k n || q.lst (k + p.cnt) n,
  fun k i j => p.fol k i j || q.fol (k + p.cnt) i j⟩
def againP (p : Pla) : Pla := ⟨p.cnt, p.null, p.sets, p.fst, p.lst, fun k i j => p.fol k i j || (p.lst k i && p.fst k j)⟩
def optP (p : Pla) : Pla := ⟨p.cnt, true, p.sets, p.fst, p.lst, p.fol⟩
def signP (k : Int) (p : Pla) : Pla := if k = 4 then optP (againP p) else if k = 5 then againP p else optP p
def plaK (k : Int) (p : Nat → Bool) (R : List Pla) : Pla :=
  if k = 1 then oneP p else if k = 2 then R.foldl thenP eP else if k = 3 then R.foldl orP oP else match R with | [] => eP | q :: _ => signP k q
def RX.pla : RX → Pla := RX.fold (fun k p _ R => plaK k p R)
theorem pla_eq (k : Int) (p : Nat → Bool) (l : List RX) : RX.pla ⟨k, p, l⟩ = plaK k p (l.map RX.pla) := by rw [RX.pla, RX.fold_eq]
theorem pla_at (x : RX) : x.pla = plaK x.kind x.set (x.args.map RX.pla) := by obtain ⟨k, p, l⟩ := x; exact pla_eq k p l

theorem thenP_eP (q : Pla) : thenP eP q = q := by
  obtain ⟨c, n, s, f, l, o⟩ := q
  unfold thenP eP
  simp
theorem orP_oP (q : Pla) : orP oP q = q := by
  obtain ⟨c, n, s, f, l, o⟩ := q
  unfold orP oP
  simp

/-- All places lie where they should. -/
structure Pla.Fine (p : Pla) : Prop where
  len : p.sets.length = p.cnt
  fst : ∀ k n, p.fst k n = true → k ≤ n ∧ n < k + p.cnt
  lst : ∀ k n, p.lst k n = true → k ≤ n ∧ n < k + p.cnt
  fol : ∀ k i j, p.fol k i j = true → (k ≤ i ∧ i < k + p.cnt) ∧ (k ≤ j ∧ j < k + p.cnt)
theorem eP_fine : eP.Fine := ⟨rfl, fun _ _ h => (by cases h), fun _ _ h => (by cases h), fun _ _ _ h => (by cases h)⟩
theorem oP_fine : oP.Fine := ⟨rfl, fun _ _ h => (by cases h), fun _ _ h => (by cases h), fun _ _ _ h => (by cases h)⟩
theorem oneP_fine (p : Nat → Bool) : (oneP p).Fine := by
  have h1 : ∀ k n, (oneP p).fst k n = true → k ≤ n ∧ n < k + 1 := by
    intro k n h
    have : n = k := by simpa [oneP] using h
    omega
  exact ⟨rfl, h1, h1, fun _ _ _ h => (by cases h)⟩
theorem thenP_fine {p q : Pla} (h : p.Fine) (g : q.Fine) : (thenP p q).Fine := by
  refine ⟨by show (p.sets ++ q.sets).length = p.cnt + q.cnt; rw [List.length_append, h.len, g.len], fun k n e => ?_, fun k n e => ?_, fun k i j e => ?_⟩
  · have e' : p.fst k n = true ∨ (p.null = true ∧ q.fst (k + p.cnt) n = true) := by simpa [thenP] using e
    show k ≤ n ∧ n < k + (p.cnt + q.cnt)
    rcases e' with e | ⟨_, e⟩
    · have := h.fst k n e; omega
    · have := g.fst _ n e; omega
  · have e' : q.lst (k + p.cnt) n = true ∨ (q.null = true ∧ p.lst k n = true) := by simpa [thenP] using e
    show k ≤ n ∧ n < k + (p.cnt + q.cnt)
    rcases e' with e | ⟨_, e⟩
    · have := g.lst _ n e; omega
    · have := h.lst k n e; omega
  · have e' : p.fol k i j = true ∨ (q.fol (k + p.cnt) i j = true ∨ (p.lst k i = true ∧ q.fst (k + p.cnt) j = true)) := by simpa [thenP] using e
    show (k ≤ i ∧ i < k + (p.cnt + q.cnt)) ∧ (k ≤ j ∧ j < k + (p.cnt + q.cnt))
    rcases e' with e | e | ⟨e1, e2⟩
    · have := h.fol k i j e; omega
    · have := g.fol _ i j e; omega
    · have := h.lst k i e1; have := g.fst _ j e2; omega
theorem orP_fine {p q : Pla} (h : p.Fine) (g : q.Fine) : (orP p q).Fine := by
  refine ⟨by show (p.sets ++ q.sets).length = p.cnt + q.cnt; rw [List.length_append, h.len, g.len], fun k n e => ?_, fun k n e => ?_, fun k i j e => ?_⟩
  · have e' : p.fst k n = true ∨ q.fst (k + p.cnt) n = true := by simpa [orP] using e
    show k ≤ n ∧ n < k + (p.cnt + q.cnt)
    rcases e' with e | e
    · have := h.fst k n e; omega
    · have := g.fst _ n e; omega
  · have e' : p.lst k n = true ∨ q.lst (k + p.cnt) n = true := by simpa [orP] using e
    show k ≤ n ∧ n < k + (p.cnt + q.cnt)
    rcases e' with e | e
    · have := h.lst k n e; omega
    · have := g.lst _ n e; omega
  · have e' : p.fol k i j = true ∨ q.fol (k + p.cnt) i j = true := by simpa [orP] using e
    show (k ≤ i ∧ i < k + (p.cnt + q.cnt)) ∧ (k ≤ j ∧ j < k + (p.cnt + q.cnt))
    rcases e' with e | e
    · have := h.fol k i j e; omega
    · have := g.fol _ i j e; omega
theorem againP_fine {p : Pla} (h : p.Fine) : (againP p).Fine := by
  refine ⟨h.len, h.fst, h.lst, fun k i j e => ?_⟩
  have e' : p.fol k i j = true ∨ (p.lst k i = true ∧ p.fst k j = true) := by simpa [againP] using e
  show (k ≤ i ∧ i < k + p.cnt) ∧ (k ≤ j ∧ j < k + p.cnt)
  rcases e' with e | ⟨e1, e2⟩
  · exact h.fol k i j e
  · exact ⟨h.lst k i e1, h.fst k j e2⟩
theorem optP_fine {p : Pla} (h : p.Fine) : (optP p).Fine := ⟨h.len, h.fst, h.lst, h.fol⟩
theorem signP_fine {k : Int} {p : Pla} (h : p.Fine) : (signP k p).Fine := by
  unfold signP
  split
  · exact optP_fine (againP_fine h)
  · split
    · exact againP_fine h
    · exact optP_fine h
theorem foldl_fine {g : Pla → Pla → Pla} (hg : ∀ {p q : Pla}, p.Fine → q.Fine → (g p q).Fine) : ∀ (R : List Pla) (p : Pla), p.Fine → (∀ q ∈ R, q.Fine) → (R.foldl g p).Fine
  | [], p, h, _ => h
  | q :: R, p, h, hr => foldl_fine hg R (g p q) (hg h (hr q (by simp))) (fun r hr' => hr r (by simp [hr']))
theorem pla_fine : ∀ x : RX, x.pla.Fine := by
  refine RX.ind ?_
  intro k p l ih
  rw [pla_eq]
  have hR : ∀ q ∈ l.map RX.pla, q.Fine := by
    intro q hq
    obtain ⟨y, hy, rfl⟩ := List.mem_map.1 hq
    exact ih y hy
  unfold plaK
  split
  · exact oneP_fine p
  · split
    · exact foldl_fine thenP_fine _ _ eP_fine hR
    · split
      · exact foldl_fine orP_fine _ _ oP_fine hR
      · cases hl : l.map RX.pla with
        | nil => exact eP_fine
        | cons q R => exact signP_fine (hR q (by rw [hl]; simp))

theorem foldl_cnt {g : Pla → Pla → Pla} (hg : ∀ p q : Pla, (g p q).cnt = p.cnt + q.cnt) : ∀ (R : List Pla) (p : Pla), (R.foldl g p).cnt = p.cnt + (R.map Pla.cnt).sum
  | [], p => by simp
  | q :: R, p => by rw [List.foldl_cons, foldl_cnt hg R, hg, List.map_cons, List.sum_cons]; omega
theorem sum_le {l : List RX} (h : ∀ x ∈ l, x.pla.cnt ≤ x.nodes) : ((l.map RX.pla).map Pla.cnt).sum ≤ (l.map RX.nodes).sum := by
  induction l with
  | nil => simp
  | cons x l ih =>
    simp only [List.map_cons, List.sum_cons]
    have h1 := h x (by simp)
    have h2 := ih (fun y hy => h y (by simp [hy]))
    omega
theorem cnt_le : ∀ x : RX, x.pla.cnt ≤ x.nodes := by
  refine RX.ind ?_
  intro k p l ih
  have hs := sum_le ih
  rw [pla_eq, nodes_eq]
  unfold plaK
  split
  · show 1 ≤ _; omega
  · split
    · rw [foldl_cnt (fun _ _ => rfl)]; show 0 + _ ≤ _; omega
    · split
      · rw [foldl_cnt (fun _ _ => rfl)]; show 0 + _ ≤ _; omega
      · cases l with
        | nil => show 0 ≤ _; omega
        | cons x l =>
          simp only [List.map_cons, List.sum_cons] at hs ⊢
          have h1 : (signP k x.pla).cnt = x.pla.cnt := by
            unfold signP
            split
            · rfl
            · split <;> rfl
          rw [h1]; omega

end Go.Proofs.YtojbakkbmfgoaaaDoor

namespace Go.Proofs.YtojbakkbmfgoaaaDoor
open Go.RowKit
set_option linter.unusedVariables false

def JP (g : Pla → Pla → Pla) (e : Pla) (l : List RX) (i : Nat) : Pla := ((l.take i).map RX.pla).foldl g e
theorem JP_zero (g : Pla → Pla → Pla) (e : Pla) (l : List RX) : JP g e l 0 = e := rfl
theorem JP_succ (g : Pla → Pla → Pla) (e : Pla) {l : List RX} {i : Nat} {y : RX} (h : l[i]? = some y) : JP g e l (i + 1) = g (JP g e l i) y.pla := by
  unfold JP
  rw [List.take_add_one, h]
  simp only [Option.toList_some, List.map_append, List.foldl_append, List.map_cons, List.map_nil, List.foldl_cons, List.foldl_nil]
theorem JP_all (g : Pla → Pla → Pla) (e : Pla) (l : List RX) : JP g e l l.length = (l.map RX.pla).foldl g e := by unfold JP; rw [List.take_length]
theorem JP_fine {g : Pla → Pla → Pla} (hg : ∀ {p q : Pla}, p.Fine → q.Fine → (g p q).Fine) {e : Pla} (he : e.Fine) (l : List RX) (i : Nat) : (JP g e l i).Fine := by
  refine foldl_fine hg _ _ he (fun q hq => ?_)
  obtain ⟨y, _, rfl⟩ := List.mem_map.1 hq
  exact pla_fine y
theorem sum_take (l : List Nat) (i : Nat) : (l.take i).sum ≤ l.sum := by
  induction l generalizing i with
  | nil => simp
  | cons a l ih =>
    cases i with
    | zero => simp
    | succ i => simp only [List.take_succ_cons, List.sum_cons]; have := ih i; omega
theorem JP_cnt {g : Pla → Pla → Pla} (hg : ∀ p q : Pla, (g p q).cnt = p.cnt + q.cnt) (e : Pla) (l : List RX) (i : Nat) : (JP g e l i).cnt ≤ (JP g e l l.length).cnt := by
  unfold JP
  rw [foldl_cnt hg, foldl_cnt hg, List.take_length, List.map_take, List.map_take]
  have := sum_take ((l.map RX.pla).map Pla.cnt) i
  omega
theorem JP_then (l : List RX) (p : Nat → Bool) : JP thenP eP l l.length = RX.pla ⟨2, p, l⟩ := by rw [JP_all, pla_eq]; rfl
theorem JP_or (l : List RX) (p : Nat → Bool) : JP orP oP l l.length = RX.pla ⟨3, p, l⟩ := by rw [JP_all, pla_eq]; rfl
theorem JP_then1 (x : RX) (l : List RX) : JP thenP eP (x :: l) 1 = x.pla := by
  rw [JP_succ thenP eP (show (x :: l)[0]? = some x from rfl), JP_zero, thenP_eP]
theorem JP_or1 (x : RX) (l : List RX) : JP orP oP (x :: l) 1 = x.pla := by
  rw [JP_succ orP oP (show (x :: l)[0]? = some x from rfl), JP_zero, orP_oP]
theorem pla_set (p : Nat → Bool) (l : List RX) : RX.pla ⟨1, p, l⟩ = oneP p := by rw [pla_eq]; rfl
theorem pla_sign (k : Int) (hk : k = 4 ∨ k = 5 ∨ k = 6) (p : Nat → Bool) (x : RX) : RX.pla ⟨k, p, [x]⟩ = signP k x.pla := by
  rw [pla_eq]
  unfold plaK
  rw [if_neg (by omega), if_neg (by omega), if_neg (by omega)]
  rfl
theorem sign_cnt (k : Int) (p : Pla) : (signP k p).cnt = p.cnt := by
  unfold signP
  split
  · rfl
  · split <;> rfl

end Go.Proofs.YtojbakkbmfgoaaaDoor
