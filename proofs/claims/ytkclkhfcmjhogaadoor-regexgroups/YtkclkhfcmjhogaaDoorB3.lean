/- Rows of trees that a call makes. -/
import Derived.Test.YtkclkhfcmjhogaaDoorT2
namespace Go.Proofs.YtkclkhfcmjhogaaDoor
open Go.RowKit
set_option linter.unusedVariables false

theorem zero28 : Tryd.t28.zero = some (.agg #[.int .i64 0, .int .u64 0, .int .u64 0, .int .u64 0, .int .u64 0, .slice none 0 0]) := by kernel_rfl
theorem info28' : Tryd.prog.info? 28 = some Tryd.t28 := by kernel_rfl
theorem size28' : Tryd.t28.size = 6 := by kernel_rfl
theorem bytes28 : Tryd.t28.bytes = 64 := by kernel_rfl
/-- A row of its own, from block base on; its trees lie in K, the row itself does not. -/
structure Ro (base : Nat) (K : Nat → Prop) (w : World) (v : Value) (l : List RX) : Prop where
  ow : ∃ ys, w.ownsRow base 28 6 v l.length ys ∧ RX.lies.row l K w ys
  off : ∀ j, K j → v.ownBlock ≠ some j
theorem Ro.mv {X : Nat → Prop} {base : Nat} {K : Nat → Prop} {w w' : World} {v : Value} {l : List RX} (h : Ro base K w v l) (m : Mv X w w') (hk : ∀ j, K j → ¬ X j) (hv : ∀ j, v.ownBlock = some j → ¬ X j) : Ro base K w' v l := by
  obtain ⟨ys, h1, h2⟩ := h.ow
  exact ⟨⟨ys, m.owns h1 hv, row_mv m hk h2⟩, h.off⟩
/-- What lies in K lies there in each world that has the same blocks in K. -/
theorem RX.lies_same {w w' : World} {K : Nat → Prop} (e : ∀ j, K j → w'.heap[j]? = w.heap[j]?) : ∀ (x : RX) (cs : List Value), x.lies K w cs → x.lies K w' cs := by
  refine RX.ind ?_
  intro k p l ih cs h
  obtain ⟨a, c, rfl, ys, h1, h2, h3, h4, h5⟩ := RX.lies_iff.1 h
  refine RX.lies_iff.2 ⟨a, c, rfl, ys, fun q hq => ⟨(h1 q hq).1, ?_⟩, h2, h3, ?_, ?_⟩
  · obtain ⟨e2, cs, t, hg⟩ := (h1 q hq).2
    exact ⟨e2, cs, t, (e _ (h1 q hq).1).trans hg⟩
  · intro j u hj
    obtain ⟨b, off, ea, hb, hc⟩ := h4 j u hj
    have hk := (h1 _ ea).1
    have e2 := e b hk
    refine ⟨b, off, ea, ?_, (World.cell?_of_block e2).trans hc⟩
    rw [Array.getElem?_eq_getElem hb] at e2
    exact (Array.getElem?_eq_some_iff.1 e2).1
  clear h h1 h2 h3 h4
  induction l generalizing ys with
  | nil => exact h5
  | cons x l ih2 =>
    rw [RX.lies.row] at h5 ⊢
    obtain ⟨ds, zs, rfl, g1, g2⟩ := h5
    exact ⟨ds, zs, rfl, ih x (by simp) ds g1, ih2 (fun y hy => ih y (by simp [hy])) zs g2⟩
theorem Parts.same {w w' : World} {K : Nat → Prop} (e : ∀ j, K j → w'.heap[j]? = w.heap[j]?) {l : List RX} {a : Option Addr} {c : Nat} (h : Parts l K w a c) : Parts l K w' a c := by
  have := RX.lies_same e ⟨0, fun _ => false, l⟩ _ (RX.lies_iff.2 ⟨a, c, rfl, h⟩)
  obtain ⟨a', c', e, h'⟩ := RX.lies_iff.1 this
  simp only [cells6, List.cons.injEq, Value.slice.injEq] at e
  obtain ⟨_, _, _, _, _, ⟨rfl, _, rfl⟩, _⟩ := e
  exact h'
theorem ow_take {w : World} {base n k m c : Nat} {e : TypeId} {a : Option Addr} {xs : List Value} (h : w.ownsRow base e k (.slice a n c) n xs) (hm : m ≤ n) (hn : 0 < n) : w.ownsRow base e k (.slice a m c) m (xs.take (m * k)) := by
  have hl := h.1
  have hmk : m * k ≤ n * k := Nat.mul_le_mul_right k hm
  refine ⟨by rw [List.length_take, hl]; omega, ?_⟩
  rcases h.2 with ⟨hv, h0⟩ | ⟨g, cap, cur, hv, h2, h3, h4, h5, h6, h7⟩
  · omega
  · cases hv
    refine .inr ⟨g, c, cur, rfl, h2, h3, by omega, h5, h6, ?_⟩
    rw [← h7, List.take_take]
    congr 1
    omega
theorem row_split {l m : List RX} {K : Nat → Prop} {w : World} {ys : List Value} (h : RX.lies.row (l ++ m) K w ys) : RX.lies.row l K w (ys.take (l.length * 6)) ∧ RX.lies.row m K w (ys.drop (l.length * 6)) := by
  induction l generalizing ys with
  | nil => exact ⟨by simp [RX.lies.row], by simpa using h⟩
  | cons x l ih =>
    rw [List.cons_append, RX.lies.row] at h
    obtain ⟨cs, zs, rfl, h1, h2⟩ := h
    have hc := RX.lies_len h1
    obtain ⟨g1, g2⟩ := ih h2
    have e : (x :: l).length * 6 = cs.length + l.length * 6 := by simp; omega
    rw [e, List.take_append, List.drop_append]
    refine ⟨?_, ?_⟩
    · rw [RX.lies.row]
      refine ⟨cs, zs.take (l.length * 6), ?_, h1, g1⟩
      rw [List.take_of_length_le (by omega), Nat.add_sub_cancel_left]
    · rw [List.drop_eq_nil_of_le (by omega), Nat.add_sub_cancel_left, List.nil_append]
      exact g2
theorem Ro.at {base : Nat} {K : Nat → Prop} {w : World} {a : Option Addr} {n c : Nat} {l : List RX} (h : Ro base K w (.slice a n c) l) {i : Nat} {x : RX} (hx : l[i]? = some x) : ∃ b a' c', a = some ⟨b, 0, none⟩ ∧ base ≤ b ∧ Parts x.args K w a' c' ∧ w.cell? ⟨b, i * 6, none⟩ = some (.int .i64 x.kind) ∧ w.cell? ⟨b, i * 6 + 1, none⟩ = some (.int .u64 (limb x.set 0)) ∧ w.cell? ⟨b, i * 6 + 2, none⟩ = some (.int .u64 (limb x.set 1)) ∧ w.cell? ⟨b, i * 6 + 3, none⟩ = some (.int .u64 (limb x.set 2)) ∧ w.cell? ⟨b, i * 6 + 4, none⟩ = some (.int .u64 (limb x.set 3)) ∧ w.cell? ⟨b, i * 6 + 5, none⟩ = some (.slice a' x.args.length c') := by
  obtain ⟨ys, h1, h2⟩ := h.ow
  have hil := (List.getElem?_eq_some_iff.1 hx).1
  obtain ⟨g, cap, hv, hb⟩ : ∃ g cap, Value.slice a n c = .slice (some ⟨g, 0, none⟩) l.length cap ∧ base ≤ g := by
    rcases h1.2 with ⟨hv, h0⟩ | ⟨g, cap, cur, hv, hb, h3, _⟩
    · omega
    · exact ⟨g, cap, hv, hb⟩
  obtain ⟨rfl, rfl, rfl⟩ := Value.slice.inj hv
  obtain ⟨a2, cap2, hv2, hls, _⟩ := ow_ls h1
  obtain ⟨rfl, _, rfl⟩ := Value.slice.inj hv2
  obtain ⟨cs, g1, g2⟩ := row_at h2 hx
  obtain ⟨k, p, m⟩ := x
  obtain ⟨a', c', rfl, hp⟩ := RX.lies_iff.1 g1
  have key : ∀ j u, j < 6 → (cells6 k p a' m.length c')[j]? = some u → w.cell? ⟨g, i * 6 + j, none⟩ = some u := by
    intro j u hj hu
    obtain ⟨b, o, ea, _, q0⟩ := hls (i * 6 + j) u ((g2 j hj).trans hu)
    cases ea
    rw [Nat.zero_add] at q0
    exact q0
  exact ⟨g, a', c', rfl, hb, hp, key 0 _ (by omega) rfl, key 1 _ (by omega) rfl, key 2 _ (by omega) rfl, key 3 _ (by omega) rfl, key 4 _ (by omega) rfl, key 5 _ (by omega) rfl⟩
/-- The last one is taken off. -/
theorem Ro.pop {base : Nat} {K : Nat → Prop} {w : World} {a : Option Addr} {c : Nat} {l : List RX} {x : RX} (h : Ro base K w (.slice a (l.length + 1) c) (l ++ [x])) : Ro base K w (.slice a l.length c) l := by
  obtain ⟨ys, h1, h2⟩ := h.ow
  rw [List.length_append, List.length_singleton] at h1
  refine ⟨⟨ys.take (l.length * 6), ow_take h1 (by omega) (by omega), (row_split h2).1⟩, ?_⟩
  intro j hj e
  cases a with
  | none => cases e
  | some q => exact h.off j hj e
/-- A row as a slice. -/
theorem Ro.sl {base : Nat} {K : Nat → Prop} {w : World} {v : Value} {l : List RX} (h : Ro base K w v l) (hl : l.length < 100000) : ∃ a c, v = .slice a l.length c ∧ Parts l (fun j => K j ∨ v.ownBlock = some j) w a c ∧ (a = none → l = []) := by
  obtain ⟨ys, h1, h2⟩ := h.ow
  obtain ⟨a, c, rfl, g1, g2, g3, g4⟩ := ow_ls h1
  refine ⟨a, c, rfl, ⟨ys, ?_, g2, ⟨by omega, fun e => ⟨List.length_eq_zero_iff.1 (g3 e).1, (g3 e).2⟩⟩, g1, row_mono (fun j hj => .inl hj) h2⟩, fun e => List.length_eq_zero_iff.1 (g3 e).1⟩
  intro q hq
  refine ⟨.inr (g4 q hq), ?_⟩
  rcases h1.2 with ⟨hv, h0⟩ | ⟨g, cap, cur, hv, h2, h3, _⟩
  · have := (Value.slice.inj hv).1
    rw [hq] at this; cases this
  · have := (Value.slice.inj hv).1
    rw [hq] at this; cases this
    exact ⟨rfl, cur, 28, h3⟩
theorem cells6_one (k : Int) (p : Nat → Bool) (a : Option Addr) (n c : Nat) : ∀ u ∈ cells6 k p a n c, u.oneCell' = true := by
  intro u hu
  simp only [cells6, List.mem_cons, List.not_mem_nil, or_false] at hu
  rcases hu with rfl | rfl | rfl | rfl | rfl | rfl <;> rfl
/-- One more. -/
theorem Ro.push {base : Nat} {K : Nat → Prop} {w : World} {v : Value} {l : List RX} (h : Ro base K w v l) (hb : base ≤ w.heap.size) (hl : l.length < 90000) (hK : ∀ j, K j → j < w.heap.size) {x : RX} {a : Option Addr} {c : Nat} (hx : Parts x.args K w a c) :
    ∃ v' W, (Builtin.append_ #[26, 26] 26 #[v, .slice (some ⟨w.heap.size, 0, none⟩) 1 1]).run Tryd.prog (w.alloc (.cells #[.int .i64 x.kind, .int .u64 (limb x.set 0), .int .u64 (limb x.set 1), .int .u64 (limb x.set 2), .int .u64 (limb x.set 3), .slice a x.args.length c] 28)) = .ok v' W ∧ Hid (Ro base K W v' (l ++ [x])) ∧ Hid (Mv (fun j => v.ownBlock = some j) w W) ∧ Hid (v'.ownBlock = v.ownBlock ∨ ∃ g, v'.ownBlock = some g ∧ w.heap.size ≤ g) := by
  obtain ⟨ys, h1, h2⟩ := h.ow
  have qa := Mv.alloc (fun _ => False) w (.cells #[.int .i64 x.kind, .int .u64 (limb x.set 0), .int .u64 (limb x.set 1), .int .u64 (limb x.set 2), .int .u64 (limb x.set 3), .slice a x.args.length c] 28)
  have hlx := lies_of hx
  obtain ⟨v', W, hr, hown, hgr, hnb⟩ := append_ow 26 26 28 Tryd.t28 _ 6 64 Tryd.underlying26 info28' zero28 size28' bytes28 rfl (by decide) (by decide) (w.alloc (.cells #[.int .i64 x.kind, .int .u64 (limb x.set 0), .int .u64 (limb x.set 1), .int .u64 (limb x.set 2), .int .u64 (limb x.set 3), .slice a x.args.length c] 28)) base v l.length 1 1 ys (cells6 x.kind x.set a x.args.length c) (some ⟨w.heap.size, 0, none⟩) (h1.alloc _) (Ls.new w _ 28) rfl (cells6_one _ _ _ _ _) (by omega) (by simp) (Nat.le_trans hb qa.size)
  have hmv : Mv (fun j => v.ownBlock = some j) w W := by
    refine Mv.trans (qa.mono (fun _ _ h => h.elim)) (Mv.of_grown hgr) (fun j hj e => e)
  have hnb2 : v'.ownBlock = v.ownBlock ∨ ∃ g, v'.ownBlock = some g ∧ w.heap.size ≤ g := by
    rcases hnb with e | ⟨g, e, hg⟩
    · exact .inl e
    · exact .inr ⟨g, e, Nat.le_trans qa.size hg⟩
  refine ⟨v', W, hr, ⟨⟨ys ++ cells6 x.kind x.set a x.args.length c, ?_, ?_⟩, ?_⟩, hmv, hnb2⟩
  · rw [List.length_append, List.length_singleton]; exact hown
  · exact row_append (row_mv hmv (fun j hj e => h.off j hj e) h2) (row_one (RX.lies_mv hmv x K _ (fun j hj e => h.off j hj e) hlx))
  · intro j hj e
    rcases hnb2 with e2 | ⟨g, e2, hg⟩
    · exact h.off j hj (e2.symm.trans e)
    · have hg2 : g = j := by rw [e2] at e; exact Option.some.inj e
      have := hK j hj
      omega
/-- The first one. -/
theorem Ro.new {base : Nat} {K : Nat → Prop} {w : World} (hb : base ≤ w.heap.size) (hK : ∀ j, K j → j < w.heap.size) {x : RX} {a : Option Addr} {c : Nat} (hx : Parts x.args K w a c) :
    Hid (Ro base K (w.alloc (.cells #[.int .i64 x.kind, .int .u64 (limb x.set 0), .int .u64 (limb x.set 1), .int .u64 (limb x.set 2), .int .u64 (limb x.set 3), .slice a x.args.length c] 28)) (.slice (some ⟨w.heap.size, 0, none⟩) 1 1) [x]) := by
  have qa := Mv.alloc (fun _ => False) w (.cells #[.int .i64 x.kind, .int .u64 (limb x.set 0), .int .u64 (limb x.set 1), .int .u64 (limb x.set 2), .int .u64 (limb x.set 3), .slice a x.args.length c] 28)
  refine ⟨⟨cells6 x.kind x.set a x.args.length c, ow_new w base 6 28 _ 1 hb (by omega) rfl, row_one (RX.lies_mv qa x K _ (fun _ _ h => h) (lies_of hx))⟩, ?_⟩
  intro j hj e
  have e2 : w.heap.size = j := Option.some.inj e
  have := hK j hj
  omega
theorem RX.lies_lt : ∀ (x : RX) (K : Nat → Prop) (w : World) (cs : List Value), x.lies K w cs → x.lies (fun j => K j ∧ j < w.heap.size) w cs := by
  refine RX.ind ?_
  intro k p l ih K w cs h
  obtain ⟨a, c, rfl, ys, h1, h2, h3, h4, h5⟩ := RX.lies_iff.1 h
  refine RX.lies_iff.2 ⟨a, c, rfl, ys, fun q hq => ⟨⟨(h1 q hq).1, ?_⟩, (h1 q hq).2⟩, h2, h3, h4, ?_⟩
  · obtain ⟨_, cs, t, hg⟩ := (h1 q hq).2
    exact (Array.getElem?_eq_some_iff.1 hg).1
  clear h h1 h2 h3 h4
  induction l generalizing ys with
  | nil => exact h5
  | cons x l ih2 =>
    rw [RX.lies.row] at h5 ⊢
    obtain ⟨ds, zs, rfl, g1, g2⟩ := h5
    exact ⟨ds, zs, rfl, ih x (by simp) K w ds g1, ih2 (fun y hy => ih y (by simp [hy])) zs g2⟩
theorem Parts.lt {l : List RX} {K : Nat → Prop} {w : World} {a : Option Addr} {c : Nat} (h : Parts l K w a c) : Parts l (fun j => K j ∧ j < w.heap.size) w a c := by
  have := RX.lies_lt ⟨0, fun _ => false, l⟩ K w _ (RX.lies_iff.2 ⟨a, c, rfl, h⟩)
  obtain ⟨a', c', e, h'⟩ := RX.lies_iff.1 this
  simp only [cells6, List.cons.injEq, Value.slice.injEq] at e
  obtain ⟨_, _, _, _, _, ⟨rfl, _, rfl⟩, _⟩ := e
  exact h'

end Go.Proofs.YtkclkhfcmjhogaaDoor
