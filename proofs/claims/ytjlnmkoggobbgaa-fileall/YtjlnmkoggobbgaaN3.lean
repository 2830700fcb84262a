/- A cache. -/
import Derived.Test.YtjlnmkoggobbgaaN2
namespace Go.Proofs.Ytjlnmkoggobbgaa
open Go.RowKit

def fnd (L : List Nd) (k : Int) : Option Nd := L.find? (fun x => decide (x.k = k))
def del (L : List Nd) (k : Int) : List Nd := L.filter (fun x => decide (x.k ≠ k))

theorem fnd_nil (k : Int) : fnd [] k = none := rfl
theorem fnd_cons (x : Nd) (L : List Nd) (k : Int) : fnd (x :: L) k = if x.k = k then some x else fnd L k := by
  unfold fnd
  rw [List.find?_cons]
  by_cases h : x.k = k <;> simp [h]
theorem del_cons (x : Nd) (L : List Nd) (k : Int) : del (x :: L) k = if x.k = k then del L k else x :: del L k := by
  unfold del
  rw [List.filter_cons]
  by_cases h : x.k = k <;> simp [h]
theorem fnd_some {L : List Nd} {k : Int} {x : Nd} (h : fnd L k = some x) : x ∈ L ∧ x.k = k ∧ ∃ j : Nat, L[j]? = some x := by
  have h1 := List.mem_of_find?_eq_some h
  have h2 := List.find?_some h
  refine ⟨h1, by simpa using h2, List.getElem?_of_mem h1⟩
theorem fnd_none {L : List Nd} {k : Int} (h : fnd L k = none) : ∀ x, x ∈ L → x.k ≠ k := by
  intro x hx e
  have := List.find?_eq_none.1 h x hx
  simp [e] at this
theorem fnd_none_of {L : List Nd} {k : Int} (h : ∀ x, x ∈ L → x.k ≠ k) : fnd L k = none := by
  unfold fnd
  rw [List.find?_eq_none]
  intro x hx
  simp [h x hx]
theorem fnd_mem {L : List Nd} (hn : (L.map Nd.k).Nodup) {x : Nd} (hx : x ∈ L) : fnd L x.k = some x := by
  induction L with
  | nil => cases hx
  | cons y r ih =>
    rw [fnd_cons]
    rw [List.map_cons, List.nodup_cons] at hn
    rcases List.mem_cons.1 hx with rfl | h
    · rw [if_pos rfl]
    · rw [if_neg, ih hn.2 h]
      intro e
      exact hn.1 (e ▸ List.mem_map_of_mem h)
theorem del_none {L : List Nd} {k : Int} (h : ∀ x, x ∈ L → x.k ≠ k) : del L k = L := by
  unfold del
  rw [List.filter_eq_self]
  intro x hx
  simp [h x hx]
theorem mem_del {L : List Nd} {k : Int} {x : Nd} : x ∈ del L k ↔ x ∈ L ∧ x.k ≠ k := by
  unfold del
  rw [List.mem_filter]
  simp
theorem fnd_del (L : List Nd) (k i : Int) : fnd (del L k) i = if i = k then none else fnd L i := by
  induction L with
  | nil => rw [show del [] k = [] from rfl, fnd_nil]; split <;> rfl
  | cons x r ih =>
    rw [del_cons, fnd_cons]
    by_cases h : x.k = k
    · rw [if_pos h, ih]
      by_cases h2 : i = k
      · rw [if_pos h2, if_pos h2]
      · rw [if_neg h2, if_neg h2, if_neg (fun e => h2 (e.symm.trans h))]
    · rw [if_neg h, fnd_cons, ih]
      by_cases h2 : i = k
      · rw [if_pos h2, if_pos h2, if_neg (fun e => h (e.trans h2))]
      · rw [if_neg h2, if_neg h2]
theorem nodup_del {L : List Nd} (h : (L.map Nd.k).Nodup) (k : Int) : ((del L k).map Nd.k).Nodup := by
  unfold del
  exact (List.filter_sublist.map Nd.k).nodup h
theorem erase_del {L : List Nd} (hn : (L.map Nd.k).Nodup) {j : Nat} {x : Nd} (hx : L[j]? = some x) : L.eraseIdx j = del L x.k := by
  induction L generalizing j with
  | nil => simp at hx
  | cons y r ih =>
    rw [List.map_cons, List.nodup_cons] at hn
    cases j with
    | zero =>
      simp at hx
      subst hx
      rw [List.eraseIdx_cons_zero, del_cons, if_pos rfl, del_none]
      intro z hz e
      exact hn.1 (e ▸ List.mem_map_of_mem hz)
    | succ j =>
      simp at hx
      rw [List.eraseIdx_cons_succ, ih hn.2 hx, del_cons, if_neg]
      intro e
      exact hn.1 (e ▸ List.mem_map_of_mem (List.mem_of_getElem? hx))
theorem length_del {L : List Nd} (hn : (L.map Nd.k).Nodup) {x : Nd} (hx : x ∈ L) : (del L x.k).length + 1 = L.length := by
  obtain ⟨j, hj⟩ := List.getElem?_of_mem hx
  rw [← erase_del hn hj, List.length_eraseIdx_of_lt (List.getElem?_eq_some_iff.1 hj).1]
  have := (List.getElem?_eq_some_iff.1 hj).1
  omega
theorem nodup_front {L : List Nd} (hn : (L.map Nd.k).Nodup) (x : Nd) : ((x :: del L x.k).map Nd.k).Nodup := by
  rw [List.map_cons, List.nodup_cons]
  refine ⟨?_, nodup_del hn _⟩
  intro h
  obtain ⟨y, hy, e⟩ := List.mem_map.1 h
  exact (mem_del.1 hy).2 e

/-- A cache that lies at c: its nodes, its map, and what it keeps away from. -/
structure Ca (w : World) (c o : Nat) (mo : Int) (M : Option Nat) (L : List Nd) (X : Nat → Prop) : Prop where
  li : Li w c o mo M L
  ks : (L.map Nd.k).Nodup
  fit : ∀ x, x ∈ L → fits x.k
  mp0 : M = none → L = []
  mp1 : ∀ m, M = some m → Mp w m L.length (fun k => (fnd L k).map Nd.b)
  ac : ¬ X c
  an : ∀ x, x ∈ L → ¬ X x.b
  am : ∀ m, M = some m → ¬ X m

section
variable {w : World} {c o : Nat} {mo : Int} {M : Option Nat} {L : List Nd} {X : Nat → Prop}
theorem Ca.lt_c (h : Ca w c o mo M L X) : c < w.heap.size := World.block_lt_of_cell? _ _ h.li.cm
theorem Ca.lt_n (h : Ca w c o mo M L X) {x : Nd} (hx : x ∈ L) : x.b < w.heap.size := World.block_lt_of_cell? _ _ (h.li.kv x hx).key
/-- Others turn what it keeps away from. -/
theorem Ca.mv {S : Nat → Prop} {w' : World} (h : Ca w c o mo M L X) (hm : Mv S w w') (hs : ∀ j, S j → X j) : Ca w' c o mo M L (fun j => X j ∨ w.heap.size ≤ j) := by
  refine ⟨h.li.mv hm (fun e => h.ac (hs _ e)) (fun x hx e => h.an x hx (hs _ e)), h.ks, h.fit, h.mp0, fun m e => (h.mp1 m e).mv hm (fun e' => h.am m e (hs _ e')), ?_, ?_, ?_⟩
  · rintro (e | e)
    · exact h.ac e
    · have := h.lt_c; omega
  · rintro x hx (e | e)
    · exact h.an x hx e
    · have := h.lt_n hx; omega
  · rintro m hm (e | e)
    · exact h.am m hm e
    · have := (h.mp1 m hm).lt; omega
theorem Ca.mono (h : Ca w c o mo M L X) {Y : Nat → Prop} (hy : ∀ j, Y j → X j) : Ca w c o mo M L Y :=
  ⟨h.li, h.ks, h.fit, h.mp0, h.mp1, fun e => h.ac (hy _ e), fun x hx e => h.an x hx (hy _ e), fun m hm e => h.am m hm (hy _ e)⟩
theorem Ca.mine (h : Ca w c o mo M L X) {k : Nat} (hk : Mine c L k) : ¬ X k := by
  rcases hk with rfl | ⟨x, hx, rfl⟩
  · exact h.ac
  · exact h.an x hx
theorem Ca.mine_m (h : Ca w c o mo M L X) {m : Nat} (hm : M = some m) : ¬ Mine c L m := by
  rintro (e | ⟨x, hx, e⟩)
  · exact (h.mp1 m hm).noCell h.li.cm e.symm
  · exact (h.mp1 m hm).noCell (h.li.kv x hx).key e.symm
/-- One that is there goes to the front. -/
theorem Ca.front {w' : World} (h : Ca w c o mo M L X) {x : Nd} (hx : x ∈ L) (hl : Li w' c o mo M (x :: del L x.k)) (hm : Mv (Mine c L) w w') : Ca w' c o mo M (x :: del L x.k) X := by
  have hmem : ∀ y, y ∈ x :: del L x.k → y ∈ L := by
    intro y hy
    rcases List.mem_cons.1 hy with rfl | hy
    · exact hx
    · exact (mem_del.1 hy).1
  refine ⟨hl, nodup_front h.ks x, fun y hy => h.fit y (hmem y hy), fun e => ?_, fun m e => ?_, h.ac, fun y hy => h.an y (hmem y hy), h.am⟩
  · rw [h.mp0 e] at hx; cases hx
  · rw [List.length_cons, length_del h.ks hx]
    refine ((h.mp1 m e).mv hm (h.mine_m e)).congr ?_
    intro k
    rw [fnd_cons, fnd_del]
    by_cases hk : x.k = k
    · rw [if_pos hk, ← hk, fnd_mem h.ks hx]
    · rw [if_neg hk, if_neg (fun e => hk e.symm)]
/-- One that is there goes. -/
theorem Ca.gone {w' : World} (h : Ca w c o mo M L X) {x : Nd} (hx : x ∈ L) {m : Nat} (hM : M = some m) (hl : Li w' c o mo M (del L x.k)) (hp : Mp w' m (L.length - 1) (fun k => if k = x.k then none else (fnd L k).map Nd.b)) : Ca w' c o mo M (del L x.k) X := by
  refine ⟨hl, nodup_del h.ks _, fun y hy => h.fit y (mem_del.1 hy).1, fun e => ?_, fun m' e => ?_, h.ac, fun y hy => h.an y (mem_del.1 hy).1, h.am⟩
  · rw [h.mp0 e] at hx; cases hx
  · rw [hM] at e
    cases e
    have e1 : (del L x.k).length = L.length - 1 := by have := length_del h.ks hx; omega
    rw [e1]
    refine hp.congr ?_
    intro k
    rw [fnd_del]
    split <;> rfl
/-- A new one comes. -/
theorem Ca.come {w' : World} {L : List Nd} {M' : Option Nat} {X : Nat → Prop} (hn : (L.map Nd.k).Nodup) (hf : ∀ x, x ∈ L → fits x.k) (ha : ¬ X c) (hb : ∀ x, x ∈ L → ¬ X x.b) {x : Nd} (hx : fnd L x.k = none) (hfx : fits x.k) (hxX : ¬ X x.b) {m : Nat} (hM : M' = some m) (hmX : ¬ X m)
    (hl : Li w' c o mo M' (x :: L)) (hp : Mp w' m (L.length + 1) (fun k => if k = x.k then some x.b else (fnd L k).map Nd.b)) : Ca w' c o mo M' (x :: L) X := by
  refine ⟨hl, ?_, ?_, fun e => ?_, fun m' e => ?_, ha, ?_, fun m' e => ?_⟩
  · rw [List.map_cons, List.nodup_cons]
    refine ⟨?_, hn⟩
    intro h
    obtain ⟨y, hy, e⟩ := List.mem_map.1 h
    exact fnd_none hx y hy e
  · intro y hy
    rcases List.mem_cons.1 hy with rfl | hy
    · exact hfx
    · exact hf y hy
  · rw [hM] at e; cases e
  · rw [hM] at e; cases e
    rw [List.length_cons]
    refine hp.congr ?_
    intro k
    rw [fnd_cons]
    by_cases hk : k = x.k
    · rw [if_pos hk, if_pos hk.symm]; rfl
    · rw [if_neg hk, if_neg (fun e => hk e.symm)]
  · intro y hy
    rcases List.mem_cons.1 hy with rfl | hy
    · exact hxX
    · exact hb y hy
  · rw [hM] at e; cases e; exact hmX
end

/-- The builtin delete, as a step of a region that draws. -/
theorem step_delete_given {P : Program} {ops : Array Oper} {o : Oper} {a : Act} {w : World} {K : Act → World → Prop} {Q : Exit → Act → World → Prop} {E : Prop}
    (hg : o.guard = none) (m x : Operand) (t k : TypeId) (hop : o.op = Op.call { callee := Callee.builtin Builtin.delete, args := #[m, x], argTypes := #[t, k] })
    (mv kv : Value) (hm : a.eval m = mv) (hx : a.eval x = kv) (W : World) (hr : (Builtin.delete_ #[t, k] o.type #[mv, kv]).run P w = .ok (.tuple #[]) W)
    (hK : K (a.put o.dst (.tuple #[])) W) : if Region.wanted o (yielded ops a.tmps) = true then Oper.wp P o a w K Q else E := by
  have hw : Region.wanted o (yielded ops a.tmps) = true := by simp [Region.wanted, hg]
  rw [if_pos hw]
  unfold Oper.wp
  simp [execOp, hop, resolve, invoke, builtin, hm, hx, hr, Result.andThen]
  exact hK

end Go.Proofs.Ytjlnmkoggobbgaa
