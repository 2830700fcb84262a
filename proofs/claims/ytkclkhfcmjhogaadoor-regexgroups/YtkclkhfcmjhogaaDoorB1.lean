/- Rows of values, and worlds of which a few blocks have turned. -/
import Derived.Test.YtkclkhfcmjhogaaDoorProg
import Derived.WalkKit
import Derived.WalkSpells
import Derived.WalkLawsBesides
import Derived.KernelRfl
import Derived.Below
import Derived.Laws.MakeOwn
import Derived.Laws.OwnMore
import Derived.Laws.IdiomCopy
import Derived.Lib.SliceRun
import Derived.OwnWalk
import Derived.Laws.BytesArg
namespace Go.Proofs.YtkclkhfcmjhogaaDoor
open Go.RowKit

/-- Of the old blocks only those of S may have turned. -/
structure Mv (S : Nat → Prop) (w w' : World) : Prop where
  os : w'.os = w.os
  tape : w'.tape = w.tape
  output : w'.output = w.output
  size : w.heap.size ≤ w'.heap.size
  block : ∀ k, k < w.heap.size → ¬ S k → w'.heap[k]? = w.heap[k]?

theorem Mv.refl (S : Nat → Prop) (w : World) : Mv S w w := ⟨rfl, rfl, rfl, Nat.le_refl _, fun _ _ _ => rfl⟩
theorem Mv.trans {S T : Nat → Prop} {a b c : World} (h : Mv S a b) (k : Mv T b c) (hT : ∀ j, j < a.heap.size → T j → S j) : Mv S a c :=
  ⟨k.os.trans h.os, k.tape.trans h.tape, k.output.trans h.output, Nat.le_trans h.size k.size, fun i hi hs => (k.block i (Nat.lt_of_lt_of_le hi h.size) (fun ht => hs (hT i hi ht))).trans (h.block i hi hs)⟩
theorem Mv.mono {S T : Nat → Prop} {a b : World} (h : Mv S a b) (hT : ∀ j, j < a.heap.size → S j → T j) : Mv T a b :=
  ⟨h.os, h.tape, h.output, h.size, fun i hi hs => h.block i hi (fun k => hs (hT i hi k))⟩
theorem Mv.of_grown {w w' : World} {r : Option Nat} (h : w.grownBy w' r) : Mv (fun k => r = some k) w w' :=
  ⟨h.os, h.tape, h.output, h.size, fun k hk hs => h.block k hk (fun e => hs e.symm)⟩
theorem Mv.of_below {B : Nat} {w w' : World} (h : Below B w w') : Mv (fun k => B ≤ k) w w' :=
  ⟨h.os, h.tape, h.output, h.size, fun k _ hs => h.block k (by omega)⟩
theorem Mv.below {S : Nat → Prop} {w w' : World} (h : Mv S w w') {B : Nat} (hB : B ≤ w.heap.size) (hs : ∀ k, k < B → ¬ S k) : Below B w w' :=
  ⟨h.os, h.tape, h.output, h.size, fun k hk => h.block k (by omega) (hs k hk)⟩
theorem Mv.alloc (S : Nat → Prop) (w : World) (o : Obj) : Mv S w (w.alloc o) := ⟨rfl, rfl, rfl, by simp, fun k hk _ => Below.heap_alloc _ _ _ hk⟩
theorem Mv.setCell (w : World) (p : Addr) (u : Value) : Mv (fun k => k = p.block) w (w.setCell p u) :=
  ⟨rfl, rfl, rfl, by simp [World.setCell], fun k _ hs => Below.heap_setCell _ _ _ _ hs⟩
theorem Mv.drewN (S : Nat → Prop) (w : World) (q : Nat) : Mv S w (w.drewN q) := ⟨rfl, rfl, rfl, Nat.le_refl _, fun _ _ _ => rfl⟩
theorem Mv.cell {S : Nat → Prop} {w w' : World} (h : Mv S w w') {p : Addr} {v : Value} (hv : w.cell? p = some v) (hs : ¬ S p.block) : w'.cell? p = some v :=
  (World.cell?_of_block (h.block p.block (World.block_lt_of_cell? w p hv) hs)).trans hv
theorem Mv.frozen {S : Nat → Prop} {w w' : World} (h : Mv S w w') {p : Addr} (hl : p.block < w.heap.size) (hs : ¬ S p.block) : w'.frozen? p = w.frozen? p :=
  World.frozen?_of_block (h.block p.block hl hs)
theorem Mv.owns {S : Nat → Prop} {w w' : World} (h : Mv S w w') {base : Nat} {e : TypeId} {sz : Nat} {v : Value} {n : Nat} {xs : List Value} (ho : w.ownsRow base e sz v n xs) (hs : ∀ k, v.ownBlock = some k → ¬ S k) : w'.ownsRow base e sz v n xs := by
  refine ⟨ho.1, ?_⟩
  rcases ho.2 with hn | ⟨g, cap, cur, rfl, hb, hgg, rest⟩
  · exact .inl hn
  · refine .inr ⟨g, cap, cur, rfl, hb, ?_, rest⟩
    rw [h.block g (Array.getElem?_eq_some_iff.1 hgg).1 (hs g rfl)]
    exact hgg

/-- The first n of a row, as a list. -/
def row (V : Nat → Value) (n : Nat) : List Value := (List.range n).map V
theorem row_length (V : Nat → Value) (n : Nat) : (row V n).length = n := by simp [row]
theorem row_get (V : Nat → Value) (n i : Nat) (h : i < (row V n).length) : (row V n)[i] = V i := by simp [row]
theorem row_get? (V : Nat → Value) {n i : Nat} (h : i < n) : (row V n)[i]? = some (V i) := by
  rw [List.getElem?_eq_getElem (by rw [row_length]; exact h), row_get]
theorem row_congr {V U : Nat → Value} {n : Nat} (h : ∀ i, i < n → V i = U i) : row V n = row U n := by
  apply List.map_congr_left
  intro i hi
  exact h i (List.mem_range.1 hi)
theorem row_mem {V : Nat → Value} {n : Nat} {u : Value} (h : u ∈ row V n) : ∃ i, i < n ∧ u = V i := by
  obtain ⟨i, hi, rfl⟩ := List.mem_map.1 h
  exact ⟨i, List.mem_range.1 hi, rfl⟩
/-- Two rows, one behind the other. -/
def cat (V : Nat → Value) (m : Nat) (U : Nat → Value) : Nat → Value := fun i => if i < m then V i else U (i - m)
theorem row_cat (f g : Nat → Value) (m n : Nat) : row (cat f m g) (m + n) = row f m ++ row g n := by
  apply List.ext_getElem
  · simp [row_length]
  · intro i h1 h2
    rw [row_length] at h1
    rw [row_get]
    unfold cat
    by_cases h : i < m
    · rw [if_pos h, List.getElem_append_left (by rw [row_length]; exact h), row_get]
    · rw [if_neg h, List.getElem_append_right (by rw [row_length]; omega), row_get, row_length]

theorem addr_add (b off i : Nat) : (⟨b, off, none⟩ : Addr).add i = ⟨b, off + i, none⟩ := by unfold Addr.add; split <;> simp_all

/-- A slice of n values lies there, V of them. -/
def Sl (w : World) (a : Option Addr) (n : Nat) (V : Nat → Value) : Prop := ∀ i, i < n → ∃ b off, a = some ⟨b, off, none⟩ ∧ b < w.heap.size ∧ w.cell? ⟨b, off + i, none⟩ = some (V i)
theorem Sl.mv {S : Nat → Prop} {w w' : World} {a : Option Addr} {n : Nat} {V : Nat → Value} (h : Sl w a n V) (k : Mv S w w') (hs : ∀ p, a = some p → ¬ S p.block) : Sl w' a n V := by
  intro i hi
  obtain ⟨b, off, e, hb, hc⟩ := h i hi
  exact ⟨b, off, e, Nat.lt_of_lt_of_le hb k.size, k.cell (p := ⟨b, off + i, none⟩) hc (hs ⟨b, off, none⟩ e)⟩
theorem Sl.below {w w' : World} {a : Option Addr} {n : Nat} {V : Nat → Value} (h : Sl w a n V) (k : Below w.heap.size w w') : Sl w' a n V := by
  intro i hi
  obtain ⟨b, off, e, hb, hc⟩ := h i hi
  exact ⟨b, off, e, Nat.lt_of_lt_of_le hb k.size, (k.cell hb).trans hc⟩
theorem Sl.cells {w : World} {a : Addr} {n : Nat} {V : Nat → Value} (h : Sl w (some a) n V) : ∀ j u, (row V n)[j]? = some u → w.cell? (a.add j) = some u := by
  intro j u hj
  by_cases hn : j < n
  · rw [row_get? V hn] at hj
    cases hj
    obtain ⟨b, off, e, _, hc⟩ := h j hn
    cases e
    rw [addr_add]; exact hc
  · rw [List.getElem?_eq_none (by rw [row_length]; omega)] at hj
    cases hj

/-- A slice of its own, from block 'base' on. -/
def Own (w : World) (base : Nat) (e : TypeId) (v : Value) (n : Nat) (V : Nat → Value) : Prop := w.ownsRow base e 1 v n (row V n)
theorem Own.mv {S : Nat → Prop} {w w' : World} {base : Nat} {e : TypeId} {v : Value} {n : Nat} {V : Nat → Value} (ho : Own w base e v n V) (h : Mv S w w') (hs : ∀ k, v.ownBlock = some k → ¬ S k) : Own w' base e v n V := h.owns ho hs
theorem Own.blk {w : World} {base : Nat} {e : TypeId} {v : Value} {n : Nat} {V : Nat → Value} (h : Own w base e v n V) : ∀ k, v.ownBlock = some k → base ≤ k ∧ k < w.heap.size := World.ownsRow.lt h
theorem Own.sl {w : World} {base n : Nat} {e : TypeId} {v : Value} {V : Nat → Value} (h : Own w base e v n V) : ∃ a cap, v = .slice a n cap ∧ Sl w a n V ∧ n ≤ cap ∧ (a = none → n = 0 ∧ cap = 0) := by
  have h' := h
  rcases h.2 with ⟨rfl, rfl⟩ | ⟨g, cap, cur, rfl, _, hg, hnc, _⟩
  · exact ⟨none, 0, rfl, fun i hi => by omega, by omega, fun _ => ⟨rfl, rfl⟩⟩
  · refine ⟨_, cap, rfl, fun i hi => ⟨g, 0, rfl, ?_, ?_⟩, hnc, fun h => by cases h⟩
    · exact (Array.getElem?_eq_some_iff.1 hg).1
    · rw [Nat.zero_add, h'.cellAt i (by omega), row_get? V hi]
theorem Own.at {w : World} {base n c g i : Nat} {e : TypeId} {V : Nat → Value} (h : Own w base e (.slice (some ⟨g, 0, none⟩) n c) n V) (hi : i < n) : w.cell? ⟨g, i, none⟩ = some (V i) ∧ w.frozen? ⟨g, i, none⟩ = false := by
  refine ⟨?_, World.ownsRow.frozenAt h i⟩
  rw [World.ownsRow.cellAt h i (by omega), row_get? V hi]
theorem Own.congr {w : World} {base n : Nat} {e : TypeId} {v : Value} {V U : Nat → Value} (h : Own w base e v n V) (k : ∀ i, i < n → V i = U i) : Own w base e v n U := by
  unfold Own; rw [← row_congr k]; exact h
theorem Own.slice {w : World} {base n : Nat} {e : TypeId} {v : Value} {V : Nat → Value} (h : Own w base e v n V) : v = .slice none 0 0 ∧ n = 0 ∨ ∃ g c, v = .slice (some ⟨g, 0, none⟩) n c ∧ n ≤ c := by
  rcases h.2 with ⟨rfl, rfl⟩ | ⟨g, cap, cur, rfl, _, hg, hnc, _⟩
  · exact .inl ⟨rfl, rfl⟩
  · exact .inr ⟨g, cap, rfl, hnc⟩

/-- What append makes of a row of its own. -/
theorem append_own (t ty e : TypeId) (i : TypeInfo) (z : Value) (bytes : Nat) (ht : Tryd.prog.underlying t = some (.slice e)) (hi : Tryd.prog.info? e = some i) (hz : i.zero = some z) (hsize : i.size = 1) (hby : i.bytes = bytes) (hzs : z.cells.size = 1) (hb24 : bytes ≤ 64)
    (w : World) (base : Nat) (v : Value) (n m c : Nat) (V U : Nat → Value) (s : Option Addr) (hown : Own w base e v n V) (hs : Sl w s m U) (h1 : ∀ j, (U j).oneCell' = true) (hn : n + m < 100000) (hnone : s = none → m = 0 ∧ c = 0) (hb : base ≤ w.heap.size) :
    ∃ v' W, (Builtin.append_ #[t, t] ty #[v, .slice s m c]).run Tryd.prog w = .ok v' W ∧ Own W base e v' (n + m) (cat V n U) ∧ w.grownBy W v.ownBlock ∧ (v'.ownBlock = v.ownBlock ∨ ∃ g, v'.ownBlock = some g ∧ w.heap.size ≤ g) := by
  unfold Own
  rw [row_cat]
  cases s with
  | none =>
    obtain ⟨rfl, rfl⟩ := hnone rfl
    refine ⟨v, w, run_append_owned_none w base t ty e i 1 ht hi v n _ hown, ?_, ⟨rfl, rfl, rfl, Nat.le_refl _, fun _ _ _ => rfl⟩, .inl rfl⟩
    rw [show row U 0 = [] from rfl, List.append_nil]
    exact hown
  | some a =>
    have hc := hs.cells
    have hu : ∀ u ∈ row U m, u.oneCell' = true := by
      intro u hu
      obtain ⟨j, _, rfl⟩ := row_mem hu
      exact h1 j
    have hmul : (n + m) * bytes ≤ 140737488355328 := by
      have := Nat.mul_le_mul (Nat.le_of_lt hn) hb24
      omega
    obtain ⟨v', W, hr, h2, h3, h4⟩ := run_append_own w base t ty e i z 1 bytes ht hi hz hsize hby hzs (by omega) v n _ hown a m c (row U m) (by rw [row_length, Nat.mul_one]) hc hu (by simp only [maxLen]; omega) hmul hb
    refine ⟨v', W, hr, h2, h3, ?_⟩
    rcases hown.2 with ⟨rfl, rfl⟩ | ⟨g, cap, cur, rfl, hbg, hg, hnc, hcm, hcs, htake⟩
    · have hx : row V 0 = [] := rfl
      obtain ⟨v2, W2, hr2, k2, _, _⟩ := run_append_own w w.heap.size t ty e i z 1 bytes ht hi hz hsize hby hzs (by omega) (.slice none 0 0) 0 [] (World.ownsRow_nil _ _ _ _) a m c (row U m) (by rw [row_length, Nat.mul_one]) hc hu (by simp only [maxLen]; omega) (by simpa using hmul) (Nat.le_refl _)
      rw [hr] at hr2
      cases hr2
      cases hv : v'.ownBlock with
      | none => exact .inl rfl
      | some g => exact .inr ⟨g, rfl, (World.ownsRow.lt k2 g hv).1⟩
    · by_cases hroom : n + m ≤ cap
      · obtain ⟨W2, hr2, _⟩ := run_append_fits w base t ty e i 1 ht hi hsize g n cap _ hown a m c (row U m) (by rw [row_length, Nat.mul_one]) hc hu hroom
        rw [hr] at hr2
        cases hr2
        exact .inl rfl
      · have hr2 := run_append_grow (P := Tryd.prog) w t ty e i z ht hi hz ⟨g, 0, none⟩ n cap (row V n) (by rw [hown.1, hsize]) (World.ownsRow.cells hown rfl) a m c (row U m) (by rw [row_length, hsize, Nat.mul_one]) hc (by omega) (by omega) (growslice_fits (by omega) (by rw [hby]; exact hmul))
        rw [hr] at hr2
        cases hr2
        exact .inr ⟨_, rfl, Nat.le_refl _⟩

theorem own_empty (w : World) (base B : Nat) (e : TypeId) (hB : B = w.heap.size) (hb : base ≤ w.heap.size) (V : Nat → Value) : Own (w.alloc (.cells #[] e)) base e (.slice (some ⟨B, 0, none⟩) 0 0) 0 V := by
  subst hB
  exact World.ownsRow_lit (e := e) (size := 1) (base := base) w #[] 0 hb (by simp [maxLen]) (by simp)
theorem own_nil (w : World) (base : Nat) (e : TypeId) (V : Nat → Value) : Own w base e (.slice none 0 0) 0 V := World.ownsRow_nil _ _ _ _

/-- An append whose end is known. -/
theorem wp_append_given {P : Program} {w : World} {o : Oper} {a : Act} {K : Act → World → Prop} {Q : Exit → Act → World → Prop} (s x : Operand) (t : TypeId)
    (ho : o.op = .call { callee := .builtin .append, args := #[s, x], argTypes := #[t, t] })
    (v u v' : Value) (W : World) (hs : a.eval s = v) (hx : a.eval x = u) (hr : (Builtin.append_ #[t, t] o.type #[v, u]).run P w = .ok v' W) (h : K (a.put o.dst v') W) : o.wp P a w K Q := by
  unfold Oper.wp execOp
  simp only [ho, resolve, invoke, builtin, Sem.run_bind, Sem.run_pure, Result.andThen_ok, List.map_toArray, List.map_cons, List.map_nil, hs, hx, hr]
  exact h
theorem wpList_append_given {P : Program} {w : World} {ops : Array Oper} {rest : List Oper} {o : Oper} {a : Act} {Q : Exit → Act → World → Prop} (hgd : o.guard = none) (s x : Operand) (t : TypeId)
    (ho : o.op = .call { callee := .builtin .append, args := #[s, x], argTypes := #[t, t] })
    (v u v' : Value) (W : World) (hs : a.eval s = v) (hx : a.eval x = u) (hr : (Builtin.append_ #[t, t] o.type #[v, u]).run P w = .ok v' W) (h : wpList P ops Q rest (a.put o.dst v') W) : wpList P ops Q (o :: rest) a w :=
  wpList_plain hgd fun _ hK => wp_append_given s x t ho v u v' W hs hx hr (hK _ _ h)

theorem alloc_new (w : World) (cs : Array Value) (t : TypeId) (i : Nat) (v : Value) (h : cs[i]? = some v) : (w.alloc (.cells cs t)).cell? ⟨w.heap.size, i, none⟩ = some v ∧ (w.alloc (.cells cs t)).frozen? ⟨w.heap.size, i, none⟩ = false := by
  exact ⟨(World.cell?_alloc_at _ _ _ _ rfl).trans h, World.frozen?_alloc_at _ _ _ _ rfl⟩

/-- A row is known by its cells. -/
theorem Own.of {w : World} {base g n c : Nat} {e : TypeId} {xs : List Value} {V : Nat → Value} (h : w.ownsRow base e 1 (.slice (some ⟨g, 0, none⟩) n c) n xs) (hc : ∀ i, i < n → w.cell? ⟨g, i, none⟩ = some (V i)) : Own w base e (.slice (some ⟨g, 0, none⟩) n c) n V := by
  have e : xs = row V n := by
    apply List.ext_getElem
    · rw [h.1, row_length, Nat.mul_one]
    · intro i h1 h2
      rw [row_length] at h2
      have := h.cellAt i (by omega)
      rw [hc i h2, List.getElem?_eq_getElem h1] at this
      rw [row_get]
      exact (Option.some.inj this).symm
  unfold Own; rw [← e]; exact h

theorem setCells_owns {w0 : World} {base g n c : Nat} {e : TypeId} : ∀ (vs : List Value) (o : Nat) (w : World) (xs : List Value), w.ownsRow base e 1 (.slice (some ⟨g, 0, none⟩) n c) n xs → Mv (fun k => k = g) w0 w →
    ∃ ys, (w.setCells g o vs).ownsRow base e 1 (.slice (some ⟨g, 0, none⟩) n c) n ys ∧ Mv (fun k => k = g) w0 (w.setCells g o vs)
  | [], _, w, xs, h, k => ⟨xs, h, k⟩
  | v :: r, o, w, xs, h, k => by
    have h1 := World.ownsRow.stored h o v
    exact setCells_owns r (o + 1) _ _ h1.1 (k.trans (Mv.setCell w ⟨g, o, none⟩ v) (fun _ _ h => h))

theorem setCells_own {w : World} {base g n c : Nat} {e : TypeId} {V : Nat → Value} (h : Own w base e (.slice (some ⟨g, 0, none⟩) n c) n V) (U : Nat → Value) (m : Nat) (hm : m ≤ n) :
    Own (w.setCells g 0 (row U m)) base e (.slice (some ⟨g, 0, none⟩) n c) n (fun i => if i < m then U i else V i) ∧ Mv (fun k => k = g) w (w.setCells g 0 (row U m)) := by
  obtain ⟨ys, h1, h2⟩ := setCells_owns (row U m) 0 w _ h (Mv.refl _ w)
  refine ⟨Own.of h1 ?_, h2⟩
  intro i hi
  by_cases him : i < m
  · have := World.cell?_setCells_in g (row U m) 0 w (fun j hj => by
      rw [row_length] at hj
      rw [Nat.zero_add, (h.at (show j < n by omega)).1]; rfl) i (by rw [row_length]; exact him)
    rw [Nat.zero_add, row_get] at this
    rw [this, if_pos him]
  · rw [World.cell?_setCells_out g (row U m) 0 w _ (fun _ _ => .inr (by rw [row_length]; show 0 + m ≤ i; omega)), (h.at hi).1, if_neg him]

/-- What copy makes of a row of its own. -/
theorem copied (t e : TypeId) (ht : Tryd.prog.underlying t = some (.slice e)) (hi : (Tryd.prog.info? e).map (·.size) = some 1)
    (w : World) (base g N cc : Nat) (V U : Nat → Value) (s : Option Addr) (m c : Nat) (hown : Own w base e (.slice (some ⟨g, 0, none⟩) N cc) N V) (hs : Sl w s m U) (hm : m ≤ N) (h1 : ∀ j, (U j).oneCell' = true) :
    ∃ W, (Builtin.copy_ #[t, t] 3 #[.slice (some ⟨g, 0, none⟩) N cc, .slice s m c]).run Tryd.prog w = .ok (goInt m) W ∧ Own W base e (.slice (some ⟨g, 0, none⟩) N cc) N (fun i => if i < m then U i else V i) ∧ Mv (fun k => k = g) w W := by
  by_cases h0 : m = 0
  · subst h0
    refine ⟨w, run_copy_none _ t t 3 e _ _ N cc 0 c ht hi (Nat.zero_min _), ?_, Mv.refl _ _⟩
    exact hown.congr (fun i _ => by rw [if_neg (by omega)])
  · obtain ⟨b, off, rfl, _, _⟩ := hs 0 (by omega)
    have hr := run_copy_cells (P := Tryd.prog) w t t 3 e g 0 N cc ⟨b, off, none⟩ m c (row U m) ht hi (by rw [row_length]; exact (Nat.min_eq_left hm).symm) hs.cells
      (by
        intro j hj
        rw [row_length] at hj
        rw [Nat.zero_add, (hown.at (show j < N by omega)).1]; rfl)
      (by
        intro j hj
        rw [row_length] at hj
        rw [Nat.zero_add]; exact (hown.at (show j < N by omega)).2)
      (by
        intro v hv
        obtain ⟨j, _, rfl⟩ := row_mem hv
        exact h1 j)
    rw [row_length] at hr
    have := setCells_own hown U m hm
    exact ⟨_, hr, this.1, this.2⟩

/-- What make makes. -/
theorem made (t e : TypeId) (i : TypeInfo) (z : Value) (bytes : Nat) (ht : Tryd.prog.underlying t = some (.slice e)) (hi : Tryd.prog.info? e = some i) (hz : i.zero = some z) (hsize : i.size = 1) (hby : i.bytes = bytes) (hzs : z.cells = #[z]) (hb24 : bytes ≤ 64)
    (n : Nat) (hn : n < 100000) (w : World) (base : Nat) (hb : base ≤ w.heap.size) :
    (Instr.makeSlice t (.int .i64 n) (.int .i64 n)).run Tryd.prog w = .ok (.slice (some ⟨w.heap.size, 0, none⟩) n n) (w.alloc (.cells (madeCells #[z] n) e)) ∧ Own (w.alloc (.cells (madeCells #[z] n) e)) base e (.slice (some ⟨w.heap.size, 0, none⟩) n n) n (fun _ => z) := by
  have hr := run_makeSlice (P := Tryd.prog) w t e i z ht hi hz .i64 .i64 n n (by omega) (by omega) (by show (n : Int).toNat * _ ≤ _; rw [hsize]; omega) (by
    rw [hby]
    have := Nat.mul_le_mul (Nat.le_of_lt hn) hb24
    rw [Nat.mul_comm] at this
    show ((bytes : Nat) : Int) * n ≤ _
    have h2 : ((bytes : Nat) : Int) * n = ((bytes * n : Nat) : Int) := by rw [Int.natCast_mul]
    rw [h2]; omega) (by omega)
  have e1 : (n : Int).toNat = n := by omega
  rw [e1, hsize, Nat.mul_one, hzs] at hr
  refine ⟨hr, ?_⟩
  have hl := World.ownsRow_lit (e := e) (size := 1) (base := base) w (madeCells #[z] n) n hb (by simp only [maxLen]; omega) (by rw [size_madeCells, Nat.mul_one])
  unfold Own
  rw [show row (fun _ => z) n = (madeCells #[z] n).toList from ?_]
  · exact hl
  · rw [toList_madeCells_one]
    apply List.ext_getElem
    · simp [row_length]
    · intro i h1 h2
      rw [row_get, List.getElem_replicate]

theorem clear_own (t e : TypeId) (z : Value) (ht : Tryd.prog.underlying t = some (.slice e)) (hv : ∀ w, (zeroValue e).run Tryd.prog w = .ok z w) (hz : z.cells = #[z]) (h1 : z.oneCell' = true)
    (w : World) (ty : TypeId) (base g n c : Nat) (V : Nat → Value) (hown : Own w base e (.slice (some ⟨g, 0, none⟩) n c) n V) :
    ∃ W, (Builtin.clear_ #[t] ty #[.slice (some ⟨g, 0, none⟩) n c]).run Tryd.prog w = .ok (.tuple #[]) W ∧ Own W base e (.slice (some ⟨g, 0, none⟩) n c) n (fun _ => z) ∧ Mv (fun k => k = g) w W := by
  by_cases h0 : n = 0
  · subst h0
    refine ⟨w, ?_, hown.congr (fun i hi => by omega), Mv.refl _ _⟩
    simp [Builtin.clear_, run_underlying ht]
  · have hr := Lib.run_clear_slice (P := Tryd.prog) w t e ty z ht hv hz h1 g 0 n c (by omega) (by
        intro j hj
        rw [Nat.zero_add, (hown.at hj).1]; rfl) (by
        intro j hj
        rw [Nat.zero_add]; exact (hown.at hj).2)
    have e1 : List.replicate n z = row (fun _ => z) n := by
      apply List.ext_getElem
      · simp [row_length]
      · intro i h1 h2
        rw [row_get, List.getElem_replicate]
    rw [e1] at hr
    have := setCells_own hown (fun _ => z) n (Nat.le_refl _)
    exact ⟨_, hr, this.1.congr (fun i hi => by rw [if_pos hi]), this.2⟩

end Go.Proofs.YtkclkhfcmjhogaaDoor
