/- Rows of values, and worlds of which a few blocks have turned. -/
import Derived.Test.YtojbakkbmfgoaaaDoorProg
import Derived.WalkKit
import Derived.WalkSpells
import Derived.WalkLawsBesides
import Derived.KernelRfl
import Derived.Below
import Derived.Laws.MakeOwn
import Derived.Laws.OwnMore
import Derived.Laws.IdiomCopy
import Derived.Lib.SliceRun
import Derived.OwnWalk
import Derived.Laws.BytesArg
namespace Go.Proofs.YtojbakkbmfgoaaaDoor
open Go.RowKit

/-- Of the old blocks only those of S may have turned. -/
structure Mv (S : Nat → Prop) (w w' : World) : Prop where
  os : w'.os = w.os
  tape : w'.tape = w.tape
  output : w'.output = w.output
  size : w.heap.size ≤ w'.heap.size
  block : ∀ k, k < w.heap.size → ¬ S k → w'.heap[k]? = w.heap[k]?

theorem Mv.refl (S : Nat → Prop) (w : World) : Mv S w w := ⟨rfl, rfl, rfl, Nat.le_refl _, fun _ _ _ => rfl⟩
theorem Mv.trans {S T : Nat → Prop} {a b c : World} (h : Mv S a b) (k : Mv T b c) (hT : ∀ j, j < a.heap.size → T j → S j) : Mv S a c :=
  ⟨k.os.trans h.os, k.tape.trans h.tape, k.output.trans h.output, Nat.le_trans h.size k.size, fun i hi hs => (k.block i (Nat.lt_of_lt_of_le hi h.size) (fun ht => hs (hT i hi ht))).trans (h.block i hi hs)⟩
theorem Mv.mono {S T : Nat → Prop} {a b : World} (h : Mv S a b) (hT : ∀ j, j < a.heap.size → S j → T j) : Mv T a b :=
  ⟨h.os, h.tape, h.output, h.size, fun i hi hs => h.block i hi (fun k => hs (hT i hi k))⟩
theorem Mv.of_grown {w w' : World} {r : Option Nat} (h : w.grownBy w' r) : Mv (fun k => r = some k) w w' :=
  ⟨h.os, h.tape, h.output, h.size, fun k hk hs => h.block k hk (fun e => hs e.symm)⟩
theorem Mv.alloc (S : Nat → Prop) (w : World) (o : Obj) : Mv S w (w.alloc o) := ⟨rfl, rfl, rfl, by simp, fun k hk _ => Below.heap_alloc _ _ _ hk⟩
theorem Mv.setCell (w : World) (p : Addr) (u : Value) : Mv (fun k => k = p.block) w (w.setCell p u) :=
  ⟨rfl, rfl, rfl, by simp [World.setCell], fun k _ hs => Below.heap_setCell _ _ _ _ hs⟩
theorem Mv.drewN (S : Nat → Prop) (w : World) (q : Nat) : Mv S w (w.drewN q) := ⟨rfl, rfl, rfl, Nat.le_refl _, fun _ _ _ => rfl⟩
theorem Mv.cell {S : Nat → Prop} {w w' : World} (h : Mv S w w') {p : Addr} {v : Value} (hv : w.cell? p = some v) (hs : ¬ S p.block) : w'.cell? p = some v :=
  (World.cell?_of_block (h.block p.block (World.block_lt_of_cell? w p hv) hs)).trans hv
theorem Mv.frozen {S : Nat → Prop} {w w' : World} (h : Mv S w w') {p : Addr} (hl : p.block < w.heap.size) (hs : ¬ S p.block) : w'.frozen? p = w.frozen? p :=
  World.frozen?_of_block (h.block p.block hl hs)
theorem Mv.owns {S : Nat → Prop} {w w' : World} (h : Mv S w w') {base : Nat} {e : TypeId} {sz : Nat} {v : Value} {n : Nat} {xs : List Value} (ho : w.ownsRow base e sz v n xs) (hs : ∀ k, v.ownBlock = some k → ¬ S k) : w'.ownsRow base e sz v n xs := by
  refine ⟨ho.1, ?_⟩
  rcases ho.2 with hn | ⟨g, cap, cur, rfl, hb, hgg, rest⟩
  · exact .inl hn
  · refine .inr ⟨g, cap, cur, rfl, hb, ?_, rest⟩
    rw [h.block g (Array.getElem?_eq_some_iff.1 hgg).1 (hs g rfl)]
    exact hgg

/-- The first n of a row, as a list. -/
def row (V : Nat → Value) (n : Nat) : List Value := (List.range n).map V
theorem row_length (V : Nat → Value) (n : Nat) : (row V n).length = n := by simp [row]
theorem row_get (V : Nat → Value) (n i : Nat) (h : i < (row V n).length) : (row V n)[i] = V i := by simp [row]
theorem row_get? (V : Nat → Value) {n i : Nat} (h : i < n) : (row V n)[i]? = some (V i) := by
  rw [List.getElem?_eq_getElem (by rw [row_length]; exact h), row_get]
theorem row_congr {V U : Nat → Value} {n : Nat} (h : ∀ i, i < n → V i = U i) : row V n = row U n := by
  apply List.map_congr_left
  intro i hi
  exact h i (List.mem_range.1 hi)
theorem row_mem {V : Nat → Value} {n : Nat} {u : Value} (h : u ∈ row V n) : ∃ i, i < n ∧ u = V i := by
  obtain ⟨i, hi, rfl⟩ := List.mem_map.1 h
  exact ⟨i, List.mem_range.1 hi, rfl⟩
/-- Two rows, one behind the other. -/
def cat (V : Nat → Value) (m : Nat) (U : Nat → Value) : Nat → Value := fun i => if i < m then V i else U (i - m)
theorem row_cat (f g : Nat → Value) (m n : Nat) : row (cat f m g) (m + n) = row f m ++ row g n := by
  apply List.ext_getElem
  · simp [row_length]
  · intro i h1 h2
    rw [row_length] at h1
    rw [row_get]
    unfold cat
    by_cases h : i < m
    · rw [if_pos h, List.getElem_append_left (by rw [row_length]; exact h), row_get]
    · rw [if_neg h, List.getElem_append_right (by rw [row_length]; omega), row_get, row_length]

theorem addr_add (b off i : Nat) : (⟨b, off, none⟩ : Addr).add i = ⟨b, off + i, none⟩ := by unfold Addr.add; split <;> simp_all

/-- A slice of n values lies there, V of them. -/
def Sl (w : World) (a : Option Addr) (n : Nat) (V : Nat → Value) : Prop := ∀ i, i < n → ∃ b off, a = some ⟨b, off, none⟩ ∧ b < w.heap.size ∧ w.cell? ⟨b, off + i, none⟩ = some (V i)
theorem Sl.mv {S : Nat → Prop} {w w' : World} {a : Option Addr} {n : Nat} {V : Nat → Value} (h : Sl w a n V) (k : Mv S w w') (hs : ∀ p, a = some p → ¬ S p.block) : Sl w' a n V := by
  intro i hi
  obtain ⟨b, off, e, hb, hc⟩ := h i hi
  exact ⟨b, off, e, Nat.lt_of_lt_of_le hb k.size, k.cell (p := ⟨b, off + i, none⟩) hc (hs ⟨b, off, none⟩ e)⟩
theorem Sl.cells {w : World} {a : Addr} {n : Nat} {V : Nat → Value} (h : Sl w (some a) n V) : ∀ j u, (row V n)[j]? = some u → w.cell? (a.add j) = some u := by
  intro j u hj
  by_cases hn : j < n
  · rw [row_get? V hn] at hj
    cases hj
    obtain ⟨b, off, e, _, hc⟩ := h j hn
    cases e
    rw [addr_add]; exact hc
  · rw [List.getElem?_eq_none (by rw [row_length]; omega)] at hj
    cases hj

/-- A slice of its own, from block 'base' on. -/
def Own (w : World) (base : Nat) (e : TypeId) (v : Value) (n : Nat) (V : Nat → Value) : Prop := w.ownsRow base e 1 v n (row V n)
theorem Own.mv {S : Nat → Prop} {w w' : World} {base : Nat} {e : TypeId} {v : Value} {n : Nat} {V : Nat → Value} (ho : Own w base e v n V) (h : Mv S w w') (hs : ∀ k, v.ownBlock = some k → ¬ S k) : Own w' base e v n V := h.owns ho hs
theorem Own.blk {w : World} {base : Nat} {e : TypeId} {v : Value} {n : Nat} {V : Nat → Value} (h : Own w base e v n V) : ∀ k, v.ownBlock = some k → base ≤ k ∧ k < w.heap.size := World.ownsRow.lt h
theorem Own.sl {w : World} {base n : Nat} {e : TypeId} {v : Value} {V : Nat → Value} (h : Own w base e v n V) : ∃ a cap, v = .slice a n cap ∧ Sl w a n V ∧ n ≤ cap ∧ (a = none → n = 0 ∧ cap = 0) := by
  have h' := h
  rcases h.2 with ⟨rfl, rfl⟩ | ⟨g, cap, cur, rfl, _, hg, hnc, _⟩
  · exact ⟨none, 0, rfl, fun i hi => by omega, by omega, fun _ => ⟨rfl, rfl⟩⟩
  · refine ⟨_, cap, rfl, fun i hi => ⟨g, 0, rfl, ?_, ?_⟩, hnc, fun h => by cases h⟩
    · exact (Array.getElem?_eq_some_iff.1 hg).1
    · rw [Nat.zero_add, h'.cellAt i (by omega), row_get? V hi]
theorem Own.at {w : World} {base n c g i : Nat} {e : TypeId} {V : Nat → Value} (h : Own w base e (.slice (some ⟨g, 0, none⟩) n c) n V) (hi : i < n) : w.cell? ⟨g, i, none⟩ = some (V i) ∧ w.frozen? ⟨g, i, none⟩ = false := by
  refine ⟨?_, World.ownsRow.frozenAt h i⟩
  rw [World.ownsRow.cellAt h i (by omega), row_get? V hi]
theorem Own.congr {w : World} {base n : Nat} {e : TypeId} {v : Value} {V U : Nat → Value} (h : Own w base e v n V) (k : ∀ i, i < n → V i = U i) : Own w base e v n U := by
  unfold Own; rw [← row_congr k]; exact h
theorem Own.slice {w : World} {base n : Nat} {e : TypeId} {v : Value} {V : Nat → Value} (h : Own w base e v n V) : v = .slice none 0 0 ∧ n = 0 ∨ ∃ g c, v = .slice (some ⟨g, 0, none⟩) n c ∧ n ≤ c := by
  rcases h.2 with ⟨rfl, rfl⟩ | ⟨g, cap, cur, rfl, _, hg, hnc, _⟩
  · exact .inl ⟨rfl, rfl⟩
  · exact .inr ⟨g, cap, rfl, hnc⟩

/-- What append makes of a row of its own. -/
theorem append_own (t ty e : TypeId) (i : TypeInfo) (z : Value) (bytes : Nat) (ht : Tryd.prog.underlying t = some (.slice e)) (hi : Tryd.prog.info? e = some i) (hz : i.zero = some z) (hsize : i.size = 1) (hby : i.bytes = bytes) (hzs : z.cells.size = 1) (hb24 : bytes ≤ 64)
    (w : World) (base : Nat) (v : Value) (n m c : Nat) (V U : Nat → Value) (s : Option Addr) (hown : Own w base e v n V) (hs : Sl w s m U) (h1 : ∀ j, (U j).oneCell' = true) (hn : n + m < 100000) (hnone : s = none → m = 0 ∧ c = 0) (hb : base ≤ w.heap.size) :
    ∃ v' W, (Builtin.append_ #[t, t] ty #[v, .slice s m c]).run Tryd.prog w = .ok v' W ∧ Own W base e v' (n + m) (cat V n U) ∧ w.grownBy W v.ownBlock ∧ (v'.ownBlock = v.ownBlock ∨ ∃ g, v'.ownBlock = some g ∧ w.heap.size ≤ g) := by
  unfold Own
  rw [row_cat]
  cases s with
  | none =>
    obtain ⟨rfl, rfl⟩ := hnone rfl
    refine ⟨v, w, run_append_owned_none w base t ty e i 1 ht hi v n _ hown, ?_, ⟨rfl, rfl, rfl, Nat.le_refl _, fun _ _ _ => rfl⟩, .inl rfl⟩
    rw [show row U 0 = [] from rfl, List.append_nil]
    exact hown
  | some a =>
    have hc := hs.cells
    have hu : ∀ u ∈ row U m, u.oneCell' = true := by
      intro u hu
      obtain ⟨j, _, rfl⟩ := row_mem hu
      exact h1 j
    have hmul : (n + m) * bytes ≤ 140737488355328 := by
      have := Nat.mul_le_mul (Nat.le_of_lt hn) hb24
      omega
    obtain ⟨v', W, hr, h2, h3, h4⟩ := run_append_own w base t ty e i z 1 bytes ht hi hz hsize hby hzs (by omega) v n _ hown a m c (row U m) (by rw [row_length, Nat.mul_one]) hc hu (by simp only [maxLen]; omega) hmul hb
    refine ⟨v', W, hr, h2, h3, ?_⟩
    rcases hown.2 with ⟨rfl, rfl⟩ | ⟨g, cap, cur, rfl, hbg, hg, hnc, hcm, hcs, htake⟩
    · have hx : row V 0 = [] := rfl
      obtain ⟨v2, W2, hr2, k2, _, _⟩ := run_append_own w w.heap.size t ty e i z 1 bytes ht hi hz hsize hby hzs (by omega) (.slice none 0 0) 0 [] (World.ownsRow_nil _ _ _ _) a m c (row U m) (by rw [row_length, Nat.mul_one]) hc hu (by simp only [maxLen]; omega) (by simpa using hmul) (Nat.le_refl _)
      rw [hr] at hr2
      cases hr2
      cases hv : v'.ownBlock with
      | none => exact .inl rfl
      | some g => exact .inr ⟨g, rfl, (World.ownsRow.lt k2 g hv).1⟩
    · by_cases hroom : n + m ≤ cap
      · obtain ⟨W2, hr2, _⟩ := run_append_fits w base t ty e i 1 ht hi hsize g n cap _ hown a m c (row U m) (by rw [row_length, Nat.mul_one]) hc hu hroom
        rw [hr] at hr2
        cases hr2
        exact .inl rfl
      · have hr2 := run_append_grow (P := Tryd.prog) w t ty e i z ht hi hz ⟨g, 0, none⟩ n cap (row V n) (by rw [hown.1, hsize]) (World.ownsRow.cells hown rfl) a m c (row U m) (by rw [row_length, hsize, Nat.mul_one]) hc (by omega) (by omega) (growslice_fits (by omega) (by rw [hby]; exact hmul))
        rw [hr] at hr2
        cases hr2
        exact .inr ⟨_, rfl, Nat.le_refl _⟩

theorem own_empty (w : World) (base B : Nat) (e : TypeId) (hB : B = w.heap.size) (hb : base ≤ w.heap.size) (V : Nat → Value) : Own (w.alloc (.cells #[] e)) base e (.slice (some ⟨B, 0, none⟩) 0 0) 0 V := by
  subst hB
  exact World.ownsRow_lit (e := e) (size := 1) (base := base) w #[] 0 hb (by simp [maxLen]) (by simp)
/-- An append whose end is known. -/
theorem wp_append_given {P : Program} {w : World} {o : Oper} {a : Act} {K : Act → World → Prop} {Q : Exit → Act → World → Prop} (s x : Operand) (t : TypeId)
    (ho : o.op = .call { callee := .builtin .append, args := #[s, x], argTypes := #[t, t] })
    (v u v' : Value) (W : World) (hs : a.eval s = v) (hx : a.eval x = u) (hr : (Builtin.append_ #[t, t] o.type #[v, u]).run P w = .ok v' W) (h : K (a.put o.dst v') W) : o.wp P a w K Q := by
  unfold Oper.wp execOp
  simp only [ho, resolve, invoke, builtin, Sem.run_bind, Sem.run_pure, Result.andThen_ok, List.map_toArray, List.map_cons, List.map_nil, hs, hx, hr]
  exact h
theorem wpList_append_given {P : Program} {w : World} {ops : Array Oper} {rest : List Oper} {o : Oper} {a : Act} {Q : Exit → Act → World → Prop} (hgd : o.guard = none) (s x : Operand) (t : TypeId)
    (ho : o.op = .call { callee := .builtin .append, args := #[s, x], argTypes := #[t, t] })
    (v u v' : Value) (W : World) (hs : a.eval s = v) (hx : a.eval x = u) (hr : (Builtin.append_ #[t, t] o.type #[v, u]).run P w = .ok v' W) (h : wpList P ops Q rest (a.put o.dst v') W) : wpList P ops Q (o :: rest) a w :=
  wpList_plain hgd fun _ hK => wp_append_given s x t ho v u v' W hs hx hr (hK _ _ h)

theorem alloc_new (w : World) (cs : Array Value) (t : TypeId) (i : Nat) (v : Value) (h : cs[i]? = some v) : (w.alloc (.cells cs t)).cell? ⟨w.heap.size, i, none⟩ = some v ∧ (w.alloc (.cells cs t)).frozen? ⟨w.heap.size, i, none⟩ = false := by
  exact ⟨(World.cell?_alloc_at _ _ _ _ rfl).trans h, World.frozen?_alloc_at _ _ _ _ rfl⟩

/-- A row is known by its cells. -/
theorem Own.of {w : World} {base g n c : Nat} {e : TypeId} {xs : List Value} {V : Nat → Value} (h : w.ownsRow base e 1 (.slice (some ⟨g, 0, none⟩) n c) n xs) (hc : ∀ i, i < n → w.cell? ⟨g, i, none⟩ = some (V i)) : Own w base e (.slice (some ⟨g, 0, none⟩) n c) n V := by
  have e : xs = row V n := by
    apply List.ext_getElem
    · rw [h.1, row_length, Nat.mul_one]
    · intro i h1 h2
      rw [row_length] at h2
      have := h.cellAt i (by omega)
      rw [hc i h2, List.getElem?_eq_getElem h1] at this
      rw [row_get]
      exact (Option.some.inj this).symm
  unfold Own; rw [← e]; exact h

/-- What make makes. -/
theorem made (t e : TypeId) (i : TypeInfo) (z : Value) (bytes : Nat) (ht : Tryd.prog.underlying t = some (.slice e)) (hi : Tryd.prog.info? e = some i) (hz : i.zero = some z) (hsize : i.size = 1) (hby : i.bytes = bytes) (hzs : z.cells = #[z]) (hb24 : bytes ≤ 64)
    (n : Nat) (hn : n < 100000) (w : World) (base : Nat) (hb : base ≤ w.heap.size) :
    (Instr.makeSlice t (.int .i64 n) (.int .i64 n)).run Tryd.prog w = .ok (.slice (some ⟨w.heap.size, 0, none⟩) n n) (w.alloc (.cells (madeCells #[z] n) e)) ∧ Own (w.alloc (.cells (madeCells #[z] n) e)) base e (.slice (some ⟨w.heap.size, 0, none⟩) n n) n (fun _ => z) := by
  have hr := run_makeSlice (P := Tryd.prog) w t e i z ht hi hz .i64 .i64 n n (by omega) (by omega) (by show (n : Int).toNat * _ ≤ _; rw [hsize]; omega) (by
    rw [hby]
    have := Nat.mul_le_mul (Nat.le_of_lt hn) hb24
    rw [Nat.mul_comm] at this
    show ((bytes : Nat) : Int) * n ≤ _
    have h2 : ((bytes : Nat) : Int) * n = ((bytes * n : Nat) : Int) := by rw [Int.natCast_mul]
    rw [h2]; omega) (by omega)
  have e1 : (n : Int).toNat = n := by omega
  rw [e1, hsize, Nat.mul_one, hzs] at hr
  refine ⟨hr, ?_⟩
  have hl := World.ownsRow_lit (e := e) (size := 1) (base := base) w (madeCells #[z] n) n hb (by simp only [maxLen]; omega) (by rw [size_madeCells, Nat.mul_one])
  unfold Own
  rw [show row (fun _ => z) n = (madeCells #[z] n).toList from ?_]
  · exact hl
  · rw [toList_madeCells_one]
    apply List.ext_getElem
    · simp [row_length]
    · intro i h1 h2
      rw [row_get, List.getElem_replicate]

end Go.Proofs.YtojbakkbmfgoaaaDoor

namespace Go.Proofs.YtojbakkbmfgoaaaDoor
open Go.RowKit
theorem info5 : Tryd.prog.info? 5 = some Tryd.t5 := by kernel_rfl
def By (f : Nat → Int) : Nat → Value := fun i => .int .u8 (f i)
theorem Sl.congr {w : World} {a : Option Addr} {n : Nat} {V U : Nat → Value} (h : Sl w a n V) (k : ∀ i, i < n → V i = U i) : Sl w a n U := by
  intro i hi
  obtain ⟨b, off, e, hb, hc⟩ := h i hi
  exact ⟨b, off, e, hb, by rw [hc, k i hi]⟩

end Go.Proofs.YtojbakkbmfgoaaaDoor

namespace Go.Proofs.YtojbakkbmfgoaaaDoor
open Go.RowKit
set_option linter.unusedVariables false

/-- These cells lie there, from a on. -/
def Ls (w : World) (a : Option Addr) (xs : List Value) : Prop := ∀ j u, xs[j]? = some u → ∃ b off, a = some ⟨b, off, none⟩ ∧ b < w.heap.size ∧ w.cell? ⟨b, off + j, none⟩ = some u
theorem Ls.mv {S : Nat → Prop} {w w' : World} {a : Option Addr} {xs : List Value} (h : Ls w a xs) (k : Mv S w w') (hs : ∀ p, a = some p → ¬ S p.block) : Ls w' a xs := by
  intro i u hi
  obtain ⟨b, off, e, hb, hc⟩ := h i u hi
  exact ⟨b, off, e, Nat.lt_of_lt_of_le hb k.size, k.cell (p := ⟨b, off + i, none⟩) hc (hs ⟨b, off, none⟩ e)⟩
theorem Ls.qt {w w' : World} {a : Option Addr} {xs : List Value} (h : Ls w a xs) (k : Mv (fun _ => False) w w') : Ls w' a xs := h.mv k (fun _ _ h => h)
theorem Ls.nil (w : World) (a : Option Addr) : Ls w a [] := by intro j u h; simp at h
theorem Ls.cells {w : World} {a : Addr} {xs : List Value} (h : Ls w (some a) xs) : ∀ j u, xs[j]? = some u → w.cell? (a.add j) = some u := by
  intro j u hj
  obtain ⟨b, off, e, _, hc⟩ := h j u hj
  cases e
  rw [addr_add]; exact hc
theorem Ls.take {w : World} {a : Option Addr} {xs : List Value} (h : Ls w a xs) (n : Nat) : Ls w a (xs.take n) := by
  intro j u hj
  rw [List.getElem?_take] at hj
  split at hj
  · exact h j u hj
  · cases hj
theorem Ls.drop {w : World} {a : Option Addr} {xs : List Value} (h : Ls w a xs) (n : Nat) : Ls w (a.map (·.add n)) (xs.drop n) := by
  intro j u hj
  rw [List.getElem?_drop] at hj
  obtain ⟨b, off, e, hb, hc⟩ := h _ u hj
  refine ⟨b, off + n, ?_, hb, by rw [Nat.add_assoc]; exact hc⟩
  rw [e, Option.map_some, addr_add]
/-- What was just laid. -/
theorem Ls.new (w : World) (xs : Array Value) (t : TypeId) : Ls (w.alloc (.cells xs t)) (some ⟨w.heap.size, 0, none⟩) xs.toList := by
  intro j u hj
  refine ⟨_, _, rfl, by simp, ?_⟩
  rw [Nat.zero_add]
  exact (alloc_new w xs t j u (by rw [← Array.getElem?_toList]; exact hj)).1

/-- A row of structs of k cells. -/
theorem ow_ls {w : World} {base n k : Nat} {e : TypeId} {v : Value} {xs : List Value} (h : w.ownsRow base e k v n xs) : ∃ a cap, v = .slice a n cap ∧ Ls w a xs ∧ n ≤ cap ∧ (a = none → n = 0 ∧ cap = 0) ∧ ∀ p, a = some p → v.ownBlock = some p.block := by
  have h' := h
  rcases h.2 with ⟨rfl, rfl⟩ | ⟨g, cap, cur, rfl, _, hg, hnc, _⟩
  · have : xs = [] := List.length_eq_zero_iff.1 (by rw [h'.1, Nat.zero_mul])
    subst this
    exact ⟨none, 0, rfl, Ls.nil _ _, by omega, fun _ => ⟨rfl, rfl⟩, fun p e => by cases e⟩
  · refine ⟨_, cap, rfl, fun i u hi => ⟨g, 0, rfl, ?_, ?_⟩, hnc, fun h => (by cases h), fun p e => (by cases e; rfl)⟩
    · exact (Array.getElem?_eq_some_iff.1 hg).1
    · have hlt : i < xs.length := (List.getElem?_eq_some_iff.1 hi).1
      rw [Nat.zero_add, h'.cellAt i (by rw [← h'.1]; exact hlt), hi]
theorem ow_blk {w : World} {base n k : Nat} {e : TypeId} {v : Value} {xs : List Value} (h : w.ownsRow base e k v n xs) : ∀ j, v.ownBlock = some j → base ≤ j ∧ j < w.heap.size := World.ownsRow.lt h
theorem ow_nil (w : World) (base : Nat) (e : TypeId) (k : Nat) : w.ownsRow base e k (.slice none 0 0) 0 [] := World.ownsRow_nil _ _ _ _
theorem ow_new (w : World) (base k : Nat) (e : TypeId) (xs : Array Value) (n : Nat) (hb : base ≤ w.heap.size) (hn : n < 100000) (hl : xs.size = n * k) : (w.alloc (.cells xs e)).ownsRow base e k (.slice (some ⟨w.heap.size, 0, none⟩) n n) n xs.toList :=
  World.ownsRow_lit (e := e) (size := k) (base := base) w xs n hb (by simp only [maxLen]; omega) hl
/-- What append makes of a row of its own. -/
theorem append_ow (t ty e : TypeId) (i : TypeInfo) (z : Value) (k bytes : Nat) (ht : Tryd.prog.underlying t = some (.slice e)) (hi : Tryd.prog.info? e = some i) (hz : i.zero = some z) (hsize : i.size = k) (hby : i.bytes = bytes) (hzs : z.cells.size = k) (hk : 0 < k) (hb24 : bytes ≤ 64)
    (w : World) (base : Nat) (v : Value) (n m c : Nat) (xs ys : List Value) (s : Option Addr) (hown : w.ownsRow base e k v n xs) (hs : Ls w s ys) (hm : ys.length = m * k) (h1 : ∀ u ∈ ys, u.oneCell' = true) (hn : n + m < 100000) (hnone : s = none → m = 0 ∧ c = 0) (hb : base ≤ w.heap.size) :
    ∃ v' W, (Builtin.append_ #[t, t] ty #[v, .slice s m c]).run Tryd.prog w = .ok v' W ∧ W.ownsRow base e k v' (n + m) (xs ++ ys) ∧ w.grownBy W v.ownBlock ∧ (v'.ownBlock = v.ownBlock ∨ ∃ g, v'.ownBlock = some g ∧ w.heap.size ≤ g) := by
  cases s with
  | none =>
    obtain ⟨rfl, rfl⟩ := hnone rfl
    have : ys = [] := List.length_eq_zero_iff.1 (by rw [hm, Nat.zero_mul])
    subst this
    refine ⟨v, w, run_append_owned_none w base t ty e i k ht hi v n _ hown, ?_, ⟨rfl, rfl, rfl, Nat.le_refl _, fun _ _ _ => rfl⟩, .inl rfl⟩
    rw [List.append_nil]
    exact hown
  | some a =>
    have hc := hs.cells
    have hmul : (n + m) * bytes ≤ 140737488355328 := by
      have := Nat.mul_le_mul (Nat.le_of_lt hn) hb24
      omega
    obtain ⟨v', W, hr, h2, h3, h4⟩ := run_append_own w base t ty e i z k bytes ht hi hz hsize hby hzs hk v n _ hown a m c ys hm hc h1 (by simp only [maxLen]; omega) hmul hb
    refine ⟨v', W, hr, h2, h3, ?_⟩
    rcases hown.2 with ⟨rfl, rfl⟩ | ⟨g, cap, cur, rfl, hbg, hg, hnc, hcm, hcs, htake⟩
    · obtain ⟨v2, W2, hr2, k2, _, _⟩ := run_append_own w w.heap.size t ty e i z k bytes ht hi hz hsize hby hzs hk (.slice none 0 0) 0 [] (World.ownsRow_nil _ _ _ _) a m c ys hm hc h1 (by simp only [maxLen]; omega) (by simpa using hmul) (Nat.le_refl _)
      rw [hr] at hr2
      cases hr2
      cases hv : v'.ownBlock with
      | none => exact .inl rfl
      | some g => exact .inr ⟨g, rfl, (World.ownsRow.lt k2 g hv).1⟩
    · by_cases hroom : n + m ≤ cap
      · obtain ⟨W2, hr2, _⟩ := run_append_fits w base t ty e i k ht hi hsize g n cap _ hown a m c ys hm hc h1 hroom
        rw [hr] at hr2
        cases hr2
        exact .inl rfl
      · have hr2 := run_append_grow (P := Tryd.prog) w t ty e i z ht hi hz ⟨g, 0, none⟩ n cap xs (by rw [hown.1, hsize]) (World.ownsRow.cells hown rfl) a m c ys (by rw [hm, hsize]) hc (by omega) (by omega) (growslice_fits (by omega) (by rw [hby]; exact hmul))
        rw [hr] at hr2
        cases hr2
        exact .inr ⟨_, rfl, Nat.le_refl _⟩

end Go.Proofs.YtojbakkbmfgoaaaDoor
