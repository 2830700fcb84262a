/- A slice of float64 values that is handed in, opened; rows that are appended to. -/
import Derived.Test.YthfadeoanjjiaaaH1
import Derived.Deep.Slices
import Derived.OpenShut
import Derived.Laws.Cover2
import Derived.OwnWalk
namespace Go.Proofs.Ythfadeoanjjiaaa
open Go.RowKit Srt Go.ChangeShapes Go.WideShapes Go.Deep

section
variable {H : Type} {enc : TypeId × Value → H} {P : Program} {w : World} {base : Nat} {spare : Nat → Bool} {held : Bool}

theorem trod_float {e : TypeId} {k : FloatKind} {n : Nat} {v : Value} {x : DataW H × List MemPlace} (he : P.underlying e = some (.float k)) (h : DataW.trod enc P w base spare held n e [v] = some x) : ∃ b, v = .float k b ∧ (Lit.float k b).wf = true := by
  cases n with
  | zero => simp [DataW.trod] at h
  | succ n =>
    simp only [DataW.trod, he] at h
    cases v <;> simp at h
    rename_i k' b
    obtain ⟨h1, h2⟩ := h
    exact ⟨b, by rw [h1.1], h1.2⟩

/-- What the walk is told of it. -/
theorem open_floats {t e : TypeId} {fuel : Nat} {a : Option Addr} {len cap : Nat} {x : DataW H × List MemPlace} (ht : P.underlying t = some (.slice e)) (he : P.underlying e = some (.float .f64)) (hc : P.cellsOf e = 1)
    (h : DataW.trod enc P w base spare held fuel t [.slice a len cap] = some x) : ∃ f : Nat → Nat, Sl w a len f ∧ (∀ i, Fl.Ok (f i)) ∧ (a = none → len = 0 ∧ cap = 0) := by
  rcases open_slice1 ht hc h with ⟨h0, _⟩ | ⟨a', len', cap', m, n, V, D, Pl, hcs, hb, hl, hm, hmm, _, hx⟩
  · simp at h0
    obtain ⟨rfl, rfl, rfl⟩ := h0
    exact ⟨fun _ => 0, fun i hi => by omega, fun i => by show (0 : Nat) < _; omega, fun _ => ⟨rfl, rfl⟩⟩
  · simp only [List.cons.injEq, Value.slice.injEq, and_true] at hcs
    obtain ⟨rfl, rfl, rfl⟩ := hcs
    have hml : len ≤ m := by rw [hmm]; split <;> omega
    clear hb
    have hv : ∀ i, ∃ b, (i < len → V i = .float .f64 b) ∧ Fl.Ok b := by
      intro i
      by_cases hi : i < len
      · obtain ⟨b, h1, h2⟩ := trod_float he (hx i (by omega)).2
        exact ⟨b, fun _ => h1, by simpa [Lit.wf, Fl.Ok] using h2⟩
      · exact ⟨0, fun h => absurd h hi, by show (0 : Nat) < _; omega⟩
    obtain ⟨f, hf⟩ := Classical.skolem.1 hv
    refine ⟨f, ?_, fun i => (hf i).2, fun h => by cases h⟩
    intro i hi
    obtain ⟨b, off, spot⟩ := a'
    have hspot : spot = none := by simpa [Addr.add] using World.cell?_spot (hx 0 (by omega)).1
    subst hspot
    have h0 := (hx i (by omega)).1
    rw [addr_add, (hf i).1 hi] at h0
    exact ⟨b, off, rfl, World.block_lt_of_cell? w ⟨b, off + i, none⟩ h0, h0⟩
end

/-- Two rows, one behind the other. -/
def cat (f : Nat → Nat) (m : Nat) (g : Nat → Nat) : Nat → Nat := fun i => if i < m then f i else g (i - m)
theorem cat_ok {f g : Nat → Nat} {m : Nat} (hf : ∀ i, Fl.Ok (f i)) (hg : ∀ i, Fl.Ok (g i)) (i : Nat) : Fl.Ok (cat f m g i) := by unfold cat; split; exact hf _; exact hg _

/-- A slice of its own, from block 'base' on: n numbers, f of them. -/
def Own (w : World) (base : Nat) (v : Value) (n : Nat) (f : Nat → Nat) : Prop := w.ownsRow base 23 1 v n ((row f n).map (Value.float .f64))

theorem Own.sl {w : World} {base n : Nat} {v : Value} {f : Nat → Nat} (h : Own w base v n f) : ∃ a cap, v = .slice a n cap ∧ Sl w a n f ∧ n ≤ cap := by
  have h' := h
  rcases h.2 with ⟨rfl, rfl⟩ | ⟨g, cap, cur, rfl, _, hg, hnc, _⟩
  · exact ⟨none, 0, rfl, fun i hi => by omega, by omega⟩
  · refine ⟨_, cap, rfl, fun i hi => ⟨g, 0, rfl, ?_, ?_⟩, hnc⟩
    · exact (Array.getElem?_eq_some_iff.1 hg).1
    · rw [Nat.zero_add, h'.cellAt i (by omega), List.getElem?_map, List.getElem?_eq_getElem (by rw [row_length]; exact hi), row_get]
      rfl

theorem row_cat (f g : Nat → Nat) (m n : Nat) : row (cat f m g) (m + n) = row f m ++ row g n := by
  apply List.ext_getElem
  · simp [row_length]
  · intro i h1 h2
    rw [row_length] at h1
    rw [row_get]
    unfold cat
    by_cases h : i < m
    · rw [if_pos h, List.getElem_append_left (by rw [row_length]; exact h), row_get]
    · rw [if_neg h, List.getElem_append_right (by rw [row_length]; omega), row_get, row_length]

/-- A literal with nothing in it. -/
theorem own_empty (w : World) (base : Nat) (hb : base ≤ w.heap.size) (f : Nat → Nat) : Own (w.alloc (.cells #[] 23)) base (.slice (some ⟨w.heap.size, 0, none⟩) 0 0) 0 f := by
  have := World.ownsRow_lit (e := 23) (size := 1) (base := base) w #[] 0 hb (by simp [maxLen]) (by simp)
  exact this

theorem info23 : Try.prog.info? 23 = some Try.t23 := by kernel_rfl

/-- What append makes of a row of its own. -/
theorem append_run (w : World) (base : Nat) (v : Value) (n m c : Nat) (f g : Nat → Nat) (s : Option Addr) (hown : Own w base v n f) (hs : Sl w s m g) (hn : n + m < 1000) (hnone : s = none → m = 0 ∧ c = 0) (hb : base ≤ w.heap.size) :
    ∃ v' W, (Builtin.append_ #[22, 22] 22 #[v, .slice s m c]).run Try.prog w = .ok v' W ∧ Own W base v' (n + m) (cat f n g) ∧ Below base w W := by
  unfold Own
  rw [row_cat, List.map_append]
  cases s with
  | none =>
    obtain ⟨rfl, rfl⟩ := hnone rfl
    refine ⟨v, w, run_append_owned_none w base 22 22 23 Try.t23 1 Try.underlying22 info23 v n _ hown, ?_, Below.refl _ _⟩
    rw [show row g 0 = [] from rfl, List.map_nil, List.append_nil]
    exact hown
  | some a =>
    have hc : ∀ j u, ((row g m).map (Value.float .f64))[j]? = some u → w.cell? (a.add j) = some u := by
      intro j u hj
      rw [List.getElem?_map] at hj
      by_cases h : j < m
      · rw [List.getElem?_eq_getElem (by rw [row_length]; exact h), row_get] at hj
        cases hj
        obtain ⟨b, off, e, _, hcell⟩ := hs j h
        cases e
        rw [addr_add]
        exact hcell
      · rw [List.getElem?_eq_none (by rw [row_length]; omega)] at hj
        cases hj
    obtain ⟨v', W, h1, h2, h3, _⟩ := run_append_own w base 22 22 23 Try.t23 (.float .f64 0) 1 8 Try.underlying22 info23 (by kernel_rfl) (by kernel_rfl) (by kernel_rfl) rfl (by omega) v n _ hown a m c ((row g m).map (Value.float .f64)) (by simp [row_length]) hc (by
      intro u hu
      obtain ⟨x, _, rfl⟩ := List.mem_map.1 hu
      rfl) (by simp only [maxLen]; omega) (by omega) hb
    refine ⟨v', W, h1, h2, ?_⟩
    exact (Below.refl base w).grown h3 hb (fun k hk => (hown.lt k hk).1)

/-- An append whose end is known. -/
theorem wp_append_given {P : Program} {w : World} {o : Oper} {a : Act} {K : Act → World → Prop} {Q : Exit → Act → World → Prop} (s x : Operand) (t : TypeId)
    (ho : o.op = .call { callee := .builtin .append, args := #[s, x], argTypes := #[t, t] })
    (v u v' : Value) (W : World) (hs : a.eval s = v) (hx : a.eval x = u) (hr : (Builtin.append_ #[t, t] o.type #[v, u]).run P w = .ok v' W) (h : K (a.put o.dst v') W) : o.wp P a w K Q := by
  unfold Oper.wp execOp
  simp only [ho, resolve, invoke, builtin, Sem.run_bind, Sem.run_pure, Result.andThen_ok, List.map_toArray, List.map_cons, List.map_nil, hs, hx, hr]
  exact h
theorem wpList_append_given {P : Program} {w : World} {ops : Array Oper} {rest : List Oper} {o : Oper} {a : Act} {Q : Exit → Act → World → Prop} (hgd : o.guard = none) (s x : Operand) (t : TypeId)
    (ho : o.op = .call { callee := .builtin .append, args := #[s, x], argTypes := #[t, t] })
    (v u v' : Value) (W : World) (hs : a.eval s = v) (hx : a.eval x = u) (hr : (Builtin.append_ #[t, t] o.type #[v, u]).run P w = .ok v' W) (h : wpList P ops Q rest (a.put o.dst v') W) : wpList P ops Q (o :: rest) a w :=
  wpList_plain hgd fun _ hK => wp_append_given s x t ho v u v' W hs hx hr (hK _ _ h)

theorem cat_zero (f g : Nat → Nat) : cat f 0 g = g := by funext i; unfold cat; rw [if_neg (by omega), Nat.sub_zero]
/-- .. of a literal with nothing in it. -/
theorem append_empty (w : World) (base : Nat) (m c : Nat) (g : Nat → Nat) (s : Option Addr) (hs : Sl w s m g) (hn : m < 1000) (hnone : s = none → m = 0 ∧ c = 0) (hb : base ≤ w.heap.size) :
    ∃ v' W, (Builtin.append_ #[22, 22] 22 #[.slice (some ⟨w.heap.size, 0, none⟩) 0 0, .slice s m c]).run Try.prog (w.alloc (.cells #[] 23)) = .ok v' W ∧ Own W base v' m g ∧ Below base w W := by
  have B : Below w.heap.size w (w.alloc (.cells #[] 23)) := (Below.refl _ _).alloc (Nat.le_refl _) _
  obtain ⟨v', W, h1, h2, h3⟩ := append_run (w.alloc (.cells #[] 23)) base _ 0 m c g g s (own_empty w base hb g) (hs.below B) (by omega) hnone (Nat.le_trans hb B.size)
  rw [cat_zero, Nat.zero_add] at h2
  exact ⟨v', W, h1, h2, (B.mono hb).trans h3⟩

end Go.Proofs.Ythfadeoanjjiaaa
