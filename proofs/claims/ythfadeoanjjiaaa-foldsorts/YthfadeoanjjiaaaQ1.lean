/- Appends in a region that draws its order; a number put where it belongs. -/
import Derived.Test.YthfadeoanjjiaaaX1
import Derived.Deep.RegionHeld3
namespace Go.Proofs.Ythfadeoanjjiaaa
open Go.RowKit Srt

theorem Own.block {w : World} {base n : Nat} {v : Value} {f : Nat → Nat} (h : Own w base v n f) : ∀ k, v.ownBlock = some k → base ≤ k := fun k hk => (World.ownsRow.lt h k hk).1

theorem append_grown (w : World) (ty : TypeId) (base : Nat) (v : Value) (n m c : Nat) (f g : Nat → Nat) (s : Option Addr) (hown : Own w base v n f) (hs : Sl w s m g) (hn : n + m < 1000) (hnone : s = none → m = 0 ∧ c = 0) (hb : base ≤ w.heap.size) :
    ∃ v' W, (Builtin.append_ #[22, 22] ty #[v, .slice s m c]).run Try.prog w = .ok v' W ∧ Own W base v' (n + m) (cat f n g) ∧ w.grownBy W v.ownBlock := by
  unfold Own
  rw [row_cat, List.map_append]
  cases s with
  | none =>
    obtain ⟨rfl, rfl⟩ := hnone rfl
    refine ⟨v, w, run_append_owned_none w base 22 ty 23 Try.t23 1 Try.underlying22 info23 v n _ hown, ?_, ⟨rfl, rfl, rfl, Nat.le_refl _, fun _ _ _ => rfl⟩⟩
    rw [show row g 0 = [] from rfl, List.map_nil, List.append_nil]
    exact hown
  | some a =>
    have hc : ∀ j u, ((row g m).map (Value.float .f64))[j]? = some u → w.cell? (a.add j) = some u := by
      intro j u hj
      rw [List.getElem?_map] at hj
      by_cases h : j < m
      · rw [List.getElem?_eq_getElem (by rw [row_length]; exact h), row_get] at hj
        cases hj
        obtain ⟨b, off, e, _, hcell⟩ := hs j h
        cases e
        rw [addr_add]
        exact hcell
      · rw [List.getElem?_eq_none (by rw [row_length]; omega)] at hj
        cases hj
    obtain ⟨v', W, h1, h2, h3, _⟩ := run_append_own w base 22 ty 23 Try.t23 (.float .f64 0) 1 8 Try.underlying22 info23 (by kernel_rfl) (by kernel_rfl) (by kernel_rfl) rfl (by omega) v n _ hown a m c ((row g m).map (Value.float .f64)) (by simp [row_length]) hc (by
      intro u hu
      obtain ⟨x, _, rfl⟩ := List.mem_map.1 hu
      rfl) (by simp only [maxLen]; omega) (by omega) hb
    exact ⟨v', W, h1, h2, h3⟩

theorem step_append_sl {ops : Array Oper} {o : Oper} {a : Act} {w : World} {K : Act → World → Prop} {Q : Exit → Act → World → Prop} {E : Prop} (hgd : o.guard = none) (s x : Operand)
    (ho : o.op = .call { callee := .builtin .append, args := #[s, x], argTypes := #[22, 22] })
    (base : Nat) (w0 : World) (v : Value) (n : Nat) (f : Nat → Nat) (sl : Option Addr) (m c : Nat) (g : Nat → Nat) (N : Nat) (F : Nat → Nat) (hs : a.eval s = v) (hx : a.eval x = .slice sl m c)
    (hown : Own w base v n f) (hsl : Sl w sl m g) (hn : n + m < 1000) (hnone : sl = none → m = 0 ∧ c = 0) (hw0 : Below base w0 w) (hb : base ≤ w0.heap.size) (hN : n + m = N) (hF : cat f n g = F)
    (h : ∀ v' W, Own W base v' N F → w.grownBy W v.ownBlock → Below base w0 W → K (a.put o.dst v') W) :
    if Region.wanted o (yielded ops a.tmps) = true then Oper.wp Try.prog o a w K Q else E := by
  have hw : Region.wanted o (yielded ops a.tmps) = true := by simp [Region.wanted, hgd]
  rw [if_pos hw]
  obtain ⟨v', W, h1, h2, h3⟩ := append_grown w o.type base v n m c f g sl hown hsl hn hnone (Nat.le_trans hb hw0.size)
  subst hN hF
  exact wp_append_given s x 22 ho v _ v' W hs hx h1 (h v' W h2 h3 (hw0.grown h3 (Nat.le_trans hb hw0.size) (fun k hk => hown.block k hk)))

theorem own_empty' (w : World) (base B : Nat) (hB : B = w.heap.size) (hb : base ≤ w.heap.size) (f : Nat → Nat) : Own (w.alloc (.cells #[] 23)) base (.slice (some ⟨B, 0, none⟩) 0 0) 0 f := by
  subst hB; exact own_empty w base hb f
theorem sl_one (w : World) (x B : Nat) (hB : B = w.heap.size) : Sl (w.alloc (.cells #[.float .f64 x] 23)) (some ⟨B, 0, none⟩) 1 (at' [x]) := by
  subst hB; exact sl_lit w [x] _ rfl
theorem sl_one_drew (w : World) (x B : Nat) (hB : B = w.heap.size) : Sl (w.alloc (.cells #[.float .f64 x] 23)).drew (some ⟨B, 0, none⟩) 1 (at' [x]) := sl_one w x B hB
theorem sl_one_past (w : World) (x B : Nat) (o : Obj) (hB : B = w.heap.size) : Sl ((w.alloc (.cells #[.float .f64 x] 23)).alloc o).drew (some ⟨B, 0, none⟩) 1 (at' [x]) := by
  have h := sl_one w x B hB
  exact h.below (((Below.refl _ _).alloc (Nat.le_refl _) o).drew)
theorem Sl.alloc {w : World} {a : Option Addr} {n : Nat} {f : Nat → Nat} (h : Sl w a n f) (o : Obj) : Sl (w.alloc o) a n f := h.below ((Below.refl _ _).alloc (Nat.le_refl _) o)
theorem Sl.grown {w W : World} {a : Option Addr} {n : Nat} {f : Nat → Nat} {r : Option Nat} (h : Sl w a n f) (hg : w.grownBy W r) (hne : ∀ p, a = some p → some p.block ≠ r) : Sl W a n f := by
  intro i hi
  obtain ⟨b, off, e, hb, hc⟩ := h i hi
  have := hne _ e
  exact ⟨b, off, e, Nat.lt_of_lt_of_le hb hg.size, (World.cell?_of_block (hg.block b hb this)).trans hc⟩

/-- x put at place k. -/
def put (g : Nat → Nat) (k x : Nat) : Nat → Nat := cat (cat g k (at' [x])) (k + 1) (fun j => g (k + j))
theorem put_at (g : Nat → Nat) (k x i : Nat) : put g k x i = if i < k then g i else if i = k then x else g (i - 1) := by
  unfold put cat
  by_cases h1 : i < k
  · rw [if_pos (by omega), if_pos h1, if_pos h1]
  · by_cases h2 : i = k
    · subst h2
      rw [if_pos (by omega), if_neg h1, if_neg h1, if_pos rfl, Nat.sub_self]
      rfl
    · rw [if_neg (by omega), if_neg h1, if_neg h2]
      show g (k + (i - (k + 1))) = g (i - 1)
      rw [show k + (i - (k + 1)) = i - 1 from by omega]
theorem put_up {K g : Nat → Nat} {i k x : Nat} (h : Up K g 0 i) (hk : k ≤ i) (lo : ∀ j, j < k → K (g j) ≤ K x) (hi : ∀ j, k ≤ j → j < i → K x ≤ K (g j)) : Up K (put g k x) 0 (i + 1) := by
  intro p q _ y z
  rw [put_at, put_at]
  by_cases h1 : p < k
  · rw [if_pos h1]
    by_cases h2 : q < k
    · rw [if_pos h2]; exact h p q (by omega) y (by omega)
    · rw [if_neg h2]
      by_cases h3 : q = k
      · rw [if_pos h3]; exact lo p h1
      · rw [if_neg h3]; exact h.le (by omega) (by omega) (by omega)
  · rw [if_neg h1, if_neg (by omega : ¬ q < k)]
    by_cases h2 : p = k
    · rw [if_pos h2, if_neg (by omega)]; exact hi _ (by omega) (by omega)
    · rw [if_neg h2, if_neg (by omega)]; exact h _ _ (by omega) (by omega) (by omega)
theorem row_succ (f : Nat → Nat) (n : Nat) : row f (n + 1) = row f n ++ [f n] := by
  unfold row; rw [List.range_succ, List.map_append]; rfl
theorem row_shift (g : Nat → Nat) {k i : Nat} (h : k ≤ i) : row g k ++ row (fun j => g (k + j)) (i - k) = row g i := by
  have := row_cat g (fun j => g (k + j)) k (i - k)
  rw [← this, show k + (i - k) = i from by omega]
  apply List.map_congr_left
  intro j hj
  have := List.mem_range.1 hj
  unfold cat
  split
  · rfl
  · show g (k + (j - k)) = g j
    rw [show k + (j - k) = j from by omega]
theorem put_perm {g f : Nat → Nat} {i k : Nat} (h : (row g i).Perm (row f i)) (hk : k ≤ i) : (row (put g k (f i)) (i + 1)).Perm (row f (i + 1)) := by
  unfold put
  have e1 : i + 1 = (k + 1) + (i - k) := by omega
  have e2 : row (cat (cat g k (at' [f i])) (k + 1) fun j => g (k + j)) (i + 1) = row g k ++ [f i] ++ row (fun j => g (k + j)) (i - k) := by
    rw [e1, row_cat, row_cat]
    rfl
  rw [e2, row_succ]
  refine List.Perm.trans ?_ (h.append_right [f i])
  rw [← row_shift g hk, List.append_assoc, List.append_assoc]
  exact List.Perm.append_left _ List.perm_append_comm

end Go.Proofs.Ythfadeoanjjiaaa
