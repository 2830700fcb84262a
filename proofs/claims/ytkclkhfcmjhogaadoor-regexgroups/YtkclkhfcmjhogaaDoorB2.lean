/- Cells, as lists; rows of structs. -/
import Derived.Test.YtkclkhfcmjhogaaDoorBY
namespace Go.Proofs.YtkclkhfcmjhogaaDoor
open Go.RowKit
set_option linter.unusedVariables false

/-- These cells lie there, from a on. -/
def Ls (w : World) (a : Option Addr) (xs : List Value) : Prop := ∀ j u, xs[j]? = some u → ∃ b off, a = some ⟨b, off, none⟩ ∧ b < w.heap.size ∧ w.cell? ⟨b, off + j, none⟩ = some u
theorem Ls.mv {S : Nat → Prop} {w w' : World} {a : Option Addr} {xs : List Value} (h : Ls w a xs) (k : Mv S w w') (hs : ∀ p, a = some p → ¬ S p.block) : Ls w' a xs := by
  intro i u hi
  obtain ⟨b, off, e, hb, hc⟩ := h i u hi
  exact ⟨b, off, e, Nat.lt_of_lt_of_le hb k.size, k.cell (p := ⟨b, off + i, none⟩) hc (hs ⟨b, off, none⟩ e)⟩
theorem Ls.qt {w w' : World} {a : Option Addr} {xs : List Value} (h : Ls w a xs) (k : Mv (fun _ => False) w w') : Ls w' a xs := h.mv k (fun _ _ h => h)
theorem Ls.below {w w' : World} {a : Option Addr} {xs : List Value} (h : Ls w a xs) (k : Below w.heap.size w w') : Ls w' a xs := by
  intro i u hi
  obtain ⟨b, off, e, hb, hc⟩ := h i u hi
  exact ⟨b, off, e, Nat.lt_of_lt_of_le hb k.size, (k.cell hb).trans hc⟩
theorem Ls.nil (w : World) (a : Option Addr) : Ls w a [] := by intro j u h; simp at h
theorem Ls.cells {w : World} {a : Addr} {xs : List Value} (h : Ls w (some a) xs) : ∀ j u, xs[j]? = some u → w.cell? (a.add j) = some u := by
  intro j u hj
  obtain ⟨b, off, e, _, hc⟩ := h j u hj
  cases e
  rw [addr_add]; exact hc
theorem Ls.take {w : World} {a : Option Addr} {xs : List Value} (h : Ls w a xs) (n : Nat) : Ls w a (xs.take n) := by
  intro j u hj
  rw [List.getElem?_take] at hj
  split at hj
  · exact h j u hj
  · cases hj
theorem Ls.drop {w : World} {a : Option Addr} {xs : List Value} (h : Ls w a xs) (n : Nat) : Ls w (a.map (·.add n)) (xs.drop n) := by
  intro j u hj
  rw [List.getElem?_drop] at hj
  obtain ⟨b, off, e, hb, hc⟩ := h _ u hj
  refine ⟨b, off + n, ?_, hb, by rw [Nat.add_assoc]; exact hc⟩
  rw [e, Option.map_some, addr_add]
/-- What was just laid. -/
theorem Ls.new (w : World) (xs : Array Value) (t : TypeId) : Ls (w.alloc (.cells xs t)) (some ⟨w.heap.size, 0, none⟩) xs.toList := by
  intro j u hj
  refine ⟨_, _, rfl, by simp, ?_⟩
  rw [Nat.zero_add]
  exact (alloc_new w xs t j u (by rw [← Array.getElem?_toList]; exact hj)).1

/-- A row of structs of k cells. -/
theorem ow_ls {w : World} {base n k : Nat} {e : TypeId} {v : Value} {xs : List Value} (h : w.ownsRow base e k v n xs) : ∃ a cap, v = .slice a n cap ∧ Ls w a xs ∧ n ≤ cap ∧ (a = none → n = 0 ∧ cap = 0) ∧ ∀ p, a = some p → v.ownBlock = some p.block := by
  have h' := h
  rcases h.2 with ⟨rfl, rfl⟩ | ⟨g, cap, cur, rfl, _, hg, hnc, _⟩
  · have : xs = [] := List.length_eq_zero_iff.1 (by rw [h'.1, Nat.zero_mul])
    subst this
    exact ⟨none, 0, rfl, Ls.nil _ _, by omega, fun _ => ⟨rfl, rfl⟩, fun p e => by cases e⟩
  · refine ⟨_, cap, rfl, fun i u hi => ⟨g, 0, rfl, ?_, ?_⟩, hnc, fun h => (by cases h), fun p e => (by cases e; rfl)⟩
    · exact (Array.getElem?_eq_some_iff.1 hg).1
    · have hlt : i < xs.length := (List.getElem?_eq_some_iff.1 hi).1
      rw [Nat.zero_add, h'.cellAt i (by rw [← h'.1]; exact hlt), hi]
theorem ow_blk {w : World} {base n k : Nat} {e : TypeId} {v : Value} {xs : List Value} (h : w.ownsRow base e k v n xs) : ∀ j, v.ownBlock = some j → base ≤ j ∧ j < w.heap.size := World.ownsRow.lt h
theorem ow_nil (w : World) (base : Nat) (e : TypeId) (k : Nat) : w.ownsRow base e k (.slice none 0 0) 0 [] := World.ownsRow_nil _ _ _ _
theorem ow_new (w : World) (base k : Nat) (e : TypeId) (xs : Array Value) (n : Nat) (hb : base ≤ w.heap.size) (hn : n < 100000) (hl : xs.size = n * k) : (w.alloc (.cells xs e)).ownsRow base e k (.slice (some ⟨w.heap.size, 0, none⟩) n n) n xs.toList :=
  World.ownsRow_lit (e := e) (size := k) (base := base) w xs n hb (by simp only [maxLen]; omega) hl
theorem ow_mono {w : World} {base base' n k : Nat} {e : TypeId} {v : Value} {xs : List Value} (h : w.ownsRow base e k v n xs) (hb : ∀ j, v.ownBlock = some j → base' ≤ j) : w.ownsRow base' e k v n xs := by
  refine ⟨h.1, ?_⟩
  rcases h.2 with hn | ⟨g, cap, cur, rfl, _, rest⟩
  · exact .inl hn
  · exact .inr ⟨g, cap, cur, rfl, hb g rfl, rest⟩

/-- What append makes of a row of its own. -/
theorem append_ow (t ty e : TypeId) (i : TypeInfo) (z : Value) (k bytes : Nat) (ht : Tryd.prog.underlying t = some (.slice e)) (hi : Tryd.prog.info? e = some i) (hz : i.zero = some z) (hsize : i.size = k) (hby : i.bytes = bytes) (hzs : z.cells.size = k) (hk : 0 < k) (hb24 : bytes ≤ 64)
    (w : World) (base : Nat) (v : Value) (n m c : Nat) (xs ys : List Value) (s : Option Addr) (hown : w.ownsRow base e k v n xs) (hs : Ls w s ys) (hm : ys.length = m * k) (h1 : ∀ u ∈ ys, u.oneCell' = true) (hn : n + m < 100000) (hnone : s = none → m = 0 ∧ c = 0) (hb : base ≤ w.heap.size) :
    ∃ v' W, (Builtin.append_ #[t, t] ty #[v, .slice s m c]).run Tryd.prog w = .ok v' W ∧ W.ownsRow base e k v' (n + m) (xs ++ ys) ∧ w.grownBy W v.ownBlock ∧ (v'.ownBlock = v.ownBlock ∨ ∃ g, v'.ownBlock = some g ∧ w.heap.size ≤ g) := by
  cases s with
  | none =>
    obtain ⟨rfl, rfl⟩ := hnone rfl
    have : ys = [] := List.length_eq_zero_iff.1 (by rw [hm, Nat.zero_mul])
    subst this
    refine ⟨v, w, run_append_owned_none w base t ty e i k ht hi v n _ hown, ?_, ⟨rfl, rfl, rfl, Nat.le_refl _, fun _ _ _ => rfl⟩, .inl rfl⟩
    rw [List.append_nil]
    exact hown
  | some a =>
    have hc := hs.cells
    have hmul : (n + m) * bytes ≤ 140737488355328 := by
      have := Nat.mul_le_mul (Nat.le_of_lt hn) hb24
      omega
    obtain ⟨v', W, hr, h2, h3, h4⟩ := run_append_own w base t ty e i z k bytes ht hi hz hsize hby hzs hk v n _ hown a m c ys hm hc h1 (by simp only [maxLen]; omega) hmul hb
    refine ⟨v', W, hr, h2, h3, ?_⟩
    rcases hown.2 with ⟨rfl, rfl⟩ | ⟨g, cap, cur, rfl, hbg, hg, hnc, hcm, hcs, htake⟩
    · obtain ⟨v2, W2, hr2, k2, _, _⟩ := run_append_own w w.heap.size t ty e i z k bytes ht hi hz hsize hby hzs hk (.slice none 0 0) 0 [] (World.ownsRow_nil _ _ _ _) a m c ys hm hc h1 (by simp only [maxLen]; omega) (by simpa using hmul) (Nat.le_refl _)
      rw [hr] at hr2
      cases hr2
      cases hv : v'.ownBlock with
      | none => exact .inl rfl
      | some g => exact .inr ⟨g, rfl, (World.ownsRow.lt k2 g hv).1⟩
    · by_cases hroom : n + m ≤ cap
      · obtain ⟨W2, hr2, _⟩ := run_append_fits w base t ty e i k ht hi hsize g n cap _ hown a m c ys hm hc h1 hroom
        rw [hr] at hr2
        cases hr2
        exact .inl rfl
      · have hr2 := run_append_grow (P := Tryd.prog) w t ty e i z ht hi hz ⟨g, 0, none⟩ n cap xs (by rw [hown.1, hsize]) (World.ownsRow.cells hown rfl) a m c ys (by rw [hm, hsize]) hc (by omega) (by omega) (growslice_fits (by omega) (by rw [hby]; exact hmul))
        rw [hr] at hr2
        cases hr2
        exact .inr ⟨_, rfl, Nat.le_refl _⟩

end Go.Proofs.YtkclkhfcmjhogaaDoor
