/- A map of keys to blocks, and what a link is. -/
import Derived.Test.YtjlnmkoggobbgaaB1
import Derived.Maps.OwnSet
namespace Go.Proofs.Ytjlnmkoggobbgaa
open Go.RowKit

/-- A pointer to a block's first cell, or none. -/
def pt : Option Nat → Value
  | none => .pointer none
  | some b => .pointer (some ⟨b, 0, none⟩)

/-- How a pointer to a node reads. -/
def nodeElem : Value → Option (DataW Unit × List MemPlace)
  | .pointer none => some (.nil, [])
  | .pointer (some ⟨b, 0, none⟩) => some (.lit (.int .i64 b), [])
  | _ => none

def dat : Option Nat → DataW Unit
  | none => .nil
  | some b => .lit (.int .i64 b)

theorem nodeElem_pt (x : Option Nat) : nodeElem (pt x) = some (dat x, []) := by cases x <;> rfl

theorem nodeElem_inv {v : Value} {x : Option Nat} {ps : List MemPlace} (h : nodeElem v = some (dat x, ps)) : v = pt x := by
  unfold nodeElem at h
  split at h
  · cases x with
    | none => rfl
    | some b => simp [dat] at h
  · rename_i b
    cases x with
    | none => simp [dat] at h
    | some b' =>
      simp [dat] at h
      obtain ⟨h, _⟩ := h
      obtain rfl : b = b' := by omega
      rfl
  · cases h

abbrev kl (k : Int) : Lit := .int .i64 k
def fits (k : Int) : Prop := (Lit.int .i64 k).wf = true

theorem keyed3 : Maps.Keyed Try.prog 3 := Maps.int_keyed Try.underlying3

/-- Block m of w is a map of n keys; f tells whose block it has. -/
def Mp (w : World) (m n : Nat) (f : Int → Option Nat) : Prop :=
  ∃ D : DataW Unit, w.ownsMap Try.prog 3 nodeElem m n D ∧ Maps.size D = n ∧ ∀ k, fits k → D.atKey (kl k) .nil = dat (f k) ∧ Maps.has D (kl k) = (f k).isSome

theorem ownsMap_tight {w : World} {m n : Nat} {D : DataW Unit} (h : w.ownsMap Try.prog 3 nodeElem m n D) : w.ownsMap Try.prog 3 nodeElem m (Maps.size D) D := by
  obtain ⟨es, clock, hb, F, _, rfl⟩ := h
  refine ⟨es, clock, hb, F, ?_, rfl⟩
  simp [Maps.size, length_sorted]

theorem kl_ne {k k' : Int} (h : k' ≠ k) : kl k' ≠ kl k := by
  intro e
  injection e with _ e2
  exact h e2

theorem keyOf3 {k : Int} (h : fits k) : keyOf Try.prog 3 (.int .i64 k) = some (kl k) := Maps.keyOf_int_mk Try.underlying3 h

theorem Mp.mv {S : Nat → Prop} {w w' : World} {m n : Nat} {f : Int → Option Nat} (h : Mp w m n f) (hm : Mv S w w') (hs : ¬ S m) : Mp w' m n f := by
  obtain ⟨D, ⟨es, clock, hb, F, hs', hD⟩, h2, h3⟩ := h
  refine ⟨D, ⟨es, clock, ?_, F, hs', hD⟩, h2, h3⟩
  rw [hm.block m (Array.getElem?_eq_some_iff.1 hb).1 hs]; exact hb
theorem Mp.lt {w : World} {m n : Nat} {f : Int → Option Nat} (h : Mp w m n f) : m < w.heap.size := by
  obtain ⟨D, h1, _⟩ := h
  exact h1.lt
theorem Mp.noCell {w : World} {m n : Nat} {f : Int → Option Nat} (h : Mp w m n f) {p : Addr} {v : Value} (hc : w.cell? p = some v) : p.block ≠ m := by
  obtain ⟨D, ⟨es, clock, hb, _⟩, _⟩ := h
  intro e
  unfold World.cell? at hc
  rw [e, hb] at hc
  simp at hc
theorem Mp.congr {w : World} {m n : Nat} {f g : Int → Option Nat} (h : Mp w m n f) (e : ∀ k, f k = g k) : Mp w m n g := by
  obtain rfl : f = g := funext e
  exact h

theorem Mp.made (w : World) : Mp (w.alloc (.map #[] 0)) w.heap.size 0 (fun _ => none) :=
  ⟨.map [], World.ownsMap_made _ _ _ _, rfl, fun _ _ => ⟨rfl, rfl⟩⟩

theorem Mp.look {w : World} {m n : Nat} {f : Int → Option Nat} (h : Mp w m n f) (t e : TypeId) (ht : Try.prog.underlying t = some (.map 3 e)) (hz : (zeroValue e).run Try.prog w = .ok (.pointer none) w) {k : Int} (hk : fits k) :
    (Instr.lookup t (.map (some m)) (.int .i64 k) false).run Try.prog w = .ok (pt (f k)) w := by
  obtain ⟨D, h1, h2, h3⟩ := h
  obtain ⟨v, ps, hr, hv⟩ := h1.lookup keyed3 ht hz (zd := .nil) (zp := []) rfl (keyOf3 hk)
  rw [(h3 k hk).1] at hv
  rw [hr, nodeElem_inv hv]

theorem Mp.len {w : World} {m n : Nat} {f : Int → Option Nat} (h : Mp w m n f) (t e ty : TypeId) (ht : Try.prog.underlying t = some (.map 3 e)) :
    (Builtin.len_ #[t] ty #[.map (some m)]).run Try.prog w = .ok (.int .i64 n) w := by
  obtain ⟨D, h1, h2, _⟩ := h
  rw [h1.len ht ty, h2]

theorem isKey (k : Int) : WideAt.IsKeyLit (kl k) := by trivial

theorem Mp.store {w : World} {m n : Nat} {f : Int → Option Nat} (h : Mp w m n f) (t e : TypeId) (ht : Try.prog.underlying t = some (.map 3 e)) {k : Int} (hk : fits k) (hf : f k = none) (hn : n < 100000) (b : Nat) :
    ∃ w', (Instr.mapUpdate t (.map (some m)) (.int .i64 k) (pt (some b))).run Try.prog w = .ok () w' ∧ Mp w' m (n + 1) (fun j => if j = k then some b else f j) ∧ Mv (fun j => j = m) w w' := by
  obtain ⟨D, h1, h2, h3⟩ := h
  obtain ⟨w', hr, h4, h5⟩ := h1.update keyed3 ht (by simp only [maxLen]; omega) (keyOf3 hk) (nodeElem_pt (some b))
  have hh : Maps.has D (kl k) = false := by rw [(h3 k hk).2, hf]; rfl
  have hs : Maps.size (D.put (kl k) (dat (some b))) = n + 1 := by rw [Maps.size_put (h1.tidy keyed3), hh, h2]; rfl
  refine ⟨w', hr, ⟨_, ?_, hs, ?_⟩, (Mv.of_grown h5).mono (fun j _ h => (Option.some.inj h).symm)⟩
  · have := ownsMap_tight h4
    rw [hs] at this
    exact this
  · intro j hj
    dsimp only
    by_cases hjk : j = k
    · subst hjk
      rw [if_pos rfl, Maps.atKey_put_same h1.isMap (isKey _), Maps.has_put_same h1.isMap (isKey _)]
      exact ⟨rfl, rfl⟩
    · rw [if_neg hjk, Maps.atKey_put_other (kl_ne hjk), Maps.has_put_other (kl_ne hjk)]
      exact h3 j hj

theorem Mp.del {w : World} {m n : Nat} {f : Int → Option Nat} (h : Mp w m (n + 1) f) (t e ty : TypeId) (ht : Try.prog.underlying t = some (.map 3 e)) {k : Int} (hk : fits k) (hf : (f k).isSome = true) :
    ∃ w', (Builtin.delete_ #[t, 3] ty #[.map (some m), .int .i64 k]).run Try.prog w = .ok (.tuple #[]) w' ∧ Mp w' m n (fun j => if j = k then none else f j) ∧ Mv (fun j => j = m) w w' := by
  obtain ⟨D, h1, h2, h3⟩ := h
  obtain ⟨w', hr, h4, h5⟩ := h1.drop keyed3 ht (keyOf3 hk) ty
  have hh : Maps.has D (kl k) = true := by rw [(h3 k hk).2, hf]
  have hs : Maps.size (D.del (kl k)) = n := by
    have := Maps.size_del (k := kl k) (h1.tidy keyed3)
    rw [hh, h2, if_pos rfl] at this
    omega
  refine ⟨w', hr, ⟨_, ?_, hs, ?_⟩, (Mv.of_grown h5.grown).mono (fun j _ h => (Option.some.inj h).symm)⟩
  · have := ownsMap_tight h4
    rw [hs] at this
    exact this
  · intro j hj
    dsimp only
    by_cases hjk : j = k
    · subst hjk
      rw [if_pos rfl, Maps.atKey_del_same, Maps.has_del_same]
      exact ⟨rfl, rfl⟩
    · rw [if_neg hjk, Maps.atKey_del_other (kl_ne hjk), Maps.has_del_other (kl_ne hjk)]
      exact h3 j hj

end Go.Proofs.Ytjlnmkoggobbgaa
