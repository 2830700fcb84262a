/- Keys that are spoilt. -/
import Derived.Test.YtaiengohfgbfhaaD1
import Derived.Test.YtaiengohfgbfhaaS0
namespace Go.Proofs.Ytaiengohfgbfhaa
open Go.RowKit

def Hh (f : Nat → Int) : Nat → Value := fun i => .int .u16 (f i)
theorem u16_wf {x : Int} (h : (Lit.int .u16 x).wf = true) : 0 ≤ x ∧ x ≤ 65535 := by
  simpa [Lit.wf, IntKind.min, IntKind.max, IntKind.signed, IntKind.bits] using h
theorem Own.set {w : World} {base g n c : Nat} {e : TypeId} {V : Nat → Value} (h : Own w base e (.slice (some ⟨g, 0, none⟩) n c) n V) (i : Nat) (u : Value) : Own (w.setCell ⟨g, i, none⟩ u) base e (.slice (some ⟨g, 0, none⟩) n c) n (fun j => if j = i then u else V j) := by
  refine Own.of (World.ownsRow.stored h i u).1 ?_
  intro j hj
  by_cases e : j = i
  · subst e
    rw [World.cell?_setCell_same _ _ _ (h.at hj).1]
    simp
  · rw [World.cell?_setCell_other _ _ _ _ (fun h => e (by injection h with _ h2; exact h2.symm)), (h.at hj).1]
    simp [e]

/-- A row of its own, whatever stands in it. -/
def Some (w : World) (base : Nat) (a : Option Addr) (n c : Nat) : Prop := ∃ V, Own w base 3 (.slice a n c) n V
theorem Some.at {w : World} {base n c t : Nat} {a : Option Addr} (h : Some w base a n c) (ht : t < n) : ∃ g v, a = some ⟨g, 0, none⟩ ∧ w.cell? ⟨g, t, none⟩ = some v ∧ w.frozen? ⟨g, t, none⟩ = false ∧ base ≤ g ∧ ∀ u, Some (w.setCell ⟨g, t, none⟩ u) base a n c := by
  obtain ⟨V, h⟩ := h
  rcases h.slice with ⟨_, e⟩ | ⟨g, c', e, _⟩
  · omega
  · cases e
    exact ⟨g, V t, rfl, (h.at ht).1, (h.at ht).2, (h.blk g rfl).1, fun u => ⟨_, h.set t u⟩⟩

end Go.Proofs.Ytaiengohfgbfhaa
