/- Where a slice that is handed in lies: in the heap, also an empty one. -/
import Derived.Test.YtojbakkbmfgoaaaDoorMsOO
import Derived.Test.YtojbakkbmfgoaaaDoorMg02
import Derived.Test.YtojbakkbmfgoaaaDoorMg10
namespace Go.Proofs.YtojbakkbmfgoaaaDoor
open Go.RowKit
set_option linter.unusedVariables false

theorem far_of {P : Program} {W : World} {base : Nat} {t e : TypeId} {a : Option Addr} {len cap : Nat} (ht : P.underlying t = some (.slice e)) (h : Value.okWide P W .any base t (.slice a len cap)) : ∀ q, a = some q → q.block < W.heap.size := by
  intro q hq
  subst hq
  unfold Value.okWide at h
  rw [ht] at h
  have h2 : Cell.ok P W .any base t (.slice (some q) len cap) := by
    unfold Cell.okWide at h
    rw [ht] at h
    exact h
  unfold Cell.ok at h2
  rw [ht] at h2
  obtain ⟨_, _, _, _, row, cells, hs, _⟩ := h2
  unfold World.shape? at hs
  cases hb : W.heap[q.block]? with
  | none => rw [hb] at hs; cases hs
  | some o => exact (Array.getElem?_eq_some_iff.1 hb).1
/-- Bytes that are handed in, as numbers. -/
theorem bytes_of {W : World} {a : Option Addr} {len : Nat} {f : Nat → Int} (hs : Sl W a len (fun i => .int .u8 (f i))) (ho : ∀ i, (Lit.int .u8 (f i)).wf = true) : ∃ g : Nat → Nat, Sl W a len (Bn g) ∧ ∀ i, g i < 256 := by
  have h0 : ∀ i, 0 ≤ f i ∧ f i < 256 := by
    intro i
    have := ho i
    simp [Lit.wf, IntKind.min, IntKind.max, IntKind.signed, IntKind.bits] at this
    omega
  refine ⟨fun i => (f i).toNat, ?_, fun i => by have := h0 i; show (f i).toNat < 256; omega⟩
  intro i hi
  obtain ⟨b, o, e, hb, hc⟩ := hs i hi
  refine ⟨b, o, e, hb, hc.trans ?_⟩
  have h1 : (((f i).toNat : Nat) : Int) = f i := by have := h0 i; omega
  show some (Value.int .u8 (f i)) = some (Value.int .u8 (((f i).toNat : Nat) : Int))
  rw [h1]
end Go.Proofs.YtojbakkbmfgoaaaDoor
