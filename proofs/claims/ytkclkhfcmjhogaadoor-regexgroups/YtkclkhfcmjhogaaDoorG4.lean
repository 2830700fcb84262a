/- A byte as a sign of two digits. -/
import Derived.Test.YtkclkhfcmjhogaaDoorG3
namespace Go.Proofs.YtkclkhfcmjhogaaDoor
open Go.RowKit
set_option linter.unusedVariables false

def hxs (c : Nat) : List Nat := [92, 120, hexd (c / 16), hexd (c % 16)]
theorem hexd_at (k : Nat) (h : k < 16) : (bs ⟨#[48, 49, 50, 51, 52, 53, 54, 55, 56, 57, 97, 98, 99, 100, 101, 102]⟩)[k]'h = hexd k := by
  have hx : ∀ k : Fin 16, (bs ⟨#[48, 49, 50, 51, 52, 53, 54, 55, 56, 57, 97, 98, 99, 100, 101, 102]⟩)[k.val]'k.isLt = hexd k.val := by decide +kernel
  exact hx ⟨k, h⟩
theorem hexd_lt {k : Nat} (h : k < 16) : hexd k < 256 := by unfold hexd; split <;> omega
theorem hxs_lt {c : Nat} (hc : c < 256) : ∀ x ∈ hxs c, x < 256 := by
  intro x hx
  have h1 := hexd_lt (show c / 16 < 16 by omega)
  have h2 := hexd_lt (show c % 16 < 16 by omega)
  simp [hxs] at hx
  omega

end Go.Proofs.YtkclkhfcmjhogaaDoor
