/- Every set has its runs; what is shown of it. -/
import Derived.Test.YtkclkhfcmjhogaaDoorN1
import Derived.Test.YtkclkhfcmjhogaaDoorV1
namespace Go.Proofs.YtkclkhfcmjhogaaDoor
open Go.RowKit
set_option linter.unusedVariables false

theorem rp_ex (p : Nat → Bool) (i : Nat) : ∀ (d k : Nat), (upl p 256).length - k ≤ d → Rpu p i k → ∃ k, Rpu p i k ∧ (k + 1 < (upl p 256).length → ub p (k + 1) ≠ ub p k + 1)
  | 0, k, h, r => by have := r.lt; omega
  | d + 1, k, h, r => by
    by_cases g : k + 1 < (upl p 256).length ∧ ub p (k + 1) = ub p k + 1
    · exact rp_ex p i d (k + 1) (by omega) (r.next g.1 g.2)
    · exact ⟨k, r, fun h1 h2 => g ⟨h1, h2⟩⟩
theorem up_ex (p : Nat → Bool) : ∀ (d i m : Nat) (R : List (Nat × Nat)), (upl p 256).length - i ≤ d → Up p i m R → ∃ R, Runs p 0 R
  | 0, i, m, R, h, u => ⟨R, u.end_ (by have := upl_mono p u.le; have := u.len; omega)⟩
  | d + 1, i, m, R, h, u => by
    by_cases g : i < (upl p 256).length
    · obtain ⟨k, r, e⟩ := rp_ex p i _ i (Nat.le_refl _) (Rpu.start g)
      exact up_ex p d (k + 1) _ _ (by have := r.le; omega) (r.stop e u)
    · exact ⟨R, u.end_ (by have := upl_mono p u.le; have := u.len; omega)⟩
theorem runs_ex (p : Nat → Bool) : ∃ R, Runs p 0 R := up_ex p _ 0 0 [] (Nat.le_refl _) (Up.zero p)
/-- There is one that tells how sets are shown. -/
theorem gd_ex : ∃ g : (Nat → Bool) → List Nat, Gd g := by
  have h : ∀ p : Nat → Bool, ∃ l : List Nat, ∃ R, Runs p 0 R ∧ l = shw R := fun p => by
    obtain ⟨R, hR⟩ := runs_ex p
    exact ⟨_, R, hR, rfl⟩
  exact ⟨fun p => Classical.choose (h p), fun p => Classical.choose_spec (h p)⟩
end Go.Proofs.YtkclkhfcmjhogaaDoor
