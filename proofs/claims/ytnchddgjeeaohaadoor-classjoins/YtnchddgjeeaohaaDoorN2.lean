/- Every set has its runs; what is shown of it. -/
import Derived.Test.YtnchddgjeeaohaaDoorR11
import Derived.Test.YtnchddgjeeaohaaDoorG1
namespace Go.Proofs.YtnchddgjeeaohaaDoor
open Go.RowKit
set_option linter.unusedVariables false

theorem rp_ex (p : Nat → Bool) (i : Nat) : ∀ (d k : Nat), (upl p 256).length - k ≤ d → Rp p i k → ∃ k, Rp p i k ∧ (k + 1 < (upl p 256).length → ub p (k + 1) ≠ ub p k + 1)
  | 0, k, h, r => by have := r.lt; omega
  | d + 1, k, h, r => by
    by_cases g : k + 1 < (upl p 256).length ∧ ub p (k + 1) = ub p k + 1
    · exact rp_ex p i d (k + 1) (by omega) (r.next g.1 g.2)
    · exact ⟨k, r, fun h1 h2 => g ⟨h1, h2⟩⟩
theorem up_ex (p : Nat → Bool) : ∀ (d i m : Nat) (R : List (Nat × Nat)), (upl p 256).length - i ≤ d → Up p i m R → ∃ R, Runs p 0 R
  | 0, i, m, R, h, u => ⟨R, u.end_ (by have := upl_mono p u.le; have := u.len; omega)⟩
  | d + 1, i, m, R, h, u => by
    by_cases g : i < (upl p 256).length
    · obtain ⟨k, r, e⟩ := rp_ex p i _ i (Nat.le_refl _) (Rp.start g)
      exact up_ex p d (k + 1) _ _ (by have := r.le; omega) (r.stop e u)
    · exact ⟨R, u.end_ (by have := upl_mono p u.le; have := u.len; omega)⟩
theorem runs_ex (p : Nat → Bool) : ∃ R, Runs p 0 R := up_ex p _ 0 0 [] (Nat.le_refl _) (Up.zero p)
theorem rshow_of {p : Nat → Bool} {R : List (Nat × Nat)} (h : Runs p 0 R) (w : World) : Calls Tryd.prog 25 #[.agg #[.int .u64 (limb p 0), .int .u64 (limb p 1), .int .u64 (limb p 2), .int .u64 (limb p 3)]] w fun e w' => e = .returned (.string (str (shw R))) ∧ Hid (Qt w w') := by
  refine (rshow_any p w).mono ?_
  rintro e w' ⟨R', h1, h2, h3⟩
  rw [Runs.one h1 h] at h2
  exact ⟨h2, h3⟩
/-- The text of a set. -/
theorem show_text (p : Nat → Bool) : ∃ T : ByteArray, (∀ w, Hid (Tab w) → Calls Tryd.prog 24 #[.agg #[.int .u64 (limb p 0), .int .u64 (limb p 1), .int .u64 (limb p 2), .int .u64 (limb p 3)]] w fun e w' => e = .returned (.string T) ∧ Hid (Qt w w')) ∧ ∀ w, Calls Tryd.prog 25 #[.agg #[.int .u64 (limb p 0), .int .u64 (limb p 1), .int .u64 (limb p 2), .int .u64 (limb p 3)]] w fun e w' => e = .returned (.string T) ∧ Hid (Qt w w') := by
  obtain ⟨R, hR⟩ := runs_ex p
  refine ⟨str (shw R), fun w hT => ?_, fun w => rshow_of hR w⟩
  have := show_of hR w hT
  rw [sv_cells] at this
  exact this
/-- Least's answer. -/
def lst (p : Nat → Bool) : Nat := (upl p 256).headD 0
end Go.Proofs.YtnchddgjeeaohaaDoor
