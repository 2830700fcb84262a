/- The least byte. -/
import Derived.Test.YtojbakkbmfgoaaaDoorMg02
import Derived.Shelf.Spec.TrailingZeros
namespace Go.Proofs.YtojbakkbmfgoaaaDoor
open Go.RowKit
set_option linter.unusedVariables false

set_option maxHeartbeats 1000000 in
theorem tz_core (x k idx : Nat) (w : World) (hx0 : ((x : Int) == 0) = false)
    (key : IntKind.u64.wrap (bits BinOp.and IntKind.u64 (x : Int) (IntKind.u64.wrap (-(x : Int))) * 285870213051353865) / 288230376151711744 = (idx : Int))
    (hi : idx < 64) (hk : k < 64) (hcell : w.cell? ⟨0, idx, none⟩ = some (.int .u8 k)) :
    Calls Tryd.prog 37 #[.int .u64 x] w fun e w' => e = .returned (.int .i64 k) ∧ w' = w := by
  go_enter Tryd.func37, Tryd.ntmps37
  go_wp2_with (simp only [key])
  go_ret
  exact ⟨rfl, rfl⟩

/-- The library's table lies there. -/
abbrev Tab (w : World) : Prop := TabAt 0 Lib.deBruijn64tab w
theorem Tab.mv {S : Nat → Prop} {w w' : World} (h : Tab w) (k : Mv S w w') (hs : ¬ S 0) : Tab w' := fun j hj => k.cell (h j hj) hs
theorem Tab.qt {w w' : World} (h : Tab w) (k : Qt w w') : Tab w' := h.mv k (fun h => h)

theorem tz_any (x : Nat) (hx : x < 18446744073709551616) (hx0 : x ≠ 0) (w : World) (hT : Tab w) :
    ∃ k : Nat, k < 64 ∧ x.testBit k = true ∧ (∀ j, j < k → x.testBit j = false) ∧ Calls Tryd.prog 37 #[.int .u64 x] w fun e w' => e = .returned (.int .i64 (k : Int)) ∧ w' = w := by
  obtain ⟨hlow, hk⟩ := Lib.lowest_bit 64 x hx0 hx
  obtain ⟨hi, htab⟩ := Lib.deBruijn64_at _ hk
  have hcell := hT _ hi
  rw [htab] at hcell
  obtain ⟨m, hm, _⟩ := Lib.ctzFrom_spec 64 x (by omega) hx
  have e : Lib.ctz 64 x = Lib.ctzFrom 64 x := by simp [Lib.ctz, hx0]
  rw [← e] at hm
  refine ⟨Lib.ctz 64 x, hk, ?_, ?_, tz_core x _ _ w (by simp; omega) (tz64_key x _ hx hx0 hlow) hi hk hcell⟩
  · generalize Lib.ctz 64 x = k at hm
    rw [hm, Nat.mul_comm, Nat.testBit_mul_two_pow]
    simp [Nat.testBit_zero]
  · generalize Lib.ctz 64 x = k at hm
    intro j hj
    rw [hm, Nat.mul_comm, Nat.testBit_mul_two_pow]
    simp; omega

end Go.Proofs.YtojbakkbmfgoaaaDoor
