/- Are two sets the same? -/
import Derived.Test.YtkclkhfcmjhogaaDoorMgA
import Derived.ChangeKeysEq
namespace Go.Proofs.YtkclkhfcmjhogaaDoor
open Go.RowKit
set_option linter.unusedVariables false

theorem info23 : Tryd.prog.info? 23 = some Tryd.t23 := by kernel_rfl
theorem u64_eq (d : Nat) (a b : Int) (W : World) : (Op.equalIn (d + 1) 23 (.int .u64 a) (.int .u64 b)).run Tryd.prog W = .ok (a == b) W := by
  simp [Op.equalIn, run_underlying Tryd.underlying23]
theorem agg_eq (a b c d a' b' c' d' : Int) (W : World) : (Op.equal 25 (.agg #[.int .u64 a, .int .u64 b, .int .u64 c, .int .u64 d]) (.agg #[.int .u64 a', .int .u64 b', .int .u64 c', .int .u64 d'])).run Tryd.prog W = .ok (a == a' && b == b' && c == c' && d == d') W := by
  have e0 : Op.equal 25 (.agg #[.int .u64 a, .int .u64 b, .int .u64 c, .int .u64 d]) (.agg #[.int .u64 a', .int .u64 b', .int .u64 c', .int .u64 d']) = Op.equalIn (9999 + 1) 25 (.agg #[.int .u64 a, .int .u64 b, .int .u64 c, .int .u64 d]) (.agg #[.int .u64 a', .int .u64 b', .int .u64 c', .int .u64 d']) := rfl
  have hp : Tryd.prog.plainKey 23 = true := by kernel_rfl
  have hc : Tryd.prog.cellsOf 23 = 1 := by kernel_rfl
  have p : ∀ (x y z u : Int), (part 23 #[.int .u64 x, .int .u64 y, .int .u64 z, .int .u64 u] 0).run Tryd.prog W = .ok (.int .u64 x) W ∧ (part 23 #[.int .u64 x, .int .u64 y, .int .u64 z, .int .u64 u] 1).run Tryd.prog W = .ok (.int .u64 y) W ∧ (part 23 #[.int .u64 x, .int .u64 y, .int .u64 z, .int .u64 u] 2).run Tryd.prog W = .ok (.int .u64 z) W ∧ (part 23 #[.int .u64 x, .int .u64 y, .int .u64 z, .int .u64 u] 3).run Tryd.prog W = .ok (.int .u64 u) W :=
    fun x y z u => ⟨run_part_plain W hp rfl, run_part_plain W hp rfl, run_part_plain W hp rfl, run_part_plain W hp rfl⟩
  have q : ∀ x y : Int, (Op.equalIn 9999 23 (.int .u64 x) (.int .u64 y)).run Tryd.prog W = .ok (x == y) W := fun x y => u64_eq 9998 x y W
  have r : List.range 4 = [0, 1, 2, 3] := rfl
  rw [e0, run_equalIn_array W 9999 _ _ Tryd.underlying25 info23, hc, r]
  obtain ⟨p0, p1, p2, p3⟩ := p a b c d
  obtain ⟨r0, r1, r2, r3⟩ := p a' b' c' d'
  unfold Op.eqItems
  simp only [Sem.run_bind, Nat.zero_mul, p0, r0, q, Result.andThen_ok]
  cases h0 : a == a'
  · simp
  simp only [Bool.not_true, Bool.false_eq_true, if_false]
  unfold Op.eqItems
  simp only [Sem.run_bind, Nat.one_mul, p1, r1, q, Result.andThen_ok]
  cases h1 : b == b'
  · simp
  simp only [Bool.not_true, Bool.false_eq_true, if_false]
  unfold Op.eqItems
  simp only [Sem.run_bind, Nat.mul_one, p2, r2, q, Result.andThen_ok]
  cases h2 : c == c'
  · simp
  simp only [Bool.not_true, Bool.false_eq_true, if_false]
  unfold Op.eqItems
  simp only [Sem.run_bind, Nat.mul_one, p3, r3, q, Result.andThen_ok]
  cases h3 : d == d'
  · simp
  simp only [Bool.not_true, Bool.false_eq_true, if_false]
  rfl

/-- Are two sets the same? -/
def same (p q : Nat → Bool) : Bool := (List.range 256).all (fun b => p b == q b)
theorem same_like {p q : Nat → Bool} : same p q = true ↔ Like p q := by
  unfold same Like
  rw [List.all_eq_true]
  simp
theorem same_limbs (p q : Nat → Bool) : ((limb p 0 : Int) == (limb q 0 : Int) && (limb p 1 : Int) == (limb q 1 : Int) && (limb p 2 : Int) == (limb q 2 : Int) && (limb p 3 : Int) == (limb q 3 : Int)) = same p q := by
  rw [Bool.eq_iff_iff, same_like]
  simp only [Bool.and_eq_true, beq_iff_eq, Int.natCast_inj]
  constructor
  · rintro ⟨⟨⟨h0, h1⟩, h2⟩, h3⟩
    refine like_limb (fun i hi => ?_)
    rcases (show i = 0 ∨ i = 1 ∨ i = 2 ∨ i = 3 from by omega) with rfl | rfl | rfl | rfl
    · exact h0
    · exact h1
    · exact h2
    · exact h3
  · intro h
    exact ⟨⟨⟨limb_like h (by decide), limb_like h (by decide)⟩, limb_like h (by decide)⟩, limb_like h (by decide)⟩
theorem eql_run (p q : Nat → Bool) (W : World) : (binOp .eql 25 (sv p) (sv q)).run Tryd.prog W = .ok (.bool (same p q)) W := by
  rw [← same_limbs]
  unfold sv
  simp [binOp, go_sem, agg_eq]
theorem neq_run (p q : Nat → Bool) (W : World) : (binOp .neq 25 (sv p) (sv q)).run Tryd.prog W = .ok (.bool (!same p q)) W := by
  rw [← same_limbs]
  unfold sv
  simp [binOp, go_sem, agg_eq]
theorem same_none (p : Nat → Bool) : (!same p (fun _ => false)) = any p := by
  rw [Bool.eq_iff_iff, any_true]
  simp [same]
end Go.Proofs.YtkclkhfcmjhogaaDoor
