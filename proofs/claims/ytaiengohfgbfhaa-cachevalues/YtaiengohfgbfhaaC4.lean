/- Put of pairs where there is room. -/
import Derived.Test.YtaiengohfgbfhaaV2P
import Derived.Test.YtaiengohfgbfhaaC2
import Derived.ChangeKeysEq
namespace Go.Proofs.Ytaiengohfgbfhaa
open Go.RowKit

theorem pput {w : World} {c : Nat} {mo : Int} {S : List Kw} {X : Nat → Prop} (h : Ch w c 3 mo S X) {k : Int} (hk : fits k) (hX : ∀ j, X j → j < w.heap.size) (hl : S.length < 80000) (hm : (S.length : Int) + 1 ≤ max mo 1) (a b : Int) :
    Calls Try.prog 25 #[.pointer (some ⟨c, 0, none⟩), .int .i64 k, .agg #[.int .i64 a, .int .i64 b]] w fun e w' => e = .returned (.tuple #[.int .i64 0, .bool false]) ∧ Hid (Ch w' c 3 mo ((k, pv a b) :: sdel S k) X ∧ Mv (fun j => ¬ X j) w w') := by
  cases hf : sfnd S k with
  | none =>
    rw [sdel_none hf]
    exact pput_room h hk hf hX (by omega) hm a b
  | some p => exact pput_has h hk hf a b

theorem int_eq (d : Nat) (a : Int) (W : World) : (Op.equalIn (d + 1) 3 (.int .i64 a) (.int .i64 a)).run Try.prog W = .ok true W := by
  simp [Op.equalIn, run_underlying Try.underlying3]

theorem pair_eq (a b : Int) (W : World) : (Op.equal 53 (.agg #[.int .i64 a, .int .i64 b]) (.agg #[.int .i64 a, .int .i64 b])).run Try.prog W = .ok true W := by
  have e0 : Op.equal 53 (.agg #[.int .i64 a, .int .i64 b]) (.agg #[.int .i64 a, .int .i64 b]) = Op.equalIn (9999 + 1) 53 (.agg #[.int .i64 a, .int .i64 b]) (.agg #[.int .i64 a, .int .i64 b]) := rfl
  have hp : Try.prog.plainKey 3 = true := by kernel_rfl
  have hc : Try.prog.cellsOf 3 = 1 := by kernel_rfl
  have p0 : (part 3 #[.int .i64 a, .int .i64 b] 0).run Try.prog W = .ok (.int .i64 a) W := run_part_plain W hp rfl
  have p1 : (part 3 #[.int .i64 a, .int .i64 b] 1).run Try.prog W = .ok (.int .i64 b) W := run_part_plain W hp rfl
  have q : ∀ x : Int, (Op.equalIn 9999 3 (.int .i64 x) (.int .i64 x)).run Try.prog W = .ok true W := fun x => int_eq 9998 x W
  have r : List.range 2 = [0, 1] := rfl
  rw [e0, run_equalIn_array W 9999 _ _ Try.underlying53 info3, hc, r]
  unfold Op.eqItems
  simp only [Sem.run_bind, Nat.zero_mul, p0, q, Result.andThen_ok, Bool.not_true, Bool.false_eq_true, if_false]
  unfold Op.eqItems
  simp only [Sem.run_bind, Nat.one_mul, p1, q, Result.andThen_ok, Bool.not_true, Bool.false_eq_true, if_false]
  rfl

theorem pair_ne (a b : Int) (W : World) : (binOp .neq 53 (.agg #[.int .i64 a, .int .i64 b]) (.agg #[.int .i64 a, .int .i64 b])).run Try.prog W = .ok (.bool false) W := by
  simp [binOp, go_sem, pair_eq]

end Go.Proofs.Ytaiengohfgbfhaa
