/- What an expression is made of: levelOf, isNode, takes. -/
import Derived.Test.YtkclkhfcmjhogaaDoorT3
import Derived.Test.YtkclkhfcmjhogaaDoorC4
namespace Go.Proofs.YtkclkhfcmjhogaaDoor
open Go.RowKit
set_option linter.unusedVariables false

theorem svz : sv (fun _ => false) = .agg #[.int .u64 0, .int .u64 0, .int .u64 0, .int .u64 0] := by rw [sv_cells, limb_none, limb_none, limb_none, limb_none]; rfl
theorem int_nat (n m : Nat) : decide (n = m) = ((n : Int) == (m : Int)) := by
  rw [show ((n : Int) == (m : Int)) = decide ((n : Int) = (m : Int)) from rfl]
  exact decide_eq_decide.2 (by omega)
theorem beq_no {a b : Int} (h : a ≠ b) : (a == b) = false := by simp [h]
set_option maxHeartbeats 400000 in
theorem level_any (k : Int) (w : World) : Calls Tryd.prog 51 #[.int .i64 k] w fun e w' => e = .returned (.int .i64 (lvl k)) ∧ w' = w := by
  by_cases h3 : k = 3
  · subst h3
    go_enter Tryd.func51, Tryd.ntmps51
    go_wp2_with fail
    go_ret
    exact ⟨rfl, rfl⟩
  by_cases h2 : k = 2
  · subst h2
    go_enter Tryd.func51, Tryd.ntmps51
    go_wp2_with fail
    go_ret
    exact ⟨rfl, rfl⟩
  by_cases h4 : k = 4
  · subst h4
    go_enter Tryd.func51, Tryd.ntmps51
    go_wp2_with fail
    go_ret
    exact ⟨rfl, rfl⟩
  by_cases h5 : k = 5
  · subst h5
    go_enter Tryd.func51, Tryd.ntmps51
    go_wp2_with fail
    go_ret
    exact ⟨rfl, rfl⟩
  by_cases h6 : k = 6
  · subst h6
    go_enter Tryd.func51, Tryd.ntmps51
    go_wp2_with fail
    go_ret
    exact ⟨rfl, rfl⟩
  by_cases h1 : k = 1
  · subst h1
    go_enter Tryd.func51, Tryd.ntmps51
    go_wp2_with fail
    go_ret
    exact ⟨rfl, rfl⟩
  have e : lvl k = 0 := by unfold lvl; rw [if_neg h3, if_neg h2, if_neg (by omega), if_neg h1]
  rw [e]
  have e1 := beq_no h1
  have e2 := beq_no h2
  have e3 := beq_no h3
  have e4 := beq_no h4
  have e5 := beq_no h5
  have e6 := beq_no h6
  go_enter Tryd.func51, Tryd.ntmps51
  go_wp2_with fail
  go_ret
  exact ⟨rfl, rfl⟩

set_option maxHeartbeats 400000 in
theorem isNode_any (k : Int) (p : Nat → Bool) (a : Option Addr) (n c : Nat) (w : World) : Calls Tryd.prog 50 #[xv k p a n c] w fun e w' => e = .returned (.bool (node k p n)) ∧ Hid (Qt w w') := by
  have hq := fun W => neq_run p (fun _ => false) W
  rw [same_none, svz, sv_cells] at hq
  have hl := fun W => level_any k W
  unfold xv
  generalize limb p 0 = x0 at *
  generalize limb p 1 = x1 at *
  generalize limb p 2 = x2 at *
  generalize limb p 3 = x3 at *
  unfold node
  generalize any p = s at *
  by_cases h3 : k = 3 ∨ k = 2
  · rw [if_pos h3]
    have e : lvl k = 1 ∨ lvl k = 2 := by rcases h3 with rfl | rfl <;> decide
    generalize lvl k = L at *
    clear h3
    rcases e with rfl | rfl
    · cases s
      · go_enter Tryd.func50, Tryd.ntmps50
        go_wp2_with fail
        refine (hl _).mono ?_
        rintro e w1 ⟨rfl, rfl⟩
        go_wp2_with fail
        go_ret
        exact ⟨by simp; omega, (Qt.refl w).alloc _⟩
      · go_enter Tryd.func50, Tryd.ntmps50
        go_wp2_with fail
        refine (hl _).mono ?_
        rintro e w1 ⟨rfl, rfl⟩
        go_wp2_with fail
        go_ret
        exact ⟨rfl, (Qt.refl w).alloc _⟩
    · cases s
      · go_enter Tryd.func50, Tryd.ntmps50
        go_wp2_with fail
        refine (hl _).mono ?_
        rintro e w1 ⟨rfl, rfl⟩
        go_wp2_with fail
        go_ret
        exact ⟨by simp; omega, (Qt.refl w).alloc _⟩
      · go_enter Tryd.func50, Tryd.ntmps50
        go_wp2_with fail
        refine (hl _).mono ?_
        rintro e w1 ⟨rfl, rfl⟩
        go_wp2_with fail
        go_ret
        exact ⟨rfl, (Qt.refl w).alloc _⟩
  rw [if_neg h3]
  by_cases h4 : k = 4 ∨ k = 5 ∨ k = 6
  · rw [if_pos h4]
    have e : lvl k = 3 := by rcases h4 with rfl | rfl | rfl <;> decide
    rw [e] at hl
    clear h3 h4 e
    cases s
    · go_enter Tryd.func50, Tryd.ntmps50
      go_wp2_with fail
      refine (hl _).mono ?_
      rintro e w1 ⟨rfl, rfl⟩
      go_wp2_with fail
      go_ret
      exact ⟨by rw [int_nat n 1]; rfl, (Qt.refl w).alloc _⟩
    · go_enter Tryd.func50, Tryd.ntmps50
      go_wp2_with fail
      refine (hl _).mono ?_
      rintro e w1 ⟨rfl, rfl⟩
      go_wp2_with fail
      go_ret
      exact ⟨rfl, (Qt.refl w).alloc _⟩
  rw [if_neg h4]
  by_cases h1 : k = 1
  · rw [if_pos h1]
    have e : lvl k = 4 := by rw [h1]; decide
    rw [e] at hl
    clear h3 h4 h1 e
    cases s
    · go_enter Tryd.func50, Tryd.ntmps50
      go_wp2_with fail
      refine (hl _).mono ?_
      rintro e w1 ⟨rfl, rfl⟩
      go_wp2_with fail
      go_ret
      exact ⟨rfl, (Qt.refl w).alloc _⟩
    · go_enter Tryd.func50, Tryd.ntmps50
      go_wp2_with fail
      refine (hl _).mono ?_
      rintro e w1 ⟨rfl, rfl⟩
      go_wp2_with fail
      go_ret
      exact ⟨by rw [int_nat n 0]; rfl, (Qt.refl w).alloc _⟩
  rw [if_neg h1]
  have e : lvl k = 0 := by unfold lvl; rw [if_neg (by omega), if_neg (by omega), if_neg h4, if_neg h1]
  rw [e] at hl
  clear h3 h4 h1 e
  cases s
  · go_enter Tryd.func50, Tryd.ntmps50
    go_wp2_with fail
    refine (hl _).mono ?_
    rintro e w1 ⟨rfl, rfl⟩
    go_wp2_with fail
    go_ret
    exact ⟨rfl, (Qt.refl w).alloc _⟩
  · go_enter Tryd.func50, Tryd.ntmps50
    go_wp2_with fail
    refine (hl _).mono ?_
    rintro e w1 ⟨rfl, rfl⟩
    go_wp2_with fail
    go_ret
    exact ⟨rfl, (Qt.refl w).alloc _⟩

end Go.Proofs.YtkclkhfcmjhogaaDoor
