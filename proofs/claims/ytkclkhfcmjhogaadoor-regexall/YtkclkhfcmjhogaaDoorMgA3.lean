/- The least byte. -/
import Derived.Test.YtkclkhfcmjhogaaDoorMgA
import Derived.Shelf.Spec.TrailingZeros
namespace Go.Proofs.YtkclkhfcmjhogaaDoor
open Go.RowKit
set_option linter.unusedVariables false

set_option maxHeartbeats 1000000 in
theorem tz_core (x k idx : Nat) (w : World) (hx0 : ((x : Int) == 0) = false)
    (key : IntKind.u64.wrap (bits BinOp.and IntKind.u64 (x : Int) (IntKind.u64.wrap (-(x : Int))) * 285870213051353865) / 288230376151711744 = (idx : Int))
    (hi : idx < 64) (hk : k < 64) (hcell : w.cell? ⟨0, idx, none⟩ = some (.int .u8 k)) :
    Calls Tryd.prog 97 #[.int .u64 x] w fun e w' => e = .returned (.int .i64 k) ∧ w' = w := by
  go_enter Tryd.func97, Tryd.ntmps97
  go_wp2_with (simp only [key])
  go_ret
  exact ⟨rfl, rfl⟩

/-- The library's table lies there. -/
abbrev Tab (w : World) : Prop := TabAt 0 Lib.deBruijn64tab w
theorem Tab.mv {S : Nat → Prop} {w w' : World} (h : Tab w) (k : Mv S w w') (hs : ¬ S 0) : Tab w' := fun j hj => k.cell (h j hj) hs
theorem Tab.qt {w w' : World} (h : Tab w) (k : Qt w w') : Tab w' := h.mv k (fun h => h)

theorem tz_any (x : Nat) (hx : x < 18446744073709551616) (hx0 : x ≠ 0) (w : World) (hT : Tab w) :
    ∃ k : Nat, k < 64 ∧ x.testBit k = true ∧ (∀ j, j < k → x.testBit j = false) ∧ Calls Tryd.prog 97 #[.int .u64 x] w fun e w' => e = .returned (.int .i64 (k : Int)) ∧ w' = w := by
  obtain ⟨hlow, hk⟩ := Lib.lowest_bit 64 x hx0 hx
  obtain ⟨hi, htab⟩ := Lib.deBruijn64_at _ hk
  have hcell := hT _ hi
  rw [htab] at hcell
  obtain ⟨m, hm, _⟩ := Lib.ctzFrom_spec 64 x (by omega) hx
  have e : Lib.ctz 64 x = Lib.ctzFrom 64 x := by simp [Lib.ctz, hx0]
  rw [← e] at hm
  refine ⟨Lib.ctz 64 x, hk, ?_, ?_, tz_core x _ _ w (by simp; omega) (tz64_key x _ hx hx0 hlow) hi hk hcell⟩
  · generalize Lib.ctz 64 x = k at hm
    rw [hm, Nat.mul_comm, Nat.testBit_mul_two_pow]
    simp [Nat.testBit_zero]
  · generalize Lib.ctz 64 x = k at hm
    intro j hj
    rw [hm, Nat.mul_comm, Nat.testBit_mul_two_pow]
    simp; omega

/-- The least byte of p. -/
def IsL (p : Nat → Bool) (b : Nat) : Prop := b < 256 ∧ p b = true ∧ ∀ c, c < b → p c = false
theorem IsL.one {p : Nat → Bool} {b c : Nat} (h : IsL p b) (k : IsL p c) : b = c := by
  rcases Nat.lt_trichotomy b c with g | g | g
  · have := k.2.2 b g; rw [h.2.1] at this; cases this
  · exact g
  · have := h.2.2 c g; rw [k.2.1] at this; cases this
theorem isL_of_any {p : Nat → Bool} (h : any p = true) : ∃ b, IsL p b := by
  obtain ⟨b, hb, hp⟩ := any_true.1 h
  induction b using Nat.strongRecOn with
  | _ b ih =>
    by_cases g : ∃ c, c < b ∧ p c = true
    · obtain ⟨c, hc, hpc⟩ := g
      exact ih c hc (by omega) hpc
    · exact ⟨b, hb, hp, fun c hc => by
        cases e : p c with
        | false => rfl
        | true => exact absurd ⟨c, hc, e⟩ g⟩

theorem or_place (q k : Nat) (hq : q < 4) (hk : k < 64) : bits .or .i64 ((64 * q : Nat) : Int) (k : Int) = ((64 * q + k : Nat) : Int) := by
  have h : ∀ q : Fin 4, ∀ k : Fin 64, bits .or .i64 ((64 * q.val : Nat) : Int) (k.val : Int) = ((64 * q.val + k.val : Nat) : Int) := by decide +kernel
  exact h ⟨q, hq⟩ ⟨k, hk⟩

theorem idx_0 (a b c d : Value) (w : World) : (Instr.index 25 (.agg #[a, b, c, d]) (.int .i64 0)).run Tryd.prog w = .ok a w := by kernel_rfl
theorem idx_1 (a b c d : Value) (w : World) : (Instr.index 25 (.agg #[a, b, c, d]) (.int .i64 1)).run Tryd.prog w = .ok b w := by kernel_rfl
theorem idx_2 (a b c d : Value) (w : World) : (Instr.index 25 (.agg #[a, b, c, d]) (.int .i64 2)).run Tryd.prog w = .ok c w := by kernel_rfl
theorem idx_3 (a b c d : Value) (w : World) : (Instr.index 25 (.agg #[a, b, c, d]) (.int .i64 3)).run Tryd.prog w = .ok d w := by kernel_rfl

set_option maxHeartbeats 1000000 in
theorem least_none (p : Nat → Bool) (h : any p = false) (w : World) : Calls Tryd.prog 89 #[sv p] w fun e w' => e = .returned (.tuple #[.int .u8 0, .bool false]) ∧ Hid (Qt w w') := by
  have z : ∀ i, i < 4 → limb p i = 0 := fun i hi => (limb_zero p i).2 (fun k hk => any_false.1 h _ (by omega))
  unfold sv
  rw [z 0 (by omega), z 1 (by omega), z 2 (by omega), z 3 (by omega)]
  clear z h
  have i0 := idx_0
  have i1 := idx_1
  have i2 := idx_2
  have i3 := idx_3
  go_enter Tryd.func89, Tryd.ntmps89
  go_wp2
  refine wp_loop_rounds 5 ?_
  rw [rounds_succ]; go_wp2
  rw [rounds_succ]; go_wp2
  rw [rounds_succ]; go_wp2
  rw [rounds_succ]; go_wp2
  rw [rounds_succ]; go_wp2
  go_ret2
  exact ⟨by simp, (Qt.refl w).alloc _⟩

set_option maxHeartbeats 1000000 in
theorem least_0 (x0 x1 x2 x3 k : Nat) (w : World) (h0 : ((x0 : Int) == 0) = false) (hk : k < 64) (ht : ∀ w', Hid (Qt w w') → Calls Tryd.prog 97 #[.int .u64 x0] w' fun e w'' => e = .returned (.int .i64 (k : Int)) ∧ w'' = w')
    (hor : bits .or .i64 0 (k : Int) = ((0 + k : Nat) : Int)) :
    Calls Tryd.prog 89 #[.agg #[.int .u64 (x0 : Nat), .int .u64 (x1 : Nat), .int .u64 (x2 : Nat), .int .u64 (x3 : Nat)]] w fun e w' => e = .returned (.tuple #[.int .u8 ((0 + k : Nat) : Int), .bool true]) ∧ Hid (Qt w w') := by
  have HT : Hid _ := ht
  clear ht
  have i0 := idx_0
  have i1 := idx_1
  have i2 := idx_2
  have i3 := idx_3
  go_enter Tryd.func89, Tryd.ntmps89
  go_wp2
  refine wp_loop_rounds 5 ?_
  rw [rounds_succ]
  go_wp2_with (go_at_call 97; refine (HT.out _ ((Qt.refl w).alloc _)).mono ?_; rintro e w' ⟨rfl, rfl⟩)
  go_ret2
  exact ⟨by simp, (Qt.refl w).alloc _⟩

set_option maxHeartbeats 1000000 in
theorem least_1 (x1 x2 x3 k : Nat) (w : World) (h0 : ((x1 : Int) == 0) = false) (hk : k < 64) (ht : ∀ w', Hid (Qt w w') → Calls Tryd.prog 97 #[.int .u64 x1] w' fun e w'' => e = .returned (.int .i64 (k : Int)) ∧ w'' = w')
    (hor : bits .or .i64 64 (k : Int) = ((64 + k : Nat) : Int)) :
    Calls Tryd.prog 89 #[.agg #[.int .u64 0, .int .u64 (x1 : Nat), .int .u64 (x2 : Nat), .int .u64 (x3 : Nat)]] w fun e w' => e = .returned (.tuple #[.int .u8 ((64 + k : Nat) : Int), .bool true]) ∧ Hid (Qt w w') := by
  have HT : Hid _ := ht
  clear ht
  have i0 := idx_0
  have i1 := idx_1
  have i2 := idx_2
  have i3 := idx_3
  go_enter Tryd.func89, Tryd.ntmps89
  go_wp2
  refine wp_loop_rounds 5 ?_
  rw [rounds_succ]; go_wp2
  rw [rounds_succ]
  go_wp2_with (go_at_call 97; refine (HT.out _ ((Qt.refl w).alloc _)).mono ?_; rintro e w' ⟨rfl, rfl⟩)
  go_ret2
  exact ⟨by simp, (Qt.refl w).alloc _⟩

set_option maxHeartbeats 1000000 in
theorem least_2 (x2 x3 k : Nat) (w : World) (h0 : ((x2 : Int) == 0) = false) (hk : k < 64) (ht : ∀ w', Hid (Qt w w') → Calls Tryd.prog 97 #[.int .u64 x2] w' fun e w'' => e = .returned (.int .i64 (k : Int)) ∧ w'' = w')
    (hor : bits .or .i64 128 (k : Int) = ((128 + k : Nat) : Int)) :
    Calls Tryd.prog 89 #[.agg #[.int .u64 0, .int .u64 0, .int .u64 (x2 : Nat), .int .u64 (x3 : Nat)]] w fun e w' => e = .returned (.tuple #[.int .u8 ((128 + k : Nat) : Int), .bool true]) ∧ Hid (Qt w w') := by
  have HT : Hid _ := ht
  clear ht
  have i0 := idx_0
  have i1 := idx_1
  have i2 := idx_2
  have i3 := idx_3
  go_enter Tryd.func89, Tryd.ntmps89
  go_wp2
  refine wp_loop_rounds 5 ?_
  rw [rounds_succ]; go_wp2
  rw [rounds_succ]; go_wp2
  rw [rounds_succ]
  go_wp2_with (go_at_call 97; refine (HT.out _ ((Qt.refl w).alloc _)).mono ?_; rintro e w' ⟨rfl, rfl⟩)
  go_ret2
  exact ⟨by simp, (Qt.refl w).alloc _⟩

set_option maxHeartbeats 1000000 in
theorem least_3 (x3 k : Nat) (w : World) (h0 : ((x3 : Int) == 0) = false) (hk : k < 64) (ht : ∀ w', Hid (Qt w w') → Calls Tryd.prog 97 #[.int .u64 x3] w' fun e w'' => e = .returned (.int .i64 (k : Int)) ∧ w'' = w')
    (hor : bits .or .i64 192 (k : Int) = ((192 + k : Nat) : Int)) :
    Calls Tryd.prog 89 #[.agg #[.int .u64 0, .int .u64 0, .int .u64 0, .int .u64 (x3 : Nat)]] w fun e w' => e = .returned (.tuple #[.int .u8 ((192 + k : Nat) : Int), .bool true]) ∧ Hid (Qt w w') := by
  have HT : Hid _ := ht
  clear ht
  have i0 := idx_0
  have i1 := idx_1
  have i2 := idx_2
  have i3 := idx_3
  go_enter Tryd.func89, Tryd.ntmps89
  go_wp2
  refine wp_loop_rounds 5 ?_
  rw [rounds_succ]; go_wp2
  rw [rounds_succ]; go_wp2
  rw [rounds_succ]; go_wp2
  rw [rounds_succ]
  go_wp2_with (go_at_call 97; refine (HT.out _ ((Qt.refl w).alloc _)).mono ?_; rintro e w' ⟨rfl, rfl⟩)
  go_ret2
  exact ⟨by simp, (Qt.refl w).alloc _⟩

theorem least_some (p : Nat → Bool) (b : Nat) (h : IsL p b) (w : World) (hT : Tab w) : Calls Tryd.prog 89 #[sv p] w fun e w' => e = .returned (.tuple #[.int .u8 (b : Int), .bool true]) ∧ Hid (Qt w w') := by
  obtain ⟨hb, hp, hl⟩ := h
  have z : ∀ i, i < b / 64 → limb p i = 0 := fun i hi => (limb_zero p i).2 (fun k hk => hl _ (by omega))
  have nz : limb p (b / 64) ≠ 0 := by
    intro e
    have := (limb_zero p (b / 64)).1 e (b % 64) (by omega)
    rw [show 64 * (b / 64) + b % 64 = b from by omega, hp] at this
    cases this
  have hk : ∀ k, k < 64 → (limb p (b / 64)).testBit k = true → (∀ j, j < k → (limb p (b / 64)).testBit j = false) → k = b % 64 := by
    intro k hk h1 h2
    rw [limb_bit p _ hk] at h1
    rcases Nat.lt_trichotomy k (b % 64) with g | g | g
    · have := hl (64 * (b / 64) + k) (by omega); rw [h1] at this; cases this
    · exact g
    · have := h2 (b % 64) g
      rw [limb_bit p _ (by omega), show 64 * (b / 64) + b % 64 = b from by omega, hp] at this
      cases this
  have ht : ∀ w', Hid (Qt w w') → Calls Tryd.prog 97 #[.int .u64 (limb p (b / 64))] w' fun e w'' => e = .returned (.int .i64 ((b % 64 : Nat) : Int)) ∧ w'' = w' := by
    intro w' q
    obtain ⟨k, hk1, hk2, hk3, hc⟩ := tz_any _ (limb_lt p (b / 64)) nz w' (hT.qt q.out)
    rw [hk k hk1 hk2 hk3] at hc
    exact hc
  have hor := or_place (b / 64) (b % 64) (by omega) (by omega)
  have nz2 : ((limb p (b / 64) : Int) == 0) = false := by simp; omega
  have eb : b = 64 * (b / 64) + b % 64 := by omega
  unfold sv
  generalize hq : b / 64 = q at *
  have hm : b % 64 < 64 := by omega
  generalize b % 64 = k at *
  rw [eb]
  rcases (show q = 0 ∨ q = 1 ∨ q = 2 ∨ q = 3 from by omega) with rfl | rfl | rfl | rfl
  · exact least_0 _ _ _ _ k w nz2 hm ht hor
  · rw [z 0 (by omega)]
    exact least_1 _ _ _ k w nz2 hm ht hor
  · rw [z 0 (by omega), z 1 (by omega)]
    exact least_2 _ _ k w nz2 hm ht hor
  · rw [z 0 (by omega), z 1 (by omega), z 2 (by omega)]
    exact least_3 _ k w nz2 hm ht hor

end Go.Proofs.YtkclkhfcmjhogaaDoor
