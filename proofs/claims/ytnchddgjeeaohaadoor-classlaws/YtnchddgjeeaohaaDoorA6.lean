/- ClassLaws. -/
import Derived.Test.YtnchddgjeeaohaaDoorG2
namespace Go.Proofs.YtnchddgjeeaohaaDoor
open Go.RowKit
set_option linter.unusedVariables false

theorem hold12o {W w' : World} {A0 A1 A2 A3 A4 A5 A6 A7 A8 A9 A10 A11 : Prop} (h : A0 ∧ A1 ∧ A2 ∧ A3 ∧ A4 ∧ A5 ∧ A6 ∧ A7 ∧ A8 ∧ A9 ∧ A10 ∧ A11 ∧ Hid (Qt W w')) : Hid (Qt W w') := h.2.2.2.2.2.2.2.2.2.2.2.2
theorem cells12 (w : World) (p q r : Nat → Bool) : (((w.alloc (.cells #[.int .u64 (limb p 0), .int .u64 (limb p 1), .int .u64 (limb p 2), .int .u64 (limb p 3)] 25)).alloc (.cells #[.int .u64 (limb q 0), .int .u64 (limb q 1), .int .u64 (limb q 2), .int .u64 (limb q 3)] 25)).alloc (.cells #[.int .u64 (limb r 0), .int .u64 (limb r 1), .int .u64 (limb r 2), .int .u64 (limb r 3)] 25)).cell? ⟨w.heap.size, 0, none⟩ = some (.int .u64 (limb p 0)) ∧ (((w.alloc (.cells #[.int .u64 (limb p 0), .int .u64 (limb p 1), .int .u64 (limb p 2), .int .u64 (limb p 3)] 25)).alloc (.cells #[.int .u64 (limb q 0), .int .u64 (limb q 1), .int .u64 (limb q 2), .int .u64 (limb q 3)] 25)).alloc (.cells #[.int .u64 (limb r 0), .int .u64 (limb r 1), .int .u64 (limb r 2), .int .u64 (limb r 3)] 25)).cell? ⟨w.heap.size, 1, none⟩ = some (.int .u64 (limb p 1)) ∧ (((w.alloc (.cells #[.int .u64 (limb p 0), .int .u64 (limb p 1), .int .u64 (limb p 2), .int .u64 (limb p 3)] 25)).alloc (.cells #[.int .u64 (limb q 0), .int .u64 (limb q 1), .int .u64 (limb q 2), .int .u64 (limb q 3)] 25)).alloc (.cells #[.int .u64 (limb r 0), .int .u64 (limb r 1), .int .u64 (limb r 2), .int .u64 (limb r 3)] 25)).cell? ⟨w.heap.size, 2, none⟩ = some (.int .u64 (limb p 2)) ∧ (((w.alloc (.cells #[.int .u64 (limb p 0), .int .u64 (limb p 1), .int .u64 (limb p 2), .int .u64 (limb p 3)] 25)).alloc (.cells #[.int .u64 (limb q 0), .int .u64 (limb q 1), .int .u64 (limb q 2), .int .u64 (limb q 3)] 25)).alloc (.cells #[.int .u64 (limb r 0), .int .u64 (limb r 1), .int .u64 (limb r 2), .int .u64 (limb r 3)] 25)).cell? ⟨w.heap.size, 3, none⟩ = some (.int .u64 (limb p 3)) ∧ (((w.alloc (.cells #[.int .u64 (limb p 0), .int .u64 (limb p 1), .int .u64 (limb p 2), .int .u64 (limb p 3)] 25)).alloc (.cells #[.int .u64 (limb q 0), .int .u64 (limb q 1), .int .u64 (limb q 2), .int .u64 (limb q 3)] 25)).alloc (.cells #[.int .u64 (limb r 0), .int .u64 (limb r 1), .int .u64 (limb r 2), .int .u64 (limb r 3)] 25)).cell? ⟨w.heap.size + 1, 0, none⟩ = some (.int .u64 (limb q 0)) ∧ (((w.alloc (.cells #[.int .u64 (limb p 0), .int .u64 (limb p 1), .int .u64 (limb p 2), .int .u64 (limb p 3)] 25)).alloc (.cells #[.int .u64 (limb q 0), .int .u64 (limb q 1), .int .u64 (limb q 2), .int .u64 (limb q 3)] 25)).alloc (.cells #[.int .u64 (limb r 0), .int .u64 (limb r 1), .int .u64 (limb r 2), .int .u64 (limb r 3)] 25)).cell? ⟨w.heap.size + 1, 1, none⟩ = some (.int .u64 (limb q 1)) ∧ (((w.alloc (.cells #[.int .u64 (limb p 0), .int .u64 (limb p 1), .int .u64 (limb p 2), .int .u64 (limb p 3)] 25)).alloc (.cells #[.int .u64 (limb q 0), .int .u64 (limb q 1), .int .u64 (limb q 2), .int .u64 (limb q 3)] 25)).alloc (.cells #[.int .u64 (limb r 0), .int .u64 (limb r 1), .int .u64 (limb r 2), .int .u64 (limb r 3)] 25)).cell? ⟨w.heap.size + 1, 2, none⟩ = some (.int .u64 (limb q 2)) ∧ (((w.alloc (.cells #[.int .u64 (limb p 0), .int .u64 (limb p 1), .int .u64 (limb p 2), .int .u64 (limb p 3)] 25)).alloc (.cells #[.int .u64 (limb q 0), .int .u64 (limb q 1), .int .u64 (limb q 2), .int .u64 (limb q 3)] 25)).alloc (.cells #[.int .u64 (limb r 0), .int .u64 (limb r 1), .int .u64 (limb r 2), .int .u64 (limb r 3)] 25)).cell? ⟨w.heap.size + 1, 3, none⟩ = some (.int .u64 (limb q 3)) ∧ (((w.alloc (.cells #[.int .u64 (limb p 0), .int .u64 (limb p 1), .int .u64 (limb p 2), .int .u64 (limb p 3)] 25)).alloc (.cells #[.int .u64 (limb q 0), .int .u64 (limb q 1), .int .u64 (limb q 2), .int .u64 (limb q 3)] 25)).alloc (.cells #[.int .u64 (limb r 0), .int .u64 (limb r 1), .int .u64 (limb r 2), .int .u64 (limb r 3)] 25)).cell? ⟨w.heap.size + 1 + 1, 0, none⟩ = some (.int .u64 (limb r 0)) ∧ (((w.alloc (.cells #[.int .u64 (limb p 0), .int .u64 (limb p 1), .int .u64 (limb p 2), .int .u64 (limb p 3)] 25)).alloc (.cells #[.int .u64 (limb q 0), .int .u64 (limb q 1), .int .u64 (limb q 2), .int .u64 (limb q 3)] 25)).alloc (.cells #[.int .u64 (limb r 0), .int .u64 (limb r 1), .int .u64 (limb r 2), .int .u64 (limb r 3)] 25)).cell? ⟨w.heap.size + 1 + 1, 1, none⟩ = some (.int .u64 (limb r 1)) ∧ (((w.alloc (.cells #[.int .u64 (limb p 0), .int .u64 (limb p 1), .int .u64 (limb p 2), .int .u64 (limb p 3)] 25)).alloc (.cells #[.int .u64 (limb q 0), .int .u64 (limb q 1), .int .u64 (limb q 2), .int .u64 (limb q 3)] 25)).alloc (.cells #[.int .u64 (limb r 0), .int .u64 (limb r 1), .int .u64 (limb r 2), .int .u64 (limb r 3)] 25)).cell? ⟨w.heap.size + 1 + 1, 2, none⟩ = some (.int .u64 (limb r 2)) ∧ (((w.alloc (.cells #[.int .u64 (limb p 0), .int .u64 (limb p 1), .int .u64 (limb p 2), .int .u64 (limb p 3)] 25)).alloc (.cells #[.int .u64 (limb q 0), .int .u64 (limb q 1), .int .u64 (limb q 2), .int .u64 (limb q 3)] 25)).alloc (.cells #[.int .u64 (limb r 0), .int .u64 (limb r 1), .int .u64 (limb r 2), .int .u64 (limb r 3)] 25)).cell? ⟨w.heap.size + 1 + 1, 3, none⟩ = some (.int .u64 (limb r 3)) := by
  refine ⟨?_, ?_, ?_, ?_, ?_, ?_, ?_, ?_, ?_, ?_, ?_, ?_⟩ <;> simp [go_sem]

set_option maxHeartbeats 8000000 in
theorem classLaws_walk (p q r : Nat → Bool) (w : World) (hT : Hid (Tab w)) : Calls Tryd.prog 6 #[.agg #[.int .u64 (limb p 0), .int .u64 (limb p 1), .int .u64 (limb p 2), .int .u64 (limb p 3)], .agg #[.int .u64 (limb q 0), .int .u64 (limb q 1), .int .u64 (limb q 2), .int .u64 (limb q 3)], .agg #[.int .u64 (limb r 0), .int .u64 (limb r 1), .int .u64 (limb r 2), .int .u64 (limb r 3)]] w fun e w' => e = .returned (.bool true) ∧ Hid (Qt w w') := by
  have f1 := eqlA (no (no p)) p true (same_of (fun b => by simp [no]))
  have f2 := eqlA (no (ou p q)) (et (no p) (no q)) true (same_of (fun b => by simp [no, ou, et]))
  have f3 := eqlA (et p (ou q r)) (ou (et p q) (et p r)) true (same_of (fun b => by simp [ou, et]; cases p b <;> simp))
  have f4 := eqlA (ou p q) (ou q p) true (same_of (fun b => by simp [ou, Bool.or_comm]))
  have f5 := eql_none (et p (no p))
  rw [show any (et p (no p)) = false from any_false.2 (fun b _ => by simp [et, no])] at f5
  go_enter Tryd.func6, Tryd.ntmps6
  go_wp2_with fail
  refine (begun_true _ ?_).mono ?_
  · exact ((hT.out.qt (Mv.alloc _ _ _)).qt (Mv.alloc _ _ _)).qt (Mv.alloc _ _ _)
  rintro e w1 ⟨rfl, q1⟩
  obtain ⟨k00, k01, k02, k03, k10, k11, k12, k13, k20, k21, k22, k23⟩ := cells12 w p q r
  have C00 : Hid (w1.cell? ⟨w.heap.size, 0, none⟩ = some (.int .u64 (limb p 0))) := Qt.keep q1 k00
  have C01 : Hid (w1.cell? ⟨w.heap.size, 1, none⟩ = some (.int .u64 (limb p 1))) := Qt.keep q1 k01
  have C02 : Hid (w1.cell? ⟨w.heap.size, 2, none⟩ = some (.int .u64 (limb p 2))) := Qt.keep q1 k02
  have C03 : Hid (w1.cell? ⟨w.heap.size, 3, none⟩ = some (.int .u64 (limb p 3))) := Qt.keep q1 k03
  have C10 : Hid (w1.cell? ⟨w.heap.size + 1, 0, none⟩ = some (.int .u64 (limb q 0))) := Qt.keep q1 k10
  have C11 : Hid (w1.cell? ⟨w.heap.size + 1, 1, none⟩ = some (.int .u64 (limb q 1))) := Qt.keep q1 k11
  have C12 : Hid (w1.cell? ⟨w.heap.size + 1, 2, none⟩ = some (.int .u64 (limb q 2))) := Qt.keep q1 k12
  have C13 : Hid (w1.cell? ⟨w.heap.size + 1, 3, none⟩ = some (.int .u64 (limb q 3))) := Qt.keep q1 k13
  have C20 : Hid (w1.cell? ⟨w.heap.size + 1 + 1, 0, none⟩ = some (.int .u64 (limb r 0))) := Qt.keep q1 k20
  have C21 : Hid (w1.cell? ⟨w.heap.size + 1 + 1, 1, none⟩ = some (.int .u64 (limb r 1))) := Qt.keep q1 k21
  have C22 : Hid (w1.cell? ⟨w.heap.size + 1 + 1, 2, none⟩ = some (.int .u64 (limb r 2))) := Qt.keep q1 k22
  have C23 : Hid (w1.cell? ⟨w.heap.size + 1 + 1, 3, none⟩ = some (.int .u64 (limb r 3))) := Qt.keep q1 k23
  have Q1 : Hid (Qt w w1) := (((Qt.refl w).alloc _).alloc _ |>.alloc _).comp q1.out
  clear k00 k01 k02 k03 k10 k11 k12 k13 k20 k21 k22 k23
  have k00 := C00.out
  have k01 := C01.out
  have k02 := C02.out
  have k03 := C03.out
  have k10 := C10.out
  have k11 := C11.out
  have k12 := C12.out
  have k13 := C13.out
  have k20 := C20.out
  have k21 := C21.out
  have k22 := C22.out
  have k23 := C23.out
  have DQ : Hid (Qt w1 w1.drew) := Mv.drewN _ w1 1
  go_wp2_with fail
  go_region_held3 (fun w' => w'.cell? ⟨w.heap.size, 0, none⟩ = some (.int .u64 (limb p 0)) ∧ w'.cell? ⟨w.heap.size, 1, none⟩ = some (.int .u64 (limb p 1)) ∧ w'.cell? ⟨w.heap.size, 2, none⟩ = some (.int .u64 (limb p 2)) ∧ w'.cell? ⟨w.heap.size, 3, none⟩ = some (.int .u64 (limb p 3)) ∧ w'.cell? ⟨w.heap.size + 1, 0, none⟩ = some (.int .u64 (limb q 0)) ∧ w'.cell? ⟨w.heap.size + 1, 1, none⟩ = some (.int .u64 (limb q 1)) ∧ w'.cell? ⟨w.heap.size + 1, 2, none⟩ = some (.int .u64 (limb q 2)) ∧ w'.cell? ⟨w.heap.size + 1, 3, none⟩ = some (.int .u64 (limb q 3)) ∧ w'.cell? ⟨w.heap.size + 1 + 1, 0, none⟩ = some (.int .u64 (limb r 0)) ∧ w'.cell? ⟨w.heap.size + 1 + 1, 1, none⟩ = some (.int .u64 (limb r 1)) ∧ w'.cell? ⟨w.heap.size + 1 + 1, 2, none⟩ = some (.int .u64 (limb r 2)) ∧ w'.cell? ⟨w.heap.size + 1 + 1, 3, none⟩ = some (.int .u64 (limb r 3)) ∧ Hid (Qt w1 w'))
    (first | (refine hold12 C00 C01 C02 C03 C10 C11 C12 C13 C20 C21 C22 C23 ?_; first | exact hold12q (by assumption) (by assumption) | exact DQ | exact Qt.comp DQ.out (Hid.out (by assumption))))
    ((first
      | (go_at_call 20; with_reducible refine (notA _ _).mono ?_; rintro e4 w4 ⟨rfl, q4⟩)
      | (go_at_call 18; with_reducible refine (andA _ _ _).mono ?_; rintro e5 w5 ⟨rfl, q5⟩)
      | (go_at_call 16; with_reducible refine (orA _ _ _).mono ?_; rintro e6 w6 ⟨rfl, q6⟩)))
  have QE : Hid (Qt w1 w5) := hold12o (by assumption)
  go_wp2_with fail
  go_ret
  exact ⟨rfl, Q1.out.comp QE.out⟩

theorem classLaws_row (x y z : Nat → Nat) (hx : ∀ i, i < 4 → x i < 18446744073709551616) (hy : ∀ i, i < 4 → y i < 18446744073709551616) (hz : ∀ i, i < 4 → z i < 18446744073709551616) (w : World) (hT : Tab w) :
    Calls Tryd.prog 6 #[.agg #[.int .u64 (x 0), .int .u64 (x 1), .int .u64 (x 2), .int .u64 (x 3)], .agg #[.int .u64 (y 0), .int .u64 (y 1), .int .u64 (y 2), .int .u64 (y 3)], .agg #[.int .u64 (z 0), .int .u64 (z 1), .int .u64 (z 2), .int .u64 (z 3)]] w fun e w' => e = .returned (.bool true) ∧ Below w.heap.size w w' := by
  have h := classLaws_walk (had x) (had y) (had z) w hT
  rw [limb_had x 0 (hx 0 (by omega)), limb_had x 1 (hx 1 (by omega)), limb_had x 2 (hx 2 (by omega)), limb_had x 3 (hx 3 (by omega)), limb_had y 0 (hy 0 (by omega)), limb_had y 1 (hy 1 (by omega)), limb_had y 2 (hy 2 (by omega)), limb_had y 3 (hy 3 (by omega)), limb_had z 0 (hz 0 (by omega)), limb_had z 1 (hz 1 (by omega)), limb_had z 2 (hz 2 (by omega)), limb_had z 3 (hz 3 (by omega))] at h
  exact h.mono fun e w' ⟨he, hq⟩ => ⟨he, hq.out.below (Nat.le_refl _) (fun _ _ h => h)⟩

end Go.Proofs.YtnchddgjeeaohaaDoor
