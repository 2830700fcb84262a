/- The laws of sets: what their walks want. -/
import Derived.Test.YtkclkhfcmjhogaaDoorS5
import Derived.Test.YtkclkhfcmjhogaaDoorP1
namespace Go.Proofs.YtkclkhfcmjhogaaDoor
open Go.RowKit
set_option linter.unusedVariables false

def et (p q : Nat → Bool) : Nat → Bool := fun b => p b && q b
def ou (p q : Nat → Bool) : Nat → Bool := fun b => p b || q b
/-- A set, as the walk has it. -/
abbrev Ag (p : Nat → Bool) : Value := .agg #[.int .u64 (limb p 0), .int .u64 (limb p 1), .int .u64 (limb p 2), .int .u64 (limb p 3)]
theorem notA (p : Nat → Bool) (w : World) : Calls Tryd.prog 74 #[.agg #[.int .u64 (limb p 0), .int .u64 (limb p 1), .int .u64 (limb p 2), .int .u64 (limb p 3)]] w fun e w' => e = .returned (.agg #[.int .u64 (limb (no p) 0), .int .u64 (limb (no p) 1), .int .u64 (limb (no p) 2), .int .u64 (limb (no p) 3)]) ∧ Hid (Qt w w') := not_any p w
theorem andA (p q : Nat → Bool) (w : World) : Calls Tryd.prog 91 #[.agg #[.int .u64 (limb p 0), .int .u64 (limb p 1), .int .u64 (limb p 2), .int .u64 (limb p 3)], .agg #[.int .u64 (limb q 0), .int .u64 (limb q 1), .int .u64 (limb q 2), .int .u64 (limb q 3)]] w fun e w' => e = .returned (.agg #[.int .u64 (limb (et p q) 0), .int .u64 (limb (et p q) 1), .int .u64 (limb (et p q) 2), .int .u64 (limb (et p q) 3)]) ∧ Hid (Qt w w') := and_any p q w
theorem orA (p q : Nat → Bool) (w : World) : Calls Tryd.prog 119 #[.agg #[.int .u64 (limb p 0), .int .u64 (limb p 1), .int .u64 (limb p 2), .int .u64 (limb p 3)], .agg #[.int .u64 (limb q 0), .int .u64 (limb q 1), .int .u64 (limb q 2), .int .u64 (limb q 3)]] w fun e w' => e = .returned (.agg #[.int .u64 (limb (ou p q) 0), .int .u64 (limb (ou p q) 1), .int .u64 (limb (ou p q) 2), .int .u64 (limb (ou p q) 3)]) ∧ Hid (Qt w w') := or_any p q w
theorem eqlA (p q : Nat → Bool) (b : Bool) (h : same p q = b) (W : World) : (binOp .eql 25 (.agg #[.int .u64 (limb p 0), .int .u64 (limb p 1), .int .u64 (limb p 2), .int .u64 (limb p 3)]) (.agg #[.int .u64 (limb q 0), .int .u64 (limb q 1), .int .u64 (limb q 2), .int .u64 (limb q 3)])).run Tryd.prog W = .ok (.bool b) W := by
  rw [← h]; exact eql_run p q W
theorem same_of {p q : Nat → Bool} (h : ∀ b, p b = q b) : same p q = true := same_like.2 (fun b _ => h b)
theorem hold12 {W w' : World} {g0 g1 g2 : Nat} {u00 u01 u02 u03 u10 u11 u12 u13 u20 u21 u22 u23 : Value} (c00 : Hid (W.cell? ⟨g0, 0, none⟩ = some u00)) (c01 : Hid (W.cell? ⟨g0, 1, none⟩ = some u01)) (c02 : Hid (W.cell? ⟨g0, 2, none⟩ = some u02)) (c03 : Hid (W.cell? ⟨g0, 3, none⟩ = some u03)) (c10 : Hid (W.cell? ⟨g1, 0, none⟩ = some u10)) (c11 : Hid (W.cell? ⟨g1, 1, none⟩ = some u11)) (c12 : Hid (W.cell? ⟨g1, 2, none⟩ = some u12)) (c13 : Hid (W.cell? ⟨g1, 3, none⟩ = some u13)) (c20 : Hid (W.cell? ⟨g2, 0, none⟩ = some u20)) (c21 : Hid (W.cell? ⟨g2, 1, none⟩ = some u21)) (c22 : Hid (W.cell? ⟨g2, 2, none⟩ = some u22)) (c23 : Hid (W.cell? ⟨g2, 3, none⟩ = some u23)) (q : Hid (Qt W w')) :
    w'.cell? ⟨g0, 0, none⟩ = some u00 ∧ w'.cell? ⟨g0, 1, none⟩ = some u01 ∧ w'.cell? ⟨g0, 2, none⟩ = some u02 ∧ w'.cell? ⟨g0, 3, none⟩ = some u03 ∧ w'.cell? ⟨g1, 0, none⟩ = some u10 ∧ w'.cell? ⟨g1, 1, none⟩ = some u11 ∧ w'.cell? ⟨g1, 2, none⟩ = some u12 ∧ w'.cell? ⟨g1, 3, none⟩ = some u13 ∧ w'.cell? ⟨g2, 0, none⟩ = some u20 ∧ w'.cell? ⟨g2, 1, none⟩ = some u21 ∧ w'.cell? ⟨g2, 2, none⟩ = some u22 ∧ w'.cell? ⟨g2, 3, none⟩ = some u23 ∧ Hid (Qt W w') :=
  ⟨Qt.keep q c00.out, Qt.keep q c01.out, Qt.keep q c02.out, Qt.keep q c03.out, Qt.keep q c10.out, Qt.keep q c11.out, Qt.keep q c12.out, Qt.keep q c13.out, Qt.keep q c20.out, Qt.keep q c21.out, Qt.keep q c22.out, Qt.keep q c23.out, q⟩
theorem hold12q {W w' w'' : World} {A0 A1 A2 A3 A4 A5 A6 A7 A8 A9 A10 A11 : Prop} (q : Hid (Qt w' w'')) (h : A0 ∧ A1 ∧ A2 ∧ A3 ∧ A4 ∧ A5 ∧ A6 ∧ A7 ∧ A8 ∧ A9 ∧ A10 ∧ A11 ∧ Hid (Qt W w')) : Hid (Qt W w'') := h.2.2.2.2.2.2.2.2.2.2.2.2.out.comp q.out

end Go.Proofs.YtkclkhfcmjhogaaDoor
