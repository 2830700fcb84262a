/- WeighForms: the call returns true. -/
import Derived.Test.YtjmjlhcmicljiaaL6
namespace Go.Proofs.Ytjmjlhcmicljiaa
open Go.RowKit

/-- The texts that are no number's. -/
def badL : List ByteArray := [⟨#[]⟩, ⟨#[45]⟩, ⟨#[46]⟩, ⟨#[49, 46]⟩, ⟨#[46, 53]⟩, ⟨#[45, 45, 49]⟩, ⟨#[43, 49]⟩, ⟨#[49, 101, 53]⟩, ⟨#[78, 97, 78]⟩, ⟨#[73, 110, 102]⟩, ⟨#[43, 105, 110, 102]⟩, ⟨#[45, 110, 97, 110]⟩, ⟨#[32, 49]⟩, ⟨#[49, 32]⟩, ⟨#[49, 46, 50, 46, 51]⟩, ⟨#[48, 48, 48, 48, 48, 48, 48, 48, 48, 48, 48, 48, 48, 48, 48, 48]⟩, ⟨#[49, 50, 51, 52, 53, 54, 55, 56, 57, 48, 46, 49, 50, 51, 52, 53, 54]⟩, ⟨#[48, 120, 49]⟩, ⟨#[105, 110, 102, 105, 110, 105, 116, 121]⟩]
def badAt (k : Nat) : ByteArray := badL.getD k ⟨#[]⟩
def badCells : Array Value := #[.string ⟨#[]⟩, .string ⟨#[45]⟩, .string ⟨#[46]⟩, .string ⟨#[49, 46]⟩, .string ⟨#[46, 53]⟩, .string ⟨#[45, 45, 49]⟩, .string ⟨#[43, 49]⟩, .string ⟨#[49, 101, 53]⟩, .string ⟨#[78, 97, 78]⟩, .string ⟨#[73, 110, 102]⟩, .string ⟨#[43, 105, 110, 102]⟩, .string ⟨#[45, 110, 97, 110]⟩, .string ⟨#[32, 49]⟩, .string ⟨#[49, 32]⟩, .string ⟨#[49, 46, 50, 46, 51]⟩, .string ⟨#[48, 48, 48, 48, 48, 48, 48, 48, 48, 48, 48, 48, 48, 48, 48, 48]⟩, .string ⟨#[49, 50, 51, 52, 53, 54, 55, 56, 57, 48, 46, 49, 50, 51, 52, 53, 54]⟩, .string ⟨#[48, 120, 49]⟩, .string ⟨#[105, 110, 102, 105, 110, 105, 116, 121]⟩]

theorem bad_cells (k : Nat) (h : k < 19) : badCells[k]? = some (.string (badAt k)) := by
  have : k = 0 ∨ k = 1 ∨ k = 2 ∨ k = 3 ∨ k = 4 ∨ k = 5 ∨ k = 6 ∨ k = 7 ∨ k = 8 ∨ k = 9 ∨ k = 10 ∨ k = 11 ∨ k = 12 ∨ k = 13 ∨ k = 14 ∨ k = 15 ∨ k = 16 ∨ k = 17 ∨ k = 18 := by omega
  rcases this with rfl | rfl | rfl | rfl | rfl | rfl | rfl | rfl | rfl | rfl | rfl | rfl | rfl | rfl | rfl | rfl | rfl | rfl | rfl <;> rfl
theorem bad_e (k : Nat) (h : k < 19) : pE (badAt k) = 2 := by
  have : k = 0 ∨ k = 1 ∨ k = 2 ∨ k = 3 ∨ k = 4 ∨ k = 5 ∨ k = 6 ∨ k = 7 ∨ k = 8 ∨ k = 9 ∨ k = 10 ∨ k = 11 ∨ k = 12 ∨ k = 13 ∨ k = 14 ∨ k = 15 ∨ k = 16 ∨ k = 17 ∨ k = 18 := by omega
  rcases this with rfl | rfl | rfl | rfl | rfl | rfl | rfl | rfl | rfl | rfl | rfl | rfl | rfl | rfl | rfl | rfl | rfl | rfl | rfl <;> decide +kernel
theorem bad_w (k : Nat) (h : k < 19) : pW (badAt k) = 0 := by
  have : k = 0 ∨ k = 1 ∨ k = 2 ∨ k = 3 ∨ k = 4 ∨ k = 5 ∨ k = 6 ∨ k = 7 ∨ k = 8 ∨ k = 9 ∨ k = 10 ∨ k = 11 ∨ k = 12 ∨ k = 13 ∨ k = 14 ∨ k = 15 ∨ k = 16 ∨ k = 17 ∨ k = 18 := by omega
  rcases this with rfl | rfl | rfl | rfl | rfl | rfl | rfl | rfl | rfl | rfl | rfl | rfl | rfl | rfl | rfl | rfl | rfl | rfl | rfl <;> decide +kernel
theorem bad_s (k : Nat) (h : k < 19) : (badAt k).size ≤ 1000 := by
  have : k = 0 ∨ k = 1 ∨ k = 2 ∨ k = 3 ∨ k = 4 ∨ k = 5 ∨ k = 6 ∨ k = 7 ∨ k = 8 ∨ k = 9 ∨ k = 10 ∨ k = 11 ∨ k = 12 ∨ k = 13 ∨ k = 14 ∨ k = 15 ∨ k = 16 ∨ k = 17 ∨ k = 18 := by omega
  rcases this with rfl | rfl | rfl | rfl | rfl | rfl | rfl | rfl | rfl | rfl | rfl | rfl | rfl | rfl | rfl | rfl | rfl | rfl | rfl <;> decide +kernel

theorem fp0 : pW ⟨#[48, 48, 48, 48, 48, 48, 48, 48, 48, 48, 48, 48, 48, 48, 55]⟩ = 4619567317775286272 := by decide +kernel
theorem fe0 : pE ⟨#[48, 48, 48, 48, 48, 48, 48, 48, 48, 48, 48, 48, 48, 48, 55]⟩ = 0 := by decide +kernel
theorem fq0 : (FloatKind.f64.format.order 4619567317775286272 4619567317775286272 == some .eq) = true := by decide +kernel
theorem fp1 : pW ⟨#[49, 50, 51, 52, 53, 54, 55, 56, 57, 46, 48, 49, 50, 51, 52, 53]⟩ = 4728057454347985963 := by decide +kernel
theorem fe1 : pE ⟨#[49, 50, 51, 52, 53, 54, 55, 56, 57, 46, 48, 49, 50, 51, 52, 53]⟩ = 0 := by decide +kernel
theorem fq1 : (FloatKind.f64.format.order 4728057454347985963 4728057454347985963 == some .eq) = true := by decide +kernel
theorem fp2 : pW ⟨#[48, 46, 49]⟩ = 4591870180066957722 := by decide +kernel
theorem fe2 : pE ⟨#[48, 46, 49]⟩ = 0 := by decide +kernel
theorem fq2 : (FloatKind.f64.format.order 4591870180066957722 4591870180066957722 == some .eq) = true := by decide +kernel

/-- The world while the texts lie in block b. -/
structure Laid (w : World) (b : Nat) (wr : World) : Prop where
  bel : Below w.heap.size w wr
  top : b < wr.heap.size
  low : w.heap.size ≤ b
  cells : ∀ k, k < 19 → wr.cell? ⟨b, k, none⟩ = some (.string (badAt k))

theorem Laid.start {w w1 : World} (h : Below w.heap.size w w1) : Laid w w1.heap.size (w1.alloc (.cells badCells 9)) where
  bel := h.alloc h.size _
  top := by simp
  low := h.size
  cells := fun k hk => by
    exact (World.cell?_alloc_new w1 badCells 9 k).trans (bad_cells k hk)
theorem Laid.on {w wr w2 : World} {b : Nat} (h : Laid w b wr) (k : Below wr.heap.size wr w2) : Laid w b w2 where
  bel := h.bel.trans (k.mono h.bel.size)
  top := Nat.lt_of_lt_of_le h.top k.size
  low := h.low
  cells := fun i hi => (k.cell (p := ⟨b, i, none⟩) h.top).trans (h.cells i hi)

set_option maxHeartbeats 400000 in
theorem forms_walk (w : World) :
    Calls Try.prog 11 #[] w fun e w' => e = .returned (.bool true) ∧ Below w.heap.size w w' := by
  go_enter Try.func11, Try.ntmps11
  go_wp2_with fail
  refine (begun_any _).mono ?_
  rintro e w1 ⟨rfl, hb1⟩
  have B1 : Hid _ := hb1
  clear hb1
  go_wp2_with fail
  go_loopw [2] (fun i wr => ∃ k : Nat, k ≤ 19 ∧ i = .int .i64 k ∧ Hid (Laid w w1.heap.size wr)) (fun i _ => 19 - (intOf i).toNat)
  case atStart => exact ⟨0, by omega, rfl, Laid.start B1.out⟩
  case round =>
    obtain ⟨k, hk, rfl, hL⟩ := hrel
    by_cases hlt : k < 19
    · have hcell := hL.out.cells k hlt
      have c0 : (FloatKind.f64.format.order 0 0 != some .eq) = false := by decide +kernel
      go_wp2_with fail
      refine (parse_at (badAt k) 0 2 (bad_s k hlt) (bad_w k hlt) (bad_e k hlt) _).mono ?_
      rintro e w2 ⟨rfl, hb2⟩
      have L2 : Hid (Laid w w1.heap.size w2) := hL.out.on hb2
      clear hb2 hL hcell
      go_wp2_with fail
      exact ⟨⟨k + 1, by omega, by go_num, L2⟩, by simp [intOf]; omega⟩
    · clear hk
      have q0 := fq0
      have q1 := fq1
      have q2 := fq2
      go_wp2_with fail
      refine (parse_at ⟨#[48, 48, 48, 48, 48, 48, 48, 48, 48, 48, 48, 48, 48, 48, 55]⟩ _ _ (by decide) fp0 fe0 _).mono ?_
      rintro e w3 ⟨rfl, hb3⟩
      have D0 : Hid _ := hb3
      clear hb3
      go_wp2_with fail
      refine (parse_at ⟨#[49, 50, 51, 52, 53, 54, 55, 56, 57, 46, 48, 49, 50, 51, 52, 53]⟩ _ _ (by decide) fp1 fe1 _).mono ?_
      rintro e w4 ⟨rfl, hb4⟩
      have D1 : Hid _ := hb4
      clear hb4
      go_wp2_with fail
      refine (parse_at ⟨#[48, 46, 49]⟩ _ _ (by decide) fp2 fe2 _).mono ?_
      rintro e w5 ⟨rfl, hb5⟩
      have D2 : Hid _ := hb5
      clear hb5
      go_wp2_with fail
      go_ret
      exact ⟨rfl, (((hL.out.on D0.out).on D1.out).on D2.out).bel⟩
end Go.Proofs.Ytjmjlhcmicljiaa
