/- A byte as a sign of two digits. -/
import Derived.Test.YtnchddgjeeaohaaDoorG3
namespace Go.Proofs.YtnchddgjeeaohaaDoor
open Go.RowKit
set_option linter.unusedVariables false

def hxs (c : Nat) : List Nat := [92, 120, hexd (c / 16), hexd (c % 16)]
theorem hexd_at (k : Nat) (h : k < 16) : (bs ⟨#[48, 49, 50, 51, 52, 53, 54, 55, 56, 57, 97, 98, 99, 100, 101, 102]⟩)[k]'h = hexd k := by
  have hx : ∀ k : Fin 16, (bs ⟨#[48, 49, 50, 51, 52, 53, 54, 55, 56, 57, 97, 98, 99, 100, 101, 102]⟩)[k.val]'k.isLt = hexd k.val := by decide +kernel
  exact hx ⟨k, h⟩
theorem hexd_lt {k : Nat} (h : k < 16) : hexd k < 256 := by unfold hexd; split <;> omega
theorem hxs_lt {c : Nat} (hc : c < 256) : ∀ x ∈ hxs c, x < 256 := by
  intro x hx
  have h1 := hexd_lt (show c / 16 < 16 by omega)
  have h2 := hexd_lt (show c % 16 < 16 by omega)
  simp [hxs] at hx
  omega

set_option maxHeartbeats 2000000 in
theorem sign27 (c : Nat) (hc : c < 256) (w : World) : Calls Tryd.prog 27 #[.int .u8 (c : Int), .string ⟨#[48, 49, 50, 51, 52, 53, 54, 55, 56, 57, 97, 98, 99, 100, 101, 102]⟩] w fun e w' => e = .returned (.string (str (hxs c))) ∧ Hid (Qt w w') := by
  have i1 := idx_u8 ⟨#[48, 49, 50, 51, 52, 53, 54, 55, 56, 57, 97, 98, 99, 100, 101, 102]⟩ (c / 16) (show c / 16 < 16 by omega)
  have i2 := idx_u8 ⟨#[48, 49, 50, 51, 52, 53, 54, 55, 56, 57, 97, 98, 99, 100, 101, 102]⟩ (c % 16) (show c % 16 < 16 by omega)
  rw [hexd_at _ (by omega)] at i1 i2
  have cv : ∀ W : World, (convert 30 9 (.slice (some ⟨W.heap.size, 0, none⟩) 4 4)).run Tryd.prog (W.alloc (.cells #[.int .u8 92, .int .u8 120, .int .u8 (hexd (c / 16) : Int), .int .u8 (hexd (c % 16) : Int)] 5)) = .ok (.string (str (hxs c))) (W.alloc (.cells #[.int .u8 92, .int .u8 120, .int .u8 (hexd (c / 16) : Int), .int .u8 (hexd (c % 16) : Int)] 5)) := fun W => conv_new W (hxs c) 4 4 rfl
  have cvd : (convert 30 9 (.slice (some ⟨w.heap.size, 0, none⟩) 4 4)).run Tryd.prog (w.alloc (.cells #[.int .u8 92, .int .u8 120, .int .u8 (hexd (c / 16) : Int), .int .u8 (hexd (c % 16) : Int)] 5)).drew = .ok (.string (str (hxs c))) (w.alloc (.cells #[.int .u8 92, .int .u8 120, .int .u8 (hexd (c / 16) : Int), .int .u8 (hexd (c % 16) : Int)] 5)).drew := cv w.drew
  have q1 : (c : Int) / 16 = ((c / 16 : Nat) : Int) := by omega
  have q2 : (c : Int) % 16 = ((c % 16 : Nat) : Int) := by omega
  have q3 : IntKind.u8.wrap ((c / 16 : Nat) : Int) = ((c / 16 : Nat) : Int) := by rw [IntKind.wrap_u8]; omega
  have q4 : IntKind.u8.wrap ((c % 16 : Nat) : Int) = ((c % 16 : Nat) : Int) := by rw [IntKind.wrap_u8]; omega
  have z1 : c / 16 < 16 := by omega
  have z2 : c % 16 < 16 := by omega
  generalize str (hxs c) = T at *
  generalize hexd (c / 16) = A at *
  generalize hexd (c % 16) = B at *
  generalize c / 16 = x at *
  generalize c % 16 = y at *
  clear cv
  go_enter Tryd.func27, Tryd.ntmps27
  go_wp2_with fail
  go_region
  go_wp2_with fail
  go_ret
  exact ⟨rfl, Qt.drew ((Qt.refl w).alloc _)⟩

end Go.Proofs.YtnchddgjeeaohaaDoor
