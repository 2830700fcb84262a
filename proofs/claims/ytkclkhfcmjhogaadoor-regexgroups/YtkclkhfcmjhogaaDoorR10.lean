/- The reference: shown. -/
import Derived.Test.YtkclkhfcmjhogaaDoorR9
import Derived.Test.YtkclkhfcmjhogaaDoorG4
namespace Go.Proofs.YtkclkhfcmjhogaaDoor
open Go.RowKit
set_option linter.unusedVariables false

set_option maxRecDepth 20000 in
set_option maxHeartbeats 2000000 in
theorem shown_any (c : Nat) (hc : c < 256) (w : World) : Calls Tryd.prog 60 #[.int .u8 (c : Int)] w fun e w' => e = .returned (.string (str (shn c))) ∧ Hid (Qt w w') := by
  have hm := in_marks c hc w
  cases h1 : mk c with
  | true =>
    have hx : shn c = [92, c] := by rw [shn, if_pos h1]
    rw [hx]
    rw [h1] at hm
    have cv : ∀ W : World, (convert 37 9 (.slice (some ⟨W.heap.size, 0, none⟩) 2 2)).run Tryd.prog (W.alloc (.cells #[.int .u8 92, .int .u8 (c : Int)] 5)) = .ok (.string (str [92, c])) (W.alloc (.cells #[.int .u8 92, .int .u8 (c : Int)] 5)) := fun W => conv_new W [92, c] 2 2 rfl
    clear h1 hx
    generalize str [92, c] = T at *
    go_enter Tryd.func60, Tryd.ntmps60
    go_wp2_with fail
    refine hm.mono ?_
    rintro e w' ⟨rfl, rfl⟩
    go_wp2_with fail
    go_ret
    exact ⟨rfl, (Qt.refl _).alloc _⟩
  | false =>
    rw [h1] at hm
    cases h2 : seen c with
    | true =>
      have hx : shn c = [c] := by rw [shn, if_neg (by rw [h1]; simp), if_pos h2]
      rw [hx]
      have cv : ∀ W : World, (convert 37 9 (.slice (some ⟨W.heap.size, 0, none⟩) 1 1)).run Tryd.prog (W.alloc (.cells #[.int .u8 (c : Int)] 5)) = .ok (.string (str [c])) (W.alloc (.cells #[.int .u8 (c : Int)] 5)) := fun W => conv_new W [c] 1 1 rfl
      have hb : 33 ≤ c ∧ c ≤ 126 := by unfold seen at h2; simp at h2; omega
      have b1 : (33 : Int) ≤ (c : Int) := by omega
      have b2 : (c : Int) ≤ 126 := by omega
      clear h1 h2 hx
      generalize str [c] = T at *
      go_enter Tryd.func60, Tryd.ntmps60
      go_wp2_with fail
      refine hm.mono ?_
      rintro e w' ⟨rfl, rfl⟩
      go_wp2_with fail
      go_ret
      exact ⟨rfl, (Qt.refl _).alloc _⟩
    | false =>
      have hx : shn c = hxs c := by rw [shn, if_neg (by rw [h1]; simp), if_neg (by rw [h2]; simp)]; rfl
      rw [hx]
      have hb : ¬ (33 ≤ c ∧ c ≤ 126) := by intro h; unfold seen at h2; simp at h2; omega
      clear h1 h2 hx
      have i1 := idx_u8 ⟨#[48, 49, 50, 51, 52, 53, 54, 55, 56, 57, 97, 98, 99, 100, 101, 102]⟩ (c / 16) (show c / 16 < 16 by omega)
      have i2 := idx_u8 ⟨#[48, 49, 50, 51, 52, 53, 54, 55, 56, 57, 97, 98, 99, 100, 101, 102]⟩ (c % 16) (show c % 16 < 16 by omega)
      rw [hexd_at _ (by omega)] at i1 i2
      have cv : ∀ W : World, (convert 37 9 (.slice (some ⟨W.heap.size, 0, none⟩) 4 4)).run Tryd.prog (W.alloc (.cells #[.int .u8 92, .int .u8 120, .int .u8 (hexd (c / 16) : Int), .int .u8 (hexd (c % 16) : Int)] 5)) = .ok (.string (str (hxs c))) (W.alloc (.cells #[.int .u8 92, .int .u8 120, .int .u8 (hexd (c / 16) : Int), .int .u8 (hexd (c % 16) : Int)] 5)) := fun W => conv_new W (hxs c) 4 4 rfl
      have cvd : (convert 37 9 (.slice (some ⟨w.heap.size, 0, none⟩) 4 4)).run Tryd.prog (w.alloc (.cells #[.int .u8 92, .int .u8 120, .int .u8 (hexd (c / 16) : Int), .int .u8 (hexd (c % 16) : Int)] 5)).drew = .ok (.string (str (hxs c))) (w.alloc (.cells #[.int .u8 92, .int .u8 120, .int .u8 (hexd (c / 16) : Int), .int .u8 (hexd (c % 16) : Int)] 5)).drew := cv w.drew
      have q1 : (c : Int) / 16 = ((c / 16 : Nat) : Int) := by omega
      have q2 : (c : Int) % 16 = ((c % 16 : Nat) : Int) := by omega
      have q3 : IntKind.u8.wrap ((c / 16 : Nat) : Int) = ((c / 16 : Nat) : Int) := by rw [IntKind.wrap_u8]; omega
      have q4 : IntKind.u8.wrap ((c % 16 : Nat) : Int) = ((c % 16 : Nat) : Int) := by rw [IntKind.wrap_u8]; omega
      have z1 : c / 16 < 16 := by omega
      have z2 : c % 16 < 16 := by omega
      generalize str (hxs c) = T at *
      generalize hexd (c / 16) = A at *
      generalize hexd (c % 16) = B at *
      generalize c / 16 = x at *
      generalize c % 16 = y at *
      clear cv
      by_cases hlo : 33 ≤ c
      · have b1 : (33 : Int) ≤ (c : Int) := by omega
        have b2 : ¬ (c : Int) ≤ 126 := by omega
        go_enter Tryd.func60, Tryd.ntmps60
        go_wp2_with fail
        refine hm.mono ?_
        rintro e w' ⟨rfl, rfl⟩
        go_wp2_with fail
        go_region
        go_wp2_with fail
        go_ret
        exact ⟨rfl, Qt.drew ((Qt.refl _).alloc _)⟩
      · have b1 : ¬ (33 : Int) ≤ (c : Int) := by omega
        go_enter Tryd.func60, Tryd.ntmps60
        go_wp2_with fail
        refine hm.mono ?_
        rintro e w' ⟨rfl, rfl⟩
        go_wp2_with fail
        go_region
        go_wp2_with fail
        go_ret
        exact ⟨rfl, Qt.drew ((Qt.refl _).alloc _)⟩

end Go.Proofs.YtkclkhfcmjhogaaDoor
