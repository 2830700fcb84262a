/- RegexForms. -/
import Derived.Test.YtkclkhfcmjhogaaDoorMgG1
import Derived.Below
namespace Go.Proofs.YtkclkhfcmjhogaaDoor
open Go.RowKit
set_option linter.unusedVariables false

def badL : List (List Nat) := [[], [124], [97, 124], [124, 97], [40, 41], [40], [41], [97, 41], [42], [97, 42, 42], [97, 43, 63], [40, 97, 41, 40], [91], [91, 93], [97, 32, 98], [92], [92, 113], [40, 97, 98, 41, 99], [97, 40, 98, 99, 41], [40, 97, 42, 41, 42], [40, 97, 124, 98, 41, 124, 99]]
def goodL : List (List Nat) := [[97], [40, 97, 41], [40, 40, 97, 41, 41, 42], [97, 98], [97, 124, 98], [40, 97, 124, 98, 41, 99], [40, 97, 98, 41, 42], [40, 97, 98, 124, 99, 41, 63, 100], [97, 42, 98, 43, 99, 63], [46], [91, 94, 97, 93], [92, 120, 48, 48], [92, 42]]
def isBad (l : List Nat) : Bool := decide (l.length < 20000) && (l.all (fun c => decide (c < 256)) && (match prsX l with | .error n => n == 2 | .ok _ => false))
def isGood (l : List Nat) : Bool := decide (l.length < 20000) && (l.all (fun c => decide (c < 256)) && (match prsX l with | .error n => false | .ok _ => true))
theorem all_bad : badL.all isBad = true := by kernel_rfl
theorem all_good : goodL.all isGood = true := by kernel_rfl
theorem bad_at {i : Nat} {l : List Nat} (h : badL[i]? = some l) : l.length < 20000 ∧ (∀ c ∈ l, c < 256) ∧ prsX l = .error 2 := by
  have h1 := List.all_eq_true.1 all_bad l (List.mem_of_getElem? h)
  unfold isBad at h1
  simp only [Bool.and_eq_true, decide_eq_true_eq, List.all_eq_true] at h1
  refine ⟨h1.1, h1.2.1, ?_⟩
  have h2 := h1.2.2
  cases hp : prsX l with
  | error n => rw [hp] at h2; simp at h2; rw [h2]
  | ok x => rw [hp] at h2; cases h2
theorem good_at {i : Nat} {l : List Nat} (h : goodL[i]? = some l) : l.length < 20000 ∧ (∀ c ∈ l, c < 256) ∧ ∃ x, prsX l = .ok x := by
  have h1 := List.all_eq_true.1 all_good l (List.mem_of_getElem? h)
  unfold isGood at h1
  simp only [Bool.and_eq_true, decide_eq_true_eq, List.all_eq_true] at h1
  refine ⟨h1.1, h1.2.1, ?_⟩
  have h2 := h1.2.2
  cases hp : prsX l with
  | error n => rw [hp] at h2; cases h2
  | ok x => exact ⟨x, rfl⟩
theorem cell_lit (w : World) (L : List (List Nat)) (i : Nat) (l : List Nat) (h : L[i]? = some l) : (w.alloc (.cells (L.map fun l => Value.string (str l)).toArray 9)).cell? ⟨w.heap.size, i, none⟩ = some (.string (str l)) := by
  rw [World.cell?_alloc_mark, List.getElem?_toArray, List.getElem?_map, h]
  rfl

set_option maxRecDepth 20000 in
set_option maxHeartbeats 8000000 in
theorem regexForms_qt (w : World) (hT : Hid (Tab w)) : Calls Tryd.prog 8 #[] w fun e w' => e = .returned (.bool true) ∧ Hid (Qt w w') := by
  have hb := begun_true w hT
  go_enter Tryd.func8, Tryd.ntmps8
  go_wp2_with fail
  refine hb.mono ?_
  rintro e1 w1 ⟨rfl, q1⟩
  go_wp2_with fail
  obtain ⟨W0, hW0⟩ : ∃ W0, W0 = w1.alloc (.cells (badL.map fun l => Value.string (str l)).toArray 9) := ⟨_, rfl⟩
  have HC : Hid (∀ i l, badL[i]? = some l → W0.cell? ⟨w1.heap.size, i, none⟩ = some (.string (str l))) := fun i l h => by rw [hW0]; exact cell_lit w1 badL i l h
  have Q0 : Hid (Qt w W0) := by rw [hW0]; exact q1.out.alloc _
  change _ = w1.alloc (.cells #[.string ⟨#[]⟩, .string ⟨#[124]⟩, .string ⟨#[97, 124]⟩, .string ⟨#[124, 97]⟩, .string ⟨#[40, 41]⟩, .string ⟨#[40]⟩, .string ⟨#[41]⟩, .string ⟨#[97, 41]⟩, .string ⟨#[42]⟩, .string ⟨#[97, 42, 42]⟩, .string ⟨#[97, 43, 63]⟩, .string ⟨#[40, 97, 41, 40]⟩, .string ⟨#[91]⟩, .string ⟨#[91, 93]⟩, .string ⟨#[97, 32, 98]⟩, .string ⟨#[92]⟩, .string ⟨#[92, 113]⟩, .string ⟨#[40, 97, 98, 41, 99]⟩, .string ⟨#[97, 40, 98, 99, 41]⟩, .string ⟨#[40, 97, 42, 41, 42]⟩, .string ⟨#[40, 97, 124, 98, 41, 124, 99]⟩] 9) at hW0
  rw [← hW0]
  clear hW0
  go_loopw [2] (fun s2 wr => ∃ i : Nat, i ≤ 21 ∧ s2 = .int .i64 i ∧ Hid (Qt W0 wr)) (fun s2 _ => 21 - (intOf s2).toNat)
  case atStart => exact ⟨0, by omega, rfl, Qt.refl W0⟩
  case round =>
    obtain ⟨i, hi, rfl, B⟩ := hrel
    by_cases hlt : i < 21
    · obtain ⟨l, hl⟩ : ∃ l, badL[i]? = some l := ⟨_, List.getElem?_eq_getElem (show i < badL.length from hlt)⟩
      have k0 := Qt.keep B (HC.out i l hl)
      obtain ⟨l1, l2, l3⟩ := bad_at hl
      have hp := parseX_any l wr l1 l2
      rw [l3] at hp
      clear hl l1 l2 l3
      generalize str l = S at *
      go_wp2_with fail
      refine hp.mono ?_
      rintro e2 w2 ⟨rfl, q2⟩
      go_wp2_with fail
      refine ⟨⟨i + 1, by omega, by go_num, (B.out.comp q2.out).alloc _⟩, by simp [intOf]; omega⟩
    · obtain rfl : i = 21 := by omega
      go_wp2_with fail
      obtain ⟨W1, hW1⟩ : ∃ W1, W1 = wr.alloc (.cells (goodL.map fun l => Value.string (str l)).toArray 9) := ⟨_, rfl⟩
      have HG : Hid (∀ i l, goodL[i]? = some l → W1.cell? ⟨wr.heap.size, i, none⟩ = some (.string (str l))) := fun i l h => by rw [hW1]; exact cell_lit wr goodL i l h
      have Q1 : Hid (Qt w W1) := by rw [hW1]; exact (Q0.out.comp B.out).alloc _
      change _ = wr.alloc (.cells #[.string ⟨#[97]⟩, .string ⟨#[40, 97, 41]⟩, .string ⟨#[40, 40, 97, 41, 41, 42]⟩, .string ⟨#[97, 98]⟩, .string ⟨#[97, 124, 98]⟩, .string ⟨#[40, 97, 124, 98, 41, 99]⟩, .string ⟨#[40, 97, 98, 41, 42]⟩, .string ⟨#[40, 97, 98, 124, 99, 41, 63, 100]⟩, .string ⟨#[97, 42, 98, 43, 99, 63]⟩, .string ⟨#[46]⟩, .string ⟨#[91, 94, 97, 93]⟩, .string ⟨#[92, 120, 48, 48]⟩, .string ⟨#[92, 42]⟩] 9) at hW1
      rw [← hW1]
      clear hW1
      rw [show ((21 : Nat) : Int) = 21 from rfl]
      go_loopw [6] (fun s6 wq => ∃ i : Nat, i ≤ 13 ∧ s6 = .int .i64 i ∧ Hid (Qt W1 wq)) (fun s6 _ => 13 - (intOf s6).toNat)
      case atStart => exact ⟨0, by omega, rfl, Qt.refl W1⟩
      case round =>
        clear B hi hlt
        obtain ⟨i, hi, rfl, B⟩ := hrel
        by_cases hlt : i < 13
        · obtain ⟨l, hl⟩ : ∃ l, goodL[i]? = some l := ⟨_, List.getElem?_eq_getElem (show i < goodL.length from hlt)⟩
          have k0 := Qt.keep B (HG.out i l hl)
          obtain ⟨l1, l2, x, l3⟩ := good_at hl
          have hp := parseX_any l wr l1 l2
          rw [l3] at hp
          clear hl l1 l2 l3
          generalize str l = S at *
          go_wp2_with fail
          refine hp.mono ?_
          rintro e2 w2 ⟨a, c, rfl, _, q2⟩
          go_wp2_with fail
          go_roundw
          case rel => exact ⟨i + 1, by omega, by go_num, (B.out.comp q2.out).alloc _⟩
          case measure => simp [intOf]; omega
        · obtain rfl : i = 13 := by omega
          go_wp2_with fail
          go_ret
          exact ⟨rfl, Q1.out.comp B.out⟩

theorem regexForms_row (w : World) (hT : Tab w) : Calls Tryd.prog 8 #[] w fun e w' => e = .returned (.bool true) ∧ Below w.heap.size w w' :=
  (regexForms_qt w hT).mono fun e w' ⟨he, hq⟩ => ⟨he, hq.out.below (Nat.le_refl _) (fun _ _ h => h)⟩
end Go.Proofs.YtkclkhfcmjhogaaDoor
