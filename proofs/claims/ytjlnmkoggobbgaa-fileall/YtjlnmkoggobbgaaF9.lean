/- Bytes. -/
import Derived.Test.YtjlnmkoggobbgaaF8
namespace Go.Proofs.Ytjlnmkoggobbgaa
open Go.RowKit

/-- How many pages a window touches. -/
def cntp (sz a b : Nat) : Nat := if a < b then (b - 1) / sz - a / sz + 1 else 0
theorem cntp_spec {sz a b : Nat} (hz : 0 < sz) (hab : a < b) : (∀ s, s < cntp sz a b → (a / sz + s) * sz < b) ∧ b ≤ (a / sz + cntp sz a b) * sz := by
  have e : cntp sz a b = (b - 1) / sz - a / sz + 1 := by unfold cntp; rw [if_pos hab]
  have h1 : a / sz ≤ (b - 1) / sz := Nat.div_le_div_right (by omega)
  have h2 := Nat.div_add_mod (b - 1) sz
  have h3 := Nat.mod_lt (b - 1) hz
  rw [Nat.mul_comm] at h2
  rw [e]
  generalize (b - 1) / sz = x at *
  generalize a / sz = y at *
  refine ⟨fun s hs => ?_, ?_⟩
  · have := Nat.mul_le_mul_right sz (show y + s ≤ x by omega)
    omega
  · rw [show y + (x - y + 1) = x + 1 by omega, Nat.succ_mul]
    omega

/-- The world in which a window begins. -/
def w2 (w : World) : World := (w.alloc (.cells #[.slice none 0 0] 22)).alloc (.cells #[.int .i64 0] 26)
theorem w2_below (w : World) : Below w.heap.size w (w2 w) := ((Below.refl _ w).alloc (Nat.le_refl _) _).alloc (by simp) _
theorem w2_size (w : World) : (w2 w).heap.size = w.heap.size + 2 := by simp [w2]
theorem w2_new (w : World) : (w2 w).cell? ⟨w.heap.size, 0, none⟩ = some (.slice none 0 0) ∧ (w2 w).frozen? ⟨w.heap.size, 0, none⟩ = false ∧ (w2 w).cell? ⟨w.heap.size + 1, 0, none⟩ = some (.int .i64 0) ∧ (w2 w).frozen? ⟨w.heap.size + 1, 0, none⟩ = false := by
  unfold w2
  refine ⟨?_, ?_, ?_, ?_⟩ <;> simp [go_sem]

/-- What bytes that are told leave. -/
def ToldB (w w' : World) (q : Nat) (d : Pd) (mo : Int) (l : List Int) (bad : Nat → Bool) (R : List Int) (Y : Nat → Prop) (a n : Nat) (xa : Option Addr) (xc : Nat) : Prop :=
  Fs w' q d mo l bad R (fun j => Y j ∨ bk xa = some j) ∧ Own w' w.heap.size 5 (.slice xa n xc) n (By fun j => d.f (a + j)) ∧ Mv (fun j => ¬ Y j) w w'
def LeftB (w w' : World) (q : Nat) (d : Pd) (mo : Int) (l : List Int) (bad : Nat → Bool) (R : List Int) (Y : Nat → Prop) : Prop :=
  Fs w' q d mo l bad R Y ∧ Mv (fun j => ¬ Y j) w w'

section
variable {w : World} {q : Nat} {d : Pd} {mo : Int} {l : List Int} {bad : Nat → Bool} {R : List Int} {Y : Nat → Prop}

theorem Fs.two (h : Fs w q d mo l bad R Y) : Fs (w2 w) q d mo l bad R (fun j => Y j ∨ (w.heap.size ≤ j ∧ j < w.heap.size + 2)) := by
  have := h.below (w2_below w)
  rw [w2_size] at this
  exact this
theorem Fs.top (h : Fs w q d mo l bad R Y) : d.top ≤ w.heap.size := by
  obtain ⟨c, ra, rc, S, X, h, e⟩ := h
  exact h.P.tp

set_option maxHeartbeats 1000000 in
theorem bytes_nil (a b : Int) (w : World) : Calls Try.prog 29 #[.pointer none, .int .i64 a, .int .i64 b] w fun e w' => e = .returned (.tuple #[.slice none 0 0, .int .i64 1]) ∧ Below w.heap.size w w' := by
  go_enter_defers Try.func29, Try.ntmps29
  go_wp2_with fail
  refine (has_none _).mono ?_
  rintro e w1 ⟨rfl, hw⟩
  subst hw
  go_wp2_with fail
  simp [bodyPostD, Leaves, results, Try.results29, go_sem]
  exact ((Below.refl _ w).alloc (Nat.le_refl _) _).alloc (by simp) _
set_option maxHeartbeats 1000000 in
theorem bytes_nop (w : World) (hc : w.cell? ⟨q, 0, none⟩ = some (.pointer none)) : Calls Try.prog 29 #[.pointer (some ⟨q, 0, none⟩), .int .i64 0, .int .i64 0] w fun e w' => e = .returned (.tuple #[.slice none 0 0, .int .i64 1]) ∧ Below w.heap.size w w' := by
  have hl : q < w.heap.size := World.block_lt_of_cell? _ _ hc
  go_enter_defers Try.func29, Try.ntmps29
  go_wp2_with fail
  refine (has_nop q _ ?_).mono ?_
  · exact ((w2_below w).cell (p := ⟨q, 0, none⟩) hl).trans hc
  rintro e w1 ⟨rfl, hw⟩
  subst hw
  go_wp2_with fail
  simp [bodyPostD, Leaves, results, Try.results29, go_sem]
  exact ((Below.refl _ w).alloc (Nat.le_refl _) _).alloc (by simp) _
set_option maxHeartbeats 1000000 in
theorem bytes_range (h : Fs w q d mo l bad R Y) (a b : Int) (hr : a < 0 ∨ b < a ∨ (d.n : Int) < b) : Calls Try.prog 29 #[.pointer (some ⟨q, 0, none⟩), .int .i64 a, .int .i64 b] w fun e w' => e = .returned (.tuple #[.slice none 0 0, .int .i64 1]) ∧ Below w.heap.size w w' := by
  have h2 := h.two
  have HA := has_some q d.bp (w2 w) (by obtain ⟨c, ra, rc, S, X, h, e⟩ := h2; exact h.fp)
  have HL := flen_any h2
  clear h h2
  obtain ⟨n0, f0, n1, f1⟩ := w2_new w
  have FIN : Hid (Below w.heap.size w (((w2 w).setCell ⟨w.heap.size, 0, none⟩ (.slice none 0 0)).setCell ⟨w.heap.size + 1, 0, none⟩ (.int .i64 1))) := ((w2_below w).setCell (Nat.le_refl _) _).setCell (Nat.le_succ _) _
  have v0 : (((w2 w).setCell ⟨w.heap.size, 0, none⟩ (.slice none 0 0)).setCell ⟨w.heap.size + 1, 0, none⟩ (.int .i64 1)).cell? ⟨w.heap.size, 0, none⟩ = some (.slice none 0 0) := by
    rw [World.cell?_setCell_other _ _ _ _ (by simp)]
    exact World.cell?_setCell_same _ _ _ n0
  have v1 : (((w2 w).setCell ⟨w.heap.size, 0, none⟩ (.slice none 0 0)).setCell ⟨w.heap.size + 1, 0, none⟩ (.int .i64 1)).cell? ⟨w.heap.size + 1, 0, none⟩ = some (.int .i64 1) := by
    refine World.cell?_setCell_same _ _ _ (u := .int .i64 0) ?_
    rw [World.cell?_setCell_other _ _ _ _ (by simp)]; exact n1
  by_cases h1 : a < 0
  · clear hr
    go_enter_defers Try.func29, Try.ntmps29
    go_wp2_with fail
    refine HA.mono ?_
    rintro e w1 ⟨rfl, hw⟩
    subst hw
    clear HA HL
    go_wp2_with fail
    simp [bodyPostD, Leaves, results, Try.results29, go_sem, v0, v1]
    exact FIN.out
  · by_cases h2 : b < a
    · clear hr
      have h1' : 0 ≤ a := by omega
      go_enter_defers Try.func29, Try.ntmps29
      go_wp2_with fail
      refine HA.mono ?_
      rintro e w1 ⟨rfl, hw⟩
      subst hw
      clear HA HL
      go_wp2_with fail
      simp [bodyPostD, Leaves, results, Try.results29, go_sem, v0, v1]
      exact FIN.out
    · have h3 : (d.n : Int) < b := by omega
      have h1' : 0 ≤ a := by omega
      have h2' : a ≤ b := by omega
      clear hr
      go_enter_defers Try.func29, Try.ntmps29
      go_wp2_with fail
      refine HA.mono ?_
      rintro e w1 ⟨rfl, hw⟩
      subst hw
      go_wp2_with fail
      refine HL.mono ?_
      rintro e w1 ⟨rfl, hw⟩
      subst hw
      clear HA HL
      go_wp2_with fail
      simp [bodyPostD, Leaves, results, Try.results29, go_sem, v0, v1]
      exact FIN.out
end
end Go.Proofs.Ytjlnmkoggobbgaa
