/- Twins: lists with spare room. -/
import Derived.Test.YtjelclomigmlmaaE6
namespace Go.Proofs.Ytjelclomigmlmaa
open Go.RowKit
theorem Own.set {w : World} {base g n c : Nat} {e : TypeId} {V : Nat → Value} (h : Own w base e (.slice (some ⟨g, 0, none⟩) n c) n V) (i : Nat) (u : Value) : Own (w.setCell ⟨g, i, none⟩ u) base e (.slice (some ⟨g, 0, none⟩) n c) n (fun j => if j = i then u else V j) := by
  refine Own.of (World.ownsRow.stored h i u).1 ?_
  intro j hj
  by_cases e : j = i
  · subst e
    rw [World.cell?_setCell_same _ _ _ (h.at hj).1, if_pos rfl]
  · rw [World.cell?_setCell_other _ _ _ _ (fun h => e (by injection h with _ h2; exact h2.symm)), (h.at hj).1, if_neg e]

set_option maxHeartbeats 1000000 in
set_option maxRecDepth 20000 in
theorem spoil_any (g l c base : Nat) (V : Nat → Value) (w : World) (hl : l ≤ c) (hc : c < 100000) (h : Hid (Own w base 5 (.slice (some ⟨g, 0, none⟩) c c) c V)) :
    Calls Try.prog 16 #[.slice (some ⟨g, 0, none⟩) l c] w fun e w' => e = .returned (.tuple #[]) ∧ Hid (Mv (fun j => j = g) w w') := by
  go_enter Try.func16, Try.ntmps16
  go_wp2_with fail
  go_loopw [3] (fun vi wr => ∃ i : Nat, i ≤ c ∧ vi = .int .i64 i ∧ Hid (∃ V, Own wr base 5 (.slice (some ⟨g, 0, none⟩) c c) c V) ∧ Hid (Mv (fun j => j = g) w wr)) (fun vi _ => c - (intOf vi).toNat)
  case atStart => exact ⟨0, by omega, rfl, ⟨V, h⟩, Mv.refl _ _⟩
  case round =>
    obtain ⟨i, hi, rfl, O, M⟩ := hrel
    by_cases hlt : i < c
    · have hltz : (i : Int) < (c : Int) := by omega
      obtain ⟨V', O'⟩ := O.out
      have h1 := (O'.at hlt).1
      have h2 := (O'.at hlt).2
      have O2 : Hid (Own wr base 5 (.slice (some ⟨g, 0, none⟩) c c) c V') := O'
      clear O'
      generalize V' i = x at h1
      go_wp2_with fail
      exact ⟨⟨i + 1, by omega, by go_num, ⟨_, O2.out.set i (.int .u8 90)⟩, M.out.trans (Mv.setCell _ _ _) (fun _ _ h => h)⟩, by simp [intOf]; omega⟩
    · obtain rfl : i = c := by omega
      go_wp2_with fail
      go_end0
      exact ⟨rfl, M⟩

/-- A twin's cells. -/
def twV (f : Nat → Int) (n : Nat) : Nat → Value := fun i => if i < n then By f i else .int .u8 229

def twK (f : Nat → Int) (n k : Nat) : Nat → Value := fun i => if i < n then By f i else if i < n + k then .int .u8 229 else .int .u8 0
theorem twK_zero (f : Nat → Int) (n i : Nat) : (if i < n then By f i else Value.int .u8 0) = twK f n 0 i := by
  unfold twK
  by_cases h1 : i < n
  · rw [if_pos h1, if_pos h1]
  · rw [if_neg h1, if_neg h1, if_neg (by omega)]
theorem twK_set (f : Nat → Int) (n k j : Nat) : (if j = n + k then Value.int .u8 229 else twK f n k j) = twK f n (k + 1) j := by
  unfold twK
  by_cases h1 : j < n
  · rw [if_neg (by omega), if_pos h1, if_pos h1]
  · rw [if_neg h1, if_neg h1]
    by_cases h2 : j = n + k
    · rw [if_pos h2, if_pos (by omega)]
    · rw [if_neg h2]
      by_cases h3 : j < n + k
      · rw [if_pos h3, if_pos (by omega)]
      · rw [if_neg h3, if_neg (by omega)]
theorem twK_end (f : Nat → Int) (n j : Nat) (h : j < n + 3) : twK f n 3 j = twV f n j := by
  unfold twK twV
  by_cases h1 : j < n
  · rw [if_pos h1, if_pos h1]
  · rw [if_neg h1, if_neg h1, if_pos h]

set_option maxHeartbeats 1000000 in
set_option maxRecDepth 20000 in
theorem twin_any (a : Option Addr) (n c : Nat) (f : Nat → Int) (w : World) (hn : n < 90000) (hl : Hid (Sl w a n (By f))) :
    Calls Try.prog 12 #[.slice a n c] w fun e w' => e = .returned (.slice (some ⟨w.heap.size, 0, none⟩) n (n + 3)) ∧ Hid (Own w' w.heap.size 5 (.slice (some ⟨w.heap.size, 0, none⟩) (n + 3) (n + 3)) (n + 3) (twV f n)) ∧ Hid (Below w.heap.size w w') := by
  obtain ⟨hmk, ho⟩ := made 28 5 Try.t5 (.int .u8 0) 1 Try.underlying28 info5 (by kernel_rfl) (by kernel_rfl) (by kernel_rfl) rfl (by omega) (n + 3) (by omega) w w.heap.size (Nat.le_refl _)
  obtain ⟨W, hcp, h2, h3⟩ := copied 28 5 Try.underlying28 (by kernel_rfl) _ _ _ _ _ _ (By f) a n c ho (hl.out.mv (Mv.alloc (fun _ => False) w _) (fun _ _ h => h)) (by omega) (fun _ => rfl)
  have R : Hid (Own W w.heap.size 5 (.slice (some ⟨w.heap.size, 0, none⟩) (n + 3) (n + 3)) (n + 3) (fun i => if i < n then By f i else .int .u8 0)) := h2
  have B : Hid (Below w.heap.size w W) := ((Mv.alloc (fun k => k = w.heap.size) w _).trans h3 (fun _ _ h => h)).below (Nat.le_refl _) (fun k hk => by omega)
  clear ho h2 h3
  have z1 : ((n + 3 : Nat) : Int) = (n : Int) + 3 := by omega
  rw [z1] at hmk
  have Z1 : Hid _ := z1
  clear z1
  go_enter Try.func12, Try.ntmps12
  go_wp2_with fail
  go_loopw [4] (fun vi wr => ∃ i : Nat, i ≤ 3 ∧ vi = .int .i64 ((n + i : Nat) : Int) ∧ Hid (Own wr w.heap.size 5 (.slice (some ⟨w.heap.size, 0, none⟩) (n + 3) (n + 3)) (n + 3) (twK f n i)) ∧ Hid (Below w.heap.size w wr)) (fun vi _ => n + 3 - (intOf vi).toNat)
  case atStart => exact ⟨0, by omega, rfl, R.out.congr (fun i hi => twK_zero f n i), B⟩
  case round =>
    obtain ⟨i, hi, rfl, O, L⟩ := hrel
    by_cases hlt : i < 3
    · have hltz : ((n + i : Nat) : Int) < (n : Int) + 3 := by omega
      have h1 := (O.out.at (show n + i < n + 3 by omega)).1
      have h2 := (O.out.at (show n + i < n + 3 by omega)).2
      generalize twK f n i (n + i) = x at h1
      go_wp2_with fail
      exact ⟨⟨i + 1, by omega, by go_num, (O.out.set (n + i) (.int .u8 229)).congr (fun j hj => twK_set f n i j), L.out.setCell (Nat.le_refl _) _⟩, by simp [intOf]; omega⟩
    · obtain rfl : i = 3 := by omega
      have z3 : (n : Int) ≤ (n : Int) + 3 := by omega
      go_wp2_with fail
      go_ret
      exact ⟨rfl, O.out.congr (fun j hj => twK_end f n j hj), L⟩

set_option maxHeartbeats 1000000 in
set_option maxRecDepth 20000 in
theorem kept_any (g base : Nat) (b : Option Addr) (n c : Nat) (f : Nat → Int) (w : World) (hn : n < 90000) (hx : Hid (Own w base 5 (.slice (some ⟨g, 0, none⟩) (n + 3) (n + 3)) (n + 3) (twV f n))) (hl : Hid (Sl w b n (By f))) :
    Calls Try.prog 15 #[.slice (some ⟨g, 0, none⟩) n (n + 3), .slice b n c] w fun e w' => e = .returned (.bool true) ∧ w' = w := by
  have hs1 : Sl w (some ⟨g, 0, none⟩) n (By f) := fun i hi => ⟨g, 0, rfl, (hx.out.blk g rfl).2, by rw [Nat.zero_add, (hx.out.at (show i < n + 3 by omega)).1]; unfold twV; rw [if_pos hi]⟩
  have hv1 := conv_any _ n (n + 3) f w hs1
  have hv2 := conv_any _ n c f w hl.out
  clear hs1
  have z3 : (n : Int) ≤ (n : Int) + 3 := by omega
  generalize txt f n = t at hv1 hv2
  go_enter Try.func15, Try.ntmps15
  go_wp2_with fail
  go_loopw [6] (fun vi wr => ∃ i : Nat, i ≤ 3 ∧ vi = .int .i64 ((n + i : Nat) : Int) ∧ wr = w) (fun vi _ => n + 3 - (intOf vi).toNat)
  case atStart => exact ⟨0, by omega, rfl, rfl⟩
  case round =>
    obtain ⟨i, hi, rfl, hw⟩ := hrel
    obtain rfl := hw.symm
    by_cases hlt : i < 3
    · have hltz : ((n + i : Nat) : Int) < (n : Int) + 3 := by omega
      have h1 : w.cell? ⟨g, n + i, none⟩ = some (.int .u8 229) := by rw [(hx.out.at (show n + i < n + 3 by omega)).1]; unfold twV; rw [if_neg (by omega)]
      clear hw
      go_wp2_with fail
      exact ⟨⟨i + 1, by omega, by go_num, by trivial⟩, by simp [intOf]; omega⟩
    · obtain rfl : i = 3 := by omega
      clear hw
      go_wp2_with fail
      go_ret
      exact ⟨rfl, rfl⟩
end Go.Proofs.Ytjelclomigmlmaa
