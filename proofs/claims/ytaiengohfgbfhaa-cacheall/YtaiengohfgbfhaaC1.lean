/- SameInts; the statements' first call. -/
import Derived.Test.YtaiengohfgbfhaaUI
import Derived.Test.YtaiengohfgbfhaaQI
import Derived.Deep.QuietTactic
import Derived.BigQuiet
namespace Go.Proofs.Ytaiengohfgbfhaa
open Go.RowKit

set_option maxHeartbeats 1000000 in
theorem same_true (a b : Option Addr) (n ca cb : Nat) (f : Nat → Int) (w : World) (hn : n < 100000) (ha : Hid (Sl w a n (In f))) (hb : Hid (Sl w b n (In f))) :
    Calls Try.prog 18 #[.slice a n ca, .slice b n cb] w fun e w' => e = .returned (.bool true) ∧ Hid (Mv (fun _ => False) w w') := by
  go_enter Try.func18, Try.ntmps18
  go_wp2_with fail
  go_loopw [5] (fun vi wr => ∃ i : Nat, i ≤ n ∧ vi = .int .i64 i ∧ Hid (Mv (fun _ => False) w wr)) (fun vi _ => n - (intOf vi).toNat)
  case atStart => exact ⟨0, by omega, rfl, Mv.refl _ _⟩
  case round =>
    obtain ⟨i, hi, rfl, M⟩ := hrel
    by_cases hlt : i < n
    · have hltz : (i : Int) < (n : Int) := by omega
      obtain ⟨b1, o1, rfl, _, hc1⟩ := (ha.out.mv M.out (fun _ _ h => h)) i hlt
      obtain ⟨b2, o2, rfl, _, hc2⟩ := (hb.out.mv M.out (fun _ _ h => h)) i hlt
      have hd1 : wr.cell? ⟨b1, o1 + i, none⟩ = some (.int .i64 (f i)) := hc1
      have hd2 : wr.cell? ⟨b2, o2 + i, none⟩ = some (.int .i64 (f i)) := hc2
      clear hc1 hc2
      generalize f i = x at hd1 hd2
      go_wp2_with fail
      go_quiet (fail)
      go_wp2_with fail
      exact ⟨⟨i + 1, by omega, by go_num, M.out.trans (Mv.drewN (fun _ => False) _ _) (fun _ _ h => h)⟩, by simp [intOf]; omega⟩
    · obtain rfl : i = n := by omega
      go_wp2_with fail
      go_ret
      exact ⟨rfl, M⟩

theorem below_mv {B : Nat} {w a b : World} {S : Nat → Prop} (h : Below B w a) (k : Mv S a b) (hB : B ≤ w.heap.size) (hs : ∀ j, j < B → ¬ S j) : Below B w b := h.trans (k.below (Nat.le_trans hB h.size) hs)

set_option maxHeartbeats 1000000 in
theorem begun_any (w : World) : Calls Try.prog 8 #[] w fun e w' => e = .returned (.bool true) ∧ Below w.heap.size w w' := by
  have c0 := Ch.new w 2 1 66 (fun j => j < w.heap.size) (fun j h => h) (by omega)
  have C0 : Hid _ := c0
  have B0 : Hid (Below w.heap.size w (w.alloc (.cells #[.int .i64 1, .map none, .pointer none, .pointer none] 66))) := (Below.refl _ _).alloc (Nat.le_refl _) _
  have mvb : ∀ a b : World, Below w.heap.size w a → Mv (fun j => ¬ j < w.heap.size) a b → Below w.heap.size w b := fun a b h k => below_mv h k (Nat.le_refl _) (fun j hj h => h hj)
  clear c0
  go_enter Try.func8, Try.ntmps8
  go_wp2_with fail
  refine (inew 1 w).mono ?_
  rintro e w1 ⟨rfl, hw⟩
  obtain rfl := hw.symm
  clear hw
  go_wp2_with fail
  refine (iput_room C0.out (k := 1) rfl rfl (fun j h => by simp; omega) (by simp) (by decide) 5).mono ?_
  rintro e w2 ⟨rfl, C1⟩
  have B1 : Hid (Below w.heap.size w w2) := mvb _ _ B0.out C1.out.2
  go_wp2_with fail
  refine (iput_full C1.out.1 (k := 2) rfl rfl (fun j h => by have := B1.out.size; omega) (by simp) (by decide) 6).mono ?_
  rintro e w3 ⟨rfl, C2⟩
  have B2 : Hid (Below w.heap.size w w3) := mvb _ _ B1.out C2.out.2
  go_wp2_with fail
  refine (iget_some C2.out.1 (k := 2) rfl (p := (2, fun _ => .int .i64 6)) rfl).mono ?_
  rintro e w4 ⟨rfl, C3⟩
  have B3 : Hid (Below w.heap.size w w4) := mvb _ _ B2.out C3.out.2
  go_wp2_with fail
  refine (ikeys C3.out.1 (by simp [sdel])).mono ?_
  rintro e w5 ⟨a, cap, rfl, O⟩
  have B4 : Hid (Below w.heap.size w w5) := B3.out.trans (O.out.2.mono B3.out.size)
  go_wp2_with fail
  go_ret
  exact ⟨rfl, B4.out⟩

end Go.Proofs.Ytaiengohfgbfhaa
