/- What Sum and Times answer. -/
import Derived.Test.YthfadeoanjjiaaaAr
namespace Go.Proofs.Ythfadeoanjjiaaa
open Go.RowKit

set_option maxHeartbeats 400000 in
theorem times_any (x : Nat) (n : Int) (w : World) :
    Calls Try.prog 17 #[.float .f64 x, .int .i64 n] w fun e w' => ∃ r q, e = .returned (.float .f64 r) ∧ Hid (Got (Ieee.double.mul x (floatOfInt .f64 n)) r) ∧ w' = w.drewN q := by
  obtain ⟨r, q, hg, hr⟩ := run_mul Try.prog 23 x (floatOfInt .f64 n) w
  have H : Hid _ := hg
  clear hg
  go_enter Try.func17, Try.ntmps17
  go_wp2
  go_ret
  exact ⟨r, q, rfl, H, rfl⟩

set_option maxHeartbeats 1000000 in
theorem sum_any (a : Option Addr) (n cap : Nat) (f : Nat → Nat) (w : World) (hn : n < 4611686018427387904) (hl : Hid (Sl w a n f)) :
    Calls Try.prog 15 #[.slice a n cap] w fun e w' => ∃ r, e = .returned (.float .f64 r) ∧ Hid (Got (sumO f n) r) ∧ Below w.heap.size w w' := by
  go_enter Try.func15, Try.ntmps15
  go_wp2_with fail
  go_loopw [3, 8] (fun s i wr => ∃ (k r : Nat), k ≤ n ∧ i = .int .i64 k ∧ s = .float .f64 r ∧ Hid (Got (sumO f k) r) ∧ Hid (Below w.heap.size w wr)) (fun _ i _ => n - (intOf i).toNat)
  case atStart => exact ⟨0, 0, by omega, rfl, rfl, Got.zero, Below.refl _ _⟩
  case round =>
    obtain ⟨k, r, hk, rfl, rfl, hS, hL⟩ := hrel
    by_cases hlt : k < n
    · obtain ⟨b, off, rfl, hb, hc0⟩ := hl.out k hlt
      have hc := (hL.out.cell (p := ⟨b, off + k, none⟩) hb).trans hc0
      clear hc0
      have hltz : (k : Int) < (n : Int) := by omega
      obtain ⟨r2, q, hg, hr⟩ := run_add Try.prog 23 r (f k) wr
      have H2 : Hid (Got (sumO f (k + 1)) r2) := Got.next hS.out hg
      have O2 : Hid (Fl.Ok r2) := hg.ok
      clear hg
      have L2 : Hid (Below w.heap.size w (wr.drewN q)) := hL.out.trans (below_drewN _ _ _)
      cases hn2 : Fl.nan r2
      · go_wp2_with fail
        refine (isNaN_any r2 O2.out _).mono ?_
        rintro e w' ⟨rfl, rfl⟩
        go_wp2_with fail
        exact ⟨⟨k + 1, r2, by omega, by simp, rfl, H2, L2⟩, by simp [intOf]; omega⟩
      · go_wp2_with fail
        refine (isNaN_any r2 O2.out _).mono ?_
        rintro e w' ⟨rfl, rfl⟩
        go_wp2_with fail
        go_ret
        exact ⟨r2, rfl, H2.out.stays hn2 n (by omega), L2.out⟩
    · have hltz : ¬ (k : Int) < (n : Int) := by omega
      obtain rfl : k = n := by omega
      go_wp2
      go_ret
      exact ⟨r, rfl, hS, hL.out⟩

end Go.Proofs.Ythfadeoanjjiaaa
