/- The walk of PageAll: where it ends at once. -/
import Derived.Test.YtjlnmkoggobbgaaE1
namespace Go.Proofs.Ytjlnmkoggobbgaa
open Go.RowKit

set_option maxRecDepth 100000 in
set_option maxHeartbeats 4000000 in
theorem all_out (a b : Option Addr) (na ca nb cb : Nat) (s : Int) (w : World) (h : 400 < na ∨ 40 < nb) :
    Calls Try.prog 3 #[.slice a na ca, .int .i64 s, .slice b nb cb] w fun e w' => e = .returned (.bool true) ∧ Below w.heap.size w w' := by
  by_cases h1 : 400 < na
  · have z1 : (400 : Int) < na := by omega
    clear h
    go_enter Try.func3, Try.ntmps3
    go_wp2_with fail
    refine (begun_any w).mono ?_
    rintro e W ⟨rfl, B⟩
    have B' : Hid _ := B
    clear B
    go_wp2_with fail
    go_ret
    exact ⟨rfl, B'.out⟩
  · have z1 : (na : Int) ≤ 400 := by omega
    have z2 : (40 : Int) < nb := by omega
    clear h
    go_enter Try.func3, Try.ntmps3
    go_wp2_with fail
    refine (begun_any w).mono ?_
    rintro e W ⟨rfl, B⟩
    have B' : Hid _ := B
    clear B
    go_wp2_with fail
    go_ret
    exact ⟨rfl, B'.out⟩

set_option maxRecDepth 100000 in
set_option maxHeartbeats 4000000 in
theorem all_size (a b : Option Addr) (na ca nb cb : Nat) (f : Nat → Int) (s : Int) (w : World) (hna : na ≤ 400) (hnb : nb ≤ 40) (hl : Hid (Sl w a na (By f))) (hs : s < 1 ∨ 512 < s) :
    Calls Try.prog 3 #[.slice a na ca, .int .i64 s, .slice b nb cb] w fun e w' => e = .returned (.bool true) ∧ Below w.heap.size w w' := by
  have z1 : (na : Int) ≤ 400 := by omega
  have z2 : (nb : Int) ≤ 40 := by omega
  have HS : Hid _ := hs
  rcases hs with h | h
  · go_enter Try.func3, Try.ntmps3
    go_wp2_with fail
    refine (begun_any w).mono ?_
    rintro e W ⟨rfl, B⟩
    have B' : Hid (Below w.heap.size w W) := B
    clear B
    go_wp2_with fail
    refine (twin_any a na ca f W (by omega) (hl.out.below B'.out)).mono ?_
    rintro e W1 ⟨rfl, O1, B1⟩
    have B2 : Hid (Below w.heap.size w W1) := B'.out.trans (B1.out.mono B'.out.size)
    clear B1 O1
    go_wp2_with fail
    refine (new_bad _ na (na + 3) s W1 (by have := HS.out; omega)).mono ?_
    rintro e W2 ⟨rfl, hw⟩
    obtain rfl := hw.symm
    clear hw
    go_wp2_with fail
    go_ret
    exact ⟨rfl, B2.out⟩
  · have h1 : ¬ s < 1 := by omega
    go_enter Try.func3, Try.ntmps3
    go_wp2_with fail
    refine (begun_any w).mono ?_
    rintro e W ⟨rfl, B⟩
    have B' : Hid (Below w.heap.size w W) := B
    clear B
    go_wp2_with fail
    refine (twin_any a na ca f W (by omega) (hl.out.below B'.out)).mono ?_
    rintro e W1 ⟨rfl, O1, B1⟩
    have B2 : Hid (Below w.heap.size w W1) := B'.out.trans (B1.out.mono B'.out.size)
    clear B1 O1
    go_wp2_with fail
    refine (new_bad _ na (na + 3) s W1 (by have := HS.out; omega)).mono ?_
    rintro e W2 ⟨rfl, hw⟩
    obtain rfl := hw.symm
    clear hw
    go_wp2_with fail
    go_ret
    exact ⟨rfl, B2.out⟩
end Go.Proofs.Ytjlnmkoggobbgaa
