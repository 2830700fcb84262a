/- At. -/
import Derived.Test.YtjlnmkoggobbgaaG1
namespace Go.Proofs.Ytjlnmkoggobbgaa
open Go.RowKit

theorem cntp_one (sz i : Nat) : cntp sz i (i + 1) = 1 := by unfold cntp; rw [if_pos (by omega), Nat.add_sub_cancel]; omega

theorem wrap64_in {x : Int} (h1 : -9223372036854775808 ≤ x) (h2 : x ≤ 9223372036854775807) : wrap64 x = x := by
  simp [wrap64]
  omega

section
variable {w : World} {q : Nat} {d : Pd} {mo : Int} {l : List Int} {bad : Nat → Bool} {R : List Int} {Y : Nat → Prop}

theorem at_nil (w : World) : Calls Try.prog 27 #[.pointer none, .int .i64 0] w fun e w' => e = .returned (.tuple #[.int .u8 0, .int .i64 1]) ∧ Below w.heap.size w w' := by
  go_enter Try.func27, Try.ntmps27
  go_wp2_with fail
  refine (bytes_nil _ _ w).mono ?_
  rintro e w1 ⟨rfl, B⟩
  have HB : Hid _ := B
  clear B
  go_wp2_with fail
  go_ret2
  exact ⟨rfl, HB.out⟩

set_option maxHeartbeats 1000000 in
theorem at_range (h : Fs w q d mo l bad R Y) (i : Int) (hr : i < 0 ∨ (d.n : Int) ≤ i) (h1 : i ≤ 9223372036854775807) : Calls Try.prog 27 #[.pointer (some ⟨q, 0, none⟩), .int .i64 i] w fun e w' => e = .returned (.tuple #[.int .u8 0, .int .i64 1]) ∧ Below w.heap.size w w' := by
  have H : Hid (∀ b : Int, (i < 0 ∨ b < i ∨ (d.n : Int) < b) → Calls Try.prog 29 #[.pointer (some ⟨q, 0, none⟩), .int .i64 i, .int .i64 b] w fun e w' => e = .returned (.tuple #[.slice none 0 0, .int .i64 1]) ∧ Below w.heap.size w w') := fun b hb => bytes_range h i b hb
  clear h
  go_enter Try.func27, Try.ntmps27
  go_wp2_with fail
  refine (H.out (wrap64 (i + 1)) ?_).mono ?_
  · by_cases e : i = 9223372036854775807
    · subst e
      exact .inr (.inl (by simp [wrap64]))
    · rcases hr with hr | hr
      · exact .inl hr
      · rw [wrap64_in (by omega) (by omega)]
        omega
  rintro e w1 ⟨rfl, B⟩
  have HB : Hid _ := B
  clear B H
  go_wp2_with fail
  go_ret2
  exact ⟨rfl, HB.out⟩

set_option maxHeartbeats 1000000 in
theorem at_ok (h : Fs w q d mo l bad R Y) (i : Nat) (hi : i < d.n) (hR : R.length < 20000) (hf : ¬ fails (cap mo) l (i / d.sz) bad 0) :
    Calls Try.prog 27 #[.pointer (some ⟨q, 0, none⟩), .int .i64 i] w fun e w' => e = .returned (.tuple #[.int .u8 (d.f i), .int .i64 0]) ∧ Hid (LeftB w w' q d mo (rk (cap mo) l (i / d.sz) 1) bad (R ++ rr (cap mo) l (i / d.sz) 1) Y) := by
  have hsm := h.small
  have B := bytes_ok h i (i + 1) (by omega) (by omega) hR (by rw [cntp_one]; intro s hs; obtain rfl : s = 0 := (by omega); exact hf)
  rw [cntp_one, show i + 1 - i = 1 by omega, show ((i + 1 : Nat) : Int) = (i : Int) + 1 by omega] at B
  have hn : (i : Int) < 5000 := by omega
  obtain ⟨x, hx⟩ : ∃ x, x = d.f i := ⟨_, rfl⟩
  rw [← hx]
  have HX : Hid _ := hx
  clear h hsm hR hf hx
  go_enter Try.func27, Try.ntmps27
  go_wp2_with fail
  refine B.mono ?_
  rintro e w1 ⟨xa, xc, rfl, T⟩
  clear B
  obtain ⟨b1, o1, rfl, _, hc1⟩ := (Own.sl T.out.2.1).elim fun a h => h.elim fun c h => by
    obtain ⟨e, s, _⟩ := h
    cases e
    exact s 0 (by omega)
  have hc : w1.cell? ⟨b1, o1, none⟩ = some (.int .u8 x) := by rw [HX.out]; exact hc1
  clear hc1
  go_wp2_with fail
  go_ret2
  exact ⟨rfl, T.out.1.mono (fun j hj => .inl hj), T.out.2.2⟩

set_option maxHeartbeats 1000000 in
theorem at_bad (h : Fs w q d mo l bad R Y) (i : Nat) (hi : i < d.n) (hR : R.length < 20000) (hf : fails (cap mo) l (i / d.sz) bad 0) :
    Calls Try.prog 27 #[.pointer (some ⟨q, 0, none⟩), .int .i64 i] w fun e w' => e = .returned (.tuple #[.int .u8 0, .int .i64 11]) ∧ Hid (LeftB w w' q d mo (rk (cap mo) l (i / d.sz) 0) bad (R ++ rr (cap mo) l (i / d.sz) 1) Y) := by
  have hsm := h.small
  have B := bytes_bad h i (i + 1) (by omega) (by omega) hR 0 (by rw [cntp_one]; omega) hf (fun s hs => by omega)
  rw [show ((i + 1 : Nat) : Int) = (i : Int) + 1 by omega] at B
  have hn : (i : Int) < 5000 := by omega
  clear h hsm hR hf
  go_enter Try.func27, Try.ntmps27
  go_wp2_with fail
  refine B.mono ?_
  rintro e w1 ⟨rfl, T⟩
  clear B
  go_wp2_with fail
  go_ret2
  exact ⟨rfl, T⟩
end
end Go.Proofs.Ytjlnmkoggobbgaa
