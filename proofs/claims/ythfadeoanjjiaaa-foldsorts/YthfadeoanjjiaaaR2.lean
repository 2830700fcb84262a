/- A row rotated: rotate. -/
import Derived.Test.YthfadeoanjjiaaaR1
namespace Go.Proofs.Ythfadeoanjjiaaa
open Go.RowKit Srt

theorem swapRange_int {blk n : Nat} (a b k : Nat) {A B K : Int} (f : Nat → Nat) (cv : Value) (w : World) (hn : n < 1000) (hA : A = a) (hB : B = b) (hK : K = k) (hab : a + k ≤ b) (hb : b + k ≤ n) (hR : Hid (Rw w blk n f)) :
    Calls Try.prog 40 #[.slice (some ⟨blk, 0, none⟩) n n, .int .i64 A, .int .i64 B, .int .i64 K, cv] w fun e w' => e = .returned (.tuple #[]) ∧ Hid (Rw w' blk n (swr a b k f)) ∧ Hid (Below blk w w') := by
  subst hA hB hK
  exact swapRange_any blk n a b k f cv w hn hab hb hR

theorem rot_sw_aux (m : Nat) : ∀ (s i j : Nat) (f : Nat → Nat), i + j ≤ s → i ≤ m → 0 < i → 0 < j → Sw (m - i) (m + j) f (rot (m - i) m (m + j) f) := by
  intro s
  induction s with
  | zero => intro i j f h; omega
  | succ s ih =>
    intro i j f h hi h0 h1
    rcases Nat.lt_trichotomy i j with h2 | h2 | h2
    · rw [← rot_back f hi h2]
      exact (swr_sw f (by omega) (by omega) (by omega)).trans ((ih i (j - i) _ (by omega) hi h0 (by omega)).wide (by omega) (by omega))
    · subst h2
      rw [← rot_last f hi]
      exact swr_sw f (by omega) (by omega) (by omega)
    · rw [← rot_front f hi h2]
      exact (swr_sw f (by omega) (by omega) (by omega)).trans ((ih (i - j) j _ (by omega) (by omega) (by omega) h1).wide (by omega) (by omega))
theorem rot_sw {a m b : Nat} (f : Nat → Nat) (h1 : a < m) (h2 : m < b) : Sw a b f (rot a m b f) := by
  have := rot_sw_aux m _ (m - a) (b - m) f (Nat.le_refl _) (by omega) (by omega) (by omega)
  rw [show m - (m - a) = a from by omega, show m + (b - m) = b from by omega] at this
  exact this

set_option maxRecDepth 100000 in
set_option maxHeartbeats 1000000 in
theorem rotate_any (blk n a m b : Nat) (f : Nat → Nat) (cv : Value) (w : World) (hn : n < 1000) (ham : a < m) (hmb : m < b) (hb : b ≤ n) (hR : Hid (Rw w blk n f)) :
    Calls Try.prog 39 #[.slice (some ⟨blk, 0, none⟩) n n, .int .i64 a, .int .i64 m, .int .i64 b, cv] w fun e w' => e = .returned (.tuple #[]) ∧ Hid (Rw w' blk n (rot a m b f)) ∧ Hid (Below blk w w') := by
  have w1 : Hid ((m : Int) - (a : Int) = ((m - a : Nat) : Int)) := by show _ = _; omega
  have w2 : Hid ((b : Int) - (m : Int) = ((b - m : Nat) : Int)) := by show _ = _; omega
  go_enter Try.func39, Try.ntmps39
  go_wp2_with fail
  go_loopw [10, 11] (fun vi vj wr => ∃ (i j : Nat) (g : Nat → Nat), vi = .int .i64 i ∧ vj = .int .i64 j ∧ 0 < i ∧ 0 < j ∧ a + i ≤ m ∧ m + j ≤ b ∧ Hid (Rw wr blk n g) ∧ Hid (rot (m - i) m (m + j) g = rot a m b f) ∧ Hid (Below blk w wr)) (fun vi vj _ => (intOf vi).toNat + (intOf vj).toNat)
  case atStart => exact ⟨m - a, b - m, f, by rw [w1.out], by rw [w2.out], by omega, by omega, by omega, by omega, hR, by show _ = _; rw [show m - (m - a) = a from by omega, show m + (b - m) = b from by omega], Below.refl _ _⟩
  case round =>
    obtain ⟨i, j, g, rfl, rfl, h1, h2, h3, h4, hS, hE, hL⟩ := hrel
    rcases Nat.lt_trichotomy i j with h5 | h5 | h5
    · have z1 : (i : Int) < (j : Int) := by omega
      have z2 : ((i : Int) == (j : Int)) = false := by rw [beq_eq_false_iff_ne]; omega
      go_wp2_with fail
      refine (swapRange_int (m - i) (m + j - i) i g _ _ hn (by omega) (by omega) rfl (by omega) (by omega) hS).mono ?_
      rintro e w' ⟨rfl, hR2, hB2⟩
      go_wp2_with fail
      exact ⟨⟨i, j - i, _, rfl, by congr 1; omega, by omega, by omega, by omega, by omega, hR2, by show _ = _; rw [rot_back g (by omega) h5]; exact hE.out, hL.out.trans hB2.out⟩, by simp [intOf]; omega⟩
    · subst h5
      go_wp2_with fail
      refine (swapRange_int (m - i) m i g _ _ hn (by omega) rfl rfl (by omega) (by omega) hS).mono ?_
      rintro e w' ⟨rfl, hR2, hB2⟩
      go_wp2_with fail
      go_end0
      refine ⟨rfl, ?_, hL.out.trans hB2.out⟩
      have := hR2.out
      rw [rot_last g (by omega), hE.out] at this
      exact this
    · have z1 : (j : Int) < (i : Int) := by omega
      have z2 : ((i : Int) == (j : Int)) = false := by rw [beq_eq_false_iff_ne]; omega
      go_wp2_with fail
      refine (swapRange_int (m - i) m j g _ _ hn (by omega) rfl rfl (by omega) (by omega) hS).mono ?_
      rintro e w' ⟨rfl, hR2, hB2⟩
      go_wp2_with fail
      exact ⟨⟨i - j, j, _, by congr 1; omega, rfl, by omega, by omega, by omega, by omega, hR2, by show _ = _; rw [rot_front g (by omega) h5]; exact hE.out, hL.out.trans hB2.out⟩, by simp [intOf]; omega⟩

end Go.Proofs.Ythfadeoanjjiaaa
