/- A part of a row put in order: insertionSort. -/
import Derived.Test.YthfadeoanjjiaaaR2
namespace Go.Proofs.Ythfadeoanjjiaaa
open Go.RowKit Srt
attribute [local go_sem] run_store_float

theorem ord_neg {x y : Nat} : ordB x y < 0 ↔ Fl.key x < Fl.key y := by
  unfold ordB cmpI
  constructor
  · intro h
    split at h
    · omega
    · split at h <;> omega
  · intro h
    rw [if_pos (by omega)]
    omega

set_option maxRecDepth 100000 in
set_option maxHeartbeats 2000000 in
theorem insertion_any (blk n a b : Nat) (f : Nat → Nat) (w : World) (hn : n < 1000) (hab : a ≤ b) (hb : b ≤ n) (hf : Hid (∀ i, Fl.Ok (f i))) (hR : Hid (Rw w blk n f)) :
    Calls Try.prog 36 #[.slice (some ⟨blk, 0, none⟩) n n, .int .i64 a, .int .i64 b, .func (.func 29) #[] #[]] w fun e w' => e = .returned (.tuple #[]) ∧ ∃ g, Hid (Rw w' blk n g) ∧ Hid (Sw a b f g) ∧ Hid (Up Fl.key g a b) ∧ Hid (Below blk w w') := by
  go_enter Try.func36, Try.ntmps36
  go_wp2_with fail
  go_loopw [8] (fun vi wr => ∃ (i : Nat) (g : Nat → Nat), vi = .int .i64 i ∧ a < i ∧ i ≤ b + 1 ∧ Hid (Rw wr blk n g) ∧ Hid (Sw a b f g) ∧ Hid (Up Fl.key g a i) ∧ Hid (Below blk w wr)) (fun vi _ => b + 1 - (intOf vi).toNat)
  case atStart => exact ⟨a + 1, f, by go_num, by omega, by omega, hR, Sw.refl, Up.short (Nat.le_refl _), Below.refl _ _⟩
  case round =>
    obtain ⟨i, g, rfl, h1, h2, hS, hW, hU, hL⟩ := hrel
    by_cases hlt : i < b
    · have hltz : (i : Int) < (b : Int) := by omega
      go_wp2_with fail
      go_loopw [9] (fun vj wr2 => ∃ (j : Nat) (d : Nat → Nat), vj = .int .i64 j ∧ a ≤ j ∧ j ≤ i ∧ Hid (Rw wr2 blk n d) ∧ Hid (Sw a b f d) ∧ Hid (Ins Fl.key d a i j) ∧ Hid (Below blk w wr2)) (fun vj _ => (intOf vj).toNat)
      case atStart => exact ⟨i, g, rfl, by omega, by omega, hS, hW, Ins.start hU.out, hL⟩
      case round =>
        obtain ⟨j, d, rfl, h3, h4, hS2, hW2, hI, hL2⟩ := hrel
        by_cases hja : a < j
        · obtain ⟨p, rfl⟩ : ∃ p, j = p + 1 := ⟨j - 1, by omega⟩
          have z1 : (a : Int) < (p : Int) + 1 := by omega
          have z2 : (p : Int) + 1 < (n : Int) := by omega
          obtain ⟨c1, f1⟩ := hS2.out (p + 1) (by omega)
          obtain ⟨c2, f2⟩ := hS2.out p (by omega)
          have o1 : Hid (Fl.Ok (d (p + 1))) := hW2.out.everywhere hf.out (p + 1)
          have o2 : Hid (Fl.Ok (d p)) := hW2.out.everywhere hf.out p
          by_cases hlv : ordB (d (p + 1)) (d p) < 0
          · have hw : Hid (∀ q, Rw (((wr.drewN q).setCell ⟨blk, p + 1, none⟩ (.float .f64 (d p))).setCell ⟨blk, p, none⟩ (.float .f64 (d (p + 1)))).drew blk n (sw d (p + 1) p)) := fun q => ((hS2.out.drewN q).swap (i := p + 1) (j := p) (by omega) (by omega)).drew
            have hi : Hid (Ins Fl.key (sw d (p + 1) p) a i p) := hI.out.step hja h4 (ord_neg.1 hlv)
            have hs : Hid (Sw a b f (sw d (p + 1) p)) := hW2.out.step (by omega) (by omega) (by omega) (by omega)
            generalize d (p + 1) = x at *
            generalize d p = y at *
            go_wp2_with fail
            go_quiet ((first | (go_at_call 29; exact Calls.quiet_of_same (order_any _ _ o1.out o2.out _))))
            have c1' : (wr.drewN nq).cell? ⟨blk, p + 1, none⟩ = some (.float .f64 x) := c1
            have c2' : (wr.drewN nq).cell? ⟨blk, p, none⟩ = some (.float .f64 y) := c2
            have f1' : (wr.drewN nq).frozen? ⟨blk, p + 1, none⟩ = false := f1
            have f2' : (wr.drewN nq).frozen? ⟨blk, p, none⟩ = false := f2
            have hw2 : Hid _ := hw.out nq
            have hl2 : Hid (Below blk w (wr.drewN nq)) := hL2.out.trans (below_drewN _ _ _)
            clear hw c1 c2 f1 f2
            generalize wr.drewN nq = wq at *
            go_wp2_with fail
            go_region
            all_goals go_wp2
            go_roundw
            case rel => exact ⟨p, _, by go_num, by omega, by omega, hw2, hs, hi, (below_swap hl2.out _ _ _ _).drew⟩
            case measure => simp [intOf]
          · have hx : Hid (Up Fl.key d a (i + 1)) := hI.out.stop (.inr (by have := mt ord_neg.2 hlv; simp only [Nat.add_sub_cancel]; omega))
            have hd : decide (ordB (d (p + 1)) (d p) < 0) = false := decide_eq_false hlv
            generalize d (p + 1) = x at *
            generalize d p = y at *
            go_wp2_with fail
            go_quiet ((first | (go_at_call 29; exact Calls.quiet_of_same (order_any _ _ o1.out o2.out _))))
            have hl2 : Hid (Below blk w (wr.drewN nq)) := hL2.out.trans (below_drewN _ _ _)
            have hs2 : Hid (Rw (wr.drewN nq) blk n d) := hS2.out.drewN nq
            go_wp2_with fail
            exact ⟨⟨i + 1, d, by go_num, by omega, by omega, hs2, hW2, hx, hl2⟩, by simp [intOf]; omega⟩
        · have hx : Hid (Up Fl.key d a (i + 1)) := hI.out.stop (.inl (by omega))
          have z1 : decide ((j : Int) > (a : Int)) = false := decide_eq_false (by omega)
          have z2 : ¬ (a : Int) < (j : Int) := by omega
          go_wp2_with fail
          go_quiet ((first | (go_at_call 29; fail)))
          have hl2 : Hid (Below blk w (wr.drewN nq)) := hL2.out.trans (below_drewN _ _ _)
          have hs2 : Hid (Rw (wr.drewN nq) blk n d) := hS2.out.drewN nq
          go_wp2_with fail
          exact ⟨⟨i + 1, d, by go_num, by omega, by omega, hs2, hW2, hx, hl2⟩, by simp [intOf]; omega⟩
    · have hltz : ¬ (i : Int) < (b : Int) := by omega
      go_wp2_with fail
      go_end0
      exact ⟨rfl, g, hS, hW, hU.out.sub (Nat.le_refl _) (by omega), hL⟩

end Go.Proofs.Ythfadeoanjjiaaa
