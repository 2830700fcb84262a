/- Two runs merged, the second of one: symMerge. -/
import Derived.Test.YthfadeoanjjiaaaR3
namespace Go.Proofs.Ythfadeoanjjiaaa
open Go.RowKit Srt
attribute [local go_sem] run_store_float

set_option maxRecDepth 100000 in
set_option maxHeartbeats 2000000 in
theorem sym_down (blk n a m b : Nat) (f : Nat → Nat) (w : World) (hn : n < 1000) (ham : a + 1 < m) (hm : b = m + 1) (hb : b ≤ n) (HU : Hid (Up Fl.key f a m)) (hf : Hid (∀ i, Fl.Ok (f i))) (hR : Hid (Rw w blk n f)) :
    Calls Try.prog 37 #[.slice (some ⟨blk, 0, none⟩) n n, .int .i64 a, .int .i64 m, .int .i64 b, .func (.func 29) #[] #[]] w fun e w' => e = .returned (.tuple #[]) ∧ ∃ g, Hid (Rw w' blk n g) ∧ Hid (Sw a b f g) ∧ Hid (Up Fl.key g a b) ∧ Hid (Below blk w w') := by
  have z0 : ((m : Int) - (a : Int) == 1) = false := by rw [beq_eq_false_iff_ne]; omega
  have z1 : ((b : Int) - (m : Int) == 1) = true := by rw [beq_iff_eq]; omega
  have HM : Hid (b = m + 1) := hm
  have hm1 : m < b := by omega
  have hm2 : b < m + 2 := by omega
  clear hm
  go_enter Try.func37, Try.ntmps37
  go_wp2_with fail
  go_loopw [14, 15] (fun vi vj wr => ∃ (i j : Nat), vi = .int .i64 i ∧ vj = .int .i64 j ∧ a ≤ i ∧ i ≤ j ∧ j ≤ m ∧ Hid (∀ k, a ≤ k → k < i → Fl.key (f k) ≤ Fl.key (f m)) ∧ Hid (∀ k, j ≤ k → k < m → Fl.key (f m) ≤ Fl.key (f k)) ∧ Hid (Rw wr blk n f) ∧ Hid (Below blk w wr)) (fun vi vj _ => (intOf vj).toNat - (intOf vi).toNat)
  case atStart => exact ⟨a, m, rfl, rfl, by omega, by omega, by omega, fun k h1 h2 => by omega, fun k h1 h2 => by omega, hR, Below.refl _ _⟩
  case round =>
    obtain ⟨i, j, rfl, rfl, h1, h2, h3, hlo, hhi, hS, hL⟩ := hrel
    by_cases hlt : i < j
    · have hltz : (i : Int) < (j : Int) := by omega
      obtain ⟨h, hh⟩ : ∃ h, h = (i + j) / 2 := ⟨_, rfl⟩
      have e1 : ((i : Int) + (j : Int)) / 2 = (h : Int) := by omega
      have b1 : i ≤ h := by omega
      have b2 : h < j := by omega
      have z2 : (h : Int) < (n : Int) := by omega
      have z3 : (m : Int) < (n : Int) := by omega
      obtain ⟨c1, _⟩ := hS.out h (by omega)
      obtain ⟨c2, _⟩ := hS.out m (by omega)
      have o1 : Hid (Fl.Ok (f h)) := hf.out h
      have o2 : Hid (Fl.Ok (f m)) := hf.out m
      have HH : Hid _ := hh
      clear hh
      by_cases hlv : ordB (f m) (f h) < 0
      · have n1 : Hid (∀ k, h ≤ k → k < m → Fl.key (f m) ≤ Fl.key (f k)) := fun k k1 k2 => Nat.le_trans (Nat.le_of_lt (ord_neg.1 hlv)) (HU.out.le (by omega) k1 k2)
        generalize hx : f h = x at *
        generalize hy : f m = y at *
        clear hx hy
        go_wp2_with fail
        go_quiet ((first | (go_at_call 29; exact Calls.quiet_of_same (order_any _ _ o2.out o1.out _))))
        go_wp2_with fail
        exact ⟨⟨i, h, rfl, rfl, by omega, by omega, by omega, hlo, n1, hS.out.drewN nq, hL.out.trans (below_drewN _ _ _)⟩, by simp [intOf]; omega⟩
      · have n1 : Hid (∀ k, a ≤ k → k < h + 1 → Fl.key (f k) ≤ Fl.key (f m)) := fun k k1 k2 => Nat.le_trans (HU.out.le k1 (q := h) (by omega) (by omega)) (by have := mt ord_neg.2 hlv; omega)
        have hd : decide (ordB (f m) (f h) < 0) = false := decide_eq_false hlv
        generalize hx : f h = x at *
        generalize hy : f m = y at *
        clear hx hy
        go_wp2_with fail
        go_quiet ((first | (go_at_call 29; exact Calls.quiet_of_same (order_any _ _ o2.out o1.out _))))
        go_wp2_with fail
        exact ⟨⟨h + 1, j, by go_num, rfl, by omega, by omega, by omega, n1, hhi, hS.out.drewN nq, hL.out.trans (below_drewN _ _ _)⟩, by simp [intOf]; omega⟩
    · have hltz : ¬ (i : Int) < (j : Int) := by omega
      obtain rfl : i = j := by omega
      have hfin : Hid (Up Fl.key (rot i m (m + 1) f) a b) := by show Up _ _ _ _; rw [HM.out]; exact merge_down HU.out h1 h3 hlo.out hhi.out
      go_wp2_with fail
      go_loopw [17] (fun vk wr2 => ∃ (k : Nat), vk = .int .i64 k ∧ i ≤ k ∧ k ≤ m ∧ Hid (Rw wr2 blk n (rot k m (m + 1) f)) ∧ Hid (Sw a b f (rot k m (m + 1) f)) ∧ Hid (Below blk w wr2)) (fun vk _ => (intOf vk).toNat)
      case atStart => exact ⟨m, rfl, by omega, by omega, by show Rw _ _ _ _; rw [rot_none_left]; exact hS.out, by show Sw _ _ _ _; rw [rot_none_left]; exact .refl, hL⟩
      case round =>
        obtain ⟨k, rfl, h4, h5, hS2, hW, hL2⟩ := hrel
        by_cases hkt : i < k
        · obtain ⟨p, rfl⟩ : ∃ p, k = p + 1 := ⟨k - 1, by omega⟩
          have z4 : (i : Int) < (p : Int) + 1 := by omega
          have z5 : (p : Int) + 1 < (n : Int) := by omega
          obtain ⟨c1, f1⟩ := hS2.out (p + 1) (by omega)
          obtain ⟨c2, f2⟩ := hS2.out p (by omega)
          have hw : Hid (Rw ((wr.setCell ⟨blk, p + 1, none⟩ (.float .f64 (rot (p + 1) m (m + 1) f p))).setCell ⟨blk, p, none⟩ (.float .f64 (rot (p + 1) m (m + 1) f (p + 1)))).drew blk n (rot p m (m + 1) f)) := by
            show Rw _ _ _ _
            rw [rot_down f (by omega : p < m)]
            exact (hS2.out.swap (i := p + 1) (j := p) (by omega) (by omega)).drew
          have hs : Hid (Sw a b f (rot p m (m + 1) f)) := by
            show Sw _ _ _ _
            rw [rot_down f (by omega : p < m)]
            exact hW.out.step (by omega) (by omega) (by omega) (by omega)
          generalize rot (p + 1) m (m + 1) f p = x at *
          generalize rot (p + 1) m (m + 1) f (p + 1) = y at *
          go_wp2_with fail
          go_region
          all_goals go_wp2
          go_roundw
          case rel => exact ⟨p, by go_num, by omega, by omega, hw, hs, (below_swap hL2.out _ _ _ _).drew⟩
          case measure => simp [intOf]
        · have z4 : ¬ (i : Int) < (k : Int) := by omega
          obtain rfl : k = i := by omega
          go_wp2_with fail
          (try simp only [Exit.inBlock, Exit.then])
          refine bodyPost_ret (results_none rfl _ _ _) rfl ?_
          exact ⟨rfl, _, hS2, hW, hfin, hL2⟩

end Go.Proofs.Ythfadeoanjjiaaa
