/- Two runs merged, the cut in the first: symMerge. -/
import Derived.Test.YthfadeoanjjiaaaY3
namespace Go.Proofs.Ythfadeoanjjiaaa
open Go.RowKit Srt

set_option maxRecDepth 100000 in
set_option maxHeartbeats 8000000 in
theorem sym_lo (blk n a m b mid : Nat) (f : Nat → Nat) (w : World) (hn : n < 1000) (ham : a + 1 < m) (hmb : m + 1 < b) (hb : b ≤ n) (HMID : Hid (mid = (a + b) / 2)) (hside : m ≤ mid) (H1 : Hid (Up Fl.key f a m)) (H2 : Hid (Up Fl.key f m b)) (hf : Hid (∀ i, Fl.Ok (f i))) (hR : Hid (Rw w blk n f))
    (ih : Hid (∀ a' m' b' f' w', b' - a' < b - a → a' < m' → m' < b' → b' ≤ n → Hid (Up Fl.key f' a' m') → Hid (Up Fl.key f' m' b') → Hid (∀ i, Fl.Ok (f' i)) → Hid (Rw w' blk n f') → Merges blk n a' m' b' f' w')) : Merges blk n a m b f w := by
  unfold Merges
  have z0 : ((m : Int) - (a : Int) == 1) = false := by rw [beq_eq_false_iff_ne]; omega
  have z1 : ((b : Int) - (m : Int) == 1) = false := by rw [beq_eq_false_iff_ne]; omega
  have q0 : a < mid ∧ mid < b := by have := HMID.out; omega
  obtain ⟨q1, q2⟩ := q0
  have eM : ((a : Int) + (b : Int)) / 2 = (mid : Int) := by have := HMID.out; omega
  obtain ⟨N, hN⟩ : ∃ N, N = mid + m := ⟨_, rfl⟩
  have eN : (mid : Int) + (m : Int) = (N : Int) := by omega
  obtain ⟨P, hP0⟩ : ∃ P, P = N - 1 := ⟨_, rfl⟩
  have eP : (N : Int) - 1 = (P : Int) := by omega
  have zs : ¬ (mid : Int) < (m : Int) := by omega
  have HN : Hid _ := hN
  have HP0 : Hid _ := hP0
  clear hN hP0
  have N1 : N < 2000 := by have := HN.out; omega
  go_enter Try.func37, Try.ntmps37
  go_wp2_with fail
  go_loopw [20, 21] (fun vs vr wr => ∃ (s r : Nat), vs = .int .i64 s ∧ vr = .int .i64 r ∧ a ≤ s ∧ s ≤ r ∧ r ≤ m ∧ Hid (a < s → Fl.key (f (s - 1)) ≤ Fl.key (f (mid + m - s))) ∧ Hid (r < m → Fl.key (f (mid + m - 1 - r)) ≤ Fl.key (f r)) ∧ Hid (Rw wr blk n f) ∧ Hid (Below blk w wr)) (fun vs vr _ => (intOf vr).toNat - (intOf vs).toNat)
  case atStart => exact ⟨a, m, rfl, rfl, by omega, by omega, by omega, fun h => by omega, fun h => by omega, hR, Below.refl _ _⟩
  case round =>
    obtain ⟨s, r, rfl, rfl, h1, h2, h3, hlo, hhi, hS, hL⟩ := hrel
    by_cases hlt : s < r
    · have hltz : (s : Int) < (r : Int) := by omega
      obtain ⟨c, hc⟩ : ∃ c, c = (s + r) / 2 := ⟨_, rfl⟩
      have e1 : ((s : Int) + (r : Int)) / 2 = (c : Int) := by omega
      have b1 : s ≤ c := by omega
      have b2 : c < r := by omega
      clear hc
      obtain ⟨d, hd⟩ : ∃ d, d = P - c := ⟨_, rfl⟩
      have HD : Hid (d = mid + m - (c + 1) ∧ d = mid + m - 1 - c ∧ d < n) := by
        have := HN.out; have := HP0.out
        have := HMID.out
        exact ⟨by omega, by omega, by omega⟩
      have e2 : (P : Int) - (c : Int) = (d : Int) := by have := HN.out; have := HP0.out; omega
      clear hd
      have z2 : (c : Int) < (n : Int) := by omega
      have z3 : (d : Int) < (n : Int) := by have := HD.out.2.2; omega
      obtain ⟨c1, _⟩ := hS.out c (by omega)
      obtain ⟨c2, _⟩ := hS.out d HD.out.2.2
      have o1 : Hid (Fl.Ok (f c)) := hf.out c
      have o2 : Hid (Fl.Ok (f d)) := hf.out d
      by_cases hlv : ordB (f d) (f c) < 0
      · have n1 : Hid (c < m → Fl.key (f (mid + m - 1 - c)) ≤ Fl.key (f c)) := fun _ => by rw [← HD.out.2.1]; exact Nat.le_of_lt (ord_neg.1 hlv)
        generalize f c = x at c1 o1 hlv
        generalize f d = y at c2 o2 hlv
        go_wp2_with fail
        go_quiet ((first | (go_at_call 29; exact Calls.quiet_of_same (order_any _ _ o2.out o1.out _))))
        go_wp2_with fail
        exact ⟨⟨s, c, rfl, rfl, by omega, by omega, by omega, hlo, n1, hS.out.drewN nq, hL.out.trans (below_drewN _ _ _)⟩, by simp [intOf]; omega⟩
      · have n1 : Hid (a < c + 1 → Fl.key (f (c + 1 - 1)) ≤ Fl.key (f (mid + m - (c + 1)))) := fun _ => by rw [← HD.out.1, Nat.add_sub_cancel]; have := mt ord_neg.2 hlv; omega
        have hd : decide (ordB (f d) (f c) < 0) = false := decide_eq_false hlv
        generalize f c = x at c1 o1 hlv hd
        generalize f d = y at c2 o2 hlv hd
        go_wp2_with fail
        go_quiet ((first | (go_at_call 29; exact Calls.quiet_of_same (order_any _ _ o2.out o1.out _))))
        go_wp2_with fail
        exact ⟨⟨c + 1, r, by go_num, rfl, by omega, by omega, by omega, n1, hhi, hS.out.drewN nq, hL.out.trans (below_drewN _ _ _)⟩, by simp [intOf]; omega⟩
    · have hltz : ¬ (s : Int) < (r : Int) := by omega
      obtain rfl : s = r := by omega
      obtain ⟨e, he⟩ : ∃ e, e = mid + m - s := ⟨_, rfl⟩
      have eE : (N : Int) - (s : Int) = (e : Int) := by have := HN.out; omega
      have C : Cut Fl.key f a m b mid s a m := ⟨h1, h3, .inr ⟨hside, rfl, rfl⟩, hlo.out, hhi.out⟩
      obtain ⟨hP0, p1, p2, p3, p4, p5, p6⟩ := parted_of C he HMID.out (by omega) (by omega) H1.out H2.out
      have hP : Hid _ := hP0
      have HE : Hid (e = mid + m - s) := he
      clear hP0 he C
      have HR : Hid (mid - s = e - m) := by show _ = _; have := HE.out; omega
      by_cases k1 : s < m
      · have k3 : mid < e := by have := HE.out; omega
        by_cases k4 : m < e
        · have k2 : s < mid := by have := HR.out; omega
          have y1 : (s : Int) < (m : Int) := by omega
          have y2 : (m : Int) < (e : Int) := by omega
          have y3 : (s : Int) < (mid : Int) := by omega
          have y4 : (mid : Int) < (e : Int) := by omega
          by_cases k5 : a < s
          · have y5 : (a : Int) < (s : Int) := by omega
            by_cases k6 : e < b
            · have y6 : (e : Int) < (b : Int) := by omega
              go_wp2_with fail
              refine (rotate_any blk n s m e f _ _ hn (by omega) (by omega) (by omega) hS).mono ?_
              rintro e1 w1 ⟨rfl, hR1, hB1⟩
              have L1 : Hid (Below blk w w1) := hL.out.trans hB1.out
              have S1 : Hid (Sw a b f (rot s m e f)) := (rot_sw f (by omega) (by omega)).wide (by omega) (by omega)
              skip
              go_wp2_with fail
              refine (ih.out a s mid (rot s m e f) _ (by omega) (by omega) (by omega) (by omega) hP.out.u1 hP.out.u2 (fun i => S1.out.everywhere hf.out i) hR1).mono ?_
              rintro e2 w2 ⟨rfl, g1, hR2, hW2, hU2, hB2⟩
              have L2 : Hid (Below blk w w2) := L1.out.trans hB2.out
              go_wp2_with fail
              refine (ih.out mid e b g1 _ (by omega) (by omega) (by omega) (by omega) (Up.same hP.out.u3 fun k k1 _ => hW2.out.out (.inr k1)) (Up.same hP.out.u4 fun k k1 _ => hW2.out.out (.inr (by omega))) (fun i => hW2.out.everywhere (fun i => S1.out.everywhere hf.out i) i) hR2).mono ?_
              rintro e3 w3 ⟨rfl, g2, hR3, hW3, hU3, hB3⟩
              have L3 : Hid (Below blk w w3) := L2.out.trans hB3.out
              have V : Hid (Up Fl.key g2 a b) := halves hP.out.x hW2.out hU2.out hW3.out hU3.out
              have S3 : Hid (Sw a b f g2) := S1.out.trans ((hW2.out.wide (by omega) (by omega)).trans (hW3.out.wide (by omega) (by omega)))
              go_wp2_with fail
              go_end0
              exact ⟨rfl, g2, hR3, S3, V, L3⟩
            · have y6 : ¬ (e : Int) < (b : Int) := by omega
              go_wp2_with fail
              refine (rotate_any blk n s m e f _ _ hn (by omega) (by omega) (by omega) hS).mono ?_
              rintro e1 w1 ⟨rfl, hR1, hB1⟩
              have L1 : Hid (Below blk w w1) := hL.out.trans hB1.out
              have S1 : Hid (Sw a b f (rot s m e f)) := (rot_sw f (by omega) (by omega)).wide (by omega) (by omega)
              skip
              go_wp2_with fail
              refine (ih.out a s mid (rot s m e f) _ (by omega) (by omega) (by omega) (by omega) hP.out.u1 hP.out.u2 (fun i => S1.out.everywhere hf.out i) hR1).mono ?_
              rintro e2 w2 ⟨rfl, g1, hR2, hW2, hU2, hB2⟩
              have L2 : Hid (Below blk w w2) := L1.out.trans hB2.out
              have V : Hid (Up Fl.key g1 a b) := halves hP.out.x hW2.out hU2.out .refl (Up.same (hP.out.right (by omega)) fun k k1 _ => hW2.out.out (.inr k1))
              have S3 : Hid (Sw a b f g1) := S1.out.trans (hW2.out.wide (by omega) (by omega))
              go_wp2_with fail
              go_end0
              exact ⟨rfl, g1, hR2, S3, V, L2⟩
          · have y5 : ¬ (a : Int) < (s : Int) := by omega
            by_cases k6 : e < b
            · have y6 : (e : Int) < (b : Int) := by omega
              go_wp2_with fail
              refine (rotate_any blk n s m e f _ _ hn (by omega) (by omega) (by omega) hS).mono ?_
              rintro e1 w1 ⟨rfl, hR1, hB1⟩
              have L1 : Hid (Below blk w w1) := hL.out.trans hB1.out
              have S1 : Hid (Sw a b f (rot s m e f)) := (rot_sw f (by omega) (by omega)).wide (by omega) (by omega)
              skip
              obtain ⟨g1, hg1⟩ : ∃ g, g = rot s m e f := ⟨_, rfl⟩
              have hR2 : Hid (Rw w1 blk n g1) := by show Rw _ _ _ _; rw [hg1]; exact hR1.out
              have hW2 : Hid (Sw a mid (rot s m e f) g1) := by show Sw _ _ _ _; rw [hg1]; exact .refl
              have hU2 : Hid (Up Fl.key g1 a mid) := by show Up _ _ _ _; rw [hg1]; exact hP.out.left (by omega)
              have L2 := L1
              clear hg1
              go_wp2_with fail
              refine (ih.out mid e b g1 _ (by omega) (by omega) (by omega) (by omega) (Up.same hP.out.u3 fun k k1 _ => hW2.out.out (.inr k1)) (Up.same hP.out.u4 fun k k1 _ => hW2.out.out (.inr (by omega))) (fun i => hW2.out.everywhere (fun i => S1.out.everywhere hf.out i) i) hR2).mono ?_
              rintro e3 w3 ⟨rfl, g2, hR3, hW3, hU3, hB3⟩
              have L3 : Hid (Below blk w w3) := L2.out.trans hB3.out
              have V : Hid (Up Fl.key g2 a b) := halves hP.out.x hW2.out hU2.out hW3.out hU3.out
              have S3 : Hid (Sw a b f g2) := S1.out.trans ((hW2.out.wide (by omega) (by omega)).trans (hW3.out.wide (by omega) (by omega)))
              go_wp2_with fail
              go_end0
              exact ⟨rfl, g2, hR3, S3, V, L3⟩
            · have y6 : ¬ (e : Int) < (b : Int) := by omega
              go_wp2_with fail
              refine (rotate_any blk n s m e f _ _ hn (by omega) (by omega) (by omega) hS).mono ?_
              rintro e1 w1 ⟨rfl, hR1, hB1⟩
              have L1 : Hid (Below blk w w1) := hL.out.trans hB1.out
              have S1 : Hid (Sw a b f (rot s m e f)) := (rot_sw f (by omega) (by omega)).wide (by omega) (by omega)
              skip
              obtain ⟨g1, hg1⟩ : ∃ g, g = rot s m e f := ⟨_, rfl⟩
              have hR2 : Hid (Rw w1 blk n g1) := by show Rw _ _ _ _; rw [hg1]; exact hR1.out
              have hW2 : Hid (Sw a mid (rot s m e f) g1) := by show Sw _ _ _ _; rw [hg1]; exact .refl
              have hU2 : Hid (Up Fl.key g1 a mid) := by show Up _ _ _ _; rw [hg1]; exact hP.out.left (by omega)
              have L2 := L1
              clear hg1
              have V : Hid (Up Fl.key g1 a b) := halves hP.out.x hW2.out hU2.out .refl (Up.same (hP.out.right (by omega)) fun k k1 _ => hW2.out.out (.inr k1))
              have S3 : Hid (Sw a b f g1) := S1.out.trans (hW2.out.wide (by omega) (by omega))
              go_wp2_with fail
              go_end0
              exact ⟨rfl, g1, hR2, S3, V, L2⟩
        · exfalso
          have := HE.out
          have := HR.out
          omega
      · have k2 : s = m := by omega
        have HG : Hid (rot s m e f = f) := by show _ = _; rw [k2]; exact rot_none_left _ _ _
        have k3 : Hid (e = mid) := by show _ = _; have := HE.out; omega
        have y1 : ¬ (s : Int) < (m : Int) := by omega
        have y2 : (a : Int) < (s : Int) := by omega
        have y3 : ¬ (mid : Int) < (e : Int) := by have := k3.out; omega
        have k8 : ¬ mid < e := by omega
        have K2 : Hid _ := k2
        clear k2
        by_cases k4 : s < mid
        · have y4 : (s : Int) < (mid : Int) := by omega
          skip
          have hR1 : Hid (Rw wr blk n (rot s m e f)) := by show Rw _ _ _ _; rw [HG.out]; exact hS.out
          have L1 : Hid (Below blk w wr) := hL
          have S1 : Hid (Sw a b f (rot s m e f)) := by show Sw _ _ _ _; rw [HG.out]; exact .refl
          go_wp2_with fail
          refine (ih.out a s mid (rot s m e f) _ (by omega) (by omega) (by omega) (by omega) hP.out.u1 hP.out.u2 (fun i => S1.out.everywhere hf.out i) hR1).mono ?_
          rintro e2 w2 ⟨rfl, g1, hR2, hW2, hU2, hB2⟩
          have L2 : Hid (Below blk w w2) := L1.out.trans hB2.out
          have V : Hid (Up Fl.key g1 a b) := halves hP.out.x hW2.out hU2.out .refl (Up.same (hP.out.right (by omega)) fun k k1 _ => hW2.out.out (.inr k1))
          have S3 : Hid (Sw a b f g1) := S1.out.trans (hW2.out.wide (by omega) (by omega))
          go_wp2_with fail
          go_end0
          exact ⟨rfl, g1, hR2, S3, V, L2⟩
        · have y4 : ¬ (s : Int) < (mid : Int) := by omega
          skip
          have hR1 : Hid (Rw wr blk n (rot s m e f)) := by show Rw _ _ _ _; rw [HG.out]; exact hS.out
          have L1 : Hid (Below blk w wr) := hL
          have S1 : Hid (Sw a b f (rot s m e f)) := by show Sw _ _ _ _; rw [HG.out]; exact .refl
          go_wp2_with fail
          obtain ⟨g1, hg1⟩ : ∃ g, g = rot s m e f := ⟨_, rfl⟩
          have hR2 : Hid (Rw wr blk n g1) := by show Rw _ _ _ _; rw [hg1]; exact hR1.out
          have hW2 : Hid (Sw a mid (rot s m e f) g1) := by show Sw _ _ _ _; rw [hg1]; exact .refl
          have hU2 : Hid (Up Fl.key g1 a mid) := by show Up _ _ _ _; rw [hg1]; exact hP.out.left (by omega)
          have L2 := L1
          clear hg1
          have V : Hid (Up Fl.key g1 a b) := halves hP.out.x hW2.out hU2.out .refl (Up.same (hP.out.right (by omega)) fun k k1 _ => hW2.out.out (.inr k1))
          have S3 : Hid (Sw a b f g1) := S1.out.trans (hW2.out.wide (by omega) (by omega))
          go_end0
          exact ⟨rfl, g1, hR2, S3, V, L2⟩

end Go.Proofs.Ythfadeoanjjiaaa
