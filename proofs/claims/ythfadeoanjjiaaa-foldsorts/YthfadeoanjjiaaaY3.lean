/- Two runs merged: symMerge. -/
import Derived.Test.YthfadeoanjjiaaaY1
import Derived.Test.YthfadeoanjjiaaaY2
namespace Go.Proofs.Ythfadeoanjjiaaa
open Go.RowKit Srt

/-- What the cut leaves: four runs, the first two no greater than the last two. -/
structure Parted (K G : Nat → Nat) (a s mid e b : Nat) : Prop where
  u1 : Up K G a s
  u2 : Up K G s mid
  u3 : Up K G mid e
  u4 : Up K G e b
  x : ∀ p q, a ≤ p → p < mid → mid ≤ q → q < b → K (G p) ≤ K (G q)
  l : s = a → Up K G a mid
  r : e = b → Up K G mid b

theorem Up.same {K f g : Nat → Nat} {a b : Nat} (h : Up K f a b) (e : ∀ k, a ≤ k → k < b → g k = f k) : Up K g a b := by
  intro p q x y z
  rw [e p x (by omega), e q (by omega) z]
  exact h p q x y z

theorem Parted.left {K G : Nat → Nat} {a s mid e b : Nat} (h : Parted K G a s mid e b) (c : s = a ∨ s = mid) : Up K G a mid := by
  rcases c with c | c
  · exact h.l c
  · have := h.u1
    rw [c] at this
    exact this
theorem Parted.right {K G : Nat → Nat} {a s mid e b : Nat} (h : Parted K G a s mid e b) (c : e = mid ∨ e = b) : Up K G mid b := by
  rcases c with c | c
  · have := h.u4
    rw [c] at this
    exact this
  · exact h.r c
/-- The two halves in order, the whole is. -/
theorem halves {K G g1 g2 : Nat → Nat} {a mid b : Nat} (hx : ∀ p q, a ≤ p → p < mid → mid ≤ q → q < b → K (G p) ≤ K (G q)) (s1 : Sw a mid G g1) (v1 : Up K g1 a mid) (s2 : Sw mid b g1 g2) (v2 : Up K g2 mid b) : Up K g2 a b := by
  have e1 : ∀ k, k < mid → g2 k = g1 k := fun k hk => s2.out (.inl hk)
  have e2 : ∀ k, mid ≤ k → g1 k = G k := fun k hk => s1.out (.inr hk)
  refine Up.join (Up.same v1 (fun k _ hk => e1 k hk)) v2 ?_
  intro p q h1 h2 h3 h4
  rw [e1 p h2]
  have hq : ∀ q, mid ≤ q → q < b → ∀ p, a ≤ p → p < mid → K (G p) ≤ K (g1 q) := by
    intro q h3 h4 p h1 h2
    rw [e2 q h3]
    exact hx p q h1 h2 h3 h4
  have hq2 : ∀ q, mid ≤ q → q < b → K (g1 p) ≤ K (g1 q) := by
    intro q h3 h4
    exact s1.all (P := fun v => K v ≤ K (g1 q)) (fun i i1 i2 => hq q h3 h4 i i1 i2) p h1 h2
  exact s2.all (P := fun v => K (g1 p) ≤ K v) (fun i i1 i2 => hq2 i i1 i2) q h3 h4

/-- What the merge is asked to do. -/
def Merges (blk n a m b : Nat) (f : Nat → Nat) (w : World) : Prop :=
  Calls Try.prog 37 #[.slice (some ⟨blk, 0, none⟩) n n, .int .i64 a, .int .i64 m, .int .i64 b, .func (.func 29) #[] #[]] w fun e w' => e = .returned (.tuple #[]) ∧ ∃ g, Hid (Rw w' blk n g) ∧ Hid (Sw a b f g) ∧ Hid (Up Fl.key g a b) ∧ Hid (Below blk w w')

theorem parted_of {f : Nat → Nat} {a m b mid s e s0 r0 : Nat} (c : Cut Fl.key f a m b mid s s0 r0) (he : e = mid + m - s) (hm : mid = (a + b) / 2) (ham : a < m) (hmb : m < b) (h1 : Up Fl.key f a m) (h2 : Up Fl.key f m b) : Parted Fl.key (rot s m e f) a s mid e b ∧ a ≤ s ∧ s ≤ mid ∧ s ≤ m ∧ m ≤ e ∧ e ≤ b ∧ mid ≤ e := by
  subst he
  obtain ⟨p1, p2, p3, p4, p5, q1, q2, q3, q4, q5, q6, p6, p7⟩ := c.apart hm ham hmb h1 h2
  exact ⟨⟨p1, p2, p3, p4, p5, p6, p7⟩, q1, q2, q3, q4, q5, q6⟩

set_option maxRecDepth 100000 in
set_option maxHeartbeats 8000000 in
theorem sym_hi (blk n a m b mid : Nat) (f : Nat → Nat) (w : World) (hn : n < 1000) (ham : a + 1 < m) (hmb : m + 1 < b) (hb : b ≤ n) (HMID : Hid (mid = (a + b) / 2)) (hside : mid < m) (H1 : Hid (Up Fl.key f a m)) (H2 : Hid (Up Fl.key f m b)) (hf : Hid (∀ i, Fl.Ok (f i))) (hR : Hid (Rw w blk n f))
    (ih : Hid (∀ a' m' b' f' w', b' - a' < b - a → a' < m' → m' < b' → b' ≤ n → Hid (Up Fl.key f' a' m') → Hid (Up Fl.key f' m' b') → Hid (∀ i, Fl.Ok (f' i)) → Hid (Rw w' blk n f') → Merges blk n a' m' b' f' w')) : Merges blk n a m b f w := by
  unfold Merges
  have z0 : ((m : Int) - (a : Int) == 1) = false := by rw [beq_eq_false_iff_ne]; omega
  have z1 : ((b : Int) - (m : Int) == 1) = false := by rw [beq_eq_false_iff_ne]; omega
  have q0 : a < mid ∧ mid < b := by have := HMID.out; omega
  obtain ⟨q1, q2⟩ := q0
  have eM : ((a : Int) + (b : Int)) / 2 = (mid : Int) := by have := HMID.out; omega
  obtain ⟨N, hN⟩ : ∃ N, N = mid + m := ⟨_, rfl⟩
  have eN : (mid : Int) + (m : Int) = (N : Int) := by omega
  obtain ⟨P, hP0⟩ : ∃ P, P = N - 1 := ⟨_, rfl⟩
  have eP : (N : Int) - 1 = (P : Int) := by omega
  obtain ⟨s0, hs0⟩ : ∃ s0, s0 = N - b := ⟨_, rfl⟩
  have hNb : Hid (b ≤ N) := by show _ ≤ _; have := HMID.out; omega
  have eS : (N : Int) - (b : Int) = (s0 : Int) := by have := hNb.out; omega
  have zs : (mid : Int) < (m : Int) := by omega
  have r1 : s0 ≤ mid := by omega
  have r2 : Hid (a ≤ s0) := by show _ ≤ _; have := HMID.out; omega
  have HN : Hid _ := hN
  have HP0 : Hid _ := hP0
  clear hN hP0
  have N1 : N < 2000 := by have := HN.out; omega
  have HS0 : Hid _ := hs0
  clear hs0
  go_enter Try.func37, Try.ntmps37
  go_wp2_with fail
  go_loopw [20, 21] (fun vs vr wr => ∃ (s r : Nat), vs = .int .i64 s ∧ vr = .int .i64 r ∧ s0 ≤ s ∧ s ≤ r ∧ r ≤ mid ∧ Hid (s0 < s → Fl.key (f (s - 1)) ≤ Fl.key (f (mid + m - s))) ∧ Hid (r < mid → Fl.key (f (mid + m - 1 - r)) ≤ Fl.key (f r)) ∧ Hid (Rw wr blk n f) ∧ Hid (Below blk w wr)) (fun vs vr _ => (intOf vr).toNat - (intOf vs).toNat)
  case atStart => exact ⟨s0, mid, rfl, rfl, by omega, by omega, by omega, fun h => by omega, fun h => by omega, hR, Below.refl _ _⟩
  case round =>
    obtain ⟨s, r, rfl, rfl, h1, h2, h3, hlo, hhi, hS, hL⟩ := hrel
    by_cases hlt : s < r
    · have hltz : (s : Int) < (r : Int) := by omega
      obtain ⟨c, hc⟩ : ∃ c, c = (s + r) / 2 := ⟨_, rfl⟩
      have e1 : ((s : Int) + (r : Int)) / 2 = (c : Int) := by omega
      have b1 : s ≤ c := by omega
      have b2 : c < r := by omega
      clear hc
      obtain ⟨d, hd⟩ : ∃ d, d = P - c := ⟨_, rfl⟩
      have HD : Hid (d = mid + m - (c + 1) ∧ d = mid + m - 1 - c ∧ d < n) := by
        have := HN.out; have := HP0.out; have := HS0.out; have := hNb.out
        have := HMID.out
        exact ⟨by omega, by omega, by omega⟩
      have e2 : (P : Int) - (c : Int) = (d : Int) := by have := HN.out; have := HP0.out; omega
      clear hd
      have z2 : (c : Int) < (n : Int) := by omega
      have z3 : (d : Int) < (n : Int) := by have := HD.out.2.2; omega
      obtain ⟨c1, _⟩ := hS.out c (by omega)
      obtain ⟨c2, _⟩ := hS.out d HD.out.2.2
      have o1 : Hid (Fl.Ok (f c)) := hf.out c
      have o2 : Hid (Fl.Ok (f d)) := hf.out d
      by_cases hlv : ordB (f d) (f c) < 0
      · have n1 : Hid (c < mid → Fl.key (f (mid + m - 1 - c)) ≤ Fl.key (f c)) := fun _ => by rw [← HD.out.2.1]; exact Nat.le_of_lt (ord_neg.1 hlv)
        generalize f c = x at c1 o1 hlv
        generalize f d = y at c2 o2 hlv
        go_wp2_with fail
        go_quiet ((first | (go_at_call 29; exact Calls.quiet_of_same (order_any _ _ o2.out o1.out _))))
        go_wp2_with fail
        exact ⟨⟨s, c, rfl, rfl, by omega, by omega, by omega, hlo, n1, hS.out.drewN nq, hL.out.trans (below_drewN _ _ _)⟩, by simp [intOf]; omega⟩
      · have n1 : Hid (s0 < c + 1 → Fl.key (f (c + 1 - 1)) ≤ Fl.key (f (mid + m - (c + 1)))) := fun _ => by rw [← HD.out.1, Nat.add_sub_cancel]; have := mt ord_neg.2 hlv; omega
        have hd : decide (ordB (f d) (f c) < 0) = false := decide_eq_false hlv
        generalize f c = x at c1 o1 hlv hd
        generalize f d = y at c2 o2 hlv hd
        go_wp2_with fail
        go_quiet ((first | (go_at_call 29; exact Calls.quiet_of_same (order_any _ _ o2.out o1.out _))))
        go_wp2_with fail
        exact ⟨⟨c + 1, r, by go_num, rfl, by omega, by omega, by omega, n1, hhi, hS.out.drewN nq, hL.out.trans (below_drewN _ _ _)⟩, by simp [intOf]; omega⟩
    · have hltz : ¬ (s : Int) < (r : Int) := by omega
      obtain rfl : s = r := by omega
      obtain ⟨e, he⟩ : ∃ e, e = mid + m - s := ⟨_, rfl⟩
      have eE : (N : Int) - (s : Int) = (e : Int) := by have := HN.out; omega
      have C : Cut Fl.key f a m b mid s s0 mid := ⟨h1, h3, .inl ⟨hside, by have := HS0.out; have := HN.out; omega, rfl⟩, hlo.out, hhi.out⟩
      obtain ⟨hP0, p1, p2, p3, p4, p5, p6⟩ := parted_of C he HMID.out (by omega) (by omega) H1.out H2.out
      have hP : Hid _ := hP0
      have HE : Hid (e = mid + m - s) := he
      clear hP0 he C
      have HR : Hid (mid - s = e - m) := by show _ = _; have := HE.out; omega
      by_cases k1 : m < e
      · have k2 : s < mid := by have := HR.out; omega
        have k3 : mid < e := by omega
        have y1 : (s : Int) < (m : Int) := by omega
        have y2 : (m : Int) < (e : Int) := by omega
        have y3 : (s : Int) < (mid : Int) := by omega
        have y4 : (mid : Int) < (e : Int) := by omega
        by_cases k5 : a < s
        · have y5 : (a : Int) < (s : Int) := by omega
          by_cases k6 : e < b
          · have y6 : (e : Int) < (b : Int) := by omega
            go_wp2_with fail
            refine (rotate_any blk n s m e f _ _ hn (by omega) (by omega) (by omega) hS).mono ?_
            rintro e1 w1 ⟨rfl, hR1, hB1⟩
            have L1 : Hid (Below blk w w1) := hL.out.trans hB1.out
            have S1 : Hid (Sw a b f (rot s m e f)) := (rot_sw f (by omega) (by omega)).wide (by omega) (by omega)
            skip
            go_wp2_with fail
            refine (ih.out a s mid (rot s m e f) _ (by omega) (by omega) (by omega) (by omega) hP.out.u1 hP.out.u2 (fun i => S1.out.everywhere hf.out i) hR1).mono ?_
            rintro e2 w2 ⟨rfl, g1, hR2, hW2, hU2, hB2⟩
            have L2 : Hid (Below blk w w2) := L1.out.trans hB2.out
            go_wp2_with fail
            refine (ih.out mid e b g1 _ (by omega) (by omega) (by omega) (by omega) (Up.same hP.out.u3 fun k k1 _ => hW2.out.out (.inr k1)) (Up.same hP.out.u4 fun k k1 _ => hW2.out.out (.inr (by omega))) (fun i => hW2.out.everywhere (fun i => S1.out.everywhere hf.out i) i) hR2).mono ?_
            rintro e3 w3 ⟨rfl, g2, hR3, hW3, hU3, hB3⟩
            have L3 : Hid (Below blk w w3) := L2.out.trans hB3.out
            have V : Hid (Up Fl.key g2 a b) := halves hP.out.x hW2.out hU2.out hW3.out hU3.out
            have S3 : Hid (Sw a b f g2) := S1.out.trans ((hW2.out.wide (by omega) (by omega)).trans (hW3.out.wide (by omega) (by omega)))
            go_wp2_with fail
            go_end0
            exact ⟨rfl, g2, hR3, S3, V, L3⟩
          · have y6 : ¬ (e : Int) < (b : Int) := by omega
            go_wp2_with fail
            refine (rotate_any blk n s m e f _ _ hn (by omega) (by omega) (by omega) hS).mono ?_
            rintro e1 w1 ⟨rfl, hR1, hB1⟩
            have L1 : Hid (Below blk w w1) := hL.out.trans hB1.out
            have S1 : Hid (Sw a b f (rot s m e f)) := (rot_sw f (by omega) (by omega)).wide (by omega) (by omega)
            skip
            go_wp2_with fail
            refine (ih.out a s mid (rot s m e f) _ (by omega) (by omega) (by omega) (by omega) hP.out.u1 hP.out.u2 (fun i => S1.out.everywhere hf.out i) hR1).mono ?_
            rintro e2 w2 ⟨rfl, g1, hR2, hW2, hU2, hB2⟩
            have L2 : Hid (Below blk w w2) := L1.out.trans hB2.out
            have V : Hid (Up Fl.key g1 a b) := halves hP.out.x hW2.out hU2.out .refl (Up.same (hP.out.right (by omega)) fun k k1 _ => hW2.out.out (.inr k1))
            have S3 : Hid (Sw a b f g1) := S1.out.trans (hW2.out.wide (by omega) (by omega))
            go_wp2_with fail
            go_end0
            exact ⟨rfl, g1, hR2, S3, V, L2⟩
        · have y5 : ¬ (a : Int) < (s : Int) := by omega
          by_cases k6 : e < b
          · have y6 : (e : Int) < (b : Int) := by omega
            go_wp2_with fail
            refine (rotate_any blk n s m e f _ _ hn (by omega) (by omega) (by omega) hS).mono ?_
            rintro e1 w1 ⟨rfl, hR1, hB1⟩
            have L1 : Hid (Below blk w w1) := hL.out.trans hB1.out
            have S1 : Hid (Sw a b f (rot s m e f)) := (rot_sw f (by omega) (by omega)).wide (by omega) (by omega)
            skip
            obtain ⟨g1, hg1⟩ : ∃ g, g = rot s m e f := ⟨_, rfl⟩
            have hR2 : Hid (Rw w1 blk n g1) := by show Rw _ _ _ _; rw [hg1]; exact hR1.out
            have hW2 : Hid (Sw a mid (rot s m e f) g1) := by show Sw _ _ _ _; rw [hg1]; exact .refl
            have hU2 : Hid (Up Fl.key g1 a mid) := by show Up _ _ _ _; rw [hg1]; exact hP.out.left (by omega)
            have L2 := L1
            clear hg1
            go_wp2_with fail
            refine (ih.out mid e b g1 _ (by omega) (by omega) (by omega) (by omega) (Up.same hP.out.u3 fun k k1 _ => hW2.out.out (.inr k1)) (Up.same hP.out.u4 fun k k1 _ => hW2.out.out (.inr (by omega))) (fun i => hW2.out.everywhere (fun i => S1.out.everywhere hf.out i) i) hR2).mono ?_
            rintro e3 w3 ⟨rfl, g2, hR3, hW3, hU3, hB3⟩
            have L3 : Hid (Below blk w w3) := L2.out.trans hB3.out
            have V : Hid (Up Fl.key g2 a b) := halves hP.out.x hW2.out hU2.out hW3.out hU3.out
            have S3 : Hid (Sw a b f g2) := S1.out.trans ((hW2.out.wide (by omega) (by omega)).trans (hW3.out.wide (by omega) (by omega)))
            go_wp2_with fail
            go_end0
            exact ⟨rfl, g2, hR3, S3, V, L3⟩
          · have y6 : ¬ (e : Int) < (b : Int) := by omega
            go_wp2_with fail
            refine (rotate_any blk n s m e f _ _ hn (by omega) (by omega) (by omega) hS).mono ?_
            rintro e1 w1 ⟨rfl, hR1, hB1⟩
            have L1 : Hid (Below blk w w1) := hL.out.trans hB1.out
            have S1 : Hid (Sw a b f (rot s m e f)) := (rot_sw f (by omega) (by omega)).wide (by omega) (by omega)
            skip
            obtain ⟨g1, hg1⟩ : ∃ g, g = rot s m e f := ⟨_, rfl⟩
            have hR2 : Hid (Rw w1 blk n g1) := by show Rw _ _ _ _; rw [hg1]; exact hR1.out
            have hW2 : Hid (Sw a mid (rot s m e f) g1) := by show Sw _ _ _ _; rw [hg1]; exact .refl
            have hU2 : Hid (Up Fl.key g1 a mid) := by show Up _ _ _ _; rw [hg1]; exact hP.out.left (by omega)
            have L2 := L1
            clear hg1
            have V : Hid (Up Fl.key g1 a b) := halves hP.out.x hW2.out hU2.out .refl (Up.same (hP.out.right (by omega)) fun k k1 _ => hW2.out.out (.inr k1))
            have S3 : Hid (Sw a b f g1) := S1.out.trans (hW2.out.wide (by omega) (by omega))
            go_wp2_with fail
            go_end0
            exact ⟨rfl, g1, hR2, S3, V, L2⟩
      · have k2 : e = m := by omega
        have HG : Hid (rot s m e f = f) := by show _ = _; rw [k2]; exact rot_none_right _ _ _
        have k3 : Hid (s = mid) := by show _ = _; have := HR.out; omega
        have y1 : (s : Int) < (m : Int) := by omega
        have y2 : ¬ (m : Int) < (e : Int) := by omega
        have y3 : (a : Int) < (s : Int) := by have := k3.out; omega
        have y4 : ¬ (s : Int) < (mid : Int) := by have := k3.out; omega
        have y5 : (mid : Int) < (e : Int) := by omega
        have y6 : (e : Int) < (b : Int) := by omega
        have K2 : Hid _ := k2
        have k7 : ¬ s < mid := by omega
        clear k2
        skip
        have hR1 : Hid (Rw wr blk n (rot s m e f)) := by show Rw _ _ _ _; rw [HG.out]; exact hS.out
        have L1 : Hid (Below blk w wr) := hL
        have S1 : Hid (Sw a b f (rot s m e f)) := by show Sw _ _ _ _; rw [HG.out]; exact .refl
        go_wp2_with fail
        obtain ⟨g1, hg1⟩ : ∃ g, g = rot s m e f := ⟨_, rfl⟩
        have hR2 : Hid (Rw wr blk n g1) := by show Rw _ _ _ _; rw [hg1]; exact hR1.out
        have hW2 : Hid (Sw a mid (rot s m e f) g1) := by show Sw _ _ _ _; rw [hg1]; exact .refl
        have hU2 : Hid (Up Fl.key g1 a mid) := by show Up _ _ _ _; rw [hg1]; exact hP.out.left (by omega)
        have L2 := L1
        clear hg1
        refine (ih.out mid e b g1 _ (by omega) (by omega) (by omega) (by omega) (Up.same hP.out.u3 fun k k1 _ => hW2.out.out (.inr k1)) (Up.same hP.out.u4 fun k k1 _ => hW2.out.out (.inr (by omega))) (fun i => hW2.out.everywhere (fun i => S1.out.everywhere hf.out i) i) hR2).mono ?_
        rintro e3 w3 ⟨rfl, g2, hR3, hW3, hU3, hB3⟩
        have L3 : Hid (Below blk w w3) := L2.out.trans hB3.out
        have V : Hid (Up Fl.key g2 a b) := halves hP.out.x hW2.out hU2.out hW3.out hU3.out
        have S3 : Hid (Sw a b f g2) := S1.out.trans ((hW2.out.wide (by omega) (by omega)).trans (hW3.out.wide (by omega) (by omega)))
        go_wp2_with fail
        go_end0
        exact ⟨rfl, g2, hR3, S3, V, L3⟩

end Go.Proofs.Ythfadeoanjjiaaa
