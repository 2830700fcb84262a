/- The reference's Sum, Times, Least, Most, SameAll; what sorted lists of the same numbers have in common. -/
import Derived.Test.YthfadeoanjjiaaaQ2
namespace Go.Proofs.Ythfadeoanjjiaaa
open Go.RowKit Srt

theorem perm_has {f g : Nat → Nat} {n : Nat} (h : (row g n).Perm (row f n)) : ∀ i, i < n → ∃ j, j < n ∧ g j = f i := by
  intro i hi
  have m : f i ∈ row f n := by unfold row; exact List.mem_map.2 ⟨i, List.mem_range.2 hi, rfl⟩
  have m2 := h.mem_iff.2 m
  unfold row at m2
  obtain ⟨j, hj, e⟩ := List.mem_map.1 m2
  exact ⟨j, List.mem_range.1 hj, e⟩

theorem up_pairwise {g : Nat → Nat} {n : Nat} (h : Up Fl.key g 0 n) : List.Pairwise (fun a b => a ≤ b) ((row g n).map Fl.key) := by
  rw [List.pairwise_iff_getElem]
  intro i j hi hj hij
  rw [List.length_map, row_length] at hi hj
  rw [List.getElem_map, List.getElem_map, row_get, row_get]
  exact h i j (by omega) hij hj
/-- In order, of the same numbers: alike place by place. -/
theorem sorted_same {f g h : Nat → Nat} {n : Nat} (p : (row g n).Perm (row f n)) (q : (row h n).Perm (row f n)) (u : Up Fl.key g 0 n) (v : Up Fl.key h 0 n) : ∀ i, i < n → ordB (g i) (h i) = 0 := by
  intro i hi
  have e := List.Perm.eq_of_pairwise (le := fun a b => a ≤ b) (fun a b _ _ h1 h2 => Nat.le_antisymm h1 h2) (up_pairwise u) (up_pairwise v) ((p.trans q.symm).map Fl.key)
  have e2 : ((row g n).map Fl.key)[i]? = ((row h n).map Fl.key)[i]? := by rw [e]
  rw [List.getElem?_map, List.getElem?_map, List.getElem?_eq_getElem (by rw [row_length]; exact hi), List.getElem?_eq_getElem (by rw [row_length]; exact hi), row_get, row_get] at e2
  simp only [Option.map_some, Option.some.injEq] at e2
  exact ordB_eq0 (by rw [e2])

theorem ord_neg1 {x y : Nat} : ordB x y = -1 ↔ Fl.key x < Fl.key y := by
  rw [← ord_neg]
  have := ord_three x y
  omega
theorem ord_one {x y : Nat} : ordB x y = 1 ↔ Fl.key y < Fl.key x := by
  rw [← ord_pos]
  have := ord_three x y
  omega
theorem nan_top {x y : Nat} (hy : Fl.Ok y) (h : Fl.nan x = true) (k : Fl.key x ≤ Fl.key y) : Fl.nan y = true := by
  cases e : Fl.nan y
  · have := key_small hy e
    rw [Fl.key_nan h] at k
    omega
  · rfl

theorem least_none {f g : Nat → Nat} {n : Nat} (p : (row g n).Perm (row f n)) (u : Up Fl.key g 0 n) (ok : ∀ i, Fl.Ok (g i)) (h : n = 0 ∨ Fl.nan (g 0) = true) : Ext (-1) f n 0 false := by
  refine .inl ⟨rfl, rfl, fun i hi => ?_⟩
  rcases h with h | h
  · omega
  · obtain ⟨j, hj, e⟩ := perm_has p i hi
    rw [← e]
    exact nan_top (ok j) h (u.le (by omega) (by omega) hj)
theorem least_some {f g : Nat → Nat} {n : Nat} (p : (row g n).Perm (row f n)) (u : Up Fl.key g 0 n) (hn : 0 < n) (h : Fl.nan (g 0) = false) : Ext (-1) f n (g 0) true := by
  refine .inr ⟨rfl, ?_, h, fun i hi _ => ?_⟩
  · obtain ⟨j, hj, e⟩ := perm_has p.symm 0 hn
    exact ⟨j, hj, e.symm⟩
  · obtain ⟨j, hj, e⟩ := perm_has p i hi
    rw [← e, Ne, ord_neg1]
    have := u.le (p := 0) (q := j) (by omega) (by omega) hj
    omega
theorem most_none {f g : Nat → Nat} {n : Nat} (p : (row g n).Perm (row f n)) (h : ∀ j, j < n → Fl.nan (g j) = true) : Ext 1 f n 0 false := by
  refine .inl ⟨rfl, rfl, fun i hi => ?_⟩
  obtain ⟨j, hj, e⟩ := perm_has p i hi
  rw [← e]; exact h j hj
theorem most_some {f g : Nat → Nat} {n k : Nat} (p : (row g n).Perm (row f n)) (u : Up Fl.key g 0 n) (hk : k < n) (h : Fl.nan (g k) = false) (hi : ∀ j, k < j → j < n → Fl.nan (g j) = true) : Ext 1 f n (g k) true := by
  refine .inr ⟨rfl, ?_, h, fun i hi2 hv => ?_⟩
  · obtain ⟨j, hj, e⟩ := perm_has p.symm k hk
    exact ⟨j, hj, e.symm⟩
  · obtain ⟨j, hj, e⟩ := perm_has p i hi2
    rw [← e] at hv ⊢
    rw [Ne, ord_one]
    by_cases c : k < j
    · rw [hi j c hj] at hv; cases hv
    · have := u.le (p := j) (q := k) (by omega) (by omega) hk
      omega

set_option maxHeartbeats 400000 in
theorem refTimes_any (x : Nat) (n : Int) (w : World) :
    Calls Try.prog 18 #[.float .f64 x, .int .i64 n] w fun e w' => ∃ r q, e = .returned (.float .f64 r) ∧ Hid (Got (Ieee.double.mul x (floatOfInt .f64 n)) r) ∧ w' = w.drewN q := by
  obtain ⟨r, q, hg, hr⟩ := run_mul Try.prog 23 x (floatOfInt .f64 n) w
  have H : Hid _ := hg
  clear hg
  go_enter Try.func18, Try.ntmps18
  go_wp2
  go_ret
  exact ⟨r, q, rfl, H, rfl⟩

set_option maxHeartbeats 1000000 in
theorem refSum_any (a : Option Addr) (n cap : Nat) (f : Nat → Nat) (w : World) (hn : n < 4611686018427387904) (hl : Hid (Sl w a n f)) :
    Calls Try.prog 16 #[.slice a n cap] w fun e w' => ∃ r, e = .returned (.float .f64 r) ∧ Hid (Got (sumO f n) r) ∧ Below w.heap.size w w' := by
  go_enter Try.func16, Try.ntmps16
  go_wp2_with fail
  go_loopw [3, 4] (fun s i wr => ∃ (k r : Nat), k ≤ n ∧ i = .int .i64 k ∧ s = .float .f64 r ∧ Hid (Got (sumO f k) r) ∧ Hid (Below w.heap.size w wr)) (fun _ i _ => n - (intOf i).toNat)
  case atStart => exact ⟨0, 0, by omega, rfl, rfl, Got.zero, Below.refl _ _⟩
  case round =>
    obtain ⟨k, r, hk, rfl, rfl, hS, hL⟩ := hrel
    by_cases hlt : k < n
    · obtain ⟨b, off, rfl, hb, hc0⟩ := hl.out k hlt
      have hc := (hL.out.cell (p := ⟨b, off + k, none⟩) hb).trans hc0
      clear hc0
      have hltz : (k : Int) < (n : Int) := by omega
      obtain ⟨r2, q, hg, hr⟩ := run_add Try.prog 23 r (f k) wr
      have H2 : Hid (Got (sumO f (k + 1)) r2) := Got.next hS.out hg
      clear hg
      have L2 : Hid (Below w.heap.size w (wr.drewN q)) := hL.out.trans (below_drewN _ _ _)
      go_wp2_with fail
      exact ⟨⟨k + 1, r2, by omega, by simp, rfl, H2, L2⟩, by simp [intOf]; omega⟩
    · have hltz : ¬ (k : Int) < (n : Int) := by omega
      obtain rfl : k = n := by omega
      go_wp2
      go_ret
      exact ⟨r, rfl, hS, hL.out⟩

set_option maxRecDepth 100000 in
set_option maxHeartbeats 1000000 in
theorem refLeast_any (a : Option Addr) (n cap : Nat) (f : Nat → Nat) (w : World) (hn : n < 100) (hl : Hid (Sl w a n f)) (hf : Hid (∀ i, Fl.Ok (f i))) :
    Calls Try.prog 12 #[.slice a n cap] w fun e w' => Told (-1) f n e ∧ Hid (Below w.heap.size w w') := by
  go_enter Try.func12, Try.ntmps12
  go_wp2_with fail
  refine (refSort_any a n cap f _ hn hl hf).mono ?_
  rintro e w1 ⟨v, rfl, ⟨g, o1, p1, u1, k1⟩, B1⟩
  obtain ⟨oa, ocap, rfl, S1, _⟩ := o1.sl
  have SS : Hid (Sl w1 oa n g) := S1
  have P1 : Hid ((row g n).Perm (row f n)) := p1
  have U1 : Hid (Up Fl.key g 0 n) := u1
  have K1 : Hid (∀ i, Fl.Ok (g i)) := k1
  clear o1 S1 p1 u1 k1
  by_cases h0 : n = 0
  · have z : ((n : Int) == 0) = true := by rw [beq_iff_eq]; omega
    have E : Hid (Ext (-1) f n 0 false) := least_none P1.out U1.out K1.out (.inl h0)
    clear h0
    go_wp2_with fail
    go_quiet (fail)
    go_wp2_with fail
    go_ret2
    exact ⟨⟨0, false, rfl, E⟩, B1.out.trans (below_drewN _ _ _)⟩
  · have z : ((n : Int) == 0) = false := by rw [beq_eq_false_iff_ne]; omega
    have z2 : (0 : Int) < (n : Int) := by omega
    obtain ⟨ob, oo, rfl, _, hc0⟩ := SS.out 0 (by omega)
    have hc : w1.cell? ⟨ob, oo, none⟩ = some (.float .f64 (g 0)) := hc0
    clear hc0
    cases hn2 : Fl.nan (g 0)
    · have cs := (Fl.c_self (K1.out 0)).trans hn2
      have E : Hid (Ext (-1) f n (g 0) true) := least_some P1.out U1.out (by omega) hn2
      generalize g 0 = x at *
      go_wp2_with fail
      go_quiet (fail)
      have hc' : (w1.drewN nq).cell? ⟨ob, oo, none⟩ = some (.float .f64 x) := hc
      go_wp2_with fail
      go_ret2
      exact ⟨⟨x, true, rfl, E⟩, B1.out.trans (below_drewN _ _ _)⟩
    · have cs := (Fl.c_self (K1.out 0)).trans hn2
      have E : Hid (Ext (-1) f n 0 false) := least_none P1.out U1.out K1.out (.inr hn2)
      generalize g 0 = x at *
      go_wp2_with fail
      go_quiet (fail)
      go_wp2_with fail
      go_ret2
      exact ⟨⟨0, false, rfl, E⟩, B1.out.trans (below_drewN _ _ _)⟩

end Go.Proofs.Ythfadeoanjjiaaa
