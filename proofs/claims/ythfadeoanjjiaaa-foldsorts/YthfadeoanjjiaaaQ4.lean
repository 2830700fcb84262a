/- The reference's Most and SameAll. -/
import Derived.Test.YthfadeoanjjiaaaQ3
namespace Go.Proofs.Ythfadeoanjjiaaa
open Go.RowKit Srt

theorem c_eqself {b : Nat} (hb : Fl.Ok b) : (FloatKind.f64.format.order b b == some .eq) = !Fl.nan b := by
  have h := Fl.c_self hb
  cases e : (FloatKind.f64.format.order b b == some .eq)
  · rw [← h, bne, e]; rfl
  · rw [← h, bne, e]; rfl

set_option maxRecDepth 100000 in
set_option maxHeartbeats 2000000 in
theorem refMost_any (a : Option Addr) (n cap : Nat) (f : Nat → Nat) (w : World) (hn : n < 100) (hl : Hid (Sl w a n f)) (hf : Hid (∀ i, Fl.Ok (f i))) :
    Calls Try.prog 13 #[.slice a n cap] w fun e w' => Told 1 f n e ∧ Hid (Below w.heap.size w w') := by
  go_enter Try.func13, Try.ntmps13
  go_wp2_with fail
  refine (refSort_any a n cap f _ hn hl hf).mono ?_
  rintro e w1 ⟨v, rfl, ⟨g, o1, p1, u1, k1⟩, B1⟩
  obtain ⟨oa, ocap, rfl, S1, _⟩ := o1.sl
  have SS : Hid (Sl w1 oa n g) := S1
  have P1 : Hid ((row g n).Perm (row f n)) := p1
  have U1 : Hid (Up Fl.key g 0 n) := u1
  have K1 : Hid (∀ i, Fl.Ok (g i)) := k1
  clear o1 S1 p1 u1 k1
  go_wp2_with fail
  go_loopw [5] (fun vi wr => ∃ (k : Nat) (z : Int), k ≤ n ∧ vi = .int .i64 z ∧ z + 1 = (k : Int) ∧ Hid (∀ j, k ≤ j → j < n → Fl.nan (g j) = true) ∧ Hid (Sl wr oa n g) ∧ Hid (Below w.heap.size w wr)) (fun vi _ => (intOf vi + 1).toNat)
  case atStart => exact ⟨n, (n : Int) - 1, Nat.le_refl _, by first | rfl | go_num, by omega, fun j h1 h2 => by omega, SS, B1⟩
  case round =>
    obtain ⟨k, z, hk, rfl, hz, hN, hS, hL⟩ := hrel
    by_cases h0 : 0 < k
    · obtain ⟨p, rfl⟩ : ∃ p, k = p + 1 := ⟨k - 1, by omega⟩
      obtain rfl : z = (p : Int) := by omega
      clear hz
      have z1 : (p : Int) < (n : Int) := by omega
      obtain ⟨ob, oo, rfl, _, hc⟩ := hS.out p (by omega)
      cases hn2 : Fl.nan (g p)
      · have cs : (FloatKind.f64.format.order (g p) (g p) == some .eq) = true := by rw [c_eqself (K1.out p), hn2]; rfl
        have E : Hid (Ext 1 f n (g p) true) := most_some P1.out U1.out (by omega) hn2 (fun j h1 h2 => hN.out j (by omega) h2)
        generalize g p = x at *
        go_wp2_with fail
        go_quiet (fail)
        have hc' : (wr.drewN nq).cell? ⟨ob, oo + p, none⟩ = some (.float .f64 x) := hc
        go_wp2_with fail
        go_ret2
        exact ⟨⟨x, true, rfl, E⟩, hL.out.trans (below_drewN _ _ _)⟩
      · have cs : (FloatKind.f64.format.order (g p) (g p) == some .eq) = false := by rw [c_eqself (K1.out p), hn2]; rfl
        have N2 : Hid (∀ j, p ≤ j → j < n → Fl.nan (g j) = true) := fun j h1 h2 => by
          by_cases e : j = p
          · subst e; exact hn2
          · exact hN.out j (by omega) h2
        have S3 : Hid (∀ q, Sl (wr.drewN q) (some ⟨ob, oo, none⟩) n g) := fun q => hS.out
        generalize g p = x at cs hc hn2
        go_wp2_with fail
        go_quiet (fail)
        go_wp2_with fail
        exact ⟨⟨p, (p : Int) - 1, by omega, by first | rfl | go_num, by omega, N2, S3.out nq, hL.out.trans (below_drewN _ _ _)⟩, by simp [intOf]⟩
    · obtain rfl : k = 0 := by omega
      have z1 : ¬ 0 ≤ z := by omega
      have E : Hid (Ext 1 f n 0 false) := most_none P1.out (fun j hj => hN.out j (by omega) hj)
      clear hz
      go_wp2_with fail
      go_ret2
      exact ⟨⟨0, false, rfl, E⟩, hL⟩

set_option maxRecDepth 100000 in
set_option maxHeartbeats 2000000 in
theorem sameAll_any (a b : Option Addr) (n cap cap2 : Nat) (f g : Nat → Nat) (w : World) (hn : n < 1000) (h1 : Hid (Sl w a n f)) (h2 : Hid (Sl w b n g)) (hf : Hid (∀ i, Fl.Ok (f i))) (hg : Hid (∀ i, Fl.Ok (g i))) (hs : Hid (∀ i, i < n → ordB (f i) (g i) = 0)) :
    Calls Try.prog 19 #[.slice a n cap, .slice b n cap2] w fun e w' => e = .returned (.bool true) ∧ Below w.heap.size w w' := by
  go_enter Try.func19, Try.ntmps19
  go_wp2_with fail
  go_loopw [5] (fun vi wr => ∃ (k : Nat), k ≤ n ∧ vi = .int .i64 k ∧ Hid (Below w.heap.size w wr)) (fun vi _ => n - (intOf vi).toNat)
  case atStart => exact ⟨0, by omega, rfl, Below.refl _ _⟩
  case round =>
    obtain ⟨k, hk, rfl, hL⟩ := hrel
    by_cases hlt : k < n
    · have hltz : (k : Int) < (n : Int) := by omega
      obtain ⟨b1, o1, rfl, l1, c1⟩ := h1.out k hlt
      obtain ⟨b2, o2, rfl, l2, c2⟩ := h2.out k hlt
      have d1 := (hL.out.cell (p := ⟨b1, o1 + k, none⟩) l1).trans c1
      have d2 := (hL.out.cell (p := ⟨b2, o2 + k, none⟩) l2).trans c2
      clear c1 c2
      have ok1 : Hid (Fl.Ok (f k)) := hf.out k
      have ok2 : Hid (Fl.Ok (g k)) := hg.out k
      have hq : (ordB (f k) (g k) == 0) = true := same_true (hs.out k hlt)
      generalize f k = x at *
      generalize g k = y at *
      go_wp2_with fail
      go_quiet ((first | (go_at_call 14; exact Calls.quiet_of_same (refSame_any _ _ ok1.out ok2.out _))))
      have L2 : Hid (Below w.heap.size w (wr.drewN nq)) := hL.out.trans (below_drewN _ _ _)
      go_wp2_with fail
      exact ⟨⟨k + 1, by omega, by simp, L2⟩, by simp [intOf]; omega⟩
    · have hltz : ¬ (k : Int) < (n : Int) := by omega
      obtain rfl : k = n := by omega
      go_wp2
      go_ret
      exact ⟨rfl, hL.out⟩

end Go.Proofs.Ythfadeoanjjiaaa
