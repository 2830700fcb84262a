/- What Least and Most answer. -/
import Derived.Test.YthfadeoanjjiaaaF1
namespace Go.Proofs.Ythfadeoanjjiaaa
open Go.RowKit

/-- Of the first n the one that stands farthest on that side, NaN aside. -/
def Ext (side : Int) (f : Nat → Nat) (n x : Nat) (is : Bool) : Prop :=
  (is = false ∧ x = 0 ∧ ∀ i, i < n → Fl.nan (f i) = true) ∨ (is = true ∧ (∃ i, i < n ∧ x = f i) ∧ Fl.nan x = false ∧ ∀ i, i < n → Fl.nan (f i) = false → ordB (f i) x ≠ side)

/-- What is told of it. -/
def Told (side : Int) (f : Nat → Nat) (n : Nat) (e : Ending) : Prop := ∃ x is, e = .returned (.tuple #[.float .f64 x, .bool is]) ∧ Hid (Ext side f n x is)

theorem Ext.zero (side : Int) (f : Nat → Nat) : Ext side f 0 0 false := .inl ⟨rfl, rfl, fun i h => by omega⟩
theorem Ext.nan {side : Int} {f : Nat → Nat} {k x : Nat} {is : Bool} (h : Ext side f k x is) (hn : Fl.nan (f k) = true) : Ext side f (k + 1) x is := by
  rcases h with ⟨h1, h2, h3⟩ | ⟨h1, ⟨i, h2, h3⟩, h4, h5⟩
  · refine .inl ⟨h1, h2, fun i hi => ?_⟩
    by_cases e : i = k
    · subst e; exact hn
    · exact h3 i (by omega)
  · refine .inr ⟨h1, ⟨i, by omega, h3⟩, h4, fun i hi hv => ?_⟩
    by_cases e : i = k
    · subst e; rw [hn] at hv; cases hv
    · exact h5 i (by omega) hv
theorem ord_side {side : Int} (hs : side = -1 ∨ side = 1) {p x y : Nat} (h : ordB p x ≠ side) (k : ordB y x = side) : ordB p y ≠ side := by
  unfold ordB cmpI at *
  rcases hs with rfl | rfl
  · split at k
    · split at h
      · omega
      · split at h
        · rw [if_neg (by omega)]; split <;> omega
        · rw [if_neg (by omega)]; split <;> omega
    · split at k <;> omega
  · split at k
    · omega
    · split at k
      · split at h
        · split
          · omega
          · rw [if_neg (by omega)]; omega
        · split at h
          · omega
          · split
            · omega
            · rw [if_neg (by omega)]; omega
      · omega
theorem Ext.first {side : Int} (hs : side = -1 ∨ side = 1) {f : Nat → Nat} {k x : Nat} (h : Ext side f k x false) (hn : Fl.nan (f k) = false) : Ext side f (k + 1) (f k) true := by
  rcases h with ⟨_, h2, h3⟩ | ⟨h1, _⟩
  · refine .inr ⟨rfl, ⟨k, by omega, rfl⟩, hn, fun i hi hv => ?_⟩
    by_cases e : i = k
    · subst e; rw [ordB_self]; omega
    · rw [h3 i (by omega)] at hv; cases hv
  · cases h1
theorem Ext.new {side : Int} (hs : side = -1 ∨ side = 1) {f : Nat → Nat} {k x : Nat} (h : Ext side f k x true) (hn : Fl.nan (f k) = false) (ho : ordB (f k) x = side) : Ext side f (k + 1) (f k) true := by
  rcases h with ⟨h1, _⟩ | ⟨_, _, h4, h5⟩
  · cases h1
  · refine .inr ⟨rfl, ⟨k, by omega, rfl⟩, hn, fun i hi hv => ?_⟩
    by_cases e : i = k
    · subst e; rw [ordB_self]; omega
    · exact ord_side hs (h5 i (by omega) hv) ho
theorem Ext.old {side : Int} {f : Nat → Nat} {k x : Nat} (h : Ext side f k x true) (ho : ordB (f k) x ≠ side) : Ext side f (k + 1) x true := by
  rcases h with ⟨h1, _⟩ | ⟨_, ⟨i, h2, h3⟩, h4, h5⟩
  · cases h1
  · refine .inr ⟨rfl, ⟨i, by omega, h3⟩, h4, fun i hi hv => ?_⟩
    by_cases e : i = k
    · subst e; exact ho
    · exact h5 i (by omega) hv
theorem Ext.ok {side : Int} {f : Nat → Nat} {k x : Nat} {is : Bool} (h : Ext side f k x is) (hf : ∀ i, Fl.Ok (f i)) : Fl.Ok x := by
  rcases h with ⟨_, rfl, _⟩ | ⟨_, ⟨i, _, rfl⟩, _⟩
  · unfold Fl.Ok; omega
  · exact hf i

set_option maxHeartbeats 1000000 in
theorem outermost_any (a : Option Addr) (n cap : Nat) (f : Nat → Nat) (side : Int) (w : World) (hn : n < 4611686018427387904) (HS : Hid (side = -1 ∨ side = 1)) (hl : Hid (Sl w a n f)) (hf : Hid (∀ i, Fl.Ok (f i))) :
    Calls Try.prog 26 #[.slice a n cap, .int .i64 side] w fun e w' => Told side f n e ∧ w' = w := by
  go_enter Try.func26, Try.ntmps26
  go_wp2_with fail
  go_loopw [6, 7, 12] (fun s t i wr => ∃ (k x : Nat) (is : Bool), k ≤ n ∧ i = .int .i64 k ∧ s = .float .f64 x ∧ t = .bool is ∧ Hid (Ext side f k x is) ∧ wr = w) (fun _ _ i _ => n - (intOf i).toNat)
  case atStart => exact ⟨0, 0, false, by omega, rfl, rfl, rfl, Ext.zero side f, rfl⟩
  case round =>
    obtain ⟨k, x, is, hk, rfl, rfl, rfl, hS, rfl⟩ := hrel
    by_cases hlt : k < n
    · obtain ⟨b, off, rfl, hb, hc⟩ := hl.out k hlt
      have hltz : (k : Int) < (n : Int) := by omega
      have ok := hf.out k
      have okx : Hid (Fl.Ok x) := hS.out.ok hf.out
      have OK : Hid _ := ok
      clear ok
      cases hn2 : Fl.nan (f k)
      · cases is
        · go_wp2_with fail
          refine (isNaN_any (f k) OK.out _).mono ?_
          rintro e w' ⟨rfl, rfl⟩
          go_wp2_with fail
          exact ⟨⟨k + 1, f k, true, by omega, by simp, rfl, rfl, hS.out.first HS.out hn2, trivial⟩, by simp [intOf]; omega⟩
        · by_cases ho : ordB (f k) x = side
          · have ho2 : (ordB (f k) x == side) = true := beq_iff_eq.2 ho
            have HO : Hid _ := ho
            clear ho
            go_wp2_with fail
            refine (isNaN_any (f k) OK.out _).mono ?_
            rintro e w' ⟨rfl, rfl⟩
            go_wp2_with fail
            refine (order_any (f k) x OK.out okx.out _).mono ?_
            rintro e w' ⟨rfl, rfl⟩
            go_wp2_with fail
            exact ⟨⟨k + 1, f k, true, by omega, by simp, rfl, rfl, hS.out.new HS.out hn2 HO.out, trivial⟩, by simp [intOf]; omega⟩
          · have ho2 : (ordB (f k) x == side) = false := by rw [beq_eq_false_iff_ne]; exact ho
            have HO : Hid _ := ho
            clear ho
            go_wp2_with fail
            refine (isNaN_any (f k) OK.out _).mono ?_
            rintro e w' ⟨rfl, rfl⟩
            go_wp2_with fail
            refine (order_any (f k) x OK.out okx.out _).mono ?_
            rintro e w' ⟨rfl, rfl⟩
            go_wp2_with fail
            exact ⟨⟨k + 1, x, true, by omega, by simp, rfl, rfl, hS.out.old HO.out, trivial⟩, by simp [intOf]; omega⟩
      · go_wp2_with fail
        refine (isNaN_any (f k) OK.out _).mono ?_
        rintro e w' ⟨rfl, rfl⟩
        go_wp2_with fail
        exact ⟨⟨k + 1, x, is, by omega, by simp, rfl, rfl, hS.out.nan hn2, trivial⟩, by simp [intOf]; omega⟩
    · have hltz : ¬ (k : Int) < (n : Int) := by omega
      obtain rfl : k = n := by omega
      go_wp2
      go_ret2
      exact ⟨⟨x, is, rfl, hS⟩, rfl⟩

set_option maxHeartbeats 400000 in
theorem least_any (a : Option Addr) (n cap : Nat) (f : Nat → Nat) (w : World) (hn : n < 4611686018427387904) (hl : Hid (Sl w a n f)) (hf : Hid (∀ i, Fl.Ok (f i))) :
    Calls Try.prog 10 #[.slice a n cap] w fun e w' => Told (-1) f n e ∧ w' = w := by
  go_enter Try.func10, Try.ntmps10
  go_wp2_with fail
  refine (outermost_any a n cap f (-1) _ hn (.inl rfl) hl hf).mono ?_
  rintro e w' ⟨⟨x, is, rfl, hx⟩, rfl⟩
  go_wp2_with fail
  go_ret2
  exact ⟨⟨x, is, rfl, hx⟩, rfl⟩
set_option maxHeartbeats 400000 in
theorem most_any (a : Option Addr) (n cap : Nat) (f : Nat → Nat) (w : World) (hn : n < 4611686018427387904) (hl : Hid (Sl w a n f)) (hf : Hid (∀ i, Fl.Ok (f i))) :
    Calls Try.prog 11 #[.slice a n cap] w fun e w' => Told 1 f n e ∧ w' = w := by
  go_enter Try.func11, Try.ntmps11
  go_wp2_with fail
  refine (outermost_any a n cap f 1 _ hn (.inr rfl) hl hf).mono ?_
  rintro e w' ⟨⟨x, is, rfl, hx⟩, rfl⟩
  go_wp2_with fail
  go_ret2
  exact ⟨⟨x, is, rfl, hx⟩, rfl⟩

end Go.Proofs.Ythfadeoanjjiaaa
