/- ends: where matches end that begin at any of these places. -/
import Derived.Test.YtkclkhfcmjhogaaDoorZ1
import Derived.Test.YtkclkhfcmjhogaaDoorC4
import Derived.Test.YtkclkhfcmjhogaaDoorK1
import Derived.Deep.LoopGhost
namespace Go.Proofs.YtkclkhfcmjhogaaDoor
open Go.RowKit
set_option linter.unusedVariables false

/-- A row of places, as the program has it. -/
def Ux (f : Mat) : Nat → Value := fun i => .int .u64 (limb (f i) 0 : Int)
/-- Where they end. -/
def endsP (N : Nat) (f : Mat) (P : Nat → Bool) : Nat → Bool := fun j => (List.range N).any (fun k => P k && f k j)
theorem ends_none {N : Nat} {f : Mat} {P : Nat → Bool} (h : ∀ k, k < N → P k = false) : ∀ j, endsP N f P j = false := by
  intro j
  unfold endsP
  rw [List.any_eq_false]
  intro k hk
  rw [List.mem_range] at hk
  simp [h k hk]
theorem ends_take {N : Nat} {f : Mat} {P : Nat → Bool} {k : Nat} (hk : k < N) (hp : P k = true) : ∀ j, endsP N f P j = (f k j || endsP N f (fun c => P c && !(c == k)) j) := by
  intro j
  unfold endsP
  rw [Bool.eq_iff_iff, Bool.or_eq_true, any_range, any_range]
  simp only [Bool.and_eq_true, Bool.not_eq_true', beq_eq_false_iff_ne]
  constructor
  · rintro ⟨c, h1, h2, h3⟩
    by_cases e : c = k
    · subst e; exact .inl h3
    · exact .inr ⟨c, h1, ⟨h2, e⟩, h3⟩
  · rintro (h | ⟨c, h1, ⟨h2, _⟩, h3⟩)
    · exact ⟨k, hk, hp, h⟩
    · exact ⟨c, h1, h2, h3⟩
/-- How many places there are. -/
def cntP (N : Nat) (P : Nat → Bool) : Nat := ((List.range N).filter P).length
theorem cntP_take {N : Nat} {P : Nat → Bool} {k : Nat} (hk : k < N) (hp : P k = true) : cntP N (fun c => P c && !(c == k)) < cntP N P := by
  unfold cntP
  have h : (List.range N).filter (fun c => P c && !(c == k)) = ((List.range N).filter P).filter (fun c => !(c == k)) := by
    rw [List.filter_filter]
    congr 1
    funext c
    rw [Bool.and_comm]
  rw [h]
  refine List.length_filter_lt_length_iff_exists.2 ⟨k, ?_, by simp⟩
  rw [List.mem_filter, List.mem_range]
  exact ⟨hk, hp⟩
theorem bits_orL (p q : Nat → Bool) : bits .or .u64 (limb p 0 : Int) (limb q 0 : Int) = ((limb (fun b => p b || q b) 0 : Nat) : Int) := by
  have := bits_or_u64_nat _ _ (limb_lt p 0) (limb_lt q 0)
  rw [limb_or] at this
  exact this
theorem bits_clear {P : Nat → Bool} {k : Nat} (hk : k < 64) (hp : P k = true) (hl : ∀ c, c < k → P c = false) : bits .and .u64 (limb P 0 : Int) ((limb P 0 - 1 : Nat) : Int) = ((limb (fun c => P c && !(c == k)) 0 : Nat) : Int) := by
  have h := bits_and_u64_nat (limb P 0) (limb P 0 - 1) (limb_lt P 0) (by have := limb_lt P 0; omega)
  rw [limb_clear hk hp hl] at h
  exact h

set_option maxHeartbeats 2000000 in
theorem ends_any (N : Nat) (f : Mat) (P0 : Nat → Bool) (a : Option Addr) (c : Nat) (w : World) (hN : N ≤ 61) (hP : ∀ k, P0 k = true → k < N) (hm : Hid (Sl w a N (Ux f))) (hT : Hid (Tab w)) :
    Calls Tryd.prog 84 #[.slice a N c, .int .u64 (limb P0 0 : Int)] w fun e w' => e = .returned (.int .u64 (limb (endsP N f P0) 0 : Int)) ∧ w' = w := by
  have HP0 : Hid (∀ k, P0 k = true → k < N) := hP
  have HN : Hid (N ≤ 61) := hN
  have hNi : (N : Int) ≤ 61 := by omega
  clear hP hN
  go_enter Tryd.func84, Tryd.ntmps84
  go_wp2_with fail
  go_loopg [1, 5] (cntP N P0) (fun gk s1 s5 wr => ∃ P T : Nat → Bool, s1 = .int .u64 (limb P 0 : Int) ∧ s5 = .int .u64 (limb T 0 : Int) ∧ wr = w ∧ Hid (cntP N P ≤ gk ∧ (∀ k, P k = true → k < N) ∧ ∀ j, endsP N f P0 j = (T j || endsP N f P j)))
  case atStart => exact ⟨P0, fun _ => false, rfl, by rw [limb_none]; rfl, rfl, Nat.le_refl _, HP0.out, fun j => by simp⟩
  case round =>
    obtain ⟨P, T, rfl, rfl, hw, B⟩ := hrel
    subst hw
    by_cases hz : limb P 0 = 0
    · have hz1 : ((limb P 0 : Int) == 0) = true := by simp [hz]
      have hz2 : ((limb P 0 : Int) = 0) = True := by simp [hz]
      have HE : Hid (limb (endsP N f P0) 0 = limb T 0) := by
        show _ = _
        rw [limb_zero] at hz
        congr 1
        funext j
        rw [B.out.2.2 j, ends_none (fun k hk => by have := hz k (by have := HN.out; omega); simpa using this) j, Bool.or_false]
      generalize limb P 0 = x at *
      clear hz
      go_wp2_with fail
      go_ret
      exact ⟨by rw [HE.out]; rfl, rfl⟩
    · obtain ⟨k, hk, hb, hl, htz⟩ := tz_any (limb P 0) (limb_lt P 0) hz wr hT.out
      have hpk : P k = true := by have := hb; rw [limb_bit'] at this; simp at this; exact this.2
      have hlow : ∀ c, c < k → P c = false := fun c hc => by
        have := hl c hc
        rw [limb_bit'] at this
        have h64 : c < 64 := by omega
        simpa [h64] using this
      have hkN : k < N := B.out.2.1 k hpk
      obtain ⟨b, o, ha, hbl, hcell⟩ := hm.out k hkN
      subst ha
      have h1 := bits_clear hk hpk hlow
      have h2 := bits_orL T (f k)
      have hz1 : ((limb P 0 : Int) == 0) = false := by simp [hz]
      have hz2 : ((limb P 0 : Int) = 0) = False := by simp [hz]
      have hx1 : (limb P 0 : Int) - 1 = ((limb P 0 - 1 : Nat) : Int) := by omega
      have hlt := limb_lt P 0
      have hki : (k : Int) < (N : Int) := by omega
      have BN : Hid (cntP N (fun c => P c && !(c == k)) < gk ∧ (∀ c, (fun c => P c && !(c == k)) c = true → c < N) ∧ ∀ j, endsP N f P0 j = ((fun b => T b || f k b) j || endsP N f (fun c => P c && !(c == k)) j)) := by
        refine ⟨Nat.lt_of_lt_of_le (cntP_take hkN hpk) B.out.1, fun c hc => B.out.2.1 c (by simp at hc; exact hc.1), fun j => ?_⟩
        rw [B.out.2.2 j, ends_take hkN hpk j, Bool.or_assoc]
      have hcell2 : wr.cell? ⟨b, o + k, none⟩ = some (.int .u64 (limb (f k) 0 : Int)) := hcell
      generalize hP' : (fun c => P c && !(c == k)) = P' at *
      generalize hT' : (fun b => T b || f k b) = T' at *
      have HPP : Hid _ := hP'
      have HTT : Hid _ := hT'
      clear hP' hT' hl hb hpk hlow hcell hkN hz
      generalize limb P 0 = x at *
      generalize limb (f k) 0 = y at *
      go_wp2_with fail
      refine htz.mono ?_
      rintro e1 w1 ⟨rfl, hw1⟩
      obtain rfl := hw1.symm
      go_wp2_with fail
      go_roundg (cntP N P')
      case measure => exact BN.out.1
      case rel => exact ⟨P', T', rfl, rfl, rfl, Nat.le_refl _, BN.out.2.1, BN.out.2.2⟩

end Go.Proofs.YtkclkhfcmjhogaaDoor
