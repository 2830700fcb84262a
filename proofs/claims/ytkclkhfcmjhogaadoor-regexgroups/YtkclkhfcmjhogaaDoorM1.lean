/- Sets of bytes: four limbs of 64 bits, and the bytes that they have. -/
namespace Go.Proofs.YtkclkhfcmjhogaaDoor

/-- The number whose bits below n are f's. -/
def mkb (f : Nat → Bool) : Nat → Nat
  | 0 => 0
  | n + 1 => if f n then 2 ^ n + mkb f n else mkb f n

theorem mkb_lt (f : Nat → Bool) : ∀ n, mkb f n < 2 ^ n
  | 0 => by simp [mkb]
  | n + 1 => by
    have := mkb_lt f n
    rw [Nat.pow_succ]
    unfold mkb
    split <;> omega

theorem mkb_bit (f : Nat → Bool) (i : Nat) : ∀ n, (mkb f n).testBit i = (decide (i < n) && f i)
  | 0 => by simp [mkb]
  | n + 1 => by
    have ih := mkb_bit f i n
    unfold mkb
    have hl := mkb_lt f n
    by_cases hf : f n = true
    · rw [if_pos hf]
      rcases Nat.lt_trichotomy i n with g | g | g
      · rw [Nat.testBit_two_pow_add_gt g, ih]
        have h1 : i < n + 1 := by omega
        simp [g, h1]
      · subst g
        rw [Nat.testBit_two_pow_add_eq, ih]
        simp [hf]
      · have hs : 2 ^ n + mkb f n < 2 ^ i := by
          have h1 : 2 ^ (n + 1) ≤ 2 ^ i := Nat.pow_le_pow_right (by omega) (by omega)
          rw [Nat.pow_succ] at h1
          omega
        rw [Nat.testBit_lt_two_pow hs]
        have h1 : ¬ i < n + 1 := by omega
        simp [h1]
    · rw [if_neg hf, ih]
      rcases Nat.lt_trichotomy i n with g | g | g
      · have h1 : i < n + 1 := by omega
        simp [g, h1]
      · subst g
        simp [hf]
      · have h1 : ¬ i < n + 1 := by omega
        have h2 : ¬ i < n := by omega
        simp [h1, h2]

/-- The limb i of the bytes of p. -/
def limb (p : Nat → Bool) (i : Nat) : Nat := mkb (fun k => p (64 * i + k)) 64
theorem limb_lt (p : Nat → Bool) (i : Nat) : limb p i < 18446744073709551616 := mkb_lt _ 64
theorem limb_bit (p : Nat → Bool) (i : Nat) {k : Nat} (h : k < 64) : (limb p i).testBit k = p (64 * i + k) := by
  unfold limb
  rw [mkb_bit]
  simp [h]
theorem limb_bit' (p : Nat → Bool) (i k : Nat) : (limb p i).testBit k = (decide (k < 64) && p (64 * i + k)) := mkb_bit _ _ _
theorem big_bit {x k : Nat} (hx : x < 18446744073709551616) (h : ¬ k < 64) : x.testBit k = false := by
  refine Nat.testBit_lt_two_pow (Nat.lt_of_lt_of_le hx ?_)
  have : (2 : Nat) ^ 64 ≤ 2 ^ k := Nat.pow_le_pow_right (by omega) (by omega)
  exact this
theorem limb_eq {p : Nat → Bool} {i x : Nat} (hx : x < 18446744073709551616) (h : ∀ k, k < 64 → x.testBit k = p (64 * i + k)) : limb p i = x := by
  apply Nat.eq_of_testBit_eq
  intro k
  by_cases hk : k < 64
  · rw [limb_bit p i hk, h k hk]
  · rw [big_bit (limb_lt p i) hk, big_bit hx hk]
theorem limb_congr {p q : Nat → Bool} {i : Nat} (h : ∀ k, k < 64 → p (64 * i + k) = q (64 * i + k)) : limb p i = limb q i :=
  limb_eq (limb_lt q i) (fun k hk => by rw [limb_bit q i hk, h k hk])
theorem limb_and (p q : Nat → Bool) (i : Nat) : limb p i &&& limb q i = limb (fun b => p b && q b) i := by
  refine (limb_eq (Nat.lt_of_le_of_lt Nat.and_le_left (limb_lt p i)) (fun k hk => ?_)).symm
  rw [Nat.testBit_and, limb_bit p i hk, limb_bit q i hk]
theorem limb_or (p q : Nat → Bool) (i : Nat) : limb p i ||| limb q i = limb (fun b => p b || q b) i := by
  refine (limb_eq (Nat.or_lt_two_pow (n := 64) (limb_lt p i) (limb_lt q i)) (fun k hk => ?_)).symm
  rw [Nat.testBit_or, limb_bit p i hk, limb_bit q i hk]
theorem ones_bit {k : Nat} (hk : k < 64) : (18446744073709551615 : Nat).testBit k = true := by
  have := Nat.testBit_two_pow_sub_one 64 k
  rw [show (2 : Nat) ^ 64 - 1 = 18446744073709551615 from rfl] at this
  rw [this]; simp [hk]
theorem limb_not (p : Nat → Bool) (i : Nat) : 18446744073709551615 - limb p i = limb (fun b => !p b) i := by
  refine (limb_eq (by omega) (fun k hk => ?_)).symm
  have := Nat.testBit_two_pow_sub_succ (n := 64) (x := limb p i) (limb_lt p i) k
  rw [show (2 : Nat) ^ 64 - (limb p i + 1) = 18446744073709551615 - limb p i from by rw [show (2:Nat) ^ 64 = 18446744073709551616 from rfl]; omega] at this
  rw [this, limb_bit p i hk]; simp [hk]
theorem limb_xor (p : Nat → Bool) (i : Nat) : limb p i ^^^ 18446744073709551615 = limb (fun b => !p b) i := by
  refine (limb_eq (Nat.xor_lt_two_pow (n := 64) (limb_lt p i) (by decide)) (fun k hk => ?_)).symm
  rw [Nat.testBit_xor, limb_bit p i hk, ones_bit hk]; simp
theorem limb_none (i : Nat) : limb (fun _ => false) i = 0 := limb_eq (by decide) (fun k _ => by simp)
theorem limb_all (i : Nat) : limb (fun _ => true) i = 18446744073709551615 := limb_eq (by decide) (fun k hk => by rw [ones_bit hk])
/-- The bytes of four limbs. -/
def had (x : Nat → Nat) : Nat → Bool := fun b => (x (b / 64)).testBit (b % 64)
theorem limb_had (x : Nat → Nat) (i : Nat) (h : x i < 18446744073709551616) : limb (had x) i = x i := by
  refine limb_eq h (fun k hk => ?_)
  unfold had
  rw [show (64 * i + k) / 64 = i from by omega, show (64 * i + k) % 64 = k from by omega]
theorem had_limb (p : Nat → Bool) (b : Nat) : had (limb p) b = p b := by
  unfold had
  rw [limb_bit p _ (by omega), show 64 * (b / 64) + b % 64 = b from by omega]
/-- Alike at all bytes. -/
def Like (p q : Nat → Bool) : Prop := ∀ b, b < 256 → p b = q b
theorem limb_like {p q : Nat → Bool} (h : Like p q) {i : Nat} (hi : i < 4) : limb p i = limb q i := limb_congr (fun k hk => h _ (by omega))
theorem like_limb {p q : Nat → Bool} (h : ∀ i, i < 4 → limb p i = limb q i) : Like p q := by
  intro b hb
  rw [← had_limb p b, ← had_limb q b]
  unfold had
  rw [h _ (by omega)]
theorem limb_one (i k : Nat) (hk : k < 64) : limb (fun b => b == 64 * i + k) i = 2 ^ k := by
  refine limb_eq (show 2 ^ k < 2 ^ 64 from Nat.pow_lt_pow_right (by decide) hk) (fun j hj => ?_)
  rw [Nat.testBit_two_pow]
  by_cases h : k = j
  · subst h; simp
  · have h2 : ¬ j = k := fun e => h e.symm
    simp [h, h2]
theorem limb_since (n i : Nat) : limb (fun b => decide (n ≤ b)) i = (18446744073709551615 <<< (n - 64 * i)) % 18446744073709551616 := by
  refine limb_eq (Nat.mod_lt _ (by decide)) (fun k hk => ?_)
  have e : (18446744073709551615 <<< (n - 64 * i)) % 18446744073709551616 = (18446744073709551615 <<< (n - 64 * i)) % 2 ^ 64 := rfl
  rw [e, Nat.testBit_mod_two_pow, Nat.testBit_shiftLeft]
  by_cases h : n - 64 * i ≤ k
  · have h2 : n ≤ 64 * i + k := by omega
    rw [ones_bit (by omega)]
    simp [hk, h, h2]
  · have h2 : ¬ n ≤ 64 * i + k := by omega
    have h3 : ¬ k ≥ n - 64 * i := h
    simp [h2, h3]
theorem limb_has (p : Nat → Bool) (b : Nat) : (limb p (b / 64) >>> (b % 64)) % 2 = (p b).toNat := by
  have h := limb_bit p (b / 64) (k := b % 64) (by omega)
  rw [show 64 * (b / 64) + b % 64 = b from by omega] at h
  rw [← h, Nat.testBit_eq_decide_div_mod_eq, Nat.shiftRight_eq_div_pow]
  by_cases g : limb p (b / 64) / 2 ^ (b % 64) % 2 = 1
  · simp [g]
  · have : limb p (b / 64) / 2 ^ (b % 64) % 2 = 0 := by omega
    simp [this]
theorem limb_zero (p : Nat → Bool) (i : Nat) : limb p i = 0 ↔ ∀ k, k < 64 → p (64 * i + k) = false := by
  constructor
  · intro h k hk
    rw [← limb_bit p i hk, h]; simp
  · intro h
    exact limb_eq (by decide) (fun k hk => by rw [h k hk]; simp)

end Go.Proofs.YtkclkhfcmjhogaaDoor
