/- Sets of bytes: four limbs of 64 bits, and the bytes that they have. -/
namespace Go.Proofs.YtojbakkbmfgoaaaDoor

/-- The number whose bits below n are f's. -/
def mkb (f : Nat → Bool) : Nat → Nat
  | 0 => 0
  | n + 1 => if f n then 2 ^ n + mkb f n else mkb f n

theorem mkb_lt (f : Nat → Bool) : ∀ n, mkb f n < 2 ^ n
  | 0 => by simp [mkb]
  | n + 1 => by
    have := mkb_lt f n
    rw [Nat.pow_succ]
    unfold mkb
    split <;> omega

theorem mkb_bit (f : Nat → Bool) (i : Nat) : ∀ n, (mkb f n).testBit i = (decide (i < n) && f i)
  | 0 => by simp [mkb]
  | n + 1 => by
    have ih := mkb_bit f i n
    unfold mkb
    have hl := mkb_lt f n
    by_cases hf : f n = true
    · rw [if_pos hf]
      rcases Nat.lt_trichotomy i n with g | g | g
      · rw [Nat.testBit_two_pow_add_gt g, ih]
        have h1 : i < n + 1 := by omega
        simp [g, h1]
      · subst g
        rw [Nat.testBit_two_pow_add_eq, ih]
        simp [hf]
      · have hs : 2 ^ n + mkb f n < 2 ^ i := by
          have h1 : 2 ^ (n + 1) ≤ 2 ^ i := Nat.pow_le_pow_right (by omega) (by omega)
          rw [Nat.pow_succ] at h1
          omega
        rw [Nat.testBit_lt_two_pow hs]
        have h1 : ¬ i < n + 1 := by omega
        simp [h1]
    · rw [if_neg hf, ih]
      rcases Nat.lt_trichotomy i n with g | g | g
      · have h1 : i < n + 1 := by omega
        simp [g, h1]
      · subst g
        simp [hf]
      · have h1 : ¬ i < n + 1 := by omega
        have h2 : ¬ i < n := by omega
        simp [h1, h2]

/-- The limb i of the bytes of p. -/
def limb (p : Nat → Bool) (i : Nat) : Nat := mkb (fun k => p (64 * i + k)) 64
theorem limb_lt (p : Nat → Bool) (i : Nat) : limb p i < 18446744073709551616 := mkb_lt _ 64
theorem limb_bit (p : Nat → Bool) (i : Nat) {k : Nat} (h : k < 64) : (limb p i).testBit k = p (64 * i + k) := by
  unfold limb
  rw [mkb_bit]
  simp [h]
theorem big_bit {x k : Nat} (hx : x < 18446744073709551616) (h : ¬ k < 64) : x.testBit k = false := by
  refine Nat.testBit_lt_two_pow (Nat.lt_of_lt_of_le hx ?_)
  have : (2 : Nat) ^ 64 ≤ 2 ^ k := Nat.pow_le_pow_right (by omega) (by omega)
  exact this
theorem limb_eq {p : Nat → Bool} {i x : Nat} (hx : x < 18446744073709551616) (h : ∀ k, k < 64 → x.testBit k = p (64 * i + k)) : limb p i = x := by
  apply Nat.eq_of_testBit_eq
  intro k
  by_cases hk : k < 64
  · rw [limb_bit p i hk, h k hk]
  · rw [big_bit (limb_lt p i) hk, big_bit hx hk]
theorem limb_congr {p q : Nat → Bool} {i : Nat} (h : ∀ k, k < 64 → p (64 * i + k) = q (64 * i + k)) : limb p i = limb q i :=
  limb_eq (limb_lt q i) (fun k hk => by rw [limb_bit q i hk, h k hk])
theorem limb_or (p q : Nat → Bool) (i : Nat) : limb p i ||| limb q i = limb (fun b => p b || q b) i := by
  refine (limb_eq (Nat.or_lt_two_pow (n := 64) (limb_lt p i) (limb_lt q i)) (fun k hk => ?_)).symm
  rw [Nat.testBit_or, limb_bit p i hk, limb_bit q i hk]
theorem limb_none (i : Nat) : limb (fun _ => false) i = 0 := limb_eq (by decide) (fun k _ => by simp)
/-- The bytes of four limbs. -/
def had (x : Nat → Nat) : Nat → Bool := fun b => (x (b / 64)).testBit (b % 64)
theorem had_limb (p : Nat → Bool) (b : Nat) : had (limb p) b = p b := by
  unfold had
  rw [limb_bit p _ (by omega), show 64 * (b / 64) + b % 64 = b from by omega]
/-- Alike at all bytes. -/
def Like (p q : Nat → Bool) : Prop := ∀ b, b < 256 → p b = q b
theorem limb_like {p q : Nat → Bool} (h : Like p q) {i : Nat} (hi : i < 4) : limb p i = limb q i := limb_congr (fun k hk => h _ (by omega))
theorem like_limb {p q : Nat → Bool} (h : ∀ i, i < 4 → limb p i = limb q i) : Like p q := by
  intro b hb
  rw [← had_limb p b, ← had_limb q b]
  unfold had
  rw [h _ (by omega)]
theorem limb_one (i k : Nat) (hk : k < 64) : limb (fun b => b == 64 * i + k) i = 2 ^ k := by
  refine limb_eq (show 2 ^ k < 2 ^ 64 from Nat.pow_lt_pow_right (by decide) hk) (fun j hj => ?_)
  rw [Nat.testBit_two_pow]
  by_cases h : k = j
  · subst h; simp
  · have h2 : ¬ j = k := fun e => h e.symm
    simp [h, h2]
theorem limb_has (p : Nat → Bool) (b : Nat) : (limb p (b / 64) >>> (b % 64)) % 2 = (p b).toNat := by
  have h := limb_bit p (b / 64) (k := b % 64) (by omega)
  rw [show 64 * (b / 64) + b % 64 = b from by omega] at h
  rw [← h, Nat.testBit_eq_decide_div_mod_eq, Nat.shiftRight_eq_div_pow]
  by_cases g : limb p (b / 64) / 2 ^ (b % 64) % 2 = 1
  · simp [g]
  · have : limb p (b / 64) / 2 ^ (b % 64) % 2 = 0 := by omega
    simp [this]
end Go.Proofs.YtojbakkbmfgoaaaDoor

namespace Go.Proofs.YtojbakkbmfgoaaaDoor

/-- The marks; what is seen; the digits. -/
def mk (c : Nat) : Bool := [92, 124, 42, 43, 63, 40, 41, 91, 93, 46, 94, 45].contains c
def seen (c : Nat) : Bool := decide (33 ≤ c) && decide (c ≤ 126)
def dig (c : Nat) : Option Nat := if 48 ≤ c ∧ c ≤ 57 then some (c - 48) else if 97 ≤ c ∧ c ≤ 102 then some (c - 87) else none
def hexd (x : Nat) : Nat := if x < 10 then 48 + x else 87 + x
/-- Two digits. -/
def hx : List Nat → Option (Nat × List Nat)
  | a :: b :: l => match dig a, dig b with
    | some x, some y => some (16 * x + y, l)
    | _, _ => none
  | _ => none
/-- The bytes from a to b. -/
def btw (a b : Nat) : Nat → Bool := fun c => decide (a ≤ c) && decide (c ≤ b)
def no (p : Nat → Bool) : Nat → Bool := fun b => !p b
/-- Has it a byte? -/
def any (p : Nat → Bool) : Bool := (List.range 256).any p
theorem any_true {p : Nat → Bool} : any p = true ↔ ∃ b, b < 256 ∧ p b = true := by
  unfold any; rw [List.any_eq_true]; simp
/-- How a byte is shown. -/
def shn (c : Nat) : List Nat := if mk c then [92, c] else if seen c then [c] else [92, 120, hexd (c / 16), hexd (c % 16)]
/-- How a run is shown. -/
def rtx (r : Nat × Nat) : List Nat := if r.2 = r.1 then shn r.1 else if r.2 = r.1 + 1 then shn r.1 ++ shn r.2 else shn r.1 ++ 45 :: shn r.2
/-- The runs' bytes. -/
def inr (l : List (Nat × Nat)) : Nat → Bool := fun c => l.any (fun r => btw r.1 r.2 c)
def Goodr (l : List (Nat × Nat)) : Prop := ∀ r ∈ l, r.1 ≤ r.2 ∧ r.2 < 256
/-- The runs of p from n on, in order. -/
def Runs (p : Nat → Bool) : Nat → List (Nat × Nat) → Prop
  | n, [] => ∀ b, n ≤ b → b < 256 → p b = false
  | n, (a, b) :: l => n ≤ a ∧ a ≤ b ∧ b < 256 ∧ (∀ c, n ≤ c → c < a → p c = false) ∧ (∀ c, a ≤ c → c ≤ b → p c = true) ∧ (b + 1 < 256 → p (b + 1) = false) ∧ Runs p (b + 1) l
theorem Runs.one {p : Nat → Bool} : ∀ {n : Nat} {l m : List (Nat × Nat)}, Runs p n l → Runs p n m → l = m
  | n, [], [], _, _ => rfl
  | n, [], (a, b) :: m, h, k => by
    have := k.2.2.2.2.1 a (Nat.le_refl _) k.2.1
    rw [h a k.1 (by have := k.2.1; have := k.2.2.1; omega)] at this
    cases this
  | n, (a, b) :: l, [], k, h => by
    have := k.2.2.2.2.1 a (Nat.le_refl _) k.2.1
    rw [h a k.1 (by have := k.2.1; have := k.2.2.1; omega)] at this
    cases this
  | n, (a, b) :: l, (a', b') :: m, h, k => by
    obtain ⟨h1, h2, h3, h4, h5, h6, h7⟩ := h
    obtain ⟨k1, k2, k3, k4, k5, k6, k7⟩ := k
    obtain rfl : a = a' := by
      rcases Nat.lt_trichotomy a a' with g | g | g
      · have := k4 a h1 g; rw [h5 a (Nat.le_refl _) h2] at this; cases this
      · exact g
      · have := h4 a' k1 g; rw [k5 a' (Nat.le_refl _) k2] at this; cases this
    obtain rfl : b = b' := by
      rcases Nat.lt_trichotomy b b' with g | g | g
      · have := h6 (by omega); rw [k5 (b + 1) (by omega) (by omega)] at this; cases this
      · exact g
      · have := k6 (by omega); rw [h5 (b' + 1) (by omega) (by omega)] at this; cases this
    rw [Runs.one h7 k7]
theorem Runs.good {p : Nat → Bool} : ∀ {n : Nat} {l : List (Nat × Nat)}, Runs p n l → Goodr l
  | n, [], _ => fun r hr => by cases hr
  | n, (a, b) :: l, h => by
    intro r hr
    rcases List.mem_cons.1 hr with rfl | hr
    · exact ⟨h.2.1, h.2.2.1⟩
    · exact Runs.good h.2.2.2.2.2.2 r hr
theorem Runs.inr {p : Nat → Bool} : ∀ {n : Nat} {l : List (Nat × Nat)}, Runs p n l → ∀ c, n ≤ c → c < 256 → inr l c = p c
  | n, [], h, c, hn, hc => by rw [h c hn hc]; simp [Go.Proofs.YtojbakkbmfgoaaaDoor.inr]
  | n, (a, b) :: l, h, c, hn, hc => by
    obtain ⟨h1, h2, h3, h4, h5, h6, h7⟩ := h
    have e : Go.Proofs.YtojbakkbmfgoaaaDoor.inr ((a, b) :: l) c = (btw a b c || Go.Proofs.YtojbakkbmfgoaaaDoor.inr l c) := by simp [Go.Proofs.YtojbakkbmfgoaaaDoor.inr]
    rw [e]
    by_cases g : b < c
    · rw [Runs.inr h7 c (by omega) hc]
      have : btw a b c = false := by unfold btw; simp; omega
      rw [this, Bool.false_or]
    · have lo : ∀ {n : Nat} {l : List (Nat × Nat)}, Runs p n l → c < n → Go.Proofs.YtojbakkbmfgoaaaDoor.inr l c = false := by
        intro n l
        induction l generalizing n with
        | nil => intro _ _; simp [Go.Proofs.YtojbakkbmfgoaaaDoor.inr]
        | cons r l ih =>
          obtain ⟨a, b⟩ := r
          intro h hn
          have e : Go.Proofs.YtojbakkbmfgoaaaDoor.inr ((a, b) :: l) c = (btw a b c || Go.Proofs.YtojbakkbmfgoaaaDoor.inr l c) := by simp [Go.Proofs.YtojbakkbmfgoaaaDoor.inr]
          have h1 := h.1; have h2 := h.2.1
          rw [e, ih h.2.2.2.2.2.2 (by omega)]
          unfold btw; simp; omega
      rw [lo h7 (by omega), Bool.or_false]
      by_cases k : a ≤ c
      · rw [h5 c k (by omega)]; unfold btw; simp; omega
      · rw [h4 c hn (by omega)]; unfold btw; simp; omega

/-- How a set is shown whose runs these are. -/
def shw (l : List (Nat × Nat)) : List Nat :=
  match l with
  | [] => []
  | [(a, b)] => if a = b then shn a else if a = 0 ∧ b = 255 then [46] else 91 :: (rtx (a, b) ++ [93])
  | l => 91 :: (l.flatMap rtx ++ [93])
end Go.Proofs.YtojbakkbmfgoaaaDoor
