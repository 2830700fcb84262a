/- Sets of bytes: four limbs of 64 bits, and the bytes that they have. -/
import Derived.Test.YtkclkhfcmjhogaaDoorProg
import Derived.WalkKit
import Derived.WalkSpells
import Derived.WalkLawsBesides
import Derived.KernelRfl
import Derived.Below
import Derived.Laws.MakeOwn
import Derived.Laws.OwnMore
import Derived.Laws.IdiomCopy
import Derived.Lib.SliceRun
import Derived.OwnWalk
import Derived.Laws.BytesArg
import Derived.Laws.Rows
import Derived.Laws.BitsAllLaws
import Derived.Laws.Bits64b
import Derived.Lib.TrailingZeros
import Derived.Deep.RegionHeld3
import Derived.LoopN
namespace Go.Proofs.YtkclkhfcmjhogaaDoor

/-- The number whose bits below n are f's. -/
def mkb (f : Nat → Bool) : Nat → Nat
  | 0 => 0
  | n + 1 => if f n then 2 ^ n + mkb f n else mkb f n

theorem mkb_lt (f : Nat → Bool) : ∀ n, mkb f n < 2 ^ n
  | 0 => by simp [mkb]
  | n + 1 => by
    have := mkb_lt f n
    rw [Nat.pow_succ]
    unfold mkb
    split <;> omega

theorem mkb_bit (f : Nat → Bool) (i : Nat) : ∀ n, (mkb f n).testBit i = (decide (i < n) && f i)
  | 0 => by simp [mkb]
  | n + 1 => by
    have ih := mkb_bit f i n
    unfold mkb
    have hl := mkb_lt f n
    by_cases hf : f n = true
    · rw [if_pos hf]
      rcases Nat.lt_trichotomy i n with g | g | g
      · rw [Nat.testBit_two_pow_add_gt g, ih]
        have h1 : i < n + 1 := by omega
        simp [g, h1]
      · subst g
        rw [Nat.testBit_two_pow_add_eq, ih]
        simp [hf]
      · have hs : 2 ^ n + mkb f n < 2 ^ i := by
          have h1 : 2 ^ (n + 1) ≤ 2 ^ i := Nat.pow_le_pow_right (by omega) (by omega)
          rw [Nat.pow_succ] at h1
          omega
        rw [Nat.testBit_lt_two_pow hs]
        have h1 : ¬ i < n + 1 := by omega
        simp [h1]
    · rw [if_neg hf, ih]
      rcases Nat.lt_trichotomy i n with g | g | g
      · have h1 : i < n + 1 := by omega
        simp [g, h1]
      · subst g
        simp [hf]
      · have h1 : ¬ i < n + 1 := by omega
        have h2 : ¬ i < n := by omega
        simp [h1, h2]

/-- The limb i of the bytes of p. -/
def limb (p : Nat → Bool) (i : Nat) : Nat := mkb (fun k => p (64 * i + k)) 64
theorem limb_lt (p : Nat → Bool) (i : Nat) : limb p i < 18446744073709551616 := mkb_lt _ 64
theorem limb_bit (p : Nat → Bool) (i : Nat) {k : Nat} (h : k < 64) : (limb p i).testBit k = p (64 * i + k) := by
  unfold limb
  rw [mkb_bit]
  simp [h]
theorem limb_bit' (p : Nat → Bool) (i k : Nat) : (limb p i).testBit k = (decide (k < 64) && p (64 * i + k)) := mkb_bit _ _ _
theorem big_bit {x k : Nat} (hx : x < 18446744073709551616) (h : ¬ k < 64) : x.testBit k = false := by
  refine Nat.testBit_lt_two_pow (Nat.lt_of_lt_of_le hx ?_)
  have : (2 : Nat) ^ 64 ≤ 2 ^ k := Nat.pow_le_pow_right (by omega) (by omega)
  exact this
theorem limb_eq {p : Nat → Bool} {i x : Nat} (hx : x < 18446744073709551616) (h : ∀ k, k < 64 → x.testBit k = p (64 * i + k)) : limb p i = x := by
  apply Nat.eq_of_testBit_eq
  intro k
  by_cases hk : k < 64
  · rw [limb_bit p i hk, h k hk]
  · rw [big_bit (limb_lt p i) hk, big_bit hx hk]
theorem limb_congr {p q : Nat → Bool} {i : Nat} (h : ∀ k, k < 64 → p (64 * i + k) = q (64 * i + k)) : limb p i = limb q i :=
  limb_eq (limb_lt q i) (fun k hk => by rw [limb_bit q i hk, h k hk])
theorem limb_and (p q : Nat → Bool) (i : Nat) : limb p i &&& limb q i = limb (fun b => p b && q b) i := by
  refine (limb_eq (Nat.lt_of_le_of_lt Nat.and_le_left (limb_lt p i)) (fun k hk => ?_)).symm
  rw [Nat.testBit_and, limb_bit p i hk, limb_bit q i hk]
theorem limb_or (p q : Nat → Bool) (i : Nat) : limb p i ||| limb q i = limb (fun b => p b || q b) i := by
  refine (limb_eq (Nat.or_lt_two_pow (n := 64) (limb_lt p i) (limb_lt q i)) (fun k hk => ?_)).symm
  rw [Nat.testBit_or, limb_bit p i hk, limb_bit q i hk]
theorem ones_bit {k : Nat} (hk : k < 64) : (18446744073709551615 : Nat).testBit k = true := by
  have := Nat.testBit_two_pow_sub_one 64 k
  rw [show (2 : Nat) ^ 64 - 1 = 18446744073709551615 from rfl] at this
  rw [this]; simp [hk]
theorem limb_not (p : Nat → Bool) (i : Nat) : 18446744073709551615 - limb p i = limb (fun b => !p b) i := by
  refine (limb_eq (by omega) (fun k hk => ?_)).symm
  have := Nat.testBit_two_pow_sub_succ (n := 64) (x := limb p i) (limb_lt p i) k
  rw [show (2 : Nat) ^ 64 - (limb p i + 1) = 18446744073709551615 - limb p i from by rw [show (2:Nat) ^ 64 = 18446744073709551616 from rfl]; omega] at this
  rw [this, limb_bit p i hk]; simp [hk]
theorem limb_xor (p : Nat → Bool) (i : Nat) : limb p i ^^^ 18446744073709551615 = limb (fun b => !p b) i := by
  refine (limb_eq (Nat.xor_lt_two_pow (n := 64) (limb_lt p i) (by decide)) (fun k hk => ?_)).symm
  rw [Nat.testBit_xor, limb_bit p i hk, ones_bit hk]; simp
theorem limb_none (i : Nat) : limb (fun _ => false) i = 0 := limb_eq (by decide) (fun k _ => by simp)
theorem limb_all (i : Nat) : limb (fun _ => true) i = 18446744073709551615 := limb_eq (by decide) (fun k hk => by rw [ones_bit hk])
/-- The bytes of four limbs. -/
def had (x : Nat → Nat) : Nat → Bool := fun b => (x (b / 64)).testBit (b % 64)
theorem limb_had (x : Nat → Nat) (i : Nat) (h : x i < 18446744073709551616) : limb (had x) i = x i := by
  refine limb_eq h (fun k hk => ?_)
  unfold had
  rw [show (64 * i + k) / 64 = i from by omega, show (64 * i + k) % 64 = k from by omega]
theorem had_limb (p : Nat → Bool) (b : Nat) : had (limb p) b = p b := by
  unfold had
  rw [limb_bit p _ (by omega), show 64 * (b / 64) + b % 64 = b from by omega]
/-- Alike at all bytes. -/
def Like (p q : Nat → Bool) : Prop := ∀ b, b < 256 → p b = q b
theorem limb_like {p q : Nat → Bool} (h : Like p q) {i : Nat} (hi : i < 4) : limb p i = limb q i := limb_congr (fun k hk => h _ (by omega))
theorem like_limb {p q : Nat → Bool} (h : ∀ i, i < 4 → limb p i = limb q i) : Like p q := by
  intro b hb
  rw [← had_limb p b, ← had_limb q b]
  unfold had
  rw [h _ (by omega)]
theorem limb_one (i k : Nat) (hk : k < 64) : limb (fun b => b == 64 * i + k) i = 2 ^ k := by
  refine limb_eq (show 2 ^ k < 2 ^ 64 from Nat.pow_lt_pow_right (by decide) hk) (fun j hj => ?_)
  rw [Nat.testBit_two_pow]
  by_cases h : k = j
  · subst h; simp
  · have h2 : ¬ j = k := fun e => h e.symm
    simp [h, h2]
theorem limb_since (n i : Nat) : limb (fun b => decide (n ≤ b)) i = (18446744073709551615 <<< (n - 64 * i)) % 18446744073709551616 := by
  refine limb_eq (Nat.mod_lt _ (by decide)) (fun k hk => ?_)
  have e : (18446744073709551615 <<< (n - 64 * i)) % 18446744073709551616 = (18446744073709551615 <<< (n - 64 * i)) % 2 ^ 64 := rfl
  rw [e, Nat.testBit_mod_two_pow, Nat.testBit_shiftLeft]
  by_cases h : n - 64 * i ≤ k
  · have h2 : n ≤ 64 * i + k := by omega
    rw [ones_bit (by omega)]
    simp [hk, h, h2]
  · have h2 : ¬ n ≤ 64 * i + k := by omega
    have h3 : ¬ k ≥ n - 64 * i := h
    simp [h2, h3]
theorem limb_has (p : Nat → Bool) (b : Nat) : (limb p (b / 64) >>> (b % 64)) % 2 = (p b).toNat := by
  have h := limb_bit p (b / 64) (k := b % 64) (by omega)
  rw [show 64 * (b / 64) + b % 64 = b from by omega] at h
  rw [← h, Nat.testBit_eq_decide_div_mod_eq, Nat.shiftRight_eq_div_pow]
  by_cases g : limb p (b / 64) / 2 ^ (b % 64) % 2 = 1
  · simp [g]
  · have : limb p (b / 64) / 2 ^ (b % 64) % 2 = 0 := by omega
    simp [this]
theorem limb_zero (p : Nat → Bool) (i : Nat) : limb p i = 0 ↔ ∀ k, k < 64 → p (64 * i + k) = false := by
  constructor
  · intro h k hk
    rw [← limb_bit p i hk, h]; simp
  · intro h
    exact limb_eq (by decide) (fun k hk => by rw [h k hk]; simp)

end Go.Proofs.YtkclkhfcmjhogaaDoor

namespace Go.Proofs.YtkclkhfcmjhogaaDoor

/-- The marks; what is seen; the digits. -/
def mk (c : Nat) : Bool := [92, 124, 42, 43, 63, 40, 41, 91, 93, 46, 94, 45].contains c
def seen (c : Nat) : Bool := decide (33 ≤ c) && decide (c ≤ 126)
def dig (c : Nat) : Option Nat := if 48 ≤ c ∧ c ≤ 57 then some (c - 48) else if 97 ≤ c ∧ c ≤ 102 then some (c - 87) else none
def hexd (x : Nat) : Nat := if x < 10 then 48 + x else 87 + x
theorem dig_hexd {x : Nat} (h : x < 16) : dig (hexd x) = some x := by
  unfold dig hexd
  by_cases h1 : x < 10
  · rw [if_pos h1, if_pos (by omega)]; congr 1; omega
  · rw [if_neg h1, if_neg (by omega), if_pos (by omega)]; congr 1; omega
theorem dig_lt {c x : Nat} (h : dig c = some x) : x < 16 := by
  unfold dig at h
  split at h
  · cases h; omega
  · split at h
    · cases h; omega
    · cases h

/-- Two digits. -/
def hx : List Nat → Option (Nat × List Nat)
  | a :: b :: l => match dig a, dig b with
    | some x, some y => some (16 * x + y, l)
    | _, _ => none
  | _ => none
/-- What stands behind a stroke. -/
def esc : List Nat → Option (Nat × List Nat)
  | [] => none
  | c :: l => if c = 120 then hx l else if mk c then some (c, l) else none
/-- A sign. -/
def sgn : List Nat → Option (Nat × List Nat)
  | [] => none
  | c :: l => if c = 92 then esc l else if seen c && !mk c then some (c, l) else none
/-- Behind a part's first sign. -/
def prt2 (a : Nat) : List Nat → Option ((Nat × Nat) × List Nat)
  | [] => some ((a, a), [])
  | c :: l => if c = 45 then (match sgn l with
    | none => none
    | some (b, t) => if a ≤ b then some ((a, b), t) else none) else some ((a, a), c :: l)
/-- A part. -/
def prt (l : List Nat) : Option ((Nat × Nat) × List Nat) :=
  match sgn l with
  | none => none
  | some (a, t) => prt2 a t
/-- The bytes from a to b. -/
def btw (a b : Nat) : Nat → Bool := fun c => decide (a ≤ c) && decide (c ≤ b)
/-- Parts to the end. -/
def prs : Nat → (Nat → Bool) → List Nat → Option ((Nat → Bool) × List Nat)
  | 0, _, _ => none
  | _ + 1, _, [] => none
  | f + 1, p, c :: l => if c = 93 then some (p, l) else match prt (c :: l) with
    | none => none
    | some ((a, b), t) => prs f (fun x => p x || btw a b x) t
/-- What stands in brackets: at least one part. -/
def brk (l : List Nat) : Option ((Nat → Bool) × List Nat) :=
  match prt l with
  | none => none
  | some ((a, b), t) => prs (t.length + 1) (btw a b) t
def no (p : Nat → Bool) : Nat → Bool := fun b => !p b
/-- Behind the first bracket. -/
def bks : List Nat → Option ((Nat → Bool) × List Nat)
  | [] => none
  | c :: l => if c = 94 then (match brk l with
    | none => none
    | some (p, t) => some (no p, t)) else brk (c :: l)
/-- Has it a byte? -/
def any (p : Nat → Bool) : Bool := (List.range 256).any p
def cls0 : List Nat → Option ((Nat → Bool) × List Nat)
  | [] => none
  | c :: l => if c = 46 then some (fun _ => true, l) else if c = 91 then bks l else match sgn (c :: l) with
    | none => none
    | some (a, t) => some (btw a a, t)
/-- A class. -/
def cls (l : List Nat) : Option ((Nat → Bool) × List Nat) :=
  match cls0 l with
  | none => none
  | some (p, t) => if any p then some (p, t) else none

theorem any_true {p : Nat → Bool} : any p = true ↔ ∃ b, b < 256 ∧ p b = true := by
  unfold any; rw [List.any_eq_true]; simp
theorem any_false {p : Nat → Bool} : any p = false ↔ ∀ b, b < 256 → p b = false := by
  unfold any; rw [List.any_eq_false]; simp

theorem hx_len {l t : List Nat} {c : Nat} (h : hx l = some (c, t)) : t.length < l.length ∧ c < 256 := by
  unfold hx at h
  split at h
  · rename_i a b l
    split at h
    · rename_i x y hx hy
      cases h
      have := dig_lt hx; have := dig_lt hy
      constructor
      · simp; omega
      · omega
    · cases h
  · cases h
theorem esc_len {l t : List Nat} {c : Nat} (h : esc l = some (c, t)) : t.length < l.length ∧ c < 256 := by
  unfold esc at h
  split at h
  · cases h
  · split at h
    · have := hx_len h
      simp; omega
    · split at h
      · cases h
        rename_i g
        refine ⟨by simp, ?_⟩
        unfold mk at g
        simp at g
        omega
      · cases h
theorem sgn_len {l t : List Nat} {c : Nat} (h : sgn l = some (c, t)) : t.length < l.length ∧ c < 256 := by
  unfold sgn at h
  split at h
  · cases h
  · split at h
    · have := esc_len h
      simp; omega
    · split at h
      · cases h
        rename_i g
        refine ⟨by simp, ?_⟩
        unfold seen at g
        simp at g
        omega
      · cases h
theorem prt_len {l t : List Nat} {a b : Nat} (h : prt l = some ((a, b), t)) : t.length < l.length ∧ a ≤ b ∧ b < 256 := by
  unfold prt at h
  split at h
  · cases h
  · rename_i a' t' hs
    have h1 := sgn_len hs
    unfold prt2 at h
    split at h
    · cases h; simp at *; omega
    · rename_i c l'
      split at h
      · split at h
        · cases h
        · rename_i b' t'' hs2
          have h2 := sgn_len hs2
          split at h
          · cases h; simp at *; omega
          · cases h
      · cases h; simp at *; omega

/-- More fuel tells the same. -/
theorem prs_more : ∀ (f g : Nat) (p : Nat → Bool) (l : List Nat), l.length < f → l.length < g → prs f p l = prs g p l
  | 0, _, _, _, h, _ => by omega
  | _, 0, _, _, _, h => by omega
  | f + 1, g + 1, p, [], _, _ => rfl
  | f + 1, g + 1, p, c :: l, h1, h2 => by
    unfold prs
    by_cases hc : c = 93
    · rw [if_pos hc, if_pos hc]
    · rw [if_neg hc, if_neg hc]
      cases hp : prt (c :: l) with
      | none => rfl
      | some r =>
        obtain ⟨⟨a, b⟩, t⟩ := r
        have := (prt_len hp).1
        exact prs_more f g _ t (by omega) (by omega)

/-- How a byte is shown. -/
def shn (c : Nat) : List Nat := if mk c then [92, c] else if seen c then [c] else [92, 120, hexd (c / 16), hexd (c % 16)]
theorem sgn_shn {c : Nat} (hc : c < 256) (l : List Nat) : sgn (shn c ++ l) = some (c, l) := by
  unfold shn
  by_cases h : mk c = true
  · rw [if_pos h]
    have h2 : ¬ c = 120 := by rintro rfl; exact absurd h (by decide)
    simp [sgn, esc, h2, h]
  · rw [if_neg h]
    by_cases g : seen c = true
    · rw [if_pos g]
      have h2 : ¬ c = 92 := by rintro rfl; exact absurd h (by decide)
      simp [sgn, h2, h, g]
    · rw [if_neg g]
      simp [sgn, esc, hx, dig_hexd (show c / 16 < 16 by omega), dig_hexd (show c % 16 < 16 by omega)]
      omega
theorem sgn_hex {c : Nat} (hc : c < 256) (l : List Nat) : sgn ([92, 120, hexd (c / 16), hexd (c % 16)] ++ l) = some (c, l) := by
  simp [sgn, esc, hx, dig_hexd (show c / 16 < 16 by omega), dig_hexd (show c % 16 < 16 by omega)]
  omega
/-- A text that opens with none of these signs. -/
def Opens (l : List Nat) : Prop := ∃ c t, l = c :: t ∧ c ≠ 45
theorem shn_opens {c : Nat} (l : List Nat) : ∃ d t, shn c ++ l = d :: t ∧ d ≠ 45 ∧ d ≠ 46 ∧ d ≠ 91 ∧ d ≠ 93 ∧ d ≠ 94 := by
  unfold shn
  by_cases h : mk c = true
  · rw [if_pos h]; exact ⟨92, c :: l, rfl, by decide, by decide, by decide, by decide, by decide⟩
  · rw [if_neg h]
    by_cases g : seen c = true
    · rw [if_pos g]
      refine ⟨c, l, rfl, ?_, ?_, ?_, ?_, ?_⟩ <;> (rintro rfl; exact absurd h (by decide))
    · rw [if_neg g]; exact ⟨92, _, rfl, by decide, by decide, by decide, by decide, by decide⟩
/-- How a run is shown. -/
def rtx (r : Nat × Nat) : List Nat := if r.2 = r.1 then shn r.1 else if r.2 = r.1 + 1 then shn r.1 ++ shn r.2 else shn r.1 ++ 45 :: shn r.2
theorem rtx_opens (r : Nat × Nat) (l : List Nat) : ∃ d t, rtx r ++ l = d :: t ∧ d ≠ 45 ∧ d ≠ 46 ∧ d ≠ 91 ∧ d ≠ 93 ∧ d ≠ 94 := by
  unfold rtx
  split
  · exact shn_opens l
  · split
    · rw [List.append_assoc]; exact shn_opens _
    · rw [List.append_assoc]; exact shn_opens _
theorem prt_one {a : Nat} (ha : a < 256) {l : List Nat} (h : Opens l) : prt (shn a ++ l) = some ((a, a), l) := by
  obtain ⟨c, t, rfl, hc⟩ := h
  unfold prt
  rw [sgn_shn ha]
  simp [prt2, hc]
theorem prt_two {a b : Nat} (ha : a < 256) (hb : b < 256) (hab : a ≤ b) (l : List Nat) : prt (shn a ++ 45 :: (shn b ++ l)) = some ((a, b), l) := by
  unfold prt
  rw [sgn_shn ha]
  simp [prt2, sgn_shn hb, hab]
/-- The runs' bytes. -/
def inr (l : List (Nat × Nat)) : Nat → Bool := fun c => l.any (fun r => btw r.1 r.2 c)
def Goodr (l : List (Nat × Nat)) : Prop := ∀ r ∈ l, r.1 ≤ r.2 ∧ r.2 < 256
theorem tail_opens (l : List (Nat × Nat)) (more : List Nat) : Opens (l.flatMap rtx ++ 93 :: more) := by
  cases l with
  | nil => exact ⟨93, more, rfl, by decide⟩
  | cons r l =>
    rw [List.flatMap_cons, List.append_assoc]
    obtain ⟨d, t, e, h, _⟩ := rtx_opens r (l.flatMap rtx ++ 93 :: more)
    exact ⟨d, t, e, h⟩
theorem prs_step {f : Nat} {p : Nat → Bool} {l t : List Nat} {a b : Nat} (hl : ∃ d u, l = d :: u ∧ d ≠ 93) (h : prt l = some ((a, b), t)) : prs (f + 1) p l = prs f (fun x => p x || btw a b x) t := by
  obtain ⟨d, u, rfl, hd⟩ := hl
  rw [prs, if_neg hd, h]
theorem prs_runs (more : List Nat) : ∀ (l : List (Nat × Nat)) (f : Nat) (p : Nat → Bool), Goodr l → (l.flatMap rtx ++ 93 :: more).length < f → ∃ q, prs f p (l.flatMap rtx ++ 93 :: more) = some (q, more) ∧ ∀ c, q c = (p c || inr l c)
  | [], f, p, _, hf => by
    obtain ⟨f, rfl⟩ : ∃ g, f = g + 1 := ⟨f - 1, by simp at hf; omega⟩
    exact ⟨p, by simp [prs], fun c => by simp [inr]⟩
  | r :: l, f, p, hg, hf => by
    have hr := hg r (List.mem_cons_self ..)
    have hg2 : Goodr l := fun x hx => hg x (List.mem_cons_of_mem _ hx)
    obtain ⟨a, b⟩ := r
    simp only at hr
    have ho := tail_opens l more
    generalize hT : l.flatMap rtx ++ 93 :: more = T at ho
    have e : (((a, b) :: l).flatMap rtx ++ 93 :: more) = rtx (a, b) ++ T := by rw [List.flatMap_cons, List.append_assoc, hT]
    rw [e] at hf ⊢
    obtain ⟨f, rfl⟩ : ∃ g, f = g + 1 := ⟨f - 1, by omega⟩
    have hh : ∃ d u, rtx (a, b) ++ T = d :: u ∧ d ≠ 93 := by
      obtain ⟨d, t, e, _, _, _, h, _⟩ := rtx_opens (a, b) T
      exact ⟨d, t, e, h⟩
    unfold rtx at hf hh ⊢
    simp only at hf hh ⊢
    by_cases h1 : b = a
    · rw [if_pos h1] at hf hh ⊢
      have hp := prt_one (a := a) (by omega) ho
      have hl := (prt_len hp).1
      rw [prs_step hh hp, ← hT]
      rw [← hT] at hl hf
      obtain ⟨q, hq, hc⟩ := prs_runs more l f (fun x => p x || btw a a x) hg2 (by omega)
      refine ⟨q, hq, fun c => ?_⟩
      rw [hc, h1]; simp [inr, Bool.or_assoc]
    · rw [if_neg h1] at hf hh ⊢
      by_cases h2 : b = a + 1
      · rw [if_pos h2] at hf hh ⊢
        rw [List.append_assoc] at hf hh ⊢
        have ho2 : Opens (shn b ++ T) := by obtain ⟨d, t, e, h, _⟩ := shn_opens (c := b) T; exact ⟨d, t, e, h⟩
        have hh2 : ∃ d u, shn b ++ T = d :: u ∧ d ≠ 93 := by
          obtain ⟨d, t, e, _, _, _, h, _⟩ := shn_opens (c := b) T
          exact ⟨d, t, e, h⟩
        have hp := prt_one (a := a) (by omega) ho2
        have hl := (prt_len hp).1
        have hp2 := prt_one (a := b) (by omega) ho
        have hl2 := (prt_len hp2).1
        obtain ⟨f, rfl⟩ : ∃ g, f = g + 1 := ⟨f - 1, by omega⟩
        rw [prs_step hh hp, prs_step hh2 hp2, ← hT]
        rw [← hT] at hl hl2 hf
        obtain ⟨q, hq, hc⟩ := prs_runs more l f (fun x => (p x || btw a a x) || btw b b x) hg2 (by omega)
        refine ⟨q, hq, fun c => ?_⟩
        rw [hc]
        have : btw a b c = (btw a a c || btw b b c) := by
          unfold btw
          rw [Bool.eq_iff_iff]; simp; omega
        simp [inr, Bool.or_assoc, this]
      · rw [if_neg h2] at hf hh ⊢
        rw [List.append_assoc] at hf hh ⊢
        have hp := prt_two (a := a) (b := b) (by omega) (by omega) (by omega) T
        have hl := (prt_len hp).1
        rw [List.cons_append] at hf hh ⊢
        rw [prs_step hh hp, ← hT]
        rw [← hT] at hl hf
        obtain ⟨q, hq, hc⟩ := prs_runs more l f (fun x => p x || btw a b x) hg2 (by omega)
        refine ⟨q, hq, fun c => ?_⟩
        rw [hc]; simp [inr, Bool.or_assoc]
/-- Brackets, by the parts to the end. -/
theorem brk_prs {l : List Nat} {f : Nat} (hf : l.length < f) (hl : ∃ d u, l = d :: u ∧ d ≠ 93) : brk l = prs f (fun _ => false) l := by
  obtain ⟨f, rfl⟩ : ∃ g, f = g + 1 := ⟨f - 1, by omega⟩
  cases hp : prt l with
  | none =>
    obtain ⟨d, u, rfl, hd⟩ := hl
    rw [prs, if_neg hd, hp, brk, hp]
  | some r =>
    obtain ⟨⟨a, b⟩, t⟩ := r
    rw [prs_step hl hp, brk, hp]
    have := (prt_len hp).1
    simp only [Bool.false_or]
    exact prs_more _ _ _ _ (by omega) (by omega)
theorem brk_93 (t : List Nat) : brk (93 :: t) = none := rfl

/-- The runs of p from n on, in order. -/
def Runs (p : Nat → Bool) : Nat → List (Nat × Nat) → Prop
  | n, [] => ∀ b, n ≤ b → b < 256 → p b = false
  | n, (a, b) :: l => n ≤ a ∧ a ≤ b ∧ b < 256 ∧ (∀ c, n ≤ c → c < a → p c = false) ∧ (∀ c, a ≤ c → c ≤ b → p c = true) ∧ (b + 1 < 256 → p (b + 1) = false) ∧ Runs p (b + 1) l
theorem Runs.one {p : Nat → Bool} : ∀ {n : Nat} {l m : List (Nat × Nat)}, Runs p n l → Runs p n m → l = m
  | n, [], [], _, _ => rfl
  | n, [], (a, b) :: m, h, k => by
    have := k.2.2.2.2.1 a (Nat.le_refl _) k.2.1
    rw [h a k.1 (by have := k.2.1; have := k.2.2.1; omega)] at this
    cases this
  | n, (a, b) :: l, [], k, h => by
    have := k.2.2.2.2.1 a (Nat.le_refl _) k.2.1
    rw [h a k.1 (by have := k.2.1; have := k.2.2.1; omega)] at this
    cases this
  | n, (a, b) :: l, (a', b') :: m, h, k => by
    obtain ⟨h1, h2, h3, h4, h5, h6, h7⟩ := h
    obtain ⟨k1, k2, k3, k4, k5, k6, k7⟩ := k
    obtain rfl : a = a' := by
      rcases Nat.lt_trichotomy a a' with g | g | g
      · have := k4 a h1 g; rw [h5 a (Nat.le_refl _) h2] at this; cases this
      · exact g
      · have := h4 a' k1 g; rw [k5 a' (Nat.le_refl _) k2] at this; cases this
    obtain rfl : b = b' := by
      rcases Nat.lt_trichotomy b b' with g | g | g
      · have := h6 (by omega); rw [k5 (b + 1) (by omega) (by omega)] at this; cases this
      · exact g
      · have := k6 (by omega); rw [h5 (b' + 1) (by omega) (by omega)] at this; cases this
    rw [Runs.one h7 k7]
theorem Runs.good {p : Nat → Bool} : ∀ {n : Nat} {l : List (Nat × Nat)}, Runs p n l → Goodr l
  | n, [], _ => fun r hr => by cases hr
  | n, (a, b) :: l, h => by
    intro r hr
    rcases List.mem_cons.1 hr with rfl | hr
    · exact ⟨h.2.1, h.2.2.1⟩
    · exact Runs.good h.2.2.2.2.2.2 r hr
theorem Runs.inr {p : Nat → Bool} : ∀ {n : Nat} {l : List (Nat × Nat)}, Runs p n l → ∀ c, n ≤ c → c < 256 → inr l c = p c
  | n, [], h, c, hn, hc => by rw [h c hn hc]; simp [Go.Proofs.YtkclkhfcmjhogaaDoor.inr]
  | n, (a, b) :: l, h, c, hn, hc => by
    obtain ⟨h1, h2, h3, h4, h5, h6, h7⟩ := h
    have e : Go.Proofs.YtkclkhfcmjhogaaDoor.inr ((a, b) :: l) c = (btw a b c || Go.Proofs.YtkclkhfcmjhogaaDoor.inr l c) := by simp [Go.Proofs.YtkclkhfcmjhogaaDoor.inr]
    rw [e]
    by_cases g : b < c
    · rw [Runs.inr h7 c (by omega) hc]
      have : btw a b c = false := by unfold btw; simp; omega
      rw [this, Bool.false_or]
    · have lo : ∀ {n : Nat} {l : List (Nat × Nat)}, Runs p n l → c < n → Go.Proofs.YtkclkhfcmjhogaaDoor.inr l c = false := by
        intro n l
        induction l generalizing n with
        | nil => intro _ _; simp [Go.Proofs.YtkclkhfcmjhogaaDoor.inr]
        | cons r l ih =>
          obtain ⟨a, b⟩ := r
          intro h hn
          have e : Go.Proofs.YtkclkhfcmjhogaaDoor.inr ((a, b) :: l) c = (btw a b c || Go.Proofs.YtkclkhfcmjhogaaDoor.inr l c) := by simp [Go.Proofs.YtkclkhfcmjhogaaDoor.inr]
          have h1 := h.1; have h2 := h.2.1
          rw [e, ih h.2.2.2.2.2.2 (by omega)]
          unfold btw; simp; omega
      rw [lo h7 (by omega), Bool.or_false]
      by_cases k : a ≤ c
      · rw [h5 c k (by omega)]; unfold btw; simp; omega
      · rw [h4 c hn (by omega)]; unfold btw; simp; omega

/-- How a set is shown whose runs these are. -/
def shw (l : List (Nat × Nat)) : List Nat :=
  match l with
  | [] => []
  | [(a, b)] => if a = b then shn a else if a = 0 ∧ b = 255 then [46] else 91 :: (rtx (a, b) ++ [93])
  | l => 91 :: (l.flatMap rtx ++ [93])
theorem brk_runs {l : List (Nat × Nat)} (hl : l ≠ []) (hg : Goodr l) (more : List Nat) : ∃ q, bks (l.flatMap rtx ++ 93 :: more) = some (q, more) ∧ ∀ c, q c = inr l c := by
  have hh : ∃ d u, l.flatMap rtx ++ 93 :: more = d :: u ∧ d ≠ 93 ∧ d ≠ 94 := by
    cases l with
    | nil => exact absurd rfl hl
    | cons r l =>
      rw [List.flatMap_cons, List.append_assoc]
      obtain ⟨d, t, e, _, _, _, h, h2⟩ := rtx_opens r (l.flatMap rtx ++ 93 :: more)
      exact ⟨d, t, e, h, h2⟩
  obtain ⟨q, hq, hc⟩ := prs_runs more l _ (fun _ => false) hg (Nat.lt_succ_self _)
  refine ⟨q, ?_, fun c => by rw [hc, Bool.false_or]⟩
  rw [← hq, ← brk_prs (Nat.lt_succ_self _) (by obtain ⟨d, u, e, h, _⟩ := hh; exact ⟨d, u, e, h⟩)]
  obtain ⟨d, u, e, _, h⟩ := hh
  rw [e, bks, if_neg h]

/-- What is shown is parsed as it was. -/
theorem cls_shw {p : Nat → Bool} {l : List (Nat × Nat)} (hr : Runs p 0 l) (hl : l ≠ []) (more : List Nat) : ∃ q, cls (shw l ++ more) = some (q, more) ∧ ∀ c, c < 256 → q c = p c := by
  have hin := hr.inr
  have hgood := hr.good
  have hany : any p = true := by
    match l, hl, hr with
    | (a, b) :: l, _, h => exact any_true.2 ⟨a, by have := h.2.1; have := h.2.2.1; omega, h.2.2.2.2.1 a (Nat.le_refl _) h.2.1⟩
  have hcls : ∀ {T : List Nat} {q : Nat → Bool}, cls0 T = some (q, more) → (∀ c, c < 256 → q c = p c) → ∃ q, cls T = some (q, more) ∧ ∀ c, c < 256 → q c = p c := by
    intro T q h1 h2
    refine ⟨q, ?_, h2⟩
    unfold cls
    rw [h1]
    have : any q = true := by
      obtain ⟨b, hb, hp⟩ := any_true.1 hany
      exact any_true.2 ⟨b, hb, by rw [h2 b hb, hp]⟩
    simp [this]
  have hbr : ∃ q, cls0 (91 :: (l.flatMap rtx ++ 93 :: more)) = some (q, more) ∧ ∀ c, c < 256 → q c = p c := by
    obtain ⟨q, h1, h2⟩ := brk_runs hl hgood more
    refine ⟨q, ?_, fun c hc => by rw [h2, hin c (by omega) hc]⟩
    rw [cls0, if_neg (by decide), if_pos rfl, h1]
  match l, hl with
  | [(a, b)], _ =>
    unfold shw
    simp only
    have hab := hgood (a, b) (List.mem_cons_self ..)
    simp only at hab
    by_cases h1 : a = b
    · rw [if_pos h1]
      subst h1
      refine hcls (q := btw a a) ?_ (fun c hc => by rw [← hin c (by omega) hc]; simp [inr])
      obtain ⟨d, t, e, _, h46, h91, _, _⟩ := shn_opens (c := a) more
      have hs := sgn_shn (c := a) (by omega) more
      rw [e] at hs ⊢
      rw [cls0, if_neg h46, if_neg h91, hs]
    · rw [if_neg h1]
      by_cases h2 : a = 0 ∧ b = 255
      · rw [if_pos h2]
        refine hcls (q := fun _ => true) rfl (fun c hc => ?_)
        rw [← hin c (by omega) hc, h2.1, h2.2]
        simp [inr, btw]; omega
      · rw [if_neg h2]
        obtain ⟨q, h3, h4⟩ := hbr
        refine hcls (q := q) ?_ h4
        rw [← h3]
        simp
  | r :: s :: l, _ =>
    obtain ⟨q, h3, h4⟩ := hbr
    refine hcls (q := q) ?_ h4
    rw [← h3]
    simp [shw]

end Go.Proofs.YtkclkhfcmjhogaaDoor

namespace Go.Proofs.YtkclkhfcmjhogaaDoor
open Go.RowKit

/-- Of the old blocks only those of S may have turned. -/
structure Mv (S : Nat → Prop) (w w' : World) : Prop where
  os : w'.os = w.os
  tape : w'.tape = w.tape
  output : w'.output = w.output
  size : w.heap.size ≤ w'.heap.size
  block : ∀ k, k < w.heap.size → ¬ S k → w'.heap[k]? = w.heap[k]?

theorem Mv.refl (S : Nat → Prop) (w : World) : Mv S w w := ⟨rfl, rfl, rfl, Nat.le_refl _, fun _ _ _ => rfl⟩
theorem Mv.trans {S T : Nat → Prop} {a b c : World} (h : Mv S a b) (k : Mv T b c) (hT : ∀ j, j < a.heap.size → T j → S j) : Mv S a c :=
  ⟨k.os.trans h.os, k.tape.trans h.tape, k.output.trans h.output, Nat.le_trans h.size k.size, fun i hi hs => (k.block i (Nat.lt_of_lt_of_le hi h.size) (fun ht => hs (hT i hi ht))).trans (h.block i hi hs)⟩
theorem Mv.mono {S T : Nat → Prop} {a b : World} (h : Mv S a b) (hT : ∀ j, j < a.heap.size → S j → T j) : Mv T a b :=
  ⟨h.os, h.tape, h.output, h.size, fun i hi hs => h.block i hi (fun k => hs (hT i hi k))⟩
theorem Mv.of_grown {w w' : World} {r : Option Nat} (h : w.grownBy w' r) : Mv (fun k => r = some k) w w' :=
  ⟨h.os, h.tape, h.output, h.size, fun k hk hs => h.block k hk (fun e => hs e.symm)⟩
theorem Mv.of_below {B : Nat} {w w' : World} (h : Below B w w') : Mv (fun k => B ≤ k) w w' :=
  ⟨h.os, h.tape, h.output, h.size, fun k _ hs => h.block k (by omega)⟩
theorem Mv.below {S : Nat → Prop} {w w' : World} (h : Mv S w w') {B : Nat} (hB : B ≤ w.heap.size) (hs : ∀ k, k < B → ¬ S k) : Below B w w' :=
  ⟨h.os, h.tape, h.output, h.size, fun k hk => h.block k (by omega) (hs k hk)⟩
theorem Mv.alloc (S : Nat → Prop) (w : World) (o : Obj) : Mv S w (w.alloc o) := ⟨rfl, rfl, rfl, by simp, fun k hk _ => Below.heap_alloc _ _ _ hk⟩
theorem Mv.setCell (w : World) (p : Addr) (u : Value) : Mv (fun k => k = p.block) w (w.setCell p u) :=
  ⟨rfl, rfl, rfl, by simp [World.setCell], fun k _ hs => Below.heap_setCell _ _ _ _ hs⟩
theorem Mv.drewN (S : Nat → Prop) (w : World) (q : Nat) : Mv S w (w.drewN q) := ⟨rfl, rfl, rfl, Nat.le_refl _, fun _ _ _ => rfl⟩
theorem Mv.cell {S : Nat → Prop} {w w' : World} (h : Mv S w w') {p : Addr} {v : Value} (hv : w.cell? p = some v) (hs : ¬ S p.block) : w'.cell? p = some v :=
  (World.cell?_of_block (h.block p.block (World.block_lt_of_cell? w p hv) hs)).trans hv
theorem Mv.frozen {S : Nat → Prop} {w w' : World} (h : Mv S w w') {p : Addr} (hl : p.block < w.heap.size) (hs : ¬ S p.block) : w'.frozen? p = w.frozen? p :=
  World.frozen?_of_block (h.block p.block hl hs)
theorem Mv.owns {S : Nat → Prop} {w w' : World} (h : Mv S w w') {base : Nat} {e : TypeId} {sz : Nat} {v : Value} {n : Nat} {xs : List Value} (ho : w.ownsRow base e sz v n xs) (hs : ∀ k, v.ownBlock = some k → ¬ S k) : w'.ownsRow base e sz v n xs := by
  refine ⟨ho.1, ?_⟩
  rcases ho.2 with hn | ⟨g, cap, cur, rfl, hb, hgg, rest⟩
  · exact .inl hn
  · refine .inr ⟨g, cap, cur, rfl, hb, ?_, rest⟩
    rw [h.block g (Array.getElem?_eq_some_iff.1 hgg).1 (hs g rfl)]
    exact hgg

/-- The first n of a row, as a list. -/
def row (V : Nat → Value) (n : Nat) : List Value := (List.range n).map V
theorem row_length (V : Nat → Value) (n : Nat) : (row V n).length = n := by simp [row]
theorem row_get (V : Nat → Value) (n i : Nat) (h : i < (row V n).length) : (row V n)[i] = V i := by simp [row]
theorem row_get? (V : Nat → Value) {n i : Nat} (h : i < n) : (row V n)[i]? = some (V i) := by
  rw [List.getElem?_eq_getElem (by rw [row_length]; exact h), row_get]
theorem row_congr {V U : Nat → Value} {n : Nat} (h : ∀ i, i < n → V i = U i) : row V n = row U n := by
  apply List.map_congr_left
  intro i hi
  exact h i (List.mem_range.1 hi)
theorem row_mem {V : Nat → Value} {n : Nat} {u : Value} (h : u ∈ row V n) : ∃ i, i < n ∧ u = V i := by
  obtain ⟨i, hi, rfl⟩ := List.mem_map.1 h
  exact ⟨i, List.mem_range.1 hi, rfl⟩
/-- Two rows, one behind the other. -/
def cat (V : Nat → Value) (m : Nat) (U : Nat → Value) : Nat → Value := fun i => if i < m then V i else U (i - m)
theorem row_cat (f g : Nat → Value) (m n : Nat) : row (cat f m g) (m + n) = row f m ++ row g n := by
  apply List.ext_getElem
  · simp [row_length]
  · intro i h1 h2
    rw [row_length] at h1
    rw [row_get]
    unfold cat
    by_cases h : i < m
    · rw [if_pos h, List.getElem_append_left (by rw [row_length]; exact h), row_get]
    · rw [if_neg h, List.getElem_append_right (by rw [row_length]; omega), row_get, row_length]

theorem addr_add (b off i : Nat) : (⟨b, off, none⟩ : Addr).add i = ⟨b, off + i, none⟩ := by unfold Addr.add; split <;> simp_all

/-- A slice of n values lies there, V of them. -/
def Sl (w : World) (a : Option Addr) (n : Nat) (V : Nat → Value) : Prop := ∀ i, i < n → ∃ b off, a = some ⟨b, off, none⟩ ∧ b < w.heap.size ∧ w.cell? ⟨b, off + i, none⟩ = some (V i)
theorem Sl.mv {S : Nat → Prop} {w w' : World} {a : Option Addr} {n : Nat} {V : Nat → Value} (h : Sl w a n V) (k : Mv S w w') (hs : ∀ p, a = some p → ¬ S p.block) : Sl w' a n V := by
  intro i hi
  obtain ⟨b, off, e, hb, hc⟩ := h i hi
  exact ⟨b, off, e, Nat.lt_of_lt_of_le hb k.size, k.cell (p := ⟨b, off + i, none⟩) hc (hs ⟨b, off, none⟩ e)⟩
theorem Sl.below {w w' : World} {a : Option Addr} {n : Nat} {V : Nat → Value} (h : Sl w a n V) (k : Below w.heap.size w w') : Sl w' a n V := by
  intro i hi
  obtain ⟨b, off, e, hb, hc⟩ := h i hi
  exact ⟨b, off, e, Nat.lt_of_lt_of_le hb k.size, (k.cell hb).trans hc⟩
theorem Sl.cells {w : World} {a : Addr} {n : Nat} {V : Nat → Value} (h : Sl w (some a) n V) : ∀ j u, (row V n)[j]? = some u → w.cell? (a.add j) = some u := by
  intro j u hj
  by_cases hn : j < n
  · rw [row_get? V hn] at hj
    cases hj
    obtain ⟨b, off, e, _, hc⟩ := h j hn
    cases e
    rw [addr_add]; exact hc
  · rw [List.getElem?_eq_none (by rw [row_length]; omega)] at hj
    cases hj

/-- A slice of its own, from block 'base' on. -/
def Own (w : World) (base : Nat) (e : TypeId) (v : Value) (n : Nat) (V : Nat → Value) : Prop := w.ownsRow base e 1 v n (row V n)
theorem Own.mv {S : Nat → Prop} {w w' : World} {base : Nat} {e : TypeId} {v : Value} {n : Nat} {V : Nat → Value} (ho : Own w base e v n V) (h : Mv S w w') (hs : ∀ k, v.ownBlock = some k → ¬ S k) : Own w' base e v n V := h.owns ho hs
theorem Own.blk {w : World} {base : Nat} {e : TypeId} {v : Value} {n : Nat} {V : Nat → Value} (h : Own w base e v n V) : ∀ k, v.ownBlock = some k → base ≤ k ∧ k < w.heap.size := World.ownsRow.lt h
theorem Own.sl {w : World} {base n : Nat} {e : TypeId} {v : Value} {V : Nat → Value} (h : Own w base e v n V) : ∃ a cap, v = .slice a n cap ∧ Sl w a n V ∧ n ≤ cap ∧ (a = none → n = 0 ∧ cap = 0) := by
  have h' := h
  rcases h.2 with ⟨rfl, rfl⟩ | ⟨g, cap, cur, rfl, _, hg, hnc, _⟩
  · exact ⟨none, 0, rfl, fun i hi => by omega, by omega, fun _ => ⟨rfl, rfl⟩⟩
  · refine ⟨_, cap, rfl, fun i hi => ⟨g, 0, rfl, ?_, ?_⟩, hnc, fun h => by cases h⟩
    · exact (Array.getElem?_eq_some_iff.1 hg).1
    · rw [Nat.zero_add, h'.cellAt i (by omega), row_get? V hi]
theorem Own.at {w : World} {base n c g i : Nat} {e : TypeId} {V : Nat → Value} (h : Own w base e (.slice (some ⟨g, 0, none⟩) n c) n V) (hi : i < n) : w.cell? ⟨g, i, none⟩ = some (V i) ∧ w.frozen? ⟨g, i, none⟩ = false := by
  refine ⟨?_, World.ownsRow.frozenAt h i⟩
  rw [World.ownsRow.cellAt h i (by omega), row_get? V hi]
theorem Own.congr {w : World} {base n : Nat} {e : TypeId} {v : Value} {V U : Nat → Value} (h : Own w base e v n V) (k : ∀ i, i < n → V i = U i) : Own w base e v n U := by
  unfold Own; rw [← row_congr k]; exact h
theorem Own.slice {w : World} {base n : Nat} {e : TypeId} {v : Value} {V : Nat → Value} (h : Own w base e v n V) : v = .slice none 0 0 ∧ n = 0 ∨ ∃ g c, v = .slice (some ⟨g, 0, none⟩) n c ∧ n ≤ c := by
  rcases h.2 with ⟨rfl, rfl⟩ | ⟨g, cap, cur, rfl, _, hg, hnc, _⟩
  · exact .inl ⟨rfl, rfl⟩
  · exact .inr ⟨g, cap, rfl, hnc⟩

/-- What append makes of a row of its own. -/
theorem append_own (t ty e : TypeId) (i : TypeInfo) (z : Value) (bytes : Nat) (ht : Tryd.prog.underlying t = some (.slice e)) (hi : Tryd.prog.info? e = some i) (hz : i.zero = some z) (hsize : i.size = 1) (hby : i.bytes = bytes) (hzs : z.cells.size = 1) (hb24 : bytes ≤ 64)
    (w : World) (base : Nat) (v : Value) (n m c : Nat) (V U : Nat → Value) (s : Option Addr) (hown : Own w base e v n V) (hs : Sl w s m U) (h1 : ∀ j, (U j).oneCell' = true) (hn : n + m < 100000) (hnone : s = none → m = 0 ∧ c = 0) (hb : base ≤ w.heap.size) :
    ∃ v' W, (Builtin.append_ #[t, t] ty #[v, .slice s m c]).run Tryd.prog w = .ok v' W ∧ Own W base e v' (n + m) (cat V n U) ∧ w.grownBy W v.ownBlock ∧ (v'.ownBlock = v.ownBlock ∨ ∃ g, v'.ownBlock = some g ∧ w.heap.size ≤ g) := by
  unfold Own
  rw [row_cat]
  cases s with
  | none =>
    obtain ⟨rfl, rfl⟩ := hnone rfl
    refine ⟨v, w, run_append_owned_none w base t ty e i 1 ht hi v n _ hown, ?_, ⟨rfl, rfl, rfl, Nat.le_refl _, fun _ _ _ => rfl⟩, .inl rfl⟩
    rw [show row U 0 = [] from rfl, List.append_nil]
    exact hown
  | some a =>
    have hc := hs.cells
    have hu : ∀ u ∈ row U m, u.oneCell' = true := by
      intro u hu
      obtain ⟨j, _, rfl⟩ := row_mem hu
      exact h1 j
    have hmul : (n + m) * bytes ≤ 140737488355328 := by
      have := Nat.mul_le_mul (Nat.le_of_lt hn) hb24
      omega
    obtain ⟨v', W, hr, h2, h3, h4⟩ := run_append_own w base t ty e i z 1 bytes ht hi hz hsize hby hzs (by omega) v n _ hown a m c (row U m) (by rw [row_length, Nat.mul_one]) hc hu (by simp only [maxLen]; omega) hmul hb
    refine ⟨v', W, hr, h2, h3, ?_⟩
    rcases hown.2 with ⟨rfl, rfl⟩ | ⟨g, cap, cur, rfl, hbg, hg, hnc, hcm, hcs, htake⟩
    · have hx : row V 0 = [] := rfl
      obtain ⟨v2, W2, hr2, k2, _, _⟩ := run_append_own w w.heap.size t ty e i z 1 bytes ht hi hz hsize hby hzs (by omega) (.slice none 0 0) 0 [] (World.ownsRow_nil _ _ _ _) a m c (row U m) (by rw [row_length, Nat.mul_one]) hc hu (by simp only [maxLen]; omega) (by simpa using hmul) (Nat.le_refl _)
      rw [hr] at hr2
      cases hr2
      cases hv : v'.ownBlock with
      | none => exact .inl rfl
      | some g => exact .inr ⟨g, rfl, (World.ownsRow.lt k2 g hv).1⟩
    · by_cases hroom : n + m ≤ cap
      · obtain ⟨W2, hr2, _⟩ := run_append_fits w base t ty e i 1 ht hi hsize g n cap _ hown a m c (row U m) (by rw [row_length, Nat.mul_one]) hc hu hroom
        rw [hr] at hr2
        cases hr2
        exact .inl rfl
      · have hr2 := run_append_grow (P := Tryd.prog) w t ty e i z ht hi hz ⟨g, 0, none⟩ n cap (row V n) (by rw [hown.1, hsize]) (World.ownsRow.cells hown rfl) a m c (row U m) (by rw [row_length, hsize, Nat.mul_one]) hc (by omega) (by omega) (growslice_fits (by omega) (by rw [hby]; exact hmul))
        rw [hr] at hr2
        cases hr2
        exact .inr ⟨_, rfl, Nat.le_refl _⟩

theorem own_empty (w : World) (base B : Nat) (e : TypeId) (hB : B = w.heap.size) (hb : base ≤ w.heap.size) (V : Nat → Value) : Own (w.alloc (.cells #[] e)) base e (.slice (some ⟨B, 0, none⟩) 0 0) 0 V := by
  subst hB
  exact World.ownsRow_lit (e := e) (size := 1) (base := base) w #[] 0 hb (by simp [maxLen]) (by simp)
theorem own_nil (w : World) (base : Nat) (e : TypeId) (V : Nat → Value) : Own w base e (.slice none 0 0) 0 V := World.ownsRow_nil _ _ _ _

/-- An append whose end is known. -/
theorem wp_append_given {P : Program} {w : World} {o : Oper} {a : Act} {K : Act → World → Prop} {Q : Exit → Act → World → Prop} (s x : Operand) (t : TypeId)
    (ho : o.op = .call { callee := .builtin .append, args := #[s, x], argTypes := #[t, t] })
    (v u v' : Value) (W : World) (hs : a.eval s = v) (hx : a.eval x = u) (hr : (Builtin.append_ #[t, t] o.type #[v, u]).run P w = .ok v' W) (h : K (a.put o.dst v') W) : o.wp P a w K Q := by
  unfold Oper.wp execOp
  simp only [ho, resolve, invoke, builtin, Sem.run_bind, Sem.run_pure, Result.andThen_ok, List.map_toArray, List.map_cons, List.map_nil, hs, hx, hr]
  exact h
theorem wpList_append_given {P : Program} {w : World} {ops : Array Oper} {rest : List Oper} {o : Oper} {a : Act} {Q : Exit → Act → World → Prop} (hgd : o.guard = none) (s x : Operand) (t : TypeId)
    (ho : o.op = .call { callee := .builtin .append, args := #[s, x], argTypes := #[t, t] })
    (v u v' : Value) (W : World) (hs : a.eval s = v) (hx : a.eval x = u) (hr : (Builtin.append_ #[t, t] o.type #[v, u]).run P w = .ok v' W) (h : wpList P ops Q rest (a.put o.dst v') W) : wpList P ops Q (o :: rest) a w :=
  wpList_plain hgd fun _ hK => wp_append_given s x t ho v u v' W hs hx hr (hK _ _ h)

theorem alloc_new (w : World) (cs : Array Value) (t : TypeId) (i : Nat) (v : Value) (h : cs[i]? = some v) : (w.alloc (.cells cs t)).cell? ⟨w.heap.size, i, none⟩ = some v ∧ (w.alloc (.cells cs t)).frozen? ⟨w.heap.size, i, none⟩ = false := by
  exact ⟨(World.cell?_alloc_at _ _ _ _ rfl).trans h, World.frozen?_alloc_at _ _ _ _ rfl⟩

/-- A row is known by its cells. -/
theorem Own.of {w : World} {base g n c : Nat} {e : TypeId} {xs : List Value} {V : Nat → Value} (h : w.ownsRow base e 1 (.slice (some ⟨g, 0, none⟩) n c) n xs) (hc : ∀ i, i < n → w.cell? ⟨g, i, none⟩ = some (V i)) : Own w base e (.slice (some ⟨g, 0, none⟩) n c) n V := by
  have e : xs = row V n := by
    apply List.ext_getElem
    · rw [h.1, row_length, Nat.mul_one]
    · intro i h1 h2
      rw [row_length] at h2
      have := h.cellAt i (by omega)
      rw [hc i h2, List.getElem?_eq_getElem h1] at this
      rw [row_get]
      exact (Option.some.inj this).symm
  unfold Own; rw [← e]; exact h

theorem setCells_owns {w0 : World} {base g n c : Nat} {e : TypeId} : ∀ (vs : List Value) (o : Nat) (w : World) (xs : List Value), w.ownsRow base e 1 (.slice (some ⟨g, 0, none⟩) n c) n xs → Mv (fun k => k = g) w0 w →
    ∃ ys, (w.setCells g o vs).ownsRow base e 1 (.slice (some ⟨g, 0, none⟩) n c) n ys ∧ Mv (fun k => k = g) w0 (w.setCells g o vs)
  | [], _, w, xs, h, k => ⟨xs, h, k⟩
  | v :: r, o, w, xs, h, k => by
    have h1 := World.ownsRow.stored h o v
    exact setCells_owns r (o + 1) _ _ h1.1 (k.trans (Mv.setCell w ⟨g, o, none⟩ v) (fun _ _ h => h))

theorem setCells_own {w : World} {base g n c : Nat} {e : TypeId} {V : Nat → Value} (h : Own w base e (.slice (some ⟨g, 0, none⟩) n c) n V) (U : Nat → Value) (m : Nat) (hm : m ≤ n) :
    Own (w.setCells g 0 (row U m)) base e (.slice (some ⟨g, 0, none⟩) n c) n (fun i => if i < m then U i else V i) ∧ Mv (fun k => k = g) w (w.setCells g 0 (row U m)) := by
  obtain ⟨ys, h1, h2⟩ := setCells_owns (row U m) 0 w _ h (Mv.refl _ w)
  refine ⟨Own.of h1 ?_, h2⟩
  intro i hi
  by_cases him : i < m
  · have := World.cell?_setCells_in g (row U m) 0 w (fun j hj => by
      rw [row_length] at hj
      rw [Nat.zero_add, (h.at (show j < n by omega)).1]; rfl) i (by rw [row_length]; exact him)
    rw [Nat.zero_add, row_get] at this
    rw [this, if_pos him]
  · rw [World.cell?_setCells_out g (row U m) 0 w _ (fun _ _ => .inr (by rw [row_length]; show 0 + m ≤ i; omega)), (h.at hi).1, if_neg him]

/-- What copy makes of a row of its own. -/
theorem copied (t e : TypeId) (ht : Tryd.prog.underlying t = some (.slice e)) (hi : (Tryd.prog.info? e).map (·.size) = some 1)
    (w : World) (base g N cc : Nat) (V U : Nat → Value) (s : Option Addr) (m c : Nat) (hown : Own w base e (.slice (some ⟨g, 0, none⟩) N cc) N V) (hs : Sl w s m U) (hm : m ≤ N) (h1 : ∀ j, (U j).oneCell' = true) :
    ∃ W, (Builtin.copy_ #[t, t] 3 #[.slice (some ⟨g, 0, none⟩) N cc, .slice s m c]).run Tryd.prog w = .ok (goInt m) W ∧ Own W base e (.slice (some ⟨g, 0, none⟩) N cc) N (fun i => if i < m then U i else V i) ∧ Mv (fun k => k = g) w W := by
  by_cases h0 : m = 0
  · subst h0
    refine ⟨w, run_copy_none _ t t 3 e _ _ N cc 0 c ht hi (Nat.zero_min _), ?_, Mv.refl _ _⟩
    exact hown.congr (fun i _ => by rw [if_neg (by omega)])
  · obtain ⟨b, off, rfl, _, _⟩ := hs 0 (by omega)
    have hr := run_copy_cells (P := Tryd.prog) w t t 3 e g 0 N cc ⟨b, off, none⟩ m c (row U m) ht hi (by rw [row_length]; exact (Nat.min_eq_left hm).symm) hs.cells
      (by
        intro j hj
        rw [row_length] at hj
        rw [Nat.zero_add, (hown.at (show j < N by omega)).1]; rfl)
      (by
        intro j hj
        rw [row_length] at hj
        rw [Nat.zero_add]; exact (hown.at (show j < N by omega)).2)
      (by
        intro v hv
        obtain ⟨j, _, rfl⟩ := row_mem hv
        exact h1 j)
    rw [row_length] at hr
    have := setCells_own hown U m hm
    exact ⟨_, hr, this.1, this.2⟩

/-- What make makes. -/
theorem made (t e : TypeId) (i : TypeInfo) (z : Value) (bytes : Nat) (ht : Tryd.prog.underlying t = some (.slice e)) (hi : Tryd.prog.info? e = some i) (hz : i.zero = some z) (hsize : i.size = 1) (hby : i.bytes = bytes) (hzs : z.cells = #[z]) (hb24 : bytes ≤ 64)
    (n : Nat) (hn : n < 100000) (w : World) (base : Nat) (hb : base ≤ w.heap.size) :
    (Instr.makeSlice t (.int .i64 n) (.int .i64 n)).run Tryd.prog w = .ok (.slice (some ⟨w.heap.size, 0, none⟩) n n) (w.alloc (.cells (madeCells #[z] n) e)) ∧ Own (w.alloc (.cells (madeCells #[z] n) e)) base e (.slice (some ⟨w.heap.size, 0, none⟩) n n) n (fun _ => z) := by
  have hr := run_makeSlice (P := Tryd.prog) w t e i z ht hi hz .i64 .i64 n n (by omega) (by omega) (by show (n : Int).toNat * _ ≤ _; rw [hsize]; omega) (by
    rw [hby]
    have := Nat.mul_le_mul (Nat.le_of_lt hn) hb24
    rw [Nat.mul_comm] at this
    show ((bytes : Nat) : Int) * n ≤ _
    have h2 : ((bytes : Nat) : Int) * n = ((bytes * n : Nat) : Int) := by rw [Int.natCast_mul]
    rw [h2]; omega) (by omega)
  have e1 : (n : Int).toNat = n := by omega
  rw [e1, hsize, Nat.mul_one, hzs] at hr
  refine ⟨hr, ?_⟩
  have hl := World.ownsRow_lit (e := e) (size := 1) (base := base) w (madeCells #[z] n) n hb (by simp only [maxLen]; omega) (by rw [size_madeCells, Nat.mul_one])
  unfold Own
  rw [show row (fun _ => z) n = (madeCells #[z] n).toList from ?_]
  · exact hl
  · rw [toList_madeCells_one]
    apply List.ext_getElem
    · simp [row_length]
    · intro i h1 h2
      rw [row_get, List.getElem_replicate]

theorem clear_own (t e : TypeId) (z : Value) (ht : Tryd.prog.underlying t = some (.slice e)) (hv : ∀ w, (zeroValue e).run Tryd.prog w = .ok z w) (hz : z.cells = #[z]) (h1 : z.oneCell' = true)
    (w : World) (ty : TypeId) (base g n c : Nat) (V : Nat → Value) (hown : Own w base e (.slice (some ⟨g, 0, none⟩) n c) n V) :
    ∃ W, (Builtin.clear_ #[t] ty #[.slice (some ⟨g, 0, none⟩) n c]).run Tryd.prog w = .ok (.tuple #[]) W ∧ Own W base e (.slice (some ⟨g, 0, none⟩) n c) n (fun _ => z) ∧ Mv (fun k => k = g) w W := by
  by_cases h0 : n = 0
  · subst h0
    refine ⟨w, ?_, hown.congr (fun i hi => by omega), Mv.refl _ _⟩
    simp [Builtin.clear_, run_underlying ht]
  · have hr := Lib.run_clear_slice (P := Tryd.prog) w t e ty z ht hv hz h1 g 0 n c (by omega) (by
        intro j hj
        rw [Nat.zero_add, (hown.at hj).1]; rfl) (by
        intro j hj
        rw [Nat.zero_add]; exact (hown.at hj).2)
    have e1 : List.replicate n z = row (fun _ => z) n := by
      apply List.ext_getElem
      · simp [row_length]
      · intro i h1 h2
        rw [row_get, List.getElem_replicate]
    rw [e1] at hr
    have := setCells_own hown (fun _ => z) n (Nat.le_refl _)
    exact ⟨_, hr, this.1.congr (fun i hi => by rw [if_pos hi]), this.2⟩

end Go.Proofs.YtkclkhfcmjhogaaDoor

namespace Go.Proofs.YtkclkhfcmjhogaaDoor
open Go.RowKit
theorem info5 : Tryd.prog.info? 5 = some Tryd.t5 := by kernel_rfl
def By (f : Nat → Int) : Nat → Value := fun i => .int .u8 (f i)
theorem Sl.congr {w : World} {a : Option Addr} {n : Nat} {V U : Nat → Value} (h : Sl w a n V) (k : ∀ i, i < n → V i = U i) : Sl w a n U := by
  intro i hi
  obtain ⟨b, off, e, hb, hc⟩ := h i hi
  exact ⟨b, off, e, hb, by rw [hc, k i hi]⟩

/-- The text of the first n bytes. -/
def txt (f : Nat → Int) (n : Nat) : ByteArray := strOfNums ((List.range n).map f)

theorem conv_any (a : Option Addr) (n c : Nat) (f : Nat → Int) (w : World) (h : Sl w a n (By f)) : (convert 37 9 (.slice a n c)).run Tryd.prog w = .ok (.string (txt f n)) w := by
  by_cases h0 : n = 0
  · subst h0
    cases a with
    | none => exact run_convert_bytes_nil w 37 5 Tryd.underlying37 Tryd.underlying5 0 c 9 Tryd.underlying9
    | some p =>
      have hl : (loadCells p 0).run Tryd.prog w = .ok (([] : List Int).map (Value.int .u8)).toArray w := by simpa using run_loadCells_list (P := Tryd.prog) w p [] (by simp)
      rw [run_convert_bytes_string w 37 9 5 (some p) 0 c Tryd.underlying37 Tryd.underlying5 Tryd.underlying9, run_bytesToString w p 0 c [] hl]
      rfl
  · obtain ⟨b, off, rfl, _, _⟩ := h 0 (by omega)
    refine run_convert_bytes_arg w 37 5 Tryd.underlying37 Tryd.underlying5 b off n c _ (by simp) ?_ 9 Tryd.underlying9
    intro i hi
    obtain ⟨b', off', e, _, hc⟩ := h i hi
    cases e
    rw [hc]
    simp [By, List.getD, hi]

end Go.Proofs.YtkclkhfcmjhogaaDoor

namespace Go.Proofs.YtkclkhfcmjhogaaDoor
open Go.RowKit
set_option linter.unusedVariables false

abbrev Qt (w w' : World) : Prop := Mv (fun _ => False) w w'
theorem Qt.comp {a b c : World} (h : Qt a b) (k : Qt b c) : Qt a c := Mv.trans h k (fun _ _ h => h)
theorem Qt.refl (w : World) : Qt w w := Mv.refl _ w
theorem Qt.alloc {a b : World} (h : Qt a b) (o : Obj) : Qt a (b.alloc o) := h.comp (Mv.alloc _ b o)

/-- A set. -/
def sv (p : Nat → Bool) : Value := .agg #[.int .u64 (limb p 0), .int .u64 (limb p 1), .int .u64 (limb p 2), .int .u64 (limb p 3)]


theorem xor_run (p : Nat → Bool) (i : Nat) : bits .xor .u64 IntKind.u64.max (limb p i : Int) = ((limb (no p) i : Nat) : Int) := by
  have h := bits_xor_u64_nat 18446744073709551615 (limb p i) (by decide) (limb_lt p i)
  rw [show IntKind.u64.max = ((18446744073709551615 : Nat) : Int) from rfl, h, Nat.xor_comm, limb_xor]
  rfl

set_option maxHeartbeats 1000000 in
theorem not_any (p : Nat → Bool) (w : World) : Calls Tryd.prog 74 #[sv p] w fun e w' => e = .returned (sv (no p)) ∧ Hid (Qt w w') := by
  unfold sv
  have r0 := xor_run p 0
  have r1 := xor_run p 1
  have r2 := xor_run p 2
  have r3 := xor_run p 3
  generalize limb p 0 = x0 at *
  generalize limb p 1 = x1 at *
  generalize limb p 2 = x2 at *
  generalize limb p 3 = x3 at *
  generalize limb (no p) 0 = y0 at *
  generalize limb (no p) 1 = y1 at *
  generalize limb (no p) 2 = y2 at *
  generalize limb (no p) 3 = y3 at *
  go_enter Tryd.func74, Tryd.ntmps74
  go_wp2
  refine wp_loop_rounds 5 ?_
  rw [rounds_succ]; go_wp2
  rw [rounds_succ]; go_wp2
  rw [rounds_succ]; go_wp2
  rw [rounds_succ]; go_wp2
  rw [rounds_succ]; go_wp2
  refine bodyPost_ret (results_cell_row (p := 2) (ty := 25) rfl _ _ (w.heap.size + 1) 25 _ (0, 0) _ rfl (heap_alloc2_new _ _ _) Tryd.underlying25 rfl (by kernel_rfl)) rfl ?_
  exact ⟨rfl, ((Qt.refl w).alloc _).alloc _⟩

theorem heap3 (w : World) (A B C : Obj) : (((w.alloc A).alloc B).alloc C).heap[w.heap.size + 1 + 1]? = some C := by
  have h := heap_alloc_new ((w.alloc A).alloc B) C
  simpa using h
theorem Qt.drew {a b : World} (h : Qt a b) : Qt a b.drew := ⟨h.os, h.tape, h.output, h.size, h.block⟩

set_option maxHeartbeats 1000000 in
theorem and_any (p q : Nat → Bool) (w : World) : Calls Tryd.prog 91 #[sv p, sv q] w fun e w' => e = .returned (sv (fun b => p b && q b)) ∧ Hid (Qt w w') := by
  unfold sv
  have r0 := bits_and_u64_nat _ _ (limb_lt p 0) (limb_lt q 0)
  have r1 := bits_and_u64_nat _ _ (limb_lt p 1) (limb_lt q 1)
  have r2 := bits_and_u64_nat _ _ (limb_lt p 2) (limb_lt q 2)
  have r3 := bits_and_u64_nat _ _ (limb_lt p 3) (limb_lt q 3)
  rw [limb_and] at r0 r1 r2 r3
  generalize limb p 0 = x0 at *
  generalize limb p 1 = x1 at *
  generalize limb p 2 = x2 at *
  generalize limb p 3 = x3 at *
  generalize limb q 0 = z0 at *
  generalize limb q 1 = z1 at *
  generalize limb q 2 = z2 at *
  generalize limb q 3 = z3 at *
  generalize limb (fun b => p b && q b) 0 = y0 at *
  generalize limb (fun b => p b && q b) 1 = y1 at *
  generalize limb (fun b => p b && q b) 2 = y2 at *
  generalize limb (fun b => p b && q b) 3 = y3 at *
  go_enter Tryd.func91, Tryd.ntmps91
  go_wp2
  refine wp_loop_rounds 5 ?_
  rw [rounds_succ]; go_wp2
  go_region
  go_wp2
  rw [rounds_succ]; go_wp2
  go_region
  go_wp2
  rw [rounds_succ]; go_wp2
  go_region
  go_wp2
  rw [rounds_succ]; go_wp2
  go_region
  go_wp2
  rw [rounds_succ]; go_wp2
  refine bodyPost_ret (results_cell_row (p := 4) (ty := 25) rfl _ _ (w.heap.size + 1 + 1) 25 _ (0, 0) _ rfl (heap3 _ _ _ _) Tryd.underlying25 rfl (by kernel_rfl)) rfl ?_
  exact ⟨rfl, (((((((Qt.refl w).alloc _).alloc _).alloc _).drew).drew).drew).drew⟩

set_option maxHeartbeats 1000000 in
theorem or_any (p q : Nat → Bool) (w : World) : Calls Tryd.prog 119 #[sv p, sv q] w fun e w' => e = .returned (sv (fun b => p b || q b)) ∧ Hid (Qt w w') := by
  unfold sv
  have r0 := bits_or_u64_nat _ _ (limb_lt p 0) (limb_lt q 0)
  have r1 := bits_or_u64_nat _ _ (limb_lt p 1) (limb_lt q 1)
  have r2 := bits_or_u64_nat _ _ (limb_lt p 2) (limb_lt q 2)
  have r3 := bits_or_u64_nat _ _ (limb_lt p 3) (limb_lt q 3)
  rw [limb_or] at r0 r1 r2 r3
  generalize limb p 0 = x0 at *
  generalize limb p 1 = x1 at *
  generalize limb p 2 = x2 at *
  generalize limb p 3 = x3 at *
  generalize limb q 0 = z0 at *
  generalize limb q 1 = z1 at *
  generalize limb q 2 = z2 at *
  generalize limb q 3 = z3 at *
  generalize limb (fun b => p b || q b) 0 = y0 at *
  generalize limb (fun b => p b || q b) 1 = y1 at *
  generalize limb (fun b => p b || q b) 2 = y2 at *
  generalize limb (fun b => p b || q b) 3 = y3 at *
  go_enter Tryd.func119, Tryd.ntmps119
  go_wp2
  refine wp_loop_rounds 5 ?_
  rw [rounds_succ]; go_wp2
  go_region
  go_wp2
  rw [rounds_succ]; go_wp2
  go_region
  go_wp2
  rw [rounds_succ]; go_wp2
  go_region
  go_wp2
  rw [rounds_succ]; go_wp2
  go_region
  go_wp2
  rw [rounds_succ]; go_wp2
  refine bodyPost_ret (results_cell_row (p := 4) (ty := 25) rfl _ _ (w.heap.size + 1 + 1) 25 _ (0, 0) _ rfl (heap3 _ _ _ _) Tryd.underlying25 rfl (by kernel_rfl)) rfl ?_
  exact ⟨rfl, (((((((Qt.refl w).alloc _).alloc _).alloc _).drew).drew).drew).drew⟩


end Go.Proofs.YtkclkhfcmjhogaaDoor

namespace Go.Proofs.YtkclkhfcmjhogaaDoor
open Go.RowKit
set_option linter.unusedVariables false

/-- These cells lie there, from a on. -/
def Ls (w : World) (a : Option Addr) (xs : List Value) : Prop := ∀ j u, xs[j]? = some u → ∃ b off, a = some ⟨b, off, none⟩ ∧ b < w.heap.size ∧ w.cell? ⟨b, off + j, none⟩ = some u
theorem Ls.mv {S : Nat → Prop} {w w' : World} {a : Option Addr} {xs : List Value} (h : Ls w a xs) (k : Mv S w w') (hs : ∀ p, a = some p → ¬ S p.block) : Ls w' a xs := by
  intro i u hi
  obtain ⟨b, off, e, hb, hc⟩ := h i u hi
  exact ⟨b, off, e, Nat.lt_of_lt_of_le hb k.size, k.cell (p := ⟨b, off + i, none⟩) hc (hs ⟨b, off, none⟩ e)⟩
theorem Ls.qt {w w' : World} {a : Option Addr} {xs : List Value} (h : Ls w a xs) (k : Mv (fun _ => False) w w') : Ls w' a xs := h.mv k (fun _ _ h => h)
theorem Ls.below {w w' : World} {a : Option Addr} {xs : List Value} (h : Ls w a xs) (k : Below w.heap.size w w') : Ls w' a xs := by
  intro i u hi
  obtain ⟨b, off, e, hb, hc⟩ := h i u hi
  exact ⟨b, off, e, Nat.lt_of_lt_of_le hb k.size, (k.cell hb).trans hc⟩
theorem Ls.nil (w : World) (a : Option Addr) : Ls w a [] := by intro j u h; simp at h
theorem Ls.cells {w : World} {a : Addr} {xs : List Value} (h : Ls w (some a) xs) : ∀ j u, xs[j]? = some u → w.cell? (a.add j) = some u := by
  intro j u hj
  obtain ⟨b, off, e, _, hc⟩ := h j u hj
  cases e
  rw [addr_add]; exact hc
theorem Ls.take {w : World} {a : Option Addr} {xs : List Value} (h : Ls w a xs) (n : Nat) : Ls w a (xs.take n) := by
  intro j u hj
  rw [List.getElem?_take] at hj
  split at hj
  · exact h j u hj
  · cases hj
theorem Ls.drop {w : World} {a : Option Addr} {xs : List Value} (h : Ls w a xs) (n : Nat) : Ls w (a.map (·.add n)) (xs.drop n) := by
  intro j u hj
  rw [List.getElem?_drop] at hj
  obtain ⟨b, off, e, hb, hc⟩ := h _ u hj
  refine ⟨b, off + n, ?_, hb, by rw [Nat.add_assoc]; exact hc⟩
  rw [e, Option.map_some, addr_add]
/-- What was just laid. -/
theorem Ls.new (w : World) (xs : Array Value) (t : TypeId) : Ls (w.alloc (.cells xs t)) (some ⟨w.heap.size, 0, none⟩) xs.toList := by
  intro j u hj
  refine ⟨_, _, rfl, by simp, ?_⟩
  rw [Nat.zero_add]
  exact (alloc_new w xs t j u (by rw [← Array.getElem?_toList]; exact hj)).1

/-- A row of structs of k cells. -/
theorem ow_ls {w : World} {base n k : Nat} {e : TypeId} {v : Value} {xs : List Value} (h : w.ownsRow base e k v n xs) : ∃ a cap, v = .slice a n cap ∧ Ls w a xs ∧ n ≤ cap ∧ (a = none → n = 0 ∧ cap = 0) ∧ ∀ p, a = some p → v.ownBlock = some p.block := by
  have h' := h
  rcases h.2 with ⟨rfl, rfl⟩ | ⟨g, cap, cur, rfl, _, hg, hnc, _⟩
  · have : xs = [] := List.length_eq_zero_iff.1 (by rw [h'.1, Nat.zero_mul])
    subst this
    exact ⟨none, 0, rfl, Ls.nil _ _, by omega, fun _ => ⟨rfl, rfl⟩, fun p e => by cases e⟩
  · refine ⟨_, cap, rfl, fun i u hi => ⟨g, 0, rfl, ?_, ?_⟩, hnc, fun h => (by cases h), fun p e => (by cases e; rfl)⟩
    · exact (Array.getElem?_eq_some_iff.1 hg).1
    · have hlt : i < xs.length := (List.getElem?_eq_some_iff.1 hi).1
      rw [Nat.zero_add, h'.cellAt i (by rw [← h'.1]; exact hlt), hi]
theorem ow_blk {w : World} {base n k : Nat} {e : TypeId} {v : Value} {xs : List Value} (h : w.ownsRow base e k v n xs) : ∀ j, v.ownBlock = some j → base ≤ j ∧ j < w.heap.size := World.ownsRow.lt h
theorem ow_nil (w : World) (base : Nat) (e : TypeId) (k : Nat) : w.ownsRow base e k (.slice none 0 0) 0 [] := World.ownsRow_nil _ _ _ _
theorem ow_new (w : World) (base k : Nat) (e : TypeId) (xs : Array Value) (n : Nat) (hb : base ≤ w.heap.size) (hn : n < 100000) (hl : xs.size = n * k) : (w.alloc (.cells xs e)).ownsRow base e k (.slice (some ⟨w.heap.size, 0, none⟩) n n) n xs.toList :=
  World.ownsRow_lit (e := e) (size := k) (base := base) w xs n hb (by simp only [maxLen]; omega) hl
theorem ow_mono {w : World} {base base' n k : Nat} {e : TypeId} {v : Value} {xs : List Value} (h : w.ownsRow base e k v n xs) (hb : ∀ j, v.ownBlock = some j → base' ≤ j) : w.ownsRow base' e k v n xs := by
  refine ⟨h.1, ?_⟩
  rcases h.2 with hn | ⟨g, cap, cur, rfl, _, rest⟩
  · exact .inl hn
  · exact .inr ⟨g, cap, cur, rfl, hb g rfl, rest⟩

/-- What append makes of a row of its own. -/
theorem append_ow (t ty e : TypeId) (i : TypeInfo) (z : Value) (k bytes : Nat) (ht : Tryd.prog.underlying t = some (.slice e)) (hi : Tryd.prog.info? e = some i) (hz : i.zero = some z) (hsize : i.size = k) (hby : i.bytes = bytes) (hzs : z.cells.size = k) (hk : 0 < k) (hb24 : bytes ≤ 64)
    (w : World) (base : Nat) (v : Value) (n m c : Nat) (xs ys : List Value) (s : Option Addr) (hown : w.ownsRow base e k v n xs) (hs : Ls w s ys) (hm : ys.length = m * k) (h1 : ∀ u ∈ ys, u.oneCell' = true) (hn : n + m < 100000) (hnone : s = none → m = 0 ∧ c = 0) (hb : base ≤ w.heap.size) :
    ∃ v' W, (Builtin.append_ #[t, t] ty #[v, .slice s m c]).run Tryd.prog w = .ok v' W ∧ W.ownsRow base e k v' (n + m) (xs ++ ys) ∧ w.grownBy W v.ownBlock ∧ (v'.ownBlock = v.ownBlock ∨ ∃ g, v'.ownBlock = some g ∧ w.heap.size ≤ g) := by
  cases s with
  | none =>
    obtain ⟨rfl, rfl⟩ := hnone rfl
    have : ys = [] := List.length_eq_zero_iff.1 (by rw [hm, Nat.zero_mul])
    subst this
    refine ⟨v, w, run_append_owned_none w base t ty e i k ht hi v n _ hown, ?_, ⟨rfl, rfl, rfl, Nat.le_refl _, fun _ _ _ => rfl⟩, .inl rfl⟩
    rw [List.append_nil]
    exact hown
  | some a =>
    have hc := hs.cells
    have hmul : (n + m) * bytes ≤ 140737488355328 := by
      have := Nat.mul_le_mul (Nat.le_of_lt hn) hb24
      omega
    obtain ⟨v', W, hr, h2, h3, h4⟩ := run_append_own w base t ty e i z k bytes ht hi hz hsize hby hzs hk v n _ hown a m c ys hm hc h1 (by simp only [maxLen]; omega) hmul hb
    refine ⟨v', W, hr, h2, h3, ?_⟩
    rcases hown.2 with ⟨rfl, rfl⟩ | ⟨g, cap, cur, rfl, hbg, hg, hnc, hcm, hcs, htake⟩
    · obtain ⟨v2, W2, hr2, k2, _, _⟩ := run_append_own w w.heap.size t ty e i z k bytes ht hi hz hsize hby hzs hk (.slice none 0 0) 0 [] (World.ownsRow_nil _ _ _ _) a m c ys hm hc h1 (by simp only [maxLen]; omega) (by simpa using hmul) (Nat.le_refl _)
      rw [hr] at hr2
      cases hr2
      cases hv : v'.ownBlock with
      | none => exact .inl rfl
      | some g => exact .inr ⟨g, rfl, (World.ownsRow.lt k2 g hv).1⟩
    · by_cases hroom : n + m ≤ cap
      · obtain ⟨W2, hr2, _⟩ := run_append_fits w base t ty e i k ht hi hsize g n cap _ hown a m c ys hm hc h1 hroom
        rw [hr] at hr2
        cases hr2
        exact .inl rfl
      · have hr2 := run_append_grow (P := Tryd.prog) w t ty e i z ht hi hz ⟨g, 0, none⟩ n cap xs (by rw [hown.1, hsize]) (World.ownsRow.cells hown rfl) a m c ys (by rw [hm, hsize]) hc (by omega) (by omega) (growslice_fits (by omega) (by rw [hby]; exact hmul))
        rw [hr] at hr2
        cases hr2
        exact .inr ⟨_, rfl, Nat.le_refl _⟩

end Go.Proofs.YtkclkhfcmjhogaaDoor

namespace Go.Proofs.YtkclkhfcmjhogaaDoor
open Go.RowKit
set_option linter.unusedVariables false

set_option maxHeartbeats 1000000 in
theorem has_at (x : Nat → Nat) (b r q : Nat) (w : World) (hb : b < 256) (hr : bits .and .u8 (b : Int) 63 = (r : Int)) (hr2 : r < 64) (hq4 : q < 4) (hq : (b : Int) / 64 = (q : Int)) :
    Calls Tryd.prog 83 #[.agg #[.int .u64 (x 0), .int .u64 (x 1), .int .u64 (x 2), .int .u64 (x 3)], .int .u8 b] w fun e w' => e = .returned (.bool (bits .and .u64 ((x q : Int) / 2 ^ r) 1 == 1)) ∧ Hid (Qt w w') := by
  rcases (show q = 0 ∨ q = 1 ∨ q = 2 ∨ q = 3 from by omega) with rfl | rfl | rfl | rfl
  all_goals
    go_enter Tryd.func83, Tryd.ntmps83
    go_wp2
    go_ret
    exact ⟨rfl, (Qt.refl w).alloc _⟩

theorem and63 (b : Nat) (hb : b < 256) : bits .and .u8 (b : Int) 63 = ((b % 64 : Nat) : Int) := by
  have h : ∀ b : Fin 256, bits .and .u8 ((b.val : Nat) : Int) 63 = ((b.val % 64 : Nat) : Int) := by decide +kernel
  exact h ⟨b, hb⟩

theorem has_any (p : Nat → Bool) (b : Nat) (hb : b < 256) (w : World) : Calls Tryd.prog 83 #[sv p, .int .u8 b] w fun e w' => e = .returned (.bool (p b)) ∧ Hid (Qt w w') := by
  refine (has_at (limb p) b (b % 64) (b / 64) w hb (and63 b hb) (by omega) (by omega) (by omega)).mono ?_
  rintro e w' ⟨rfl, h⟩
  refine ⟨?_, h⟩
  have e1 : ((limb p (b / 64) : Nat) : Int) / 2 ^ (b % 64) = ((limb p (b / 64) >>> (b % 64) : Nat) : Int) := by
    rw [Nat.shiftRight_eq_div_pow]; push_cast; rfl
  have hlt : limb p (b / 64) >>> (b % 64) < 18446744073709551616 := by
    rw [Nat.shiftRight_eq_div_pow]; exact Nat.lt_of_le_of_lt (Nat.div_le_self _ _) (limb_lt p _)
  have e2 := bits_and_u64_nat (limb p (b / 64) >>> (b % 64)) 1 hlt (by decide)
  rw [e1, show (1 : Int) = ((1 : Nat) : Int) from rfl, e2, Nat.and_one_is_mod, limb_has]
  cases p b <;> rfl

/-- All from n on. -/
def frm (n : Nat) : Nat → Bool := fun b => decide (n ≤ b)
theorem shl_ones (k : Nat) : IntKind.u64.wrap (18446744073709551615 * 2 ^ min k 64) = ((18446744073709551615 <<< k % 18446744073709551616 : Nat) : Int) := by
  rw [IntKind.wrap_u64, Nat.shiftLeft_eq]
  by_cases h : k ≤ 64
  · rw [Nat.min_eq_left h, Int.natCast_emod, Int.natCast_mul, Int.natCast_pow]
    rfl
  · rw [Nat.min_eq_right (by omega)]
    obtain ⟨d, rfl⟩ : ∃ d, k = 64 + d := ⟨k - 64, by omega⟩
    rw [Nat.pow_add, show (2 : Nat) ^ 64 = 18446744073709551616 from rfl, Nat.mul_comm 18446744073709551616, ← Nat.mul_assoc, Nat.mul_mod_left]
    rfl
theorem limb_frm (n i : Nat) : (limb (frm n) i : Int) = IntKind.u64.wrap (18446744073709551615 * 2 ^ min (n - 64 * i) 64) := by
  unfold frm
  rw [shl_ones, limb_since]

theorem ones_le {k : Nat} (h : k ≤ 64) : IntKind.u64.wrap (18446744073709551615 * 2 ^ min k 64) = IntKind.u64.wrap (18446744073709551615 * 2 ^ k) := by rw [Nat.min_eq_left h]
theorem ones_0 {k : Nat} (h : k = 0) : IntKind.u64.wrap (18446744073709551615 * 2 ^ min k 64) = 18446744073709551615 := by subst h; rfl
theorem ones_64 {k : Nat} (h : 64 ≤ k) : IntKind.u64.wrap (18446744073709551615 * 2 ^ min k 64) = 0 := by rw [Nat.min_eq_right h]; rfl
theorem agg4 {a b c d a' b' c' d' : Int} (h0 : a = a') (h1 : b = b') (h2 : c = c') (h3 : d = d') : Ending.returned (.agg #[.int .u64 a, .int .u64 b, .int .u64 c, .int .u64 d]) = .returned (.agg #[.int .u64 a', .int .u64 b', .int .u64 c', .int .u64 d']) := by
  subst h0 h1 h2 h3; rfl

theorem heap2a (w : World) (A B : Obj) : ((w.alloc A).alloc B).heap[w.heap.size]? = some A := by
  rw [heap_alloc_old (w.alloc A) B (h := by simp)]
  exact heap_alloc_new _ _
set_option maxHeartbeats 1000000 in
theorem since_0 (n : Nat) (w : World) (hb : 0 ≤ n) (hb2 : n < 64) :
    Calls Tryd.prog 92 #[.int .i64 n] w fun e w' => e = .returned (sv (frm n)) ∧ Hid (Qt w w') := by
  unfold sv
  rw [limb_frm, limb_frm, limb_frm, limb_frm, show n - 64 * 0 = n from by omega]
  go_enter Tryd.func92, Tryd.ntmps92
  go_wp2
  refine wp_loop_rounds 5 ?_
  rw [rounds_succ]; go_wp2
  rw [rounds_succ]; go_wp2
  rw [rounds_succ]; go_wp2
  rw [rounds_succ]; go_wp2
  rw [rounds_succ]; go_wp2
  refine bodyPost_ret (results_cell_row (p := 2) (ty := 25) rfl _ _ w.heap.size 25 _ (0, 0) _ rfl (heap2a _ _ _) Tryd.underlying25 rfl (by kernel_rfl)) rfl ?_
  refine ⟨?_, ((Qt.refl w).alloc _).alloc _⟩
  refine agg4 ?_ ?_ ?_ ?_
  · rw [ones_le (by omega)]
  · rw [ones_0 (by omega)]
  · rw [ones_0 (by omega)]
  · rw [ones_0 (by omega)]
set_option maxHeartbeats 1000000 in
theorem since_1 (n : Nat) (w : World) (hb : 64 ≤ n) (hb2 : n < 128) :
    Calls Tryd.prog 92 #[.int .i64 n] w fun e w' => e = .returned (sv (frm n)) ∧ Hid (Qt w w') := by
  unfold sv
  rw [limb_frm, limb_frm, limb_frm, limb_frm, show n - 64 * 0 = n from by omega]
  obtain ⟨m1, e1⟩ : ∃ m : Nat, (n : Int) - 64 = m := ⟨n - 64, by omega⟩
  rw [show n - 64 * 1 = m1 from by omega]
  go_enter Tryd.func92, Tryd.ntmps92
  go_wp2
  refine wp_loop_rounds 5 ?_
  rw [rounds_succ]; go_wp2
  rw [rounds_succ]; go_wp2
  rw [rounds_succ]; go_wp2
  rw [rounds_succ]; go_wp2
  rw [rounds_succ]; go_wp2
  refine bodyPost_ret (results_cell_row (p := 2) (ty := 25) rfl _ _ w.heap.size 25 _ (0, 0) _ rfl (heap2a _ _ _) Tryd.underlying25 rfl (by kernel_rfl)) rfl ?_
  refine ⟨?_, ((Qt.refl w).alloc _).alloc _⟩
  refine agg4 ?_ ?_ ?_ ?_
  · rw [ones_64 (by omega), IntKind.wrap_u64]; decide
  · rw [ones_le (by omega)]
  · rw [ones_0 (by omega)]
  · rw [ones_0 (by omega)]
set_option maxHeartbeats 1000000 in
theorem since_2 (n : Nat) (w : World) (hb : 128 ≤ n) (hb2 : n < 192) :
    Calls Tryd.prog 92 #[.int .i64 n] w fun e w' => e = .returned (sv (frm n)) ∧ Hid (Qt w w') := by
  unfold sv
  rw [limb_frm, limb_frm, limb_frm, limb_frm, show n - 64 * 0 = n from by omega]
  obtain ⟨m1, e1⟩ : ∃ m : Nat, (n : Int) - 64 = m := ⟨n - 64, by omega⟩
  rw [show n - 64 * 1 = m1 from by omega]
  obtain ⟨m2, e2⟩ : ∃ m : Nat, (n : Int) - 128 = m := ⟨n - 128, by omega⟩
  rw [show n - 64 * 2 = m2 from by omega]
  go_enter Tryd.func92, Tryd.ntmps92
  go_wp2
  refine wp_loop_rounds 5 ?_
  rw [rounds_succ]; go_wp2
  rw [rounds_succ]; go_wp2
  rw [rounds_succ]; go_wp2
  rw [rounds_succ]; go_wp2
  rw [rounds_succ]; go_wp2
  refine bodyPost_ret (results_cell_row (p := 2) (ty := 25) rfl _ _ w.heap.size 25 _ (0, 0) _ rfl (heap2a _ _ _) Tryd.underlying25 rfl (by kernel_rfl)) rfl ?_
  refine ⟨?_, ((Qt.refl w).alloc _).alloc _⟩
  refine agg4 ?_ ?_ ?_ ?_
  · rfl
  · rfl
  · rw [ones_le (by omega)]
  · rw [ones_0 (by omega)]
set_option maxHeartbeats 1000000 in
theorem since_3 (n : Nat) (w : World) (hb : 192 ≤ n) (hb2 : n < 257) :
    Calls Tryd.prog 92 #[.int .i64 n] w fun e w' => e = .returned (sv (frm n)) ∧ Hid (Qt w w') := by
  unfold sv
  rw [limb_frm, limb_frm, limb_frm, limb_frm, show n - 64 * 0 = n from by omega]
  obtain ⟨m1, e1⟩ : ∃ m : Nat, (n : Int) - 64 = m := ⟨n - 64, by omega⟩
  rw [show n - 64 * 1 = m1 from by omega]
  obtain ⟨m2, e2⟩ : ∃ m : Nat, (n : Int) - 128 = m := ⟨n - 128, by omega⟩
  rw [show n - 64 * 2 = m2 from by omega]
  obtain ⟨m3, e3⟩ : ∃ m : Nat, (n : Int) - 192 = m := ⟨n - 192, by omega⟩
  rw [show n - 64 * 3 = m3 from by omega]
  go_enter Tryd.func92, Tryd.ntmps92
  go_wp2
  refine wp_loop_rounds 5 ?_
  rw [rounds_succ]; go_wp2
  rw [rounds_succ]; go_wp2
  rw [rounds_succ]; go_wp2
  rw [rounds_succ]; go_wp2
  rw [rounds_succ]; go_wp2
  refine bodyPost_ret (results_cell_row (p := 2) (ty := 25) rfl _ _ w.heap.size 25 _ (0, 0) _ rfl (heap2a _ _ _) Tryd.underlying25 rfl (by kernel_rfl)) rfl ?_
  refine ⟨?_, ((Qt.refl w).alloc _).alloc _⟩
  refine agg4 ?_ ?_ ?_ ?_
  · rfl
  · rfl
  · rfl
  · rw [ones_le (by omega)]
theorem since_any (n : Nat) (w : World) (hb : n ≤ 256) : Calls Tryd.prog 92 #[.int .i64 n] w fun e w' => e = .returned (sv (frm n)) ∧ Hid (Qt w w') := by
  by_cases h1 : n < 64
  · exact since_0 n w (by omega) h1
  by_cases h2 : n < 128
  · exact since_1 n w (by omega) h2
  by_cases h3 : n < 192
  · exact since_2 n w (by omega) h3
  · exact since_3 n w (by omega) (by omega)

/-- Bytes in a row. -/
def Bn (f : Nat → Nat) : Nat → Value := fun i => .int .u8 (f i : Int)
/-- The bytes of a row. -/
def ofl (f : Nat → Nat) (n : Nat) : Nat → Bool := fun b => (List.range n).any (fun i => f i == b)
theorem ofl_succ (f : Nat → Nat) (n : Nat) : ofl f (n + 1) = fun b => ofl f n b || f n == b := by
  funext b
  unfold ofl
  rw [List.range_succ, List.any_append]
  simp

/-- The set while it is made. -/
structure Made (w wr : World) (g : Nat) (p : Nat → Bool) : Prop where
  qt : Qt w wr
  new : w.heap.size ≤ g
  res : wr.heap[w.heap.size]? = some (.cells #[.int .u64 0, .int .u64 0, .int .u64 0, .int .u64 0] 25 (0, 0))
  at_ : wr.heap[g]? = some (.cells #[.int .u64 (limb p 0), .int .u64 (limb p 1), .int .u64 (limb p 2), .int .u64 (limb p 3)] 25 (0, 0))

theorem heap_set {W : World} {g o : Nat} {v : Value} {cs : Array Value} {t : TypeId} {fr : Nat × Nat} (h : W.heap[g]? = some (.cells cs t fr)) : (W.setCell ⟨g, o, none⟩ v).heap[g]? = some (.cells (cs.setIfInBounds o v) t fr) := by
  obtain ⟨hlt, hk⟩ := Array.getElem?_eq_some_iff.1 h
  show (W.heap.modify g _)[g]? = _
  rw [Array.getElem?_eq_getElem (by rw [Array.size_modify]; exact hlt), Array.getElem_modify_self, hk]
  rfl
theorem or_one (p : Nat → Bool) (b : Nat) (q : Nat) (hq : q = b / 64) : bits .or .u64 (limb p q : Int) (IntKind.u64.wrap (2 ^ (b % 64))) = (limb (fun c => p c || b == c) q : Int) := by
  have h1 : (2 : Nat) ^ (b % 64) < 18446744073709551616 := show 2 ^ (b % 64) < 2 ^ 64 from Nat.pow_lt_pow_right (by decide) (by omega)
  have e : IntKind.u64.wrap (2 ^ (b % 64)) = ((2 ^ (b % 64) : Nat) : Int) := by
    rw [IntKind.wrap_u64, show ((2 : Int) ^ (b % 64)) = ((2 ^ (b % 64) : Nat) : Int) from by rw [Int.natCast_pow]; rfl]
    generalize (2 : Nat) ^ (b % 64) = X at h1
    omega
  rw [e, bits_or_u64_nat _ _ (limb_lt p q) h1, ← limb_one q (b % 64) (by omega), limb_or]
  congr 1
  refine limb_congr (fun k hk => ?_)
  congr 1
  rw [Bool.eq_iff_iff]; simp; omega
theorem limb_other (p : Nat → Bool) (b q : Nat) (hq : q ≠ b / 64) : limb (fun c => p c || b == c) q = limb p q := by
  refine limb_congr (fun k hk => ?_)
  have : (b == 64 * q + k) = false := by simp; omega
  rw [this, Bool.or_false]
theorem Made.put {w wr : World} {g : Nat} {p : Nat → Bool} (M : Made w wr g p) (hg : w.heap.size < g) (b q : Nat) (hb : b < 256) (hq : q = b / 64) :
    Made w (wr.setCell ⟨g, q, none⟩ (.int .u64 (bits .or .u64 (limb p q : Int) (IntKind.u64.wrap (2 ^ (b % 64)))))) g (fun c => p c || b == c) := by
  rw [or_one p b q hq]
  have hlt : g < wr.heap.size := (Array.getElem?_eq_some_iff.1 M.at_).1
  refine ⟨M.qt.trans (Mv.setCell wr _ _) (fun j hj e => by simp at e; omega), M.new, ?_, ?_⟩
  · rw [(Mv.setCell wr ⟨g, q, none⟩ _).block _ (by omega) (by simp; omega)]; exact M.res
  · rw [heap_set M.at_]
    rcases (show q = 0 ∨ q = 1 ∨ q = 2 ∨ q = 3 from by omega) with rfl | rfl | rfl | rfl
    · rw [limb_other p b 1 (by omega), limb_other p b 2 (by omega), limb_other p b 3 (by omega)]; rfl
    · rw [limb_other p b 0 (by omega), limb_other p b 2 (by omega), limb_other p b 3 (by omega)]; rfl
    · rw [limb_other p b 0 (by omega), limb_other p b 1 (by omega), limb_other p b 3 (by omega)]; rfl
    · rw [limb_other p b 0 (by omega), limb_other p b 1 (by omega), limb_other p b 2 (by omega)]; rfl
theorem Made.cells {w wr : World} {g : Nat} {p : Nat → Bool} (M : Made w wr g p) (q : Nat) (hq : q < 4) : wr.cell? ⟨g, q, none⟩ = some (.int .u64 (limb p q)) ∧ wr.frozen? ⟨g, q, none⟩ = false := by
  have h := M.at_
  rcases (show q = 0 ∨ q = 1 ∨ q = 2 ∨ q = 3 from by omega) with rfl | rfl | rfl | rfl <;> exact ⟨by simp [World.cell?, h], by simp [World.frozen?, h]⟩

theorem Made.cellr {w wr : World} {g : Nat} {p : Nat → Bool} (M : Made w wr g p) (q : Nat) (hq : q < 4) : wr.cell? ⟨w.heap.size, q, none⟩ = some (.int .u64 0) ∧ wr.frozen? ⟨w.heap.size, q, none⟩ = false := by
  have h := M.res
  rcases (show q = 0 ∨ q = 1 ∨ q = 2 ∨ q = 3 from by omega) with rfl | rfl | rfl | rfl <;> exact ⟨by simp [World.cell?, h], by simp [World.frozen?, h]⟩
theorem Qt.set {w wr : World} (h : Qt w wr) (g o : Nat) (v : Value) (hg : w.heap.size ≤ g) : Qt w (wr.setCell ⟨g, o, none⟩ v) :=
  Mv.trans h (Mv.setCell wr _ _) (fun j hj e => by simp at e; omega)
theorem Made.four {w wr : World} {g : Nat} {p : Nat → Bool} (M : Made w wr g p) (v0 v1 v2 v3 : Value) : Qt w ((((wr.setCell ⟨w.heap.size, 0, none⟩ v0).setCell ⟨w.heap.size, 1, none⟩ v1).setCell ⟨w.heap.size, 2, none⟩ v2).setCell ⟨w.heap.size, 3, none⟩ v3) :=
  (((M.qt.set _ _ _ (Nat.le_refl _)).set _ _ _ (Nat.le_refl _)).set _ _ _ (Nat.le_refl _)).set _ _ _ (Nat.le_refl _)

end Go.Proofs.YtkclkhfcmjhogaaDoor
