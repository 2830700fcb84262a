/- The reference's Parse: its parts. -/
import Derived.Test.YtjmjlhcmicljiaaP1
namespace Go.Proofs.Ytjmjlhcmicljiaa
open Go.RowKit

theorem nearest_pos (mag : Nat) (place : Int) : Ieee.double.nearest false mag place < 9223372036854775808 := by
  unfold Ieee.Format.nearest
  dsimp only
  split
  · decide +kernel
  · unfold Ieee.Format.word
    simp only [Bool.false_eq_true, if_false, Fl.ir]
    omega
theorem quoW_pos {n m : Nat} (hn : n < 9007199254740992) (hm : 0 < m) (h : m < 9007199254740992) : Fl.quoW n m < 9223372036854775808 := by
  have hk := Fl.kept_range hm h
  have e := Fl.div_some hn hm h
  unfold Ieee.Format.div at e
  rw [Fl.read_fN hm h] at e
  by_cases h0 : n = 0
  · subst h0
    rw [Fl.fN_zero, Fl.read_fin (by omega) (by omega)] at e
    simp only [Ieee.Datum.quotient] at e
    rw [if_neg (by omega)] at e
    simp only [Option.map_some, Option.some.injEq] at e
    rw [← e]
    exact nearest_pos _ _
  · rw [Fl.read_fN (by omega) hn] at e
    simp only [Ieee.Datum.quotient] at e
    rw [if_neg (by omega)] at e
    simp only [Option.map_some, Option.some.injEq] at e
    rw [← e]
    exact nearest_pos _ _

theorem cs_andNot {b : Nat} (hb : b < 9223372036854775808) : bits .andNot .u64 (b : Int) 9223372036854775808 = (b : Int) := by
  refine (u64_andNot_nat b 9223372036854775808 (by omega) (by omega)).trans ?_
  have e : b &&& (18446744073709551615 - 9223372036854775808) = b % 2 ^ 63 := Nat.and_two_pow_sub_one_eq_mod b 63
  rw [e, Nat.mod_eq_of_lt hb]
theorem cs_and : bits .and .u64 13830554455654793216 9223372036854775808 = 9223372036854775808 := by decide +kernel
theorem cs_or {b : Nat} (hb : b < 9223372036854775808) : bits .or .u64 (b : Int) 9223372036854775808 = ((b + 9223372036854775808 : Nat) : Int) :=
  (u64_or_nat b 9223372036854775808 (by omega) (by omega)).trans (by rw [Fl.or63 b hb])
theorem opp_pos {b : Nat} (hb : b < 9223372036854775808) : b + 9223372036854775808 = Fl.opp b := by unfold Fl.opp; rw [if_pos hb]

set_option maxHeartbeats 400000 in
theorem copysign_neg (b : Nat) (hb : b < 9223372036854775808) (w : World) :
    Calls Try.prog 26 #[.float .f64 b, .float .f64 13830554455654793216] w fun e w' => e = .returned (.float .f64 (Fl.opp b)) ∧ w' = w := by
  have h1 := bits_ext
  have h2 := frombits_nat (b + 9223372036854775808)
  have h3 := cs_andNot hb
  have h4 := cs_and
  have h5 := cs_or hb
  have H : Hid _ := opp_pos hb
  clear hb
  generalize hq : b + 9223372036854775808 = q at *
  clear hq
  go_enter Try.func26, Try.ntmps26
  go_wp2_with fail
  go_ret
  exact ⟨ret_float H.out, rfl⟩

/-- What the scan's answer makes. -/
def ansW (m : Bool) : Option (Nat × Nat) → Nat
  | none => 0
  | some (n, b) => if m then Fl.opp (Fl.quoW n (10 ^ b)) else Fl.quoW n (10 ^ b)
def ansE : Option (Nat × Nat) → Int
  | none => 2
  | some _ => 0

theorem parse_ans {s : ByteArray} (h1 : (s.toList == [110, 97, 110]) = false) (h2 : (s.toList == [105, 110, 102]) = false) (h3 : (s.toList == [45, 105, 110, 102]) = false) :
    pW s = ansW (minus s) (fin (restB s).data.toList 0 0 none) ∧ pE s = ansE (fin (restB s).data.toList 0 0 none) := by
  rw [scan_eq]
  cases hu : goodU (restB s)
  · rw [if_neg (by simp)]
    refine ⟨?_, ?_⟩
    · unfold pW; simp only [h1, h2, h3, hu, Bool.false_eq_true, if_false]; rfl
    · unfold pE pOk; rw [h1, h2, h3, hu]; rfl
  · rw [if_pos rfl]
    refine ⟨?_, ?_⟩
    · unfold pW; simp only [h1, h2, h3, hu, Bool.false_eq_true, if_false, if_true]; rfl
    · unfold pE pOk; rw [h1, h2, h3, hu]; rfl

theorem minus_eq (s : ByteArray) (h : 0 < s.size) : minus s = ((s[0].toNat : Int) == 45) := by
  obtain ⟨⟨l⟩⟩ := s
  cases l with
  | nil => exact absurd h (by decide)
  | cons c l =>
    unfold minus
    rw [decide_eq_true (show 1 ≤ (ByteArray.mk (c :: l).toArray).size from h), Bool.true_and, ByteArray.toList_eq, extract_list]
    show ([c] == [45]) = ((c.toNat : Int) == 45)
    rw [Bool.eq_iff_iff, beq_iff_eq, beq_iff_eq]
    constructor
    · intro e
      rw [List.cons.inj e |>.1]
      rfl
    · intro e
      have : c.toNat = 45 := by omega
      have : c = 45 := UInt8.toNat_inj.1 this
      rw [this]
theorem minus_nil (s : ByteArray) (h : ¬ 0 < s.size) : minus s = false := by
  unfold minus
  rw [decide_eq_false (by omega)]
  rfl
end Go.Proofs.Ytjmjlhcmicljiaa
