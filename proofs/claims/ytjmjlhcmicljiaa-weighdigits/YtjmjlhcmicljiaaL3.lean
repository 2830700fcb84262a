/- What the parts of Parse answer. -/
import Derived.Test.YtjmjlhcmicljiaaL1
import Derived.Deep.RegionWith
namespace Go.Proofs.Ytjmjlhcmicljiaa
open Go.RowKit

/-- The panic of a text that is no number's. -/
def badChain : List PanicEntry := [{ v := .iface 24 (.int .i64 2), recovered := false }]

set_option maxHeartbeats 400000 in
theorem must_ok (w : World) : Calls Try.prog 39 #[.bool true] w fun e w' => e = .returned (.tuple #[]) ∧ w' = w := by
  go_enter Try.func39, Try.ntmps39
  go_wp2
  go_end0
  exact ⟨rfl, rfl⟩

set_option maxHeartbeats 400000 in
theorem must_bad (w : World) : Calls Try.prog 39 #[.bool false] w fun e w' => e = .panicked badChain ∧ w' = w := by
  go_enter Try.func39, Try.ntmps39
  go_wp2
  exact ⟨rfl, rfl, rfl⟩

set_option maxHeartbeats 400000 in
theorem pow_any (d : Nat) (hd : d ≤ 15) (w : World) : Calls Try.prog 41 #[.int .i64 d] w fun e w' => e = .returned (.int .i64 ((10 ^ d : Nat) : Int)) ∧ w' = w := by
  go_enter Try.func41, Try.ntmps41
  go_wp2
  go_loop [3, 5] (fun p i => ∃ k : Nat, k ≤ d ∧ i = .int .i64 k ∧ p = .int .i64 ((10 ^ k : Nat) : Int)) (fun _ i => d - (intOf i).toNat)
  case atStart => exact ⟨0, Nat.zero_le _, rfl, rfl⟩
  case round =>
    obtain ⟨k, hk, rfl, rfl⟩ := hrel
    by_cases hlt : k < d
    · have hp : (10 : Nat) ^ k ≤ 10 ^ 14 := Nat.pow_le_pow_right (by omega) (by omega)
      have H : Hid (10 ^ (k + 1) = 10 ^ k * 10) := Nat.pow_succ 10 k
      generalize hq : (10 : Nat) ^ k = q at *
      go_wp2
      go_round
      case rel => exact ⟨k + 1, by omega, by go_num, by rw [H.out]; simp⟩
      case measure => simp [intOf]; omega
    · go_wp2
      go_ret
      exact ⟨ret_int (by rw [show k = d from by omega]), rfl⟩

/-- Digits, and the whole number that they spell. -/
def isDig (c : UInt8) : Bool := decide (48 ≤ (c.toNat : Int)) && decide ((c.toNat : Int) ≤ 57)
def numL (l : List UInt8) : Nat := l.foldl (fun n c => n * 10 + (c.toNat - 48)) 0
theorem numL_snoc (l : List UInt8) (c : UInt8) : numL (l ++ [c]) = numL l * 10 + (c.toNat - 48) := by
  unfold numL; rw [List.foldl_append]; rfl
theorem numL_go (l : List UInt8) : ∀ (n : Nat), l.all isDig = true → l.foldl (fun n c => n * 10 + (c.toNat - 48)) n < (n + 1) * 10 ^ l.length := by
  induction l with
  | nil => intro n _; simp
  | cons c l ih =>
    intro n h
    rw [List.all_cons, Bool.and_eq_true] at h
    have hc : c.toNat ≤ 57 := by
      have := h.1
      unfold isDig at this
      simp at this
      omega
    have := ih (n * 10 + (c.toNat - 48)) h.2
    rw [List.foldl_cons, List.length_cons, Nat.pow_succ]
    have h3 : (n * 10 + (c.toNat - 48) + 1) * 10 ^ l.length ≤ ((n + 1) * 10) * 10 ^ l.length := Nat.mul_le_mul_right _ (by omega)
    have h4 : (n + 1) * (10 ^ l.length * 10) = ((n + 1) * 10) * 10 ^ l.length := by
      rw [Nat.mul_assoc, Nat.mul_comm 10]
    omega
theorem numL_lt (l : List UInt8) (h : l.all isDig = true) : numL l < 10 ^ l.length := by
  have := numL_go l 0 h
  rw [Nat.zero_add, Nat.one_mul] at this
  exact this
theorem take_snoc (s : ByteArray) (k : Nat) (h : k < s.size) : s.data.toList.take (k + 1) = s.data.toList.take k ++ [s[k]] := by
  rw [List.take_succ_eq_append_getElem (by simpa using h)]; rfl

theorem all_take_false {s : ByteArray} {k : Nat} (hlt : k < s.size) (h : isDig s[k] = false) : s.data.toList.all isDig = false := by
  rw [List.all_eq_false]
  exact ⟨s[k], by simp [ByteArray.getElem_eq_getElem_data], by simp [h]⟩

/-- How wholeNumber ends. -/
def wholeEnd (s : ByteArray) : Ending := if s.data.toList.all isDig then .returned (.int .i64 (numL s.data.toList)) else .panicked badChain
theorem wholeEnd_ok {s : ByteArray} (h : s.data.toList.all isDig = true) : wholeEnd s = .returned (.int .i64 (numL s.data.toList)) := by unfold wholeEnd; rw [h]; rfl
theorem wholeEnd_bad {s : ByteArray} (h : s.data.toList.all isDig = false) : wholeEnd s = .panicked badChain := by unfold wholeEnd; rw [h]; rfl

set_option maxHeartbeats 400000 in
theorem whole_any (s : ByteArray) (hs : s.size ≤ 15) (w : World) :
    Calls Try.prog 40 #[.string s] w fun e w' => e = wholeEnd s ∧ w' = w := by
  go_enter Try.func40, Try.ntmps40
  go_wp2
  go_loop [3, 7] (fun n i => ∃ k : Nat, k ≤ s.size ∧ i = .int .i64 k ∧ (s.data.toList.take k).all isDig = true ∧ n = .int .i64 (numL (s.data.toList.take k))) (fun _ i => s.size - (intOf i).toNat)
  case atStart => exact ⟨0, Nat.zero_le _, rfl, rfl, rfl⟩
  case round =>
    obtain ⟨k, hk, rfl, ha, rfl⟩ := hrel
    have A : Hid _ := ha
    have A2 := numL_lt _ ha
    clear ha
    by_cases hlt : k < s.size
    · have T : Hid _ := take_snoc s k hlt
      have hb : numL (s.data.toList.take k) < 100000000000000 := by
        rw [List.length_take] at A2
        exact Nat.lt_of_lt_of_le A2 (Nat.pow_le_pow_right (j := 14) (by omega) (by omega))
      clear A2
      generalize hn : numL (s.data.toList.take k) = n at *
      have N : Hid _ := hn
      clear hn
      by_cases h1 : 48 ≤ (s[k].toNat : Int)
      · by_cases h2 : (s[k].toNat : Int) ≤ 57
        · go_wp2_with fail
          refine (must_ok _).mono ?_
          rintro e w' ⟨rfl, rfl⟩
          go_wp2_with fail
          have hd : isDig s[k] = true := by unfold isDig; simp; omega
          exact ⟨⟨k + 1, by omega, by go_num, by rw [T.out, List.all_append, A.out]; simp [hd], by rw [T.out, numL_snoc, N.out]; congr 1; omega⟩, by simp [intOf]; omega⟩
        · have F : Hid (s.data.toList.all isDig = false) := all_take_false hlt (by unfold isDig; simp; omega)
          go_wp2_with fail
          refine (must_bad _).mono ?_
          rintro e w' ⟨rfl, rfl⟩
          exact ⟨rfl, (wholeEnd_bad F.out).symm, rfl⟩
      · have F : Hid (s.data.toList.all isDig = false) := all_take_false hlt (by unfold isDig; simp; omega)
        go_wp2_with fail
        refine (must_bad _).mono ?_
        rintro e w' ⟨rfl, rfl⟩
        exact ⟨rfl, (wholeEnd_bad F.out).symm, rfl⟩
    · have T : Hid (s.data.toList.take k = s.data.toList) := List.take_of_length_le (by simp; omega)
      go_wp2
      go_ret
      have a := A.out
      rw [T.out] at a
      exact ⟨by rw [wholeEnd_ok a]; exact ret_int (by rw [T.out]), rfl⟩

set_option maxHeartbeats 400000 in
theorem indexByte_any (s : ByteArray) (c : Int) (w : World) :
    Calls Try.prog 46 #[.string s, .int .u8 c] w fun e w' => e = .returned (.int .i64 (firstIdx s c.toNat.toUInt8)) ∧ w' = w := by
  have h := indexByte_ext s c
  go_enter Try.func46, Try.ntmps46
  go_wp2
  go_ret
  exact ⟨rfl, rfl⟩

theorem indexDot_ret (s : ByteArray) (w : World) :
    Calls Try.prog 46 #[.string s, .int .u8 46] w fun e w' => e = .returned (.int .i64 (firstIdx s 46)) ∧ w' = w := indexByte_any s 46 w

theorem bytes_of {s : ByteArray} {l : List UInt8} (h : s.toList = l) : s = ⟨l.toArray⟩ := by
  subst h
  rw [ByteArray.toList_eq]

theorem firstIdx_dot : (0 : Int) = firstIdx ⟨#[46]⟩ 46 := by decide +kernel

set_option maxRecDepth 100000 in
set_option maxHeartbeats 400000 in
theorem index_dot (s : ByteArray) (w : World) :
    Calls Try.prog 45 #[.string s, .string ⟨#[46]⟩] w fun e w' => e = .returned (.int .i64 (firstIdx s 46)) ∧ w' = w := by
  by_cases hs : s = ⟨#[46]⟩
  · subst hs
    go_enter Try.func45, Try.ntmps45
    go_wp2_with fail
    go_ret
    exact ⟨ret_int firstIdx_dot, rfl⟩
  · have c1 : (([46] : List UInt8) == s.toList) = false := by
      rw [beq_eq_false_iff_ne]
      intro h
      exact hs (bytes_of h.symm)
    go_enter Try.func45, Try.ntmps45
    go_wp2_with fail
    refine (indexDot_ret s _).mono ?_
    rintro e w' ⟨rfl, rfl⟩
    go_wp2_with fail
    go_ret
    exact ⟨rfl, rfl⟩

/-- What stands ahead of the first point, and behind it. -/
def wholeB (s : ByteArray) : ByteArray := if firstIdx s 46 < 0 then s else s.extract 0 (firstIdx s 46).toNat
def behindB (s : ByteArray) : ByteArray := if firstIdx s 46 < 0 then ⟨#[]⟩ else s.extract ((firstIdx s 46).toNat + 1) s.size
def pointB (s : ByteArray) : Bool := decide (0 ≤ firstIdx s 46)

theorem firstIdx_cases (s : ByteArray) (c : UInt8) : firstIdx s c = -1 ∨ ∃ i : Nat, i < s.size ∧ firstIdx s c = i := by
  unfold firstIdx
  split
  · rename_i i h
    right
    have := List.mem_of_find?_eq_some h
    exact ⟨i, by simpa using this, rfl⟩
  · left; rfl

set_option maxHeartbeats 400000 in
theorem cutLite_dot (s : ByteArray) (hs : s.size ≤ maxLen) (w : World) :
    Calls Try.prog 44 #[.string s, .string ⟨#[46]⟩] w fun e w' => e = .returned (.tuple #[.string (wholeB s), .string (behindB s), .bool (pointB s)]) ∧ ∃ n, w' = w.drewN n := by
  unfold maxLen at hs
  rcases firstIdx_cases s 46 with h | ⟨i, hi, h⟩
  · have e1 : wholeB s = s := by unfold wholeB; rw [h]; rfl
    have e2 : behindB s = ⟨#[]⟩ := by unfold behindB; rw [h]; rfl
    have e3 : pointB s = false := by unfold pointB; rw [h]; rfl
    rw [e1, e2, e3]
    clear e1 e2 e3
    go_enter Try.func44, Try.ntmps44
    go_wp2_with fail
    refine (index_dot s _).mono ?_
    rintro e w' ⟨rfl, rfl⟩
    go_wp2_with fail
    go_ret3
    exact ⟨rfl, 0, rfl⟩
  · have e1 : wholeB s = s.extract 0 i := by unfold wholeB; rw [h, if_neg (by omega)]; rfl
    have e2 : behindB s = s.extract (i + 1) s.size := by unfold behindB; rw [h, if_neg (by omega)]; rfl
    have e3 : pointB s = true := by unfold pointB; rw [h]; simp
    rw [e1, e2, e3]
    clear e1 e2 e3
    have c1 : (0 : Int) ≤ i := by omega
    have c2 : (i : Int) ≤ s.size := by omega
    have c3 : (0 : Int) ≤ i + 1 := by omega
    have c4 : (i + 1 : Int) ≤ s.size := by omega
    go_enter Try.func44, Try.ntmps44
    go_wp2_with fail
    refine (index_dot s _).mono ?_
    rintro e w' ⟨rfl, rfl⟩
    go_wp2_with fail
    go_region
    go_wp2_with fail
    go_ret3
    exact ⟨rfl, 1, rfl⟩

set_option maxHeartbeats 400000 in
theorem cut_dot (s : ByteArray) (hs : s.size ≤ maxLen) (w : World) :
    Calls Try.prog 38 #[.string s, .string ⟨#[46]⟩] w fun e w' => e = .returned (.tuple #[.string (wholeB s), .string (behindB s), .bool (pointB s)]) ∧ ∃ n, w' = w.drewN n := by
  go_enter Try.func38, Try.ntmps38
  go_wp2_with fail
  refine (cutLite_dot s hs _).mono ?_
  rintro e w' ⟨rfl, n, rfl⟩
  go_wp2_with fail
  go_ret3
  exact ⟨rfl, n, rfl⟩

/-- Does it begin with a minus, and what stands behind it? -/
def minus (s : ByteArray) : Bool := decide (1 ≤ s.size) && ((s.extract 0 1).toList == [45])
def restB (s : ByteArray) : ByteArray := if minus s then s.extract 1 s.size else s

set_option maxHeartbeats 400000 in
theorem hasMinus_any (s : ByteArray) (w : World) :
    Calls Try.prog 43 #[.string s, .string ⟨#[45]⟩] w fun e w' => e = .returned (.bool (minus s)) ∧ w' = w := by
  by_cases h : 1 ≤ s.size
  · have e : minus s = ((s.extract 0 1).toList == [45]) := by unfold minus; simp [h]
    rw [e]
    clear e
    go_enter Try.func43, Try.ntmps43
    go_wp2_with fail
    go_ret
    exact ⟨rfl, rfl⟩
  · have e : minus s = false := by unfold minus; simp [h]
    rw [e]
    clear e
    go_enter Try.func43, Try.ntmps43
    go_wp2_with fail
    go_ret
    exact ⟨rfl, rfl⟩

theorem minus_size {s : ByteArray} (h : minus s = true) : 1 ≤ s.size := by
  unfold minus at h
  rw [Bool.and_eq_true] at h
  exact of_decide_eq_true h.1

set_option maxHeartbeats 400000 in
theorem cutPreLite_any (s : ByteArray) (hs : s.size ≤ maxLen) (w : World) :
    Calls Try.prog 37 #[.string s, .string ⟨#[45]⟩] w fun e w' => e = .returned (.tuple #[.string (restB s), .bool (minus s)]) ∧ w' = w := by
  unfold maxLen at hs
  cases h : minus s
  · have e : restB s = s := by unfold restB; rw [h]; rfl
    rw [e]
    clear e
    go_enter Try.func37, Try.ntmps37
    go_wp2_with fail
    refine (hasMinus_any s _).mono ?_
    rintro e w' ⟨rfl, rfl⟩
    go_wp2_with fail
    go_ret2
    exact ⟨rfl, rfl⟩
  · have e : restB s = s.extract 1 s.size := by unfold restB; rw [h]; rfl
    have h1 := minus_size h
    rw [e]
    clear e
    go_enter Try.func37, Try.ntmps37
    go_wp2_with fail
    refine (hasMinus_any s _).mono ?_
    rintro e w' ⟨rfl, rfl⟩
    go_wp2_with fail
    go_ret2
    exact ⟨rfl, rfl⟩

set_option maxHeartbeats 400000 in
theorem cutPre_any (s : ByteArray) (hs : s.size ≤ maxLen) (w : World) :
    Calls Try.prog 30 #[.string s, .string ⟨#[45]⟩] w fun e w' => e = .returned (.tuple #[.string (restB s), .bool (minus s)]) ∧ w' = w := by
  go_enter Try.func30, Try.ntmps30
  go_wp2_with fail
  refine (cutPreLite_any s hs _).mono ?_
  rintro e w' ⟨rfl, rfl⟩
  go_wp2_with fail
  go_ret2
  exact ⟨rfl, rfl⟩
end Go.Proofs.Ytjmjlhcmicljiaa
