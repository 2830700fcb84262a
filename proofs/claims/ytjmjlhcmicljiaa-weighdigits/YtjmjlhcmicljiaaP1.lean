/- A scan from the left, and what it comes to. -/
import Derived.Test.YtjmjlhcmicljiaaL5
import Derived.Lib.Bytealg
namespace Go.Proofs.Ytjmjlhcmicljiaa

def numFrom (n : Nat) (l : List UInt8) : Nat := l.foldl (fun n c => n * 10 + (c.toNat - 48)) n
theorem numFrom_cons (n : Nat) (c : UInt8) (l : List UInt8) : numFrom n (c :: l) = numFrom (n * 10 + (c.toNat - 48)) l := by
  unfold numFrom
  rw [List.foldl_cons]

/-- What stands ahead of the first point, behind it, and whether there is one. -/
def cutL : List UInt8 → List UInt8 × List UInt8 × Bool
  | [] => ([], [], false)
  | c :: l => if c == 46 then ([], l, true) else (c :: (cutL l).1, (cutL l).2.1, (cutL l).2.2)

/-- The scan from the left: the whole number, how many digits, how many of them behind the point. -/
def fin : List UInt8 → Nat → Nat → Option Nat → Option (Nat × Nat)
  | [], n, d, none => if d = 0 then none else some (n, 0)
  | [], n, _, some b => if b = 0 then none else some (n, b)
  | c :: l, n, d, none => if c = 46 ∧ 0 < d then fin l n d (some 0) else if isDig c = true ∧ d < 15 then fin l (n * 10 + (c.toNat - 48)) (d + 1) none else none
  | c :: l, n, d, some b => if isDig c = true ∧ d < 15 then fin l (n * 10 + (c.toNat - 48)) (d + 1) (some (b + 1)) else none

theorem fin_some (l : List UInt8) : ∀ n d b, d ≤ 15 → fin l n d (some b) = if l.all isDig = true ∧ d + l.length ≤ 15 ∧ ¬ b + l.length = 0 then some (numFrom n l, b + l.length) else none := by
  induction l with
  | nil =>
    intro n d b hd
    simp only [fin, List.all_nil, List.length_nil, Nat.add_zero, numFrom, List.foldl_nil, true_and, hd]
    by_cases h : b = 0 <;> simp [h]
  | cons c l ih =>
    intro n d b hd
    simp only [fin, List.all_cons, List.length_cons, Bool.and_eq_true, numFrom_cons]
    by_cases h : isDig c = true ∧ d < 15
    · rw [if_pos h, ih _ _ _ (by omega)]
      simp only [h.1, true_and]
      have e1 : d + 1 + l.length = d + (l.length + 1) := by omega
      have e2 : b + 1 + l.length = b + (l.length + 1) := by omega
      rw [e1, e2]
    · rw [if_neg h, if_neg]
      rintro ⟨⟨h1, _⟩, h2, _⟩
      exact h ⟨h1, by omega⟩

theorem isDig_dot : isDig 46 = false := by decide

theorem fin_none (l : List UInt8) : ∀ n d, d ≤ 15 → fin l n d none = if (cutL l).1.all isDig = true ∧ ¬ d + (cutL l).1.length = 0 ∧ ((cutL l).2.2 = true → ¬ (cutL l).2.1 = []) ∧ d + (cutL l).1.length + (cutL l).2.1.length ≤ 15 ∧ (cutL l).2.1.all isDig = true then some (numFrom n ((cutL l).1 ++ (cutL l).2.1), (cutL l).2.1.length) else none := by
  induction l with
  | nil =>
    intro n d hd
    simp [fin, cutL, numFrom, hd]
  | cons c l ih =>
    intro n d hd
    by_cases hc : c = 46
    · subst hc
      simp only [fin, cutL, true_and, beq_self_eq_true, if_true, isDig_dot, Bool.false_eq_true, false_and, if_false, List.all_nil, List.length_nil, Nat.add_zero, List.nil_append, forall_const]
      by_cases h : 0 < d
      · rw [if_pos h, fin_some _ _ _ _ hd, Nat.zero_add]
        have e : (l.length = 0) = (l = []) := by simp
        simp only [e]
        have g : ¬ d = 0 := by omega
        by_cases h1 : l.all isDig = true <;> by_cases h2 : d + l.length ≤ 15 <;> by_cases h3 : l = [] <;> simp [h1, h2, h3, g]
      · have g : d = 0 := by omega
        simp [g]
    · have hb : (c == 46) = false := by simp [hc]
      simp only [fin, cutL, hb, hc, false_and, if_false, Bool.false_eq_true, List.all_cons, List.length_cons, Bool.and_eq_true, List.cons_append, numFrom_cons]
      by_cases h : isDig c = true ∧ d < 15
      · rw [if_pos h, ih _ _ (by omega)]
        simp only [h.1, true_and]
        have e1 : d + 1 + (cutL l).1.length = d + ((cutL l).1.length + 1) := by omega
        rw [e1]
      · rw [if_neg h, if_neg]
        rintro ⟨⟨h1, _⟩, _, _, h2, _⟩
        exact h ⟨h1, by omega⟩

theorem cut_index (l : List UInt8) : (Lib.indexByte l 46 = -1 ∧ cutL l = (l, [], false)) ∨ ∃ i : Nat, Lib.indexByte l 46 = i ∧ cutL l = (l.take i, l.drop (i + 1), true) := by
  induction l with
  | nil => left; exact ⟨rfl, rfl⟩
  | cons c l ih =>
    unfold Lib.indexByte cutL
    by_cases hc : (c == 46) = true
    · right
      exact ⟨0, by simp [hc], by simp [hc]⟩
    · have hb : (c == 46) = false := by simpa using hc
      rcases ih with ⟨h1, h2⟩ | ⟨i, h1, h2⟩
      · left
        rw [h1, h2]
        simp [hb]
      · right
        refine ⟨i + 1, ?_, ?_⟩
        · rw [h1]
          have : (((i : Int)) == -1) = false := by rw [beq_eq_false_iff_ne]; omega
          simp [hb, this]
        · rw [h2]
          simp [hb]

theorem extract_list (s : ByteArray) (i j : Nat) : (s.extract i j).data.toList = (s.data.toList.take j).drop i := by
  rw [ByteArray.data_extract, Array.toList_extract]
  rw [List.extract_eq_take_drop, List.drop_take]

theorem cut_bytes (s : ByteArray) : (wholeB s).data.toList = (cutL s.data.toList).1 ∧ (behindB s).data.toList = (cutL s.data.toList).2.1 ∧ pointB s = (cutL s.data.toList).2.2 := by
  unfold wholeB behindB pointB
  rw [Lib.firstIdx_eq]
  rcases cut_index s.data.toList with ⟨h1, h2⟩ | ⟨i, h1, h2⟩
  · rw [h1, h2]
    exact ⟨rfl, rfl, rfl⟩
  · rw [h1, h2, if_neg (by omega), if_neg (by omega), extract_list, extract_list]
    refine ⟨by simp, ?_, by simp⟩
    rw [List.take_of_length_le (by simp)]
    rfl

/-- The scan tells just what the parts do. -/
theorem scan_eq (s : ByteArray) : fin s.data.toList 0 0 none = if goodU s = true then some (numL (wholeB s ++ behindB s).data.toList, (behindB s).size) else none := by
  obtain ⟨c1, c2, c3⟩ := cut_bytes s
  have e : (wholeB s ++ behindB s).data.toList = (cutL s.data.toList).1 ++ (cutL s.data.toList).2.1 := by rw [← c1, ← c2]; simp
  have s1 : (wholeB s).size = (cutL s.data.toList).1.length := by rw [← c1]; simp
  have s2 : (behindB s).size = (cutL s.data.toList).2.1.length := by rw [← c2]; simp
  rw [fin_none _ _ _ (by omega), e, s2]
  have g : (goodU s = true) = ((cutL s.data.toList).1.all isDig = true ∧ ¬ 0 + (cutL s.data.toList).1.length = 0 ∧ ((cutL s.data.toList).2.2 = true → ¬ (cutL s.data.toList).2.1 = []) ∧ 0 + (cutL s.data.toList).1.length + (cutL s.data.toList).2.1.length ≤ 15 ∧ (cutL s.data.toList).2.1.all isDig = true) := by
    unfold goodU goodP
    rw [e, s1, s2, c3, ByteArray.toList_eq, ByteArray.toList_eq, c1, c2]
    generalize (cutL s.data.toList).1 = a
    generalize (cutL s.data.toList).2.1 = b
    generalize (cutL s.data.toList).2.2 = p
    simp only [Bool.and_eq_true, Bool.or_eq_true, Bool.not_eq_true', decide_eq_true_iff, List.all_append, Nat.zero_add, eq_iff_iff, List.isEmpty_eq_false_iff, List.length_eq_zero_iff]
    constructor
    · rintro ⟨⟨⟨h1, h2⟩, h3⟩, h4, h5⟩
      refine ⟨h4, h1, ?_, h3, h5⟩
      intro hp
      rcases h2 with h2 | h2
      · exact h2
      · rw [h2] at hp; cases hp
    · rintro ⟨h4, h1, h2, h3, h5⟩
      refine ⟨⟨⟨h1, ?_⟩, h3⟩, h4, h5⟩
      cases p
      · exact .inr rfl
      · exact .inl (h2 rfl)
  by_cases hg : goodU s = true
  · rw [if_pos hg, if_pos (g.mp hg)]
    rfl
  · rw [if_neg hg, if_neg (fun h => hg (g.mpr h))]
end Go.Proofs.Ytjmjlhcmicljiaa
