/- Texts of digits: which words they are. -/
import Derived.Test.YtjmjlhcmicljiaaP2
import Derived.Test.YtjmjlhcmicljiaaM2
import Derived.Test.YtjmjlhcmicljiaaV3
namespace Go.Proofs.Ytjmjlhcmicljiaa

theorem nearest_num (mag : Nat) (place : Int) : Ieee.double.nearest false mag place ≤ 9218868437227405312 := by
  unfold Ieee.Format.nearest
  dsimp only
  split
  · decide +kernel
  · unfold Ieee.Format.word
    simp only [Bool.false_eq_true, if_false, Fl.ir]
    omega
theorem quoW_zero {m : Nat} (hm : 0 < m) (h : m < 9007199254740992) : Fl.quoW 0 m = 0 := by
  have hk := Fl.kept_range hm h
  have e := Fl.div_some (n := 0) (by omega) hm h
  unfold Ieee.Format.div at e
  rw [Fl.read_fN hm h, Fl.fN_zero, Fl.read_fin (by omega) (by omega)] at e
  simp only [Ieee.Datum.quotient] at e
  rw [if_neg (by omega)] at e
  simp only [Option.map_some, Option.some.injEq] at e
  rw [← e]
  show Ieee.double.nearest _ _ _ = 0
  have z : Fl.mag (0 % 9223372036854775808) = 0 := by decide +kernel
  rw [z, Nat.zero_shiftLeft, Nat.zero_div, Nat.zero_mod]
  show Ieee.double.nearest (Fl.ng 0 ^^ false) 0 _ = 0
  unfold Ieee.Format.nearest
  rw [if_pos rfl]
  decide +kernel
theorem quoW_num {n m : Nat} (hn : n < 9007199254740992) (hm : 0 < m) (h : m < 9007199254740992) : Fl.quoW n m ≤ 9218868437227405312 := by
  by_cases h0 : n = 0
  · subst h0
    rw [quoW_zero hm h]
    omega
  · rw [Fl.quo_nearest (by omega) hn hm h]
    exact nearest_num _ _
theorem quoW_one {n : Nat} (hn : n < 9007199254740992) : Fl.quoW n 1 = Fl.fN n := by
  by_cases h0 : n = 0
  · subst h0
    rw [quoW_zero (by omega) (by omega), Fl.fN_zero]
  · exact Fl.quo_one (by omega) hn
theorem quoW_ten {c n m : Nat} (hc : 0 < c) (hn : c * n < 9007199254740992) (hm0 : 0 < m) (hm : c * m < 9007199254740992) : Fl.quoW (c * n) (c * m) = Fl.quoW n m := by
  have hm' : m ≤ c * m := Nat.le_mul_of_pos_left _ hc
  by_cases h0 : n = 0
  · subst h0
    rw [Nat.mul_zero, quoW_zero (Nat.mul_pos hc hm0) hm, quoW_zero hm0 (by omega)]
  · exact Fl.quo_scale hc (by omega) hn hm0 hm

/-- Words up to the positive infinity stand as they are. -/
theorem num_of_le {x : Nat} (h : x ≤ 9218868437227405312) : Fl.nan x = false ∧ Fl.ng x = false ∧ Fl.Ok x := by
  refine ⟨?_, ?_, ?_⟩
  · unfold Fl.nan; rw [decide_eq_false_iff_not]; omega
  · unfold Fl.ng; rw [decide_eq_false_iff_not]; omega
  · unfold Fl.Ok; omega
theorem key_of_le {x : Nat} (h : x ≤ 9218868437227405312) : Fl.key x = x + 9223372036854775808 := Fl.key_pos (num_of_le h).1 (num_of_le h).2.1
theorem ord_lt {x y : Nat} (hx : x ≤ 9218868437227405312) (hy : y ≤ 9218868437227405312) (h : Fl.val x < Fl.val y) : ordB x y = -1 := by
  have := Fl.val_lt_iff.1 h
  apply ordB_lt
  rw [key_of_le hx, key_of_le hy]
  omega
theorem ord_le {x y : Nat} (hx : x ≤ 9218868437227405312) (hy : y ≤ 9218868437227405312) (h : Fl.val x ≤ Fl.val y) : ordB x y ≤ 0 := by
  rcases Nat.lt_or_eq_of_le h with h | h
  · rw [ord_lt hx hy h]; omega
  · rw [Fl.val_inj h, ordB_self]; omega

theorem dig_ne {c : UInt8} (h : isDig c = true) (n : UInt8) (hn : n.toNat < 48 ∨ 57 < n.toNat) : (c == n) = false := by
  rw [beq_eq_false_iff_ne]
  intro e
  subst e
  unfold isDig at h
  simp at h
  omega

theorem cutL_plain (A : List UInt8) (h : A.all isDig = true) : cutL A = (A, [], false) := by
  induction A with
  | nil => rfl
  | cons c A ih =>
    rw [List.all_cons, Bool.and_eq_true] at h
    unfold cutL
    rw [dig_ne h.1 46 (.inl (by decide)), ih h.2]
    rfl
theorem cutL_point (A B : List UInt8) (h : A.all isDig = true) : cutL (A ++ 46 :: B) = (A, B, true) := by
  induction A with
  | nil => rfl
  | cons c A ih =>
    rw [List.all_cons, Bool.and_eq_true] at h
    rw [List.cons_append]
    unfold cutL
    rw [dig_ne h.1 46 (.inl (by decide)), ih h.2]
    rfl

theorem fin_plain {A : List UInt8} (h : A.all isDig = true) (h0 : 0 < A.length) (hl : A.length ≤ 15) : fin A 0 0 none = some (numL A, 0) := by
  rw [fin_none _ _ _ (by omega), cutL_plain A h, if_pos]
  · simp only [List.append_nil, List.length_nil]
    rfl
  · refine ⟨h, ?_, ?_, ?_, rfl⟩
    · simp only; omega
    · intro k; cases k
    · simp only [List.length_nil]; omega
theorem fin_point {A B : List UInt8} (h : A.all isDig = true) (h0 : 0 < A.length) (g : B.all isDig = true) (g0 : 0 < B.length) (hl : A.length + B.length ≤ 15) : fin (A ++ 46 :: B) 0 0 none = some (numL (A ++ B), B.length) := by
  rw [fin_none _ _ _ (by omega), cutL_point A B h, if_pos]
  · rfl
  · refine ⟨h, ?_, ?_, ?_, g⟩
    · simp only; omega
    · intro _ k; simp only at k; rw [k] at g0; simp at g0
    · simp only; omega

/-- A text whose first sign is a digit. -/
theorem parse_first {c : UInt8} {l : List UInt8} (hc : isDig c = true) : pW ⟨(c :: l).toArray⟩ = ansW false (fin (c :: l) 0 0 none) ∧ pE ⟨(c :: l).toArray⟩ = ansE (fin (c :: l) 0 0 none) := by
  have e : ∀ m : List UInt8, ∀ d : UInt8, (d.toNat < 48 ∨ 57 < d.toNat) → ((ByteArray.mk (c :: l).toArray).toList == d :: m) = false := by
    intro m d hd
    rw [ByteArray.toList_eq]
    show ((c :: l) == (d :: m)) = false
    rw [List.cons_beq_cons, dig_ne hc d hd]
    rfl
  have hm : minus ⟨(c :: l).toArray⟩ = false := by
    rw [minus_eq _ (by show 0 < (c :: l).toArray.size; simp)]
    show ((c.toNat : Int) == 45) = false
    rw [beq_eq_false_iff_ne]
    intro k
    unfold isDig at hc
    simp at hc
    omega
  have hr : restB ⟨(c :: l).toArray⟩ = ⟨(c :: l).toArray⟩ := by unfold restB; rw [hm]; rfl
  have := parse_ans (e [97, 110] 110 (.inr (by decide))) (e [110, 102] 105 (.inr (by decide))) (e [105, 110, 102] 45 (.inl (by decide)))
  rw [hm, hr] at this
  exact this
/-- The same behind a minus. -/
theorem parse_second {c : UInt8} {l : List UInt8} (hc : isDig c = true) : pW ⟨(45 :: c :: l).toArray⟩ = ansW true (fin (c :: l) 0 0 none) ∧ pE ⟨(45 :: c :: l).toArray⟩ = ansE (fin (c :: l) 0 0 none) := by
  have e1 : ((ByteArray.mk (45 :: c :: l).toArray).toList == [110, 97, 110]) = false := by
    rw [ByteArray.toList_eq]; rfl
  have e2 : ((ByteArray.mk (45 :: c :: l).toArray).toList == [105, 110, 102]) = false := by
    rw [ByteArray.toList_eq]; rfl
  have e3 : ((ByteArray.mk (45 :: c :: l).toArray).toList == [45, 105, 110, 102]) = false := by
    rw [ByteArray.toList_eq]
    show ((45 :: c :: l) == (45 :: 105 :: [110, 102])) = false
    rw [List.cons_beq_cons, List.cons_beq_cons, dig_ne hc 105 (.inr (by decide))]
    simp
  have hm : minus ⟨(45 :: c :: l).toArray⟩ = true := by
    rw [minus_eq _ (by show 0 < (45 :: c :: l).toArray.size; simp)]
    rfl
  have hr : (restB ⟨(45 :: c :: l).toArray⟩).data.toList = c :: l := by
    unfold restB
    rw [hm, if_pos rfl, extract_list]
    show ((45 :: c :: l).take (45 :: c :: l).toArray.size).drop 1 = _
    rw [List.size_toArray, List.take_length]
    rfl
  have := parse_ans e1 e2 e3
  rw [hm, hr] at this
  exact this
end Go.Proofs.Ytjmjlhcmicljiaa
