/- Noughts ahead and behind, and the sign. -/
import Derived.Test.YtjmjlhcmicljiaaA9
namespace Go.Proofs.Ytjmjlhcmicljiaa

theorem numL_cons (c : UInt8) (l : List UInt8) : numL (c :: l) = (c.toNat - 48) * 10 ^ l.length + numL l := by
  have h : ∀ (l : List UInt8) (n : Nat), numFrom n l = n * 10 ^ l.length + numL l := by
    intro l
    induction l with
    | nil => intro n; simp [numFrom, numL]
    | cons d l ih =>
      intro n
      have e : numL (d :: l) = numFrom (d.toNat - 48) l := by
        show numFrom 0 (d :: l) = _
        rw [numFrom_cons, Nat.zero_mul, Nat.zero_add]
      rw [numFrom_cons, ih, e, ih, List.length_cons, Nat.pow_succ, Nat.add_mul, Nat.mul_comm (10 ^ l.length) 10, Nat.mul_assoc]
      omega
  have e : numL (c :: l) = numFrom (c.toNat - 48) l := by
    show numFrom 0 (c :: l) = _
    rw [numFrom_cons, Nat.zero_mul, Nat.zero_add]
  rw [e, h]
theorem numL_nought (l : List UInt8) : numL (48 :: l) = numL l := by
  rw [numL_cons, show (48 : UInt8).toNat - 48 = 0 from rfl, Nat.zero_mul, Nat.zero_add]
theorem numL_behind (l : List UInt8) : numL (l ++ [48]) = 10 * numL l := by
  rw [numL_snoc, show (48 : UInt8).toNat - 48 = 0 from rfl]
  omega
theorem dig48 : isDig 48 = true := by decide

/-- The three texts, and the word that they make. -/
structure D3 (P Lg Mi : ByteArray) (x : Nat) : Prop where
  p1 : pW P = x
  p2 : pW Lg = x
  p3 : pW Mi = Fl.opp x
  e1 : pE P = 0
  e2 : pE Lg = 0
  e3 : pE Mi = 0
  s1 : P.size ≤ 1000
  s2 : Lg.size ≤ 1000
  s3 : Mi.size ≤ 1000

theorem size_list {S : ByteArray} {l : List UInt8} (h : S.data.toList = l) (hl : l.length ≤ 1000) : S.size ≤ 1000 := by
  have : S.size = S.data.toList.length := by simp
  rw [this, h]
  exact hl

theorem parse_minus {S : ByteArray} {c : UInt8} {l : List UInt8} (n b : Nat) (hS : S.data.toList = 45 :: c :: l) (hc : isDig c = true) (hf : fin (c :: l) 0 0 none = some (n, b)) : pW S = Fl.opp (Fl.quoW n (10 ^ b)) ∧ pE S = 0 := by
  have e : S = ⟨(45 :: c :: l).toArray⟩ := by rw [← hS]
  obtain ⟨p1, p2⟩ := parse_second (l := l) hc
  rw [hf] at p1 p2
  rw [e, p1, p2]
  exact ⟨by simp only [ansW, if_true], rfl⟩

theorem d3_plain {P Lg Mi : ByteArray} {A : List UInt8} (hP : P.data.toList = A) (hL : Lg.data.toList = 48 :: A) (hM : Mi.data.toList = 45 :: A) (hA : A.all isDig = true) (h0 : 0 < A.length) (hl : A.length ≤ 13) : D3 P Lg Mi (Fl.quoW (numL A) (10 ^ 0)) := by
  have t1 := parse_plain hP hA h0 (by omega)
  have t2 := parse_plain hL (by simp [hA, dig48]) (by simp) (by simp; omega)
  rw [numL_nought] at t2
  have f := fin_plain hA h0 (by omega)
  have t3 : pW Mi = Fl.opp (Fl.quoW (numL A) (10 ^ 0)) ∧ pE Mi = 0 := by
    cases A with
    | nil => cases h0
    | cons c l =>
      have hc : isDig c = true := by rw [List.all_cons, Bool.and_eq_true] at hA; exact hA.1
      exact parse_minus (numL (c :: l)) 0 hM hc f
  rw [Nat.pow_zero] at *
  exact ⟨t1.1, t2.1, t3.1, t1.2, t2.2, t3.2, size_list hP (by omega), size_list hL (by simp; omega), size_list hM (by simp; omega)⟩

theorem d3_point {P Lg Mi : ByteArray} {A B : List UInt8} (more : Bool) (hP : P.data.toList = A ++ 46 :: B) (hL : Lg.data.toList = 48 :: (A ++ 46 :: (B ++ if more then [48] else []))) (hM : Mi.data.toList = 45 :: (A ++ 46 :: B)) (hA : A.all isDig = true) (h0 : 0 < A.length) (hB : B.all isDig = true) (g0 : 0 < B.length) (hl : A.length + B.length ≤ 12) : D3 P Lg Mi (Fl.quoW (numL (A ++ B)) (10 ^ B.length)) := by
  have t1 := parse_point hP hA h0 hB g0 (by omega)
  have f := fin_point hA h0 hB g0 (by omega)
  have t3 : pW Mi = Fl.opp (Fl.quoW (numL (A ++ B)) (10 ^ B.length)) ∧ pE Mi = 0 := by
    cases A with
    | nil => cases h0
    | cons c l =>
      have hc : isDig c = true := by rw [List.all_cons, Bool.and_eq_true] at hA; exact hA.1
      rw [List.cons_append] at hM f
      exact parse_minus (numL (c :: l ++ B)) B.length hM hc f
  have hN : numL (A ++ B) < 10 ^ 12 := sum_lt (k := 12) (by simp [hA, hB]) (by simp; omega) (Nat.le_refl _)
  have hT : 10 ^ B.length ≤ 10 ^ 12 := Nat.pow_le_pow_right (by omega) (by omega)
  have t2 : pW Lg = Fl.quoW (numL (A ++ B)) (10 ^ B.length) ∧ pE Lg = 0 := by
    cases more
    · have hL' : Lg.data.toList = (48 :: A) ++ 46 :: B := by rw [hL]; simp
      have := parse_point hL' (by simp [hA, dig48]) (by simp) hB g0 (by simp; omega)
      rw [List.cons_append, numL_nought] at this
      exact this
    · have hL' : Lg.data.toList = (48 :: A) ++ 46 :: (B ++ [48]) := by rw [hL]; simp
      have := parse_point hL' (by simp [hA, dig48]) (by simp) (by simp [hB, dig48]) (by simp) (by simp; omega)
      rw [List.cons_append, numL_nought, ← List.append_assoc, numL_behind, List.length_append, List.length_singleton, Nat.pow_succ, Nat.mul_comm (10 ^ B.length) 10, quoW_ten (by omega) (by omega) (Nat.pow_pos (by omega)) (by omega)] at this
      exact this
  exact ⟨t1.1, t2.1, t3.1, t1.2, t2.2, t3.2, size_list hP (by simp; omega), size_list hL (by cases more <;> simp <;> omega), size_list hM (by simp; omega)⟩
end Go.Proofs.Ytjmjlhcmicljiaa
