/- Bytes of a set in their order. -/
import Derived.Test.YtkclkhfcmjhogaaDoorR2
import Derived.Test.YtkclkhfcmjhogaaDoorM2
namespace Go.Proofs.YtkclkhfcmjhogaaDoor
set_option linter.unusedVariables false

theorem upl_pre (p : Nat → Bool) {m n : Nat} (h : m ≤ n) : ∃ t, upl p n = upl p m ++ t := by
  induction n with
  | zero => obtain rfl : m = 0 := by omega
            exact ⟨[], by simp⟩
  | succ n ih =>
    by_cases e : m = n + 1
    · subst e; exact ⟨[], by simp⟩
    · obtain ⟨t, ht⟩ := ih (by omega)
      cases hp : p n with
      | true => exact ⟨t ++ [n], by rw [upl_yes hp, ht, List.append_assoc]⟩
      | false => exact ⟨t, by rw [upl_no hp, ht]⟩
theorem upl_mono (p : Nat → Bool) {m n : Nat} (h : m ≤ n) : (upl p m).length ≤ (upl p n).length := by
  obtain ⟨t, ht⟩ := upl_pre p h
  rw [ht, List.length_append]; omega
theorem upl_gap {p : Nat → Bool} {m a c : Nat} (h : (upl p a).length ≤ (upl p m).length) (h1 : m ≤ c) (h2 : c < a) : p c = false := by
  cases hp : p c with
  | false => rfl
  | true =>
    have e1 := upl_mono p h1
    have e2 := upl_mono p (show c + 1 ≤ a by omega)
    rw [upl_yes hp, List.length_append] at e2
    simp at e2; omega
/-- The byte at i. -/
theorem upl_at {p : Nat → Bool} : ∀ {n i : Nat} (h : i < (upl p n).length), (upl p n)[i] < n ∧ p (upl p n)[i] = true ∧ (upl p (upl p n)[i]).length = i := by
  intro n
  induction n with
  | zero => intro i h; simp [upl] at h
  | succ n ih =>
    intro i h
    cases hp : p n with
    | false =>
      have e := upl_no hp
      have h' : i < (upl p n).length := by rw [e] at h; exact h
      have hx : (upl p (n + 1))[i] = (upl p n)[i] := by simp only [e]
      rw [hx]
      have := ih h'
      exact ⟨by omega, this.2⟩
    | true =>
      have e := upl_yes hp
      have hl : i < (upl p n).length + 1 := by rw [e, List.length_append] at h; simpa using h
      by_cases g : i < (upl p n).length
      · have hx : (upl p (n + 1))[i] = (upl p n)[i] := by simp only [e]; exact List.getElem_append_left g
        rw [hx]
        have := ih g
        exact ⟨by omega, this.2⟩
      · obtain rfl : i = (upl p n).length := by omega
        have hx : (upl p (n + 1))[(upl p n).length] = n := by simp only [e]; simp
        rw [hx]
        exact ⟨by omega, hp, rfl⟩
/-- Where a byte stands. -/
theorem upl_pos {p : Nat → Bool} {n a : Nat} (ha : a < n) (hp : p a = true) : ∃ h : (upl p a).length < (upl p n).length, (upl p n)[(upl p a).length] = a := by
  obtain ⟨t, ht⟩ := upl_pre p (show a + 1 ≤ n by omega)
  rw [upl_yes hp, List.append_assoc] at ht
  have hl : (upl p a).length < (upl p n).length := by rw [ht]; simp
  refine ⟨hl, ?_⟩
  simp only [ht]
  simp
def ub (p : Nat → Bool) (i : Nat) : Nat := (upl p 256).getD i 0
theorem ub_at {p : Nat → Bool} {i : Nat} (h : i < (upl p 256).length) : ub p i < 256 ∧ p (ub p i) = true ∧ (upl p (ub p i)).length = i ∧ (upl p (ub p i + 1)).length = i + 1 := by
  have := upl_at h
  have e : ub p i = (upl p 256)[i] := by simp [ub, List.getD, h]
  rw [e]
  refine ⟨this.1, this.2.1, this.2.2, ?_⟩
  rw [upl_yes this.2.1, List.length_append, this.2.2]; rfl
theorem ub_pos {p : Nat → Bool} {a : Nat} (ha : a < 256) (hp : p a = true) : (upl p a).length < (upl p 256).length ∧ ub p (upl p a).length = a := by
  obtain ⟨h, e⟩ := upl_pos ha hp
  exact ⟨h, by simp [ub, List.getD, h, e]⟩
theorem ub_lt {p : Nat → Bool} {i : Nat} (h : i + 1 < (upl p 256).length) : ub p i + 1 ≤ ub p (i + 1) := by
  have h1 := ub_at (show i < (upl p 256).length by omega)
  have h2 := ub_at h
  by_cases g : ub p i + 1 ≤ ub p (i + 1)
  · exact g
  · have := upl_mono p (show ub p (i + 1) ≤ ub p i by omega)
    omega

/-- What is shown below the byte i: its runs, and what their text is. -/
structure Up (p : Nat → Bool) (i m : Nat) (R : List (Nat × Nat)) : Prop where
  len : (upl p m).length = i
  le : m ≤ 256
  spec : ∀ L, Runs p m L → Runs p 0 (R ++ L)
/-- A run from the byte at i to the byte at k. -/
structure Rpu (p : Nat → Bool) (i k : Nat) : Prop where
  le : i ≤ k
  lt : k < (upl p 256).length
  at_ : ub p k = ub p i + (k - i)
  all : ∀ c, ub p i ≤ c → c ≤ ub p k → p c = true
theorem Rpu.start {p : Nat → Bool} {i : Nat} (h : i < (upl p 256).length) : Rpu p i i :=
  ⟨by omega, h, by omega, fun c h1 h2 => by obtain rfl : c = ub p i := by omega
                                            exact (ub_at h).2.1⟩
theorem Rpu.next {p : Nat → Bool} {i k : Nat} (r : Rpu p i k) (h : k + 1 < (upl p 256).length) (e : ub p (k + 1) = ub p k + 1) : Rpu p i (k + 1) :=
  ⟨by have := r.le; omega, h, by have := r.le; have := r.at_; omega, fun c h1 h2 => by
    by_cases g : c ≤ ub p k
    · exact r.all c h1 g
    · obtain rfl : c = ub p (k + 1) := by omega
      exact (ub_at h).2.1⟩
/-- A run that ends. -/
theorem Rpu.stop {p : Nat → Bool} {i k m : Nat} {R : List (Nat × Nat)} (r : Rpu p i k) (h : k + 1 < (upl p 256).length → ub p (k + 1) ≠ ub p k + 1) (u : Up p i m R) : Up p (k + 1) (ub p k + 1) (R ++ [(ub p i, ub p k)]) := by
  have hi : i < (upl p 256).length := Nat.lt_of_le_of_lt r.le r.lt
  have h1 := ub_at hi
  have h2 := ub_at r.lt
  refine ⟨h2.2.2.2, by omega, fun L hL => ?_⟩
  rw [List.append_assoc]
  refine u.spec _ ?_
  have hm : m ≤ ub p i := by
    by_cases g : m ≤ ub p i
    · exact g
    · have := upl_mono p (show ub p i + 1 ≤ m by omega)
      have := u.len
      omega
  refine ⟨hm, by have := r.at_; omega, h2.1, fun c c1 c2 => upl_gap (by rw [u.len, h1.2.2.1]; omega) c1 c2, r.all, fun hb => ?_, hL⟩
  cases hp : p (ub p k + 1) with
  | false => rfl
  | true =>
    obtain ⟨e1, e2⟩ := ub_pos hb hp
    rw [h2.2.2.2] at e1 e2
    exact absurd e2 (h e1)
theorem Up.end_ {p : Nat → Bool} {i m : Nat} {R : List (Nat × Nat)} (u : Up p i m R) (h : i = (upl p 256).length) : Runs p 0 R := by
  have := u.spec [] (fun b b1 b2 => upl_gap (a := 256) (by rw [u.len, h]; omega) b1 b2)
  rwa [List.append_nil] at this
theorem Up.zero (p : Nat → Bool) : Up p 0 0 [] := ⟨rfl, by omega, fun L h => h⟩

theorem runs_len0 {p : Nat → Bool} (h : (upl p 256).length = 0) : Runs p 0 [] := fun b b1 b2 => upl_gap (a := 256) (m := 0) (by omega) b1 b2
theorem runs_len1 {p : Nat → Bool} (h : (upl p 256).length = 1) : Runs p 0 [(ub p 0, ub p 0)] :=
  (Rpu.stop (Rpu.start (by omega)) (fun g => by omega) (Up.zero p)).end_ (by omega)
theorem upl_full {p : Nat → Bool} (h : (upl p 256).length = 256) : ∀ c, c < 256 → p c = true := by
  intro c hc
  have e : (List.filter p (List.range 256)).length = (List.range 256).length := by rw [List.length_range]; exact h
  rw [List.length_filter_eq_length_iff] at e
  exact e c (List.mem_range.2 hc)
theorem runs_len256 {p : Nat → Bool} (h : (upl p 256).length = 256) : Runs p 0 [(0, 255)] :=
  ⟨by omega, by omega, by omega, fun c _ h => by omega, fun c _ h2 => upl_full h c (by omega), fun h => by omega, fun b h1 h2 => by omega⟩
/-- How it is shown where it is none of the three. -/
theorem shw_long {p : Nat → Bool} {R : List (Nat × Nat)} (r : Runs p 0 R) (h0 : (upl p 256).length ≠ 0) (h1 : (upl p 256).length ≠ 1) (h2 : (upl p 256).length ≠ 256) : shw R = 91 :: (R.flatMap rtx ++ [93]) := by
  match R, r with
  | [], r =>
    have := ub_at (show 0 < (upl p 256).length by omega)
    have e := r (ub p 0) (by omega) this.1
    rw [this.2.1] at e; cases e
  | [(a, b)], r =>
    unfold shw
    simp only
    obtain ⟨r1, r2, r3, r4, r5, r6, r7⟩ := r
    have a0 := ub_at (show 0 < (upl p 256).length by omega)
    have a1 := ub_at (show 1 < (upl p 256).length by omega)
    have a2 := ub_lt (show 0 + 1 < (upl p 256).length by omega)
    rw [if_neg, if_neg]
    · simp
    · rintro ⟨rfl, rfl⟩
      apply h2
      have : upl p 256 = List.range 256 := by
        unfold upl
        rw [List.filter_eq_self]
        intro c hc
        exact r5 c (by omega) (by have := List.mem_range.1 hc; omega)
      rw [this, List.length_range]
    · rintro rfl
      have hin : ∀ c, c < 256 → p c = true → c = a := by
        intro c hc hp
        rcases Nat.lt_trichotomy c a with g | g | g
        · rw [r4 c (by omega) g] at hp; cases hp
        · exact g
        · rw [r7 c (by omega) hc] at hp; cases hp
      have e0 := hin _ a0.1 a0.2.1
      have e1 := hin _ a1.1 a1.2.1
      simp at a2
      omega
  | (a, b) :: s :: l, r => simp [shw]
theorem rtx_of {a k : Nat} : rtx (a, a + k) = if k = 0 then shn a else if k = 1 then shn a ++ shn (a + k) else shn a ++ 45 :: shn (a + k) := by
  unfold rtx
  simp only
  by_cases h : k = 0
  · rw [if_pos h, if_pos (by omega)]
  · rw [if_neg h, if_neg (by omega)]
    by_cases h2 : k = 1
    · rw [if_pos h2, if_pos (by omega)]
    · rw [if_neg h2, if_neg (by omega)]

end Go.Proofs.YtkclkhfcmjhogaaDoor
