/- The reference's tables: which places, step by step. -/
import Derived.Test.YtkclkhfcmjhogaaDoorMgZ4
namespace Go.Proofs.YtkclkhfcmjhogaaDoor
open Go.RowKit
set_option linter.unusedVariables false

/-- One place is turned. -/
def updM (F : Mat) (i j : Nat) (b : Bool) : Mat := fun r c => if r = i ∧ c = j then b else F r c
/-- By way of the first so many places. -/
def toM (J : Nat) (a b : Mat) : Mat := fun r c => (List.range J).any (fun k => a r k && b k c)
theorem toM_thenM (N : Nat) (a b : Mat) : toM N a b = thenM N a b := rfl
theorem toM_succ (J : Nat) (a b : Mat) (r c : Nat) : toM (J + 1) a b r c = (toM J a b r c || (a r J && b J c)) := by
  unfold toM
  rw [List.range_succ, List.any_append]
  simp
theorem toM_low {N : Nat} {a : Mat} (ha : Fwd N a) (b : Mat) {J r c : Nat} (h : J ≤ r) : toM J a b r c = false := by
  cases e : toM J a b r c with
  | false => rfl
  | true =>
    obtain ⟨k, hk, h2⟩ := any_range.1 e
    have := (ha r k (by simp at h2; exact h2.1)).1
    omega
theorem fwd_no {N : Nat} {b : Mat} (hb : Fwd N b) {r c : Nat} (h : c < r) : b r c = false := by
  cases e : b r c with
  | false => rfl
  | true => have := (hb r c e).1; omega

/-- While one is set behind the other. -/
def pbM (N : Nat) (a b : Mat) (i j k : Nat) : Mat := fun r c => if r < i then toM N a b r c else if r = i then (toM j a b r c || ((a i j && b j c) && decide (c < k))) else false
theorem pbM_start (N : Nat) (a b : Mat) (r c : Nat) : pbM N a b 0 0 0 r c = false := by
  unfold pbM
  rw [if_neg (by omega)]
  split
  · simp [toM]
  · rfl
theorem pbM_put (N : Nat) (a b : Mat) (i j k r c : Nat) (h : a i j = true) : updM (pbM N a b i j k) i k (pbM N a b i j k i k || b j k) r c = pbM N a b i j (k + 1) r c := by
  unfold updM pbM
  by_cases hr : r = i
  · subst hr
    by_cases hc : c = k
    · subst hc
      simp [h]
    · have e : decide (c < k + 1) = decide (c < k) := decide_eq_decide.2 (by omega)
      simp [hc, e]
  · simp [hr]
theorem pbM_next {N : Nat} {a b : Mat} (hb : Fwd N b) {i j k : Nat} (h : N ≤ k ∨ a i j = false) {r c : Nat} (hc : c < N) : pbM N a b i j k r c = pbM N a b i (j + 1) (j + 1) r c := by
  unfold pbM
  split
  · rfl
  · split
    · rename_i hr
      subst hr
      rw [toM_succ]
      have h1 : ((a r (j + 1) && b (j + 1) c) && decide (c < j + 1)) = false := by
        by_cases h2 : c < j + 1
        · rw [fwd_no hb h2]; simp
        · simp [h2]
      rw [h1, Bool.or_false]
      rcases h with h | h
      · rw [decide_eq_true (show c < k by omega), Bool.and_true]
      · rw [h]; simp
    · rfl
theorem pbM_row {N : Nat} {a b : Mat} (ha : Fwd N a) (hb : Fwd N b) {i k r c : Nat} (hi : i < N) : pbM N a b i N N r c = pbM N a b (i + 1) (i + 1) (i + 1) r c := by
  unfold pbM
  by_cases h1 : r < i
  · rw [if_pos h1, if_pos (by omega)]
  · rw [if_neg h1]
    by_cases h2 : r = i
    · subst h2
      rw [if_pos rfl, if_pos (by omega)]
      cases e : a r N with
      | false => simp
      | true =>
        have := (ha r N e).2 hi
        omega
    · rw [if_neg h2]
      by_cases h3 : r = i + 1
      · subst h3
        rw [if_neg (by omega), if_pos rfl, toM_low ha b (by omega)]
        by_cases h4 : c < i + 1
        · rw [fwd_no hb h4]; simp
        · simp [h4]
      · rw [if_neg (by omega), if_neg h3]
theorem pbM_done {N : Nat} {a b : Mat} {j k r c : Nat} (hr : r < N) : pbM N a b N j k r c = thenM N a b r c := by
  unfold pbM
  rw [if_pos hr, toM_thenM]

/-- A star, one step more at its end. -/
theorem star_refl (N : Nat) (f : Mat) (i : Nat) : starM N f i i = true := by
  unfold starM
  cases N with
  | zero => simp [stM, idM]
  | succ N => rw [stM]; simp
theorem star_on {N : Nat} {f : Mat} (hf : Fwd N f) {i k c : Nat} (hi : i < N) (h : f i k = true) (hs : starM N f k c = true) : starM N f i c = true := by
  by_cases e : k = i
  · subst e; exact hs
  · rw [starM_step hf hi, Bool.or_eq_true, any_range]
    exact .inr ⟨k, (hf i k h).2 hi, by simp [h, e, hs]⟩
theorem star_cases {N : Nat} {f : Mat} (hf : Fwd N f) {i c : Nat} (hi : i < N) (h : starM N f i c = true) : c = i ∨ ∃ k, i < k ∧ k < N ∧ f i k = true ∧ starM N f k c = true := by
  rw [starM_step hf hi, Bool.or_eq_true, any_range] at h
  rcases h with h | ⟨k, hk, h⟩
  · exact .inl (by simpa using h)
  · simp only [Bool.and_eq_true, Bool.not_eq_true', beq_eq_false_iff_ne] at h
    have := (hf i k h.1.1).1
    exact .inr ⟨k, by omega, hk, h.1.1, h.2⟩
theorem star_end {N : Nat} {f : Mat} (hf : Fwd N f) : ∀ (d i j c : Nat), N ≤ i + d → i < N → starM N f i j = true → f j c = true → starM N f i c = true
  | 0, i, j, c, h, hi, _, _ => by omega
  | d + 1, i, j, c, h, hi, h1, h2 => by
    rcases star_cases hf hi h1 with rfl | ⟨k, hk, hkN, h3, h4⟩
    · exact star_on hf hi h2 (star_refl N f c)
    · exact star_on hf hi h3 (star_end hf d k j c (by omega) hkN h4 h2)
theorem star_last {N : Nat} {f : Mat} (hf : Fwd N f) : ∀ (d i c : Nat), N ≤ i + d → i < N → starM N f i c = true → c = i ∨ ∃ j, j < c ∧ starM N f i j = true ∧ f j c = true
  | 0, i, c, h, hi, _ => by omega
  | d + 1, i, c, h, hi, h1 => by
    rcases star_cases hf hi h1 with rfl | ⟨k, hk, hkN, h3, h4⟩
    · exact .inl rfl
    · rcases star_last hf d k c (by omega) hkN h4 with rfl | ⟨j, h5, h6, h7⟩
      · exact .inr ⟨i, hk, star_refl N f i, h3⟩
      · exact .inr ⟨j, h5, star_on hf hi h3 h6, h7⟩
/-- A row of a star, its steps out of the first so many places done. -/
def srow (N : Nat) (x : Mat) (J i c : Nat) : Bool := (c == i) || (List.range J).any (fun j => starM N x i j && (x j c && decide (j < c)))
theorem srow_succ (N : Nat) (x : Mat) (J i c : Nat) : srow N x (J + 1) i c = (srow N x J i c || (starM N x i J && (x J c && decide (J < c)))) := by
  unfold srow
  rw [List.range_succ, List.any_append, Bool.or_assoc]
  simp
theorem srow_star {N : Nat} {x : Mat} (hx : Fwd N x) {J i c : Nat} (hi : i < N) (h : c ≤ J) : srow N x J i c = starM N x i c := by
  rw [Bool.eq_iff_iff]
  unfold srow
  rw [Bool.or_eq_true, any_range]
  constructor
  · rintro (h1 | ⟨j, hj, h1⟩)
    · rw [show c = i from by simpa using h1]; exact star_refl N x i
    · simp only [Bool.and_eq_true, decide_eq_true_eq] at h1
      exact star_end hx N i j c (by omega) hi h1.1 h1.2.1
  · intro h1
    rcases star_last hx N i c (by omega) hi h1 with rfl | ⟨j, h2, h3, h4⟩
    · exact .inl (by simp)
    · exact .inr ⟨j, by omega, by simp [h2, h3, h4]⟩
theorem srow_low {N : Nat} {x : Mat} (hx : Fwd N x) {J i c : Nat} (h : J ≤ i) : srow N x J i c = (c == i) := by
  unfold srow
  cases e : (List.range J).any (fun j => starM N x i j && (x j c && decide (j < c))) with
  | false => simp
  | true =>
    obtain ⟨j, hj, h1⟩ := any_range.1 e
    simp only [Bool.and_eq_true] at h1
    have := (starM_fwd hx i j h1.1).1
    omega

/-- While one is set behind itself. -/
def psM (N : Nat) (x : Mat) (i j k : Nat) : Mat := fun r c => if r < i then starM N x r c else if r = i then (srow N x j i c || ((starM N x i j && (x j c && decide (j < c))) && decide (c < k))) else (c == r)
theorem psM_start (N : Nat) (x : Mat) (r c : Nat) : psM N x 0 0 1 r c = idM r c := by
  unfold psM idM
  rw [if_neg (by omega)]
  split
  · rename_i h
    subst h
    unfold srow
    by_cases h2 : 0 < c
    · have : ¬ c < 1 := by omega
      simp [this]
    · simp [h2]
  · rfl
theorem psM_at {N : Nat} {x : Mat} (hx : Fwd N x) {i j k : Nat} (hi : i < N) : psM N x i j k i j = starM N x i j := by
  unfold psM
  rw [if_neg (by omega), if_pos rfl, srow_star hx hi (Nat.le_refl j)]
  simp
theorem psM_put {N : Nat} {x : Mat} {i j k r c : Nat} (hk : j < k) (h : starM N x i j = true) : updM (psM N x i j k) i k (psM N x i j k i k || x j k) r c = psM N x i j (k + 1) r c := by
  unfold updM psM
  by_cases hr : r = i
  · subst hr
    by_cases hc : c = k
    · subst hc
      simp [h, hk]
    · have e : decide (c < k + 1) = decide (c < k) := decide_eq_decide.2 (by omega)
      simp [hc, e]
  · simp [hr]
theorem psM_next {N : Nat} {x : Mat} {i j k : Nat} (h : N ≤ k ∨ starM N x i j = false) {r c : Nat} (hc : c < N) : psM N x i j k r c = psM N x i (j + 1) (j + 1 + 1) r c := by
  unfold psM
  split
  · rfl
  · split
    · rw [srow_succ]
      have h1 : ((starM N x i (j + 1) && (x (j + 1) c && decide (j + 1 < c))) && decide (c < j + 1 + 1)) = false := by
        by_cases h2 : j + 1 < c
        · have : ¬ c < j + 1 + 1 := by omega
          simp [this]
        · simp [h2]
      rw [h1, Bool.or_false]
      rcases h with h | h
      · rw [decide_eq_true (show c < k by omega), Bool.and_true]
      · rw [h]; simp
    · rfl
theorem psM_row {N : Nat} {x : Mat} (hx : Fwd N x) {i k r c : Nat} (hi : i < N) (hc : c < N) : psM N x i N k r c = psM N x (i + 1) (i + 1) (i + 1 + 1) r c := by
  unfold psM
  by_cases h1 : r < i
  · rw [if_pos h1, if_pos (by omega)]
  · rw [if_neg h1]
    by_cases h2 : r = i
    · subst h2
      rw [if_pos rfl, if_pos (by omega), srow_star hx hi (by omega)]
      have : ¬ N < c := by omega
      simp [this]
    · rw [if_neg h2]
      by_cases h3 : r = i + 1
      · subst h3
        rw [if_neg (by omega), if_pos rfl, srow_low hx (by omega)]
        by_cases h2 : i + 1 < c
        · have : ¬ c < i + 1 + 1 := by omega
          simp [this]
        · simp [h2]
      · rw [if_neg (by omega), if_neg h3]
theorem psM_done {N : Nat} {x : Mat} {j k r c : Nat} (hr : r < N) : psM N x N j k r c = starM N x r c := by
  unfold psM
  rw [if_pos hr]

/-- While one or the other is put in. -/
def poM (t x : Mat) (i j : Nat) : Mat := fun r c => if r < i ∨ (r = i ∧ c < j) then (t r c || x r c) else t r c
theorem poM_start (t x : Mat) (r c : Nat) : poM t x 0 0 r c = t r c := by
  unfold poM
  rw [if_neg (by omega)]
theorem poM_put (t x : Mat) (i j r c : Nat) : updM (poM t x i j) i j (poM t x i j i j || x i j) r c = poM t x i (j + 1) r c := by
  unfold updM poM
  by_cases hr : r = i
  · subst hr
    by_cases hc : c = j
    · subst hc
      rw [if_pos ⟨rfl, rfl⟩, if_neg (by omega), if_pos (by omega)]
    · rw [if_neg (by omega)]
      by_cases h : c < j
      · rw [if_pos (by omega), if_pos (by omega)]
      · rw [if_neg (by omega), if_neg (by omega)]
  · rw [if_neg (by omega)]
    by_cases h : r < i
    · rw [if_pos (by omega), if_pos (by omega)]
    · rw [if_neg (by omega), if_neg (by omega)]
theorem poM_row {N : Nat} {t x : Mat} (hx : Fwd N x) {i r c : Nat} (hc : c < N) : poM t x i N r c = poM t x (i + 1) (i + 1) r c := by
  unfold poM
  by_cases h1 : r < i + 1
  · rw [if_pos (by omega), if_pos (by omega)]
  · rw [if_neg (by omega)]
    by_cases h2 : r = i + 1 ∧ c < i + 1
    · rw [if_pos (by omega), fwd_no hx (by omega)]; simp
    · rw [if_neg (by omega)]
theorem poM_done {N : Nat} {t x : Mat} {j r c : Nat} (hr : r < N) : poM t x N j r c = orM t x r c := by
  unfold poM orM
  rw [if_pos (.inl hr)]

/-- While the places themselves are put in. -/
def pdM (x : Mat) (i : Nat) : Mat := fun r c => x r c || (c == r && decide (r < i))
theorem pdM_start (x : Mat) (r c : Nat) : pdM x 0 r c = x r c := by simp [pdM]
theorem pdM_put (x : Mat) (i r c : Nat) : updM (pdM x i) i i true r c = pdM x (i + 1) r c := by
  unfold updM pdM
  by_cases h : r = i
  · subst h
    by_cases hc : c = r
    · subst hc; simp
    · simp [hc]
  · have e : decide (r < i + 1) = decide (r < i) := decide_eq_decide.2 (by omega)
    simp [h, e]
theorem pdM_done {N : Nat} {x : Mat} {r c : Nat} (hr : r < N) : pdM x N r c = orM x idM r c := by simp [pdM, orM, idM, hr]

/-- While the steps over one byte are put in. -/
def pcM (p : Nat → Bool) (bt : Nat → Nat) (i : Nat) : Mat := fun r c => decide (r < i) && (p (bt r) && (c == r + 1))
theorem pcM_start (p : Nat → Bool) (bt : Nat → Nat) (r c : Nat) : pcM p bt 0 r c = false := by simp [pcM]
theorem pcM_put (p : Nat → Bool) (bt : Nat → Nat) (i r c : Nat) : updM (pcM p bt i) i (i + 1) (p (bt i)) r c = pcM p bt (i + 1) r c := by
  unfold updM pcM
  by_cases h : r = i
  · subst h
    by_cases hc : c = r + 1
    · subst hc; simp
    · simp [hc]
  · have e : decide (r < i + 1) = decide (r < i) := decide_eq_decide.2 (by omega)
    simp [h, e]
theorem pcM_done (p : Nat → Bool) (bt : Nat → Nat) (n : Nat) : pcM p bt n = setM p bt n := rfl

/-- Nothing, and then one: that one. -/
theorem idM_then {N : Nat} {x : Mat} {r c : Nat} (hr : r < N) : thenM N idM x r c = x r c := by
  rw [Bool.eq_iff_iff, thenM_true]
  constructor
  · rintro ⟨k, hk, h1, h2⟩
    rw [show k = r from by simpa [idM] using h1] at h2
    exact h2
  · intro h
    exact ⟨r, hr, by simp [idM], h⟩
theorem thenM_congr {N : Nat} {f f' g g' : Mat} (hf : ∀ r c, r < N → c < N → f r c = f' r c) (hg : ∀ r c, r < N → c < N → g r c = g' r c) {r c : Nat} (hr : r < N) (hc : c < N) : thenM N f g r c = thenM N f' g' r c := by
  rw [Bool.eq_iff_iff, thenM_true, thenM_true]
  constructor
  · rintro ⟨k, hk, h1, h2⟩
    exact ⟨k, hk, by rw [← hf r k hr hk]; exact h1, by rw [← hg k c hk hc]; exact h2⟩
  · rintro ⟨k, hk, h1, h2⟩
    exact ⟨k, hk, by rw [hf r k hr hk]; exact h1, by rw [hg k c hk hc]; exact h2⟩
theorem foldl_then {N : Nat} : ∀ (l : List Mat) (f f' : Mat), (∀ r c, r < N → c < N → f r c = f' r c) → ∀ r c, r < N → c < N → l.foldl (thenM N) f r c = l.foldl (thenM N) f' r c
  | [], f, f', h, r, c, hr, hc => h r c hr hc
  | x :: l, f, f', h, r, c, hr, hc => foldl_then l _ _ (fun r c hr hc => thenM_congr h (fun _ _ _ _ => rfl) hr hc) r c hr hc
theorem foldl_or : ∀ (l : List Mat) (f f' : Mat), (∀ r c, f r c = f' r c) → ∀ r c, l.foldl orM f r c = l.foldl orM f' r c
  | [], f, f', h, r, c => h r c
  | x :: l, f, f', h, r, c => foldl_or l _ _ (fun r c => by unfold orM; rw [h]) r c

end Go.Proofs.YtkclkhfcmjhogaaDoor
