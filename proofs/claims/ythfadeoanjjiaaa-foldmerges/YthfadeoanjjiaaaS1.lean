/- Rows of numbers as functions of the place: exchanges, runs that rise, what is rotated. -/
import Derived.Test.YthfadeoanjjiaaaFl
namespace Go.Proofs.Ythfadeoanjjiaaa.Srt

/-- Two places exchanged. -/
def sw (f : Nat → Nat) (i j : Nat) : Nat → Nat := fun k => if k = i then f j else if k = j then f i else f k

/-- What exchanges within [a, b) make of f: all that holds of f, and goes on holding behind each exchange, holds of it. -/
def Sw (a b : Nat) (f g : Nat → Nat) : Prop := ∀ P : (Nat → Nat) → Prop, P f → (∀ h i j, P h → a ≤ i → i < b → a ≤ j → j < b → P (sw h i j)) → P g
theorem Sw.refl {a b : Nat} {f : Nat → Nat} : Sw a b f f := fun _ h _ => h
theorem Sw.step {a b i j : Nat} {f g : Nat → Nat} (h : Sw a b f g) (h1 : a ≤ i) (h2 : i < b) (h3 : a ≤ j) (h4 : j < b) : Sw a b f (sw g i j) := fun P p s => s g i j (h P p s) h1 h2 h3 h4

theorem Sw.trans {a b : Nat} {f g r : Nat → Nat} (h : Sw a b f g) (k : Sw a b g r) : Sw a b f r := fun P p s => k P (h P p s) s
theorem Sw.wide {a b a' b' : Nat} {f g : Nat → Nat} (h : Sw a b f g) (ha : a' ≤ a) (hb : b ≤ b') : Sw a' b' f g := fun P p s => h P p (fun r i j q h1 h2 h3 h4 => s r i j q (by omega) (by omega) (by omega) (by omega))
theorem Sw.out {a b : Nat} {f g : Nat → Nat} (h : Sw a b f g) {k : Nat} (hk : k < a ∨ b ≤ k) : g k = f k := by
  refine h (fun g => g k = f k) rfl ?_
  intro r i j ih h1 h2 h3 h4
  show sw r i j k = f k
  unfold sw
  rw [if_neg (by omega), if_neg (by omega)]
  exact ih
theorem Sw.all {a b : Nat} {f g : Nat → Nat} (h : Sw a b f g) {P : Nat → Prop} (hp : ∀ i, a ≤ i → i < b → P (f i)) : ∀ i, a ≤ i → i < b → P (g i) := by
  refine h (fun g => ∀ i, a ≤ i → i < b → P (g i)) hp ?_
  intro r p q ih h1 h2 h3 h4 i hi hb
  show P (sw r p q i)
  unfold sw
  split
  · exact ih _ h3 h4
  · split
    · exact ih _ h1 h2
    · exact ih _ hi hb
theorem Sw.everywhere {a b : Nat} {f g : Nat → Nat} (h : Sw a b f g) {P : Nat → Prop} (hp : ∀ i, P (f i)) : ∀ i, P (g i) := by
  refine h (fun g => ∀ i, P (g i)) hp ?_
  intro r p q ih _ _ _ _ i
  show P (sw r p q i)
  unfold sw
  split
  · exact ih _
  · split
    · exact ih _
    · exact ih _

/-- The first n of f. -/
def row (f : Nat → Nat) (n : Nat) : List Nat := (List.range n).map f
theorem row_length (f : Nat → Nat) (n : Nat) : (row f n).length = n := by simp [row]
theorem row_get (f : Nat → Nat) (n i : Nat) (h : i < (row f n).length) : (row f n)[i] = f i := by simp [row]

theorem perm_sw (n : Nat) (f : Nat → Nat) (i j : Nat) (hi : i < n) (hj : j < n) : (row (sw f i j) n).Perm (row f n) := by
  have h := Array.swap_perm (xs := (row f n).toArray) (i := i) (j := j) (by simp [row_length, hi]) (by simp [row_length, hj])
  rw [Array.perm_iff_toList_perm] at h
  refine List.Perm.trans (List.Perm.of_eq ?_) h
  apply List.ext_getElem
  · simp [row_length]
  · intro k h1 h2
    rw [row_length] at h1
    rw [row_get, Array.getElem_toList, Array.getElem_swap]
    simp only [List.getElem_toArray, row_get]
    unfold sw
    rfl
theorem Sw.perm {n : Nat} {f g : Nat → Nat} (h : Sw 0 n f g) : (row g n).Perm (row f n) := by
  refine h (fun g => (row g n).Perm (row f n)) (List.Perm.refl _) ?_
  intro r i j ih h1 h2 h3 h4
  exact (perm_sw _ _ _ _ h2 h4).trans ih

/-- From a on, below b, f rises by K. -/
def Up (K : Nat → Nat) (f : Nat → Nat) (a b : Nat) : Prop := ∀ p q, a ≤ p → p < q → q < b → K (f p) ≤ K (f q)
theorem Up.le {K f : Nat → Nat} {a b : Nat} (h : Up K f a b) {p q : Nat} (h1 : a ≤ p) (h2 : p ≤ q) (h3 : q < b) : K (f p) ≤ K (f q) := by
  rcases Nat.lt_or_eq_of_le h2 with h | h
  · exact (‹Up K f a b›) p q h1 h h3
  · subst h; exact Nat.le_refl _
theorem Up.sub {K f : Nat → Nat} {a b c d : Nat} (h : Up K f a b) (h1 : a ≤ c) (h2 : d ≤ b) : Up K f c d := fun p q x y z => h p q (by omega) y (by omega)
theorem Up.short {K f : Nat → Nat} {a b : Nat} (h : b ≤ a + 1) : Up K f a b := fun p q x y z => by omega

/-- While one is sunk to where it belongs: all but the pairs that end at j. -/
def Ins (K : Nat → Nat) (f : Nat → Nat) (a i j : Nat) : Prop := ∀ p q, a ≤ p → p < q → q ≤ i → q ≠ j → K (f p) ≤ K (f q)
theorem Ins.start {K f : Nat → Nat} {a i : Nat} (h : Up K f a i) : Ins K f a i i := fun p q x y z u => h p q x y (by omega)
theorem Ins.stop {K f : Nat → Nat} {a i j : Nat} (h : Ins K f a i j) (g : j ≤ a ∨ K (f (j - 1)) ≤ K (f j)) : Up K f a (i + 1) := by
  intro p q x y z
  by_cases e : q = j
  · subst e
    rcases g with g | g
    · omega
    · by_cases e2 : p = q - 1
      · subst e2; exact g
      · exact Nat.le_trans (h p (q - 1) x (by omega) (by omega) (by omega)) g
  · exact h p q x y (by omega) e
theorem Ins.step {K f : Nat → Nat} {a i j : Nat} (h : Ins K f a i j) (ha : a < j) (hi : j ≤ i) (g : K (f j) < K (f (j - 1))) : Ins K (sw f j (j - 1)) a i (j - 1) := by
  intro p q x y z u
  unfold sw
  by_cases e1 : q = j
  · rw [if_pos e1]
    by_cases e2 : p = j
    · omega
    · rw [if_neg e2]
      by_cases e3 : p = j - 1
      · rw [if_pos e3]; omega
      · rw [if_neg e3]
        exact h p (j - 1) x (by omega) (by omega) (by omega)
  · rw [if_neg e1, if_neg u]
    by_cases e2 : p = j
    · rw [if_pos e2]
      exact h (j - 1) q (by omega) (by omega) z e1
    · rw [if_neg e2]
      by_cases e3 : p = j - 1
      · rw [if_pos e3]
        exact h j q (by omega) (by omega) z e1
      · rw [if_neg e3]
        exact h p q x y z e1

/-- [a, m) and [m, b) exchanged as wholes. -/
def rot (a m b : Nat) (f : Nat → Nat) : Nat → Nat := fun k => if a ≤ k ∧ k < a + (b - m) then f (k + (m - a)) else if a + (b - m) ≤ k ∧ k < b then f (k - (b - m)) else f k
/-- n places from a on exchanged with n from b on. -/
def swr (a b n : Nat) (f : Nat → Nat) : Nat → Nat := fun k => if a ≤ k ∧ k < a + n then f (k - a + b) else if b ≤ k ∧ k < b + n then f (k - b + a) else f k

theorem swr_zero (a b : Nat) (f : Nat → Nat) : swr a b 0 f = f := by
  funext k; unfold swr
  rw [if_neg (by omega), if_neg (by omega)]
theorem swr_succ (a b n : Nat) (f : Nat → Nat) (h : a + n < b) : swr a b (n + 1) f = sw (swr a b n f) (a + n) (b + n) := by
  funext k; unfold sw swr
  repeat' split
  all_goals first | rfl | (congr 1; omega) | (exfalso; omega)
theorem swr_sw {a b n c d : Nat} (f : Nat → Nat) (h : a + n ≤ b) (hc : c ≤ a) (hd : b + n ≤ d) : Sw c d f (swr a b n f) := by
  induction n with
  | zero => rw [swr_zero]; exact .refl
  | succ n ih =>
    rw [swr_succ _ _ _ _ (by omega)]
    exact .step (ih (by omega) (by omega)) (by omega) (by omega) (by omega) (by omega)
theorem rot_front {m i j : Nat} (f : Nat → Nat) (hi : i ≤ m) (h : j < i) : rot (m - (i - j)) m (m + j) (swr (m - i) m j f) = rot (m - i) m (m + j) f := by
  funext k; unfold rot swr
  repeat' split
  all_goals first | rfl | (congr 1; omega) | (exfalso; omega)
theorem rot_back {m i j : Nat} (f : Nat → Nat) (hi : i ≤ m) (h : i < j) : rot (m - i) m (m + (j - i)) (swr (m - i) (m + j - i) i f) = rot (m - i) m (m + j) f := by
  funext k; unfold rot swr
  repeat' split
  all_goals first | rfl | (congr 1; omega) | (exfalso; omega)
theorem rot_last {m i : Nat} (f : Nat → Nat) (hi : i ≤ m) : swr (m - i) m i f = rot (m - i) m (m + i) f := by
  funext k; unfold rot swr
  repeat' split
  all_goals first | rfl | (congr 1; omega) | (exfalso; omega)
theorem rot_none_left (a b : Nat) (f : Nat → Nat) : rot a a b f = f := by
  funext k; unfold rot
  repeat' split
  all_goals first | rfl | (congr 1; omega) | (exfalso; omega)
theorem rot_none_right (a m : Nat) (f : Nat → Nat) : rot a m m f = f := by
  funext k; unfold rot
  repeat' split
  all_goals first | rfl | (congr 1; omega) | (exfalso; omega)
theorem rot_up {a k : Nat} (f : Nat → Nat) (h : a ≤ k) : rot a (a + 1) (k + 2) f = sw (rot a (a + 1) (k + 1) f) k (k + 1) := by
  funext k; unfold sw rot
  repeat' split
  all_goals first | rfl | (congr 1; omega) | (exfalso; omega)
theorem rot_down {m k : Nat} (f : Nat → Nat) (h : k < m) : rot k m (m + 1) f = sw (rot (k + 1) m (m + 1) f) (k + 1) k := by
  funext k; unfold sw rot
  repeat' split
  all_goals first | rfl | (congr 1; omega) | (exfalso; omega)

/-- A run of one sunk into the run behind. -/
theorem merge_up {K f : Nat → Nat} {a b i : Nat} (h : Up K f (a + 1) b) (h1 : a + 1 ≤ i) (h2 : i ≤ b) (lo : ∀ k, a + 1 ≤ k → k < i → K (f k) ≤ K (f a)) (hi : ∀ k, i ≤ k → k < b → K (f a) ≤ K (f k)) : Up K (rot a (a + 1) i f) a b := by
  intro p q x y z
  unfold rot
  repeat' split
  all_goals first | (exfalso; omega) | exact h _ _ (by omega) (by omega) (by omega) | (rw [show p - (i - (a + 1)) = a from by omega]; exact hi _ (by omega) (by omega)) | (rw [show q - (i - (a + 1)) = a from by omega]; exact lo _ (by omega) (by omega))
/-- A run of one sunk into the run ahead. -/
theorem merge_down {K f : Nat → Nat} {a m i : Nat} (h : Up K f a m) (h1 : a ≤ i) (h2 : i ≤ m) (lo : ∀ k, a ≤ k → k < i → K (f k) ≤ K (f m)) (hi : ∀ k, i ≤ k → k < m → K (f m) ≤ K (f k)) : Up K (rot i m (m + 1) f) a (m + 1) := by
  intro p q x y z
  unfold rot
  repeat' split
  all_goals first | (exfalso; omega) | exact h _ _ (by omega) (by omega) (by omega) | (rw [show p + (m - i) = m from by omega]; exact hi _ (by omega) (by omega)) | (rw [show q + (m - i) = m from by omega]; exact lo _ (by omega) (by omega))

/-- Where the cut of the great merge lies. -/
structure Cut (K f : Nat → Nat) (a m b mid s s0 r0 : Nat) : Prop where
  s0le : s0 ≤ s
  sle : s ≤ r0
  kind : (m > mid ∧ s0 = mid + m - b ∧ r0 = mid) ∨ (m ≤ mid ∧ s0 = a ∧ r0 = m)
  lo : s0 < s → K (f (s - 1)) ≤ K (f (mid + m - s))
  hi : s < r0 → K (f (mid + m - 1 - s)) ≤ K (f s)

theorem Cut.apart {K f : Nat → Nat} {a m b mid s s0 r0 : Nat} (c : Cut K f a m b mid s s0 r0) (hm : mid = (a + b) / 2) (ham : a < m) (hmb : m < b) (h1 : Up K f a m) (h2 : Up K f m b) :
    Up K (rot s m (mid + m - s) f) a s ∧ Up K (rot s m (mid + m - s) f) s mid ∧ Up K (rot s m (mid + m - s) f) mid (mid + m - s) ∧ Up K (rot s m (mid + m - s) f) (mid + m - s) b ∧
    (∀ p q, a ≤ p → p < mid → mid ≤ q → q < b → K (rot s m (mid + m - s) f p) ≤ K (rot s m (mid + m - s) f q)) ∧ a ≤ s ∧ s ≤ mid ∧ s ≤ m ∧ m ≤ mid + m - s ∧ mid + m - s ≤ b ∧ mid ≤ mid + m - s ∧ (s = a → Up K (rot s m (mid + m - s) f) a mid) ∧ (mid + m - s = b → Up K (rot s m (mid + m - s) f) mid b) := by
  have k := c.kind
  have c1 := c.s0le
  have c2 := c.sle
  have e : s + (mid + m - s - m) = mid := by omega
  refine ⟨?_, ?_, ?_, ?_, ?_, by omega, by omega, by omega, by omega, by omega, by omega, ?_, ?_⟩
  · intro p q x y z
    unfold rot
    repeat' split
    all_goals first | (exfalso; omega) | exact h1 _ _ (by omega) (by omega) (by omega) 
  · intro p q x y z
    unfold rot
    repeat' split
    all_goals first | (exfalso; omega) | exact h2 _ _ (by omega) (by omega) (by omega)
  · intro p q x y z
    unfold rot
    repeat' split
    all_goals first | (exfalso; omega) | exact h1 _ _ (by omega) (by omega) (by omega)
  · intro p q x y z
    unfold rot
    repeat' split
    all_goals first | (exfalso; omega) | exact h2 _ _ (by omega) (by omega) (by omega)
  · intro p q x y z u
    have lo : ∀ p q, a ≤ p → p < s → mid + m - s ≤ q → q < b → K (f p) ≤ K (f q) := by
      intro p q x y z u
      exact Nat.le_trans (h1.le (q := s - 1) x (by omega) (by omega)) (Nat.le_trans (c.lo (by omega)) (h2.le (p := mid + m - s) (by omega) z u))
    have hi : ∀ p q, m ≤ p → p < mid + m - s → s ≤ q → q < m → K (f p) ≤ K (f q) := by
      intro p q x y z u
      exact Nat.le_trans (h2.le (q := mid + m - 1 - s) x (by omega) (by omega)) (Nat.le_trans (c.hi (by omega)) (h1.le (p := s) (by omega) z u))
    unfold rot
    repeat' split
    all_goals first | (exfalso; omega) | exact h1.le (by omega) (by omega) (by omega) | exact h2.le (by omega) (by omega) (by omega) | exact lo _ _ (by omega) (by omega) (by omega) (by omega) | exact hi _ _ (by omega) (by omega) (by omega) (by omega)
  · intro hs p q x y z
    unfold rot
    repeat' split
    all_goals first | (exfalso; omega) | exact h2 _ _ (by omega) (by omega) (by omega)
  · intro hs p q x y z
    unfold rot
    repeat' split
    all_goals first | (exfalso; omega) | exact h1 _ _ (by omega) (by omega) (by omega)

theorem Up.join {K f : Nat → Nat} {a m b : Nat} (h1 : Up K f a m) (h2 : Up K f m b) (h : ∀ p q, a ≤ p → p < m → m ≤ q → q < b → K (f p) ≤ K (f q)) : Up K f a b := by
  intro p q x y z
  by_cases e : q < m
  · exact h1 p q x y e
  · by_cases e2 : m ≤ p
    · exact h2 p q e2 y z
    · exact h p q x (by omega) (by omega) z

end Go.Proofs.Ythfadeoanjjiaaa.Srt
