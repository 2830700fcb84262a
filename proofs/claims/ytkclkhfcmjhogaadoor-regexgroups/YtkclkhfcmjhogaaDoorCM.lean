/- How often a sign lets one byte stand. -/
import Derived.Test.YtkclkhfcmjhogaaDoorZ9
namespace Go.Proofs.YtkclkhfcmjhogaaDoor
open Go.RowKit
set_option linter.unusedVariables false

theorem setM_true {p : Nat → Bool} {b : Nat → Nat} {n i j : Nat} : setM p b n i j = true ↔ i < n ∧ p (b i) = true ∧ j = i + 1 := by
  unfold setM; simp
theorem starM_true {N : Nat} {f : Mat} (hf : Fwd N f) {i j : Nat} (hi : i < N) : starM N f i j = true ↔ j = i ∨ ∃ k, k < N ∧ f i k = true ∧ k ≠ i ∧ starM N f k j = true := by
  rw [starM_step hf hi, Bool.or_eq_true, any_range]
  simp [and_assoc]
theorem star_set {p : Nat → Bool} {b : Nat → Nat} {n : Nat} : ∀ (d i : Nat), i + d = n → (starM (n + 1) (setM p b n) i n = true ↔ ∀ m, i ≤ m → m < n → p (b m) = true)
  | 0, i, h => by
    rw [starM_true (setM_fwd p b n) (by omega)]
    exact ⟨fun _ m h1 h2 => by omega, fun _ => .inl (by omega)⟩
  | d + 1, i, h => by
    rw [starM_true (setM_fwd p b n) (by omega)]
    constructor
    · rintro (h1 | ⟨k, h1, h2, h3, h4⟩) m hm1 hm2
      · omega
      · obtain ⟨g1, g2, rfl⟩ := setM_true.1 h2
        by_cases e : m = i
        · rw [e]; exact g2
        · exact (star_set d (i + 1) (by omega)).1 h4 m (by omega) hm2
    · intro hall
      exact .inr ⟨i + 1, by omega, setM_true.2 ⟨by omega, hall i (Nat.le_refl i) (by omega), rfl⟩, by omega, (star_set d (i + 1) (by omega)).2 (fun m h1 h2 => hall m (by omega) h2)⟩
theorem plus_set {p : Nat → Bool} {b : Nat → Nat} {n : Nat} : thenM (n + 1) (setM p b n) (starM (n + 1) (setM p b n)) 0 n = true ↔ 0 < n ∧ ∀ m, m < n → p (b m) = true := by
  rw [thenM_true]
  constructor
  · rintro ⟨k, h1, h2, h3⟩
    obtain ⟨g1, g2, rfl⟩ := setM_true.1 h2
    refine ⟨g1, fun m hm => ?_⟩
    by_cases e : m = 0
    · rw [e]; exact g2
    · exact (star_set (n - 1) 1 (by omega)).1 h3 m (by omega) hm
  · rintro ⟨h0, hall⟩
    exact ⟨1, by omega, setM_true.2 ⟨h0, hall 0 h0, rfl⟩, (star_set (n - 1) 1 (by omega)).2 (fun m _ h2 => hall m h2)⟩
theorem opt_set {p : Nat → Bool} {b : Nat → Nat} {n : Nat} : orM (setM p b n) idM 0 n = true ↔ n = 0 ∨ n = 1 ∧ p (b 0) = true := by
  unfold orM idM
  rw [Bool.or_eq_true, setM_true, beq_iff_eq]
  constructor
  · rintro (⟨h1, h2, h3⟩ | h)
    · exact .inr ⟨by omega, h2⟩
    · exact .inl h
  · rintro (h | ⟨h1, h2⟩)
    · exact .inr h
    · exact .inl ⟨by omega, h2, by omega⟩
theorem mtK4 (N : Nat) (m : Mat) : mtK N 4 [m] = starM N m := by simp [mtK]
theorem mtK5 (N : Nat) (m : Mat) : mtK N 5 [m] = thenM N m (starM N m) := by simp [mtK]
theorem mtK6 (N : Nat) (m : Mat) : mtK N 6 [m] = orM m idM := by simp [mtK]
theorem mtK2 (N : Nat) (m m2 : Mat) : mtK N 2 [m, m2] = thenM N m m2 := by simp [mtK]
theorem mtK3 (N : Nat) (m m2 : Mat) : mtK N 3 [m, m2] = orM m m2 := by simp [mtK]

/-- One byte's set, as the trees have it. -/
theorem any_btw {c : Nat} (hc : c < 256) : any (btw c c) = true := by
  unfold any
  simp [btw]
  exact ⟨c, hc, by omega⟩
def oneX (c : Nat) : RX := ⟨1, btw c c, []⟩
theorem one_formed {c : Nat} (hc : c < 256) : (oneX c).formed = true := by
  unfold oneX; rw [formed_eq]; simp [node, any_btw hc]
theorem one_may {c : Nat} (hc : c < 256) : may (oneX c) = 0 := by
  unfold may
  rw [one_formed hc]
  simp [oneX, nodes_eq, depth_eq, maxl]
theorem any_none : any (fun _ => false) = false := by
  unfold any; simp
theorem sign_may {c : Nat} (hc : c < 256) {k : Int} (hk : k = 4 ∨ k = 5 ∨ k = 6) : may ⟨k, fun _ => false, [oneX c]⟩ = 0 := by
  have hf : RX.formed ⟨k, fun _ => false, [oneX c]⟩ = true := by
    rw [formed_eq]
    simp only [List.all_cons, List.all_nil, one_formed hc, any_none, node, List.length_cons, List.length_nil]
    rcases hk with rfl | rfl | rfl <;> simp [oneX, lvl]
  unfold may
  rw [hf]
  simp [oneX, nodes_eq, depth_eq, maxl]
theorem btw_self {c x : Nat} : btw c c x = true ↔ x = c := by
  unfold btw; simp; omega
theorem mt_one (c : Nat) (bt : Nat → Nat) (n : Nat) : (oneX c).mt bt n = setM (btw c c) bt n := by unfold oneX; rw [mt_eq]; rfl
theorem bool_iff {a b : Bool} (h : a = true ↔ b = true) : a = b := by cases a <;> cases b <;> simp_all
theorem inX_one {c : Nat} (hc : c < 256) (bt : Nat → Nat) (n : Nat) (hn : n ≤ 60) : inX bt n (oneX c) = decide (n = 1 ∧ bt 0 = c) := by
  unfold inX
  rw [decide_eq_true hn, one_may hc, mt_one]
  simp only [decide_true, Bool.true_and]
  apply bool_iff
  rw [setM_true, decide_eq_true_iff, btw_self]
  omega
theorem inX_star {c : Nat} (hc : c < 256) (bt : Nat → Nat) (n : Nat) (hn : n ≤ 60) : inX bt n ⟨4, fun _ => false, [oneX c]⟩ = decide (∀ m, m < n → bt m = c) := by
  unfold inX
  rw [decide_eq_true hn, sign_may hc (.inl rfl), mt_eq, if_neg (by decide)]
  simp only [List.map_cons, List.map_nil, mt_one, mtK4, decide_true, Bool.true_and]
  apply bool_iff
  rw [star_set n 0 (by omega), decide_eq_true_iff]
  exact ⟨fun h m hm => btw_self.1 (h m (Nat.zero_le m) hm), fun h m _ hm => btw_self.2 (h m hm)⟩
theorem inX_plus {c : Nat} (hc : c < 256) (bt : Nat → Nat) (n : Nat) (hn : n ≤ 60) : inX bt n ⟨5, fun _ => false, [oneX c]⟩ = decide (0 < n ∧ ∀ m, m < n → bt m = c) := by
  unfold inX
  rw [decide_eq_true hn, sign_may hc (.inr (.inl rfl)), mt_eq, if_neg (by decide)]
  simp only [List.map_cons, List.map_nil, mt_one, mtK5, decide_true, Bool.true_and]
  apply bool_iff
  rw [plus_set, decide_eq_true_iff]
  exact ⟨fun h => ⟨h.1, fun m hm => btw_self.1 (h.2 m hm)⟩, fun h => ⟨h.1, fun m hm => btw_self.2 (h.2 m hm)⟩⟩
theorem inX_opt {c : Nat} (hc : c < 256) (bt : Nat → Nat) (n : Nat) (hn : n ≤ 60) : inX bt n ⟨6, fun _ => false, [oneX c]⟩ = decide (n = 0 ∨ n = 1 ∧ bt 0 = c) := by
  unfold inX
  rw [decide_eq_true hn, sign_may hc (.inr (.inr rfl)), mt_eq, if_neg (by decide)]
  simp only [List.map_cons, List.map_nil, mt_one, mtK6, decide_true, Bool.true_and]
  apply bool_iff
  rw [opt_set, decide_eq_true_iff, btw_self]
/-- How tall such trees are. -/
theorem sign_tall (c : Nat) (k : Int) : RX.tall ⟨k, fun _ => false, [oneX c]⟩ < 90000 ∧ (oneX c).tall < 90000 := by
  constructor <;> simp [oneX, tall_eq, maxl]

end Go.Proofs.YtkclkhfcmjhogaaDoor
