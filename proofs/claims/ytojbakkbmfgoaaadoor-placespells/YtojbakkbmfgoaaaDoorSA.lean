/- Ways through places, and what they spell. -/
import Derived.Test.YtojbakkbmfgoaaaDoorMg17
namespace Go.Proofs.YtojbakkbmfgoaaaDoor
open Go.RowKit
set_option linter.unusedVariables false

/-- Does byte v stand in place a's set? -/
def Pla.has (p : Pla) (k a v : Nat) : Bool := decide (k ≤ a) && (match p.sets[a - k]? with | some s => s v | none => false)
/-- From place a on, t places more, to a last one, over bytes i to i + t. -/
def Suf (p : Pla) (k : Nat) (b : Nat → Nat) : Nat → Nat → Nat → Prop
  | 0, i, a => p.has k a (b i) = true ∧ p.lst k a = true
  | t + 1, i, a => p.has k a (b i) = true ∧ ∃ c, p.fol k a c = true ∧ Suf p k b t (i + 1) c
def Way (p : Pla) (k : Nat) (b : Nat → Nat) (i j : Nat) : Prop := ∃ t a, j = i + t + 1 ∧ p.fst k a = true ∧ Suf p k b t i a
def Mch (p : Pla) (k : Nat) (b : Nat → Nat) (i j : Nat) : Prop := (j = i ∧ p.null = true) ∨ Way p k b i j
theorem Way.lt {p : Pla} {k : Nat} {b : Nat → Nat} {i j : Nat} (h : Way p k b i j) : i < j := by
  obtain ⟨t, a, e, _⟩ := h
  omega
theorem Mch.le {p : Pla} {k : Nat} {b : Nat → Nat} {i j : Nat} (h : Mch p k b i j) : i ≤ j := by
  rcases h with ⟨e, _⟩ | h
  · omega
  · exact Nat.le_of_lt h.lt

/-! One behind the other. -/
theorem has_left {p q : Pla} (h : p.Fine) (S : Pla) (hS : S.sets = p.sets ++ q.sets) {k a v : Nat} (ha : a < k + p.cnt) : S.has k a v = p.has k a v := by
  unfold Pla.has
  by_cases hk : k ≤ a
  · rw [hS, List.getElem?_append_left (by rw [h.len]; omega)]
  · simp [hk]
theorem has_right {p q : Pla} (h : p.Fine) (S : Pla) (hS : S.sets = p.sets ++ q.sets) {k a v : Nat} (ha : k + p.cnt ≤ a) : S.has k a v = q.has (k + p.cnt) a v := by
  unfold Pla.has
  rw [hS, List.getElem?_append_right (by rw [h.len]; omega), h.len]
  have h1 : k ≤ a := by omega
  rw [show a - k - p.cnt = a - (k + p.cnt) from by omega]
  simp [h1, ha]
theorem suf_right {p q : Pla} (h : p.Fine) (g : q.Fine) {k : Nat} {b : Nat → Nat} : ∀ {t i a : Nat}, k + p.cnt ≤ a → (Suf (thenP p q) k b t i a ↔ Suf q (k + p.cnt) b t i a)
  | 0, i, a, ha => by
    unfold Suf
    rw [has_right h _ rfl ha]
    refine and_congr_right fun _ => ?_
    show (q.lst (k + p.cnt) a || (q.null && p.lst k a)) = true ↔ _
    constructor
    · intro e
      rcases Bool.or_eq_true _ _ ▸ e with e | e
      · exact e
      · have := (h.lst k a (Bool.and_eq_true _ _ ▸ e).2).2; omega
    · intro e; rw [e]; rfl
  | t + 1, i, a, ha => by
    unfold Suf
    rw [has_right h _ rfl ha]
    refine and_congr_right fun _ => ⟨?_, ?_⟩
    · rintro ⟨c, e, s⟩
      have e' : p.fol k a c = true ∨ (q.fol (k + p.cnt) a c = true ∨ (p.lst k a = true ∧ q.fst (k + p.cnt) c = true)) := by simpa [thenP] using e
      rcases e' with e | e | ⟨e, _⟩
      · have := (h.fol k a c e).1; omega
      · exact ⟨c, e, (suf_right h g (g.fol _ _ _ e).2.1).1 s⟩
      · have := h.lst k a e; omega
    · rintro ⟨c, e, s⟩
      exact ⟨c, by simp [thenP, e], (suf_right h g (g.fol _ _ _ e).2.1).2 s⟩
theorem suf_left {p q : Pla} (h : p.Fine) (g : q.Fine) {k : Nat} {b : Nat → Nat} : ∀ {t i a : Nat}, a < k + p.cnt → (Suf (thenP p q) k b t i a ↔ (Suf p k b t i a ∧ q.null = true) ∨ ∃ t1 t2, t = t1 + t2 + 1 ∧ Suf p k b t1 i a ∧ ∃ c, q.fst (k + p.cnt) c = true ∧ Suf q (k + p.cnt) b t2 (i + t1 + 1) c)
  | 0, i, a, ha => by
    constructor
    · rintro ⟨h1, h2⟩
      rw [has_left h (q := q) _ rfl ha] at h1
      have h2' : q.lst (k + p.cnt) a = true ∨ (q.null = true ∧ p.lst k a = true) := by simpa [thenP] using h2
      rcases h2' with e | ⟨e1, e2⟩
      · have := g.lst _ _ e; omega
      · exact .inl ⟨⟨h1, e2⟩, e1⟩
    · rintro (⟨⟨h1, h2⟩, h3⟩ | ⟨t1, t2, e, _⟩)
      · exact ⟨by rw [has_left h (q := q) _ rfl ha]; exact h1, by simp [thenP, h2, h3]⟩
      · omega
  | t + 1, i, a, ha => by
    constructor
    · rintro ⟨h1, c, e, s⟩
      rw [has_left h (q := q) _ rfl ha] at h1
      have e' : p.fol k a c = true ∨ (q.fol (k + p.cnt) a c = true ∨ (p.lst k a = true ∧ q.fst (k + p.cnt) c = true)) := by simpa [thenP] using e
      rcases e' with e | e | ⟨e1, e2⟩
      · rcases (suf_left h g (h.fol _ _ _ e).2.2).1 s with ⟨s1, s2⟩ | ⟨t1, t2, et, s1, d, s2, s3⟩
        · exact .inl ⟨⟨h1, c, e, s1⟩, s2⟩
        · refine .inr ⟨t1 + 1, t2, by omega, ⟨h1, c, e, s1⟩, d, s2, ?_⟩
          rw [show i + (t1 + 1) + 1 = i + 1 + t1 + 1 from by omega]; exact s3
      · have := (g.fol _ _ _ e).1; omega
      · exact .inr ⟨0, t, by omega, ⟨h1, e1⟩, c, e2, (suf_right h g (g.fst _ _ e2).1).1 s⟩
    · rintro (⟨⟨h1, c, e, s⟩, h3⟩ | ⟨t1, t2, et, s1, d, s2, s3⟩)
      · exact ⟨by rw [has_left h (q := q) _ rfl ha]; exact h1, c, by simp [thenP, e], (suf_left h g (h.fol _ _ _ e).2.2).2 (.inl ⟨s, h3⟩)⟩
      · cases t1 with
        | zero =>
          obtain ⟨h1, h2⟩ := s1
          obtain rfl : t = t2 := by omega
          exact ⟨by rw [has_left h (q := q) _ rfl ha]; exact h1, d, by simp [thenP, h2, s2], (suf_right h g (g.fst _ _ s2).1).2 s3⟩
        | succ t1 =>
          obtain ⟨h1, c, e, s⟩ := s1
          exact ⟨by rw [has_left h (q := q) _ rfl ha]; exact h1, c, by simp [thenP, e], (suf_left h g (h.fol _ _ _ e).2.2).2 (.inr ⟨t1, t2, by omega, s, d, s2, by rw [show i + 1 + t1 + 1 = i + (t1 + 1) + 1 from by omega]; exact s3⟩)⟩
theorem way_then {p q : Pla} (h : p.Fine) (g : q.Fine) {k : Nat} {b : Nat → Nat} {i j : Nat} : Way (thenP p q) k b i j ↔ (Way p k b i j ∧ q.null = true) ∨ (p.null = true ∧ Way q (k + p.cnt) b i j) ∨ ∃ m, Way p k b i m ∧ Way q (k + p.cnt) b m j := by
  constructor
  · rintro ⟨t, a, e, f, s⟩
    have f' : p.fst k a = true ∨ (p.null = true ∧ q.fst (k + p.cnt) a = true) := by simpa [thenP] using f
    rcases f' with f | ⟨n, f⟩
    · rcases (suf_left h g (h.fst _ _ f).2).1 s with ⟨s1, s2⟩ | ⟨t1, t2, et, s1, d, s2, s3⟩
      · exact .inl ⟨⟨t, a, e, f, s1⟩, s2⟩
      · exact .inr (.inr ⟨i + t1 + 1, ⟨t1, a, rfl, f, s1⟩, t2, d, by omega, s2, s3⟩)
    · exact .inr (.inl ⟨n, t, a, e, f, (suf_right h g (g.fst _ _ f).1).1 s⟩)
  · rintro (⟨⟨t, a, e, f, s⟩, n⟩ | ⟨n, t, a, e, f, s⟩ | ⟨m, ⟨t, a, e, f, s⟩, t2, c, e2, f2, s2⟩)
    · exact ⟨t, a, e, by simp [thenP, f], (suf_left h g (h.fst _ _ f).2).2 (.inl ⟨s, n⟩)⟩
    · exact ⟨t, a, e, by simp [thenP, n, f], (suf_right h g (g.fst _ _ f).1).2 s⟩
    · subst e
      exact ⟨t + t2 + 1, a, by omega, by simp [thenP, f], (suf_left h g (h.fst _ _ f).2).2 (.inr ⟨t, t2, rfl, s, c, f2, s2⟩)⟩
theorem mch_then {p q : Pla} (h : p.Fine) (g : q.Fine) {k : Nat} {b : Nat → Nat} {i j : Nat} : Mch (thenP p q) k b i j ↔ ∃ m, Mch p k b i m ∧ Mch q (k + p.cnt) b m j := by
  unfold Mch
  rw [way_then h g]
  constructor
  · rintro (⟨rfl, e⟩ | ⟨w, n⟩ | ⟨n, w⟩ | ⟨m, w1, w2⟩)
    · have e' : p.null = true ∧ q.null = true := by simpa [thenP] using e
      exact ⟨j, .inl ⟨rfl, e'.1⟩, .inl ⟨rfl, e'.2⟩⟩
    · exact ⟨j, .inr w, .inl ⟨rfl, n⟩⟩
    · exact ⟨i, .inl ⟨rfl, n⟩, .inr w⟩
    · exact ⟨m, .inr w1, .inr w2⟩
  · rintro ⟨m, ⟨rfl, n⟩ | w1, ⟨rfl, n2⟩ | w2⟩
    · exact .inl ⟨rfl, by simp [thenP, n, n2]⟩
    · exact .inr (.inr (.inl ⟨n, w2⟩))
    · exact .inr (.inl ⟨w1, n2⟩)
    · exact .inr (.inr (.inr ⟨m, w1, w2⟩))

/-! One or the other. -/
theorem suf_or_left {p q : Pla} (h : p.Fine) (g : q.Fine) {k : Nat} {b : Nat → Nat} : ∀ {t i a : Nat}, a < k + p.cnt → (Suf (orP p q) k b t i a ↔ Suf p k b t i a)
  | 0, i, a, ha => by
    unfold Suf
    rw [has_left h (q := q) _ rfl ha]
    refine and_congr_right fun _ => ?_
    show (p.lst k a || q.lst (k + p.cnt) a) = true ↔ _
    constructor
    · intro e
      rcases Bool.or_eq_true _ _ ▸ e with e | e
      · exact e
      · have := g.lst _ _ e; omega
    · intro e; rw [e]; rfl
  | t + 1, i, a, ha => by
    unfold Suf
    rw [has_left h (q := q) _ rfl ha]
    refine and_congr_right fun _ => ⟨?_, ?_⟩
    · rintro ⟨c, e, s⟩
      have e' : p.fol k a c = true ∨ q.fol (k + p.cnt) a c = true := by simpa [orP] using e
      rcases e' with e | e
      · exact ⟨c, e, (suf_or_left h g (h.fol _ _ _ e).2.2).1 s⟩
      · have := (g.fol _ _ _ e).1; omega
    · rintro ⟨c, e, s⟩
      exact ⟨c, by simp [orP, e], (suf_or_left h g (h.fol _ _ _ e).2.2).2 s⟩
theorem suf_or_right {p q : Pla} (h : p.Fine) (g : q.Fine) {k : Nat} {b : Nat → Nat} : ∀ {t i a : Nat}, k + p.cnt ≤ a → (Suf (orP p q) k b t i a ↔ Suf q (k + p.cnt) b t i a)
  | 0, i, a, ha => by
    unfold Suf
    rw [has_right h _ rfl ha]
    refine and_congr_right fun _ => ?_
    show (p.lst k a || q.lst (k + p.cnt) a) = true ↔ _
    constructor
    · intro e
      rcases Bool.or_eq_true _ _ ▸ e with e | e
      · have := h.lst _ _ e; omega
      · exact e
    · intro e; rw [e]; simp
  | t + 1, i, a, ha => by
    unfold Suf
    rw [has_right h _ rfl ha]
    refine and_congr_right fun _ => ⟨?_, ?_⟩
    · rintro ⟨c, e, s⟩
      have e' : p.fol k a c = true ∨ q.fol (k + p.cnt) a c = true := by simpa [orP] using e
      rcases e' with e | e
      · have := (h.fol _ _ _ e).1; omega
      · exact ⟨c, e, (suf_or_right h g (g.fol _ _ _ e).2.1).1 s⟩
    · rintro ⟨c, e, s⟩
      exact ⟨c, by simp [orP, e], (suf_or_right h g (g.fol _ _ _ e).2.1).2 s⟩
theorem mch_or {p q : Pla} (h : p.Fine) (g : q.Fine) {k : Nat} {b : Nat → Nat} {i j : Nat} : Mch (orP p q) k b i j ↔ Mch p k b i j ∨ Mch q (k + p.cnt) b i j := by
  unfold Mch
  constructor
  · rintro (⟨rfl, e⟩ | ⟨t, a, e, f, s⟩)
    · have e' : p.null = true ∨ q.null = true := by simpa [orP] using e
      exact e'.imp (fun e => .inl ⟨rfl, e⟩) (fun e => .inl ⟨rfl, e⟩)
    · have f' : p.fst k a = true ∨ q.fst (k + p.cnt) a = true := by simpa [orP] using f
      exact f'.imp (fun f => .inr ⟨t, a, e, f, (suf_or_left h g (h.fst _ _ f).2).1 s⟩) (fun f => .inr ⟨t, a, e, f, (suf_or_right h g (g.fst _ _ f).1).1 s⟩)
  · rintro ((⟨rfl, n⟩ | ⟨t, a, e, f, s⟩) | (⟨rfl, n⟩ | ⟨t, a, e, f, s⟩))
    · exact .inl ⟨rfl, by simp [orP, n]⟩
    · exact .inr ⟨t, a, e, by simp [orP, f], (suf_or_left h g (h.fst _ _ f).2).2 s⟩
    · exact .inl ⟨rfl, by simp [orP, n]⟩
    · exact .inr ⟨t, a, e, by simp [orP, f], (suf_or_right h g (g.fst _ _ f).1).2 s⟩

/-! Again and again. -/
theorem suf_again {p : Pla} {k : Nat} {b : Nat → Nat} : ∀ {t i a : Nat}, Suf (againP p) k b t i a ↔ Suf p k b t i a ∨ ∃ t1 t2, t = t1 + t2 + 1 ∧ Suf p k b t1 i a ∧ ∃ c, p.fst k c = true ∧ Suf (againP p) k b t2 (i + t1 + 1) c
  | 0, i, a => by
    constructor
    · rintro ⟨h1, h2⟩
      exact .inl ⟨h1, h2⟩
    · rintro (⟨h1, h2⟩ | ⟨t1, t2, e, _⟩)
      · exact ⟨h1, h2⟩
      · omega
  | t + 1, i, a => by
    constructor
    · rintro ⟨h1, c, e, s⟩
      have e' : p.fol k a c = true ∨ (p.lst k a = true ∧ p.fst k c = true) := by simpa [againP] using e
      rcases e' with e | ⟨e1, e2⟩
      · rcases suf_again.1 s with s | ⟨t1, t2, et, s1, d, s2, s3⟩
        · exact .inl ⟨h1, c, e, s⟩
        · refine .inr ⟨t1 + 1, t2, by omega, ⟨h1, c, e, s1⟩, d, s2, ?_⟩
          rw [show i + (t1 + 1) + 1 = i + 1 + t1 + 1 from by omega]; exact s3
      · exact .inr ⟨0, t, by omega, ⟨h1, e1⟩, c, e2, s⟩
    · rintro (⟨h1, c, e, s⟩ | ⟨t1, t2, et, s1, d, s2, s3⟩)
      · exact ⟨h1, c, by simp [againP, e], suf_again.2 (.inl s)⟩
      · cases t1 with
        | zero =>
          obtain ⟨h1, h2⟩ := s1
          obtain rfl : t = t2 := by omega
          exact ⟨h1, d, by simp [againP, h2, s2], s3⟩
        | succ t1 =>
          obtain ⟨h1, c, e, s⟩ := s1
          exact ⟨h1, c, by simp [againP, e], suf_again.2 (.inr ⟨t1, t2, by omega, s, d, s2, by rw [show i + 1 + t1 + 1 = i + (t1 + 1) + 1 from by omega]; exact s3⟩)⟩
theorem way_again {p : Pla} {k : Nat} {b : Nat → Nat} {i j : Nat} : Way (againP p) k b i j ↔ Way p k b i j ∨ ∃ m, Way p k b i m ∧ Way (againP p) k b m j := by
  constructor
  · rintro ⟨t, a, e, f, s⟩
    rcases suf_again.1 s with s | ⟨t1, t2, et, s1, d, s2, s3⟩
    · exact .inl ⟨t, a, e, f, s⟩
    · exact .inr ⟨i + t1 + 1, ⟨t1, a, rfl, f, s1⟩, t2, d, by omega, s2, s3⟩
  · rintro (⟨t, a, e, f, s⟩ | ⟨m, ⟨t, a, e, f, s⟩, t2, c, e2, f2, s2⟩)
    · exact ⟨t, a, e, f, suf_again.2 (.inl s)⟩
    · subst e
      exact ⟨t + t2 + 1, a, by omega, f, suf_again.2 (.inr ⟨t, t2, rfl, s, c, f2, s2⟩)⟩

/-- What a matrix tells is what places spell. -/
def Rel (n : Nat) (b : Nat → Nat) (m : Mat) (p : Pla) : Prop := p.Fine ∧ Fwd (n + 1) m ∧ ∀ k i j, i ≤ n → j ≤ n → (m i j = true ↔ Mch p k b i j)
theorem rel_set (n : Nat) (b : Nat → Nat) (s : Nat → Bool) : Rel n b (setM s b n) (oneP s) := by
  refine ⟨oneP_fine s, setM_fwd s b n, fun k i j hi hj => ?_⟩
  unfold setM Mch Way
  have hh : (oneP s).has k k (b i) = s (b i) := by simp [Pla.has, oneP]
  constructor
  · intro e
    simp only [Bool.and_eq_true, decide_eq_true_eq, beq_iff_eq] at e
    obtain ⟨_, e1, rfl⟩ := e
    exact .inr ⟨0, k, rfl, by simp [oneP], by rw [hh]; exact e1, by simp [oneP]⟩
  · rintro (⟨rfl, e⟩ | ⟨t, a, rfl, f, s1⟩)
    · exact absurd e (by simp [oneP])
    · obtain rfl : a = k := by simpa [oneP] using f
      cases t with
      | zero =>
        have h1 := s1.1
        rw [hh] at h1
        simp [h1]; omega
      | succ t =>
        obtain ⟨_, c, e, _⟩ := s1
        exact absurd e (by simp [oneP])
theorem rel_then {n : Nat} {b : Nat → Nat} {m m' : Mat} {p q : Pla} (h : Rel n b m p) (g : Rel n b m' q) : Rel n b (thenM (n + 1) m m') (thenP p q) := by
  refine ⟨thenP_fine h.1 g.1, thenM_fwd h.2.1 g.2.1, fun k i j hi hj => ?_⟩
  rw [thenM_true, mch_then h.1 g.1]
  constructor
  · rintro ⟨c, hc, h1, h2⟩
    exact ⟨c, (h.2.2 k i c hi (by omega)).1 h1, (g.2.2 _ c j (by omega) hj).1 h2⟩
  · rintro ⟨c, h1, h2⟩
    have hcj := h2.le
    exact ⟨c, by omega, (h.2.2 k i c hi (by omega)).2 h1, (g.2.2 _ c j (by omega) hj).2 h2⟩
theorem rel_or {n : Nat} {b : Nat → Nat} {m m' : Mat} {p q : Pla} (h : Rel n b m p) (g : Rel n b m' q) : Rel n b (orM m m') (orP p q) := by
  refine ⟨orP_fine h.1 g.1, orM_fwd h.2.1 g.2.1, fun k i j hi hj => ?_⟩
  unfold orM
  rw [mch_or h.1 g.1, Bool.or_eq_true, h.2.2 k i j hi hj, g.2.2 (k + p.cnt) i j hi hj]
theorem star_iff {n : Nat} {b : Nat → Nat} {m : Mat} {p : Pla} (h : Rel n b m p) (k : Nat) : ∀ (d i j : Nat), j ≤ n → i ≤ n → j ≤ i + d → (starM (n + 1) m i j = true ↔ (j = i ∨ Way (againP p) k b i j)) := by
  intro d
  induction d with
  | zero =>
    intro i j hj hi hd
    constructor
    · intro e
      have := (starM_fwd h.2.1 i j e).1
      exact .inl (by omega)
    · rintro (rfl | w)
      · rw [starM_step h.2.1 (by omega)]; simp
      · have := w.lt; omega
  | succ d ih =>
    intro i j hj hi hd
    rw [starM_step h.2.1 (by omega), Bool.or_eq_true, any_range]
    simp only [beq_iff_eq, Bool.and_eq_true, Bool.not_eq_true', beq_eq_false_iff_ne]
    constructor
    · rintro (e | ⟨c, hc, ⟨h1, h2⟩, h3⟩)
      · exact .inl e
      · have h4 := (h.2.1 i c h1).1
        rcases (h.2.2 k i c hi (by omega)).1 h1 with ⟨e, _⟩ | w
        · exact absurd e h2
        · rcases (ih c j hj (by omega) (by omega)).1 h3 with e | w2
          · subst e; exact .inr (way_again.2 (.inl w))
          · exact .inr (way_again.2 (.inr ⟨c, w, w2⟩))
    · rintro (e | w)
      · exact .inl e
      · right
        rcases way_again.1 w with w | ⟨c, w1, w2⟩
        · have h1 := w.lt
          exact ⟨j, by omega, ⟨(h.2.2 k i j hi hj).2 (.inr w), by omega⟩, (ih j j hj hj (by omega)).2 (.inl rfl)⟩
        · have h1 := w1.lt
          have h2 := w2.lt
          exact ⟨c, by omega, ⟨(h.2.2 k i c hi (by omega)).2 (.inr w1), by omega⟩, (ih c j hj (by omega) (by omega)).2 (.inr w2)⟩
theorem rel_plus {n : Nat} {b : Nat → Nat} {m : Mat} {p : Pla} (h : Rel n b m p) : Rel n b (thenM (n + 1) m (starM (n + 1) m)) (againP p) := by
  refine ⟨againP_fine h.1, thenM_fwd h.2.1 (starM_fwd h.2.1), fun k i j hi hj => ?_⟩
  rw [thenM_true]
  constructor
  · rintro ⟨c, hc, h1, h2⟩
    have h3 := (star_iff h k (j - c) c j hj (by omega) (by omega)).1 h2
    rcases (h.2.2 k i c hi (by omega)).1 h1 with ⟨rfl, e⟩ | w
    · rcases h3 with rfl | w2
      · exact .inl ⟨rfl, e⟩
      · exact .inr w2
    · rcases h3 with rfl | w2
      · exact .inr (way_again.2 (.inl w))
      · exact .inr (way_again.2 (.inr ⟨c, w, w2⟩))
  · rintro (⟨rfl, e⟩ | w)
    · exact ⟨j, by omega, (h.2.2 k j j hj hj).2 (.inl ⟨rfl, e⟩), (star_iff h k 0 j j hj hj (by omega)).2 (.inl rfl)⟩
    · rcases way_again.1 w with w | ⟨c, w1, w2⟩
      · exact ⟨j, by omega, (h.2.2 k i j hi hj).2 (.inr w), (star_iff h k 0 j j hj hj (by omega)).2 (.inl rfl)⟩
      · have h2 := w2.lt
        exact ⟨c, by omega, (h.2.2 k i c hi (by omega)).2 (.inr w1), (star_iff h k (j - c) c j hj (by omega) (by omega)).2 (.inr w2)⟩
theorem suf_opt (p : Pla) (k : Nat) (b : Nat → Nat) : ∀ t i a, Suf (optP p) k b t i a ↔ Suf p k b t i a
  | 0, i, a => Iff.rfl
  | t + 1, i, a => by
    unfold Suf
    refine and_congr_right fun _ => ?_
    constructor
    · rintro ⟨c, e, s⟩; exact ⟨c, e, (suf_opt p k b t _ c).1 s⟩
    · rintro ⟨c, e, s⟩; exact ⟨c, e, (suf_opt p k b t _ c).2 s⟩
theorem way_opt (p : Pla) (k : Nat) (b : Nat → Nat) (i j : Nat) : Way (optP p) k b i j ↔ Way p k b i j := by
  constructor
  · rintro ⟨t, a, e, f, s⟩; exact ⟨t, a, e, f, (suf_opt p k b t i a).1 s⟩
  · rintro ⟨t, a, e, f, s⟩; exact ⟨t, a, e, f, (suf_opt p k b t i a).2 s⟩
theorem rel_star {n : Nat} {b : Nat → Nat} {m : Mat} {p : Pla} (h : Rel n b m p) : Rel n b (starM (n + 1) m) (optP (againP p)) := by
  refine ⟨optP_fine (againP_fine h.1), starM_fwd h.2.1, fun k i j hi hj => ?_⟩
  rw [star_iff h k j i j hj hi (by omega)]
  unfold Mch
  rw [way_opt]
  exact or_congr ⟨fun e => ⟨e, rfl⟩, fun e => e.1⟩ Iff.rfl
theorem rel_opt {n : Nat} {b : Nat → Nat} {m : Mat} {p : Pla} (h : Rel n b m p) : Rel n b (orM m idM) (optP p) := by
  refine ⟨optP_fine h.1, orM_fwd h.2.1 (idM_fwd _), fun k i j hi hj => ?_⟩
  unfold orM idM Mch
  rw [Bool.or_eq_true, h.2.2 k i j hi hj, way_opt, beq_iff_eq]
  unfold Mch
  constructor
  · rintro ((⟨e, _⟩ | w) | e)
    · exact .inl ⟨e, rfl⟩
    · exact .inr w
    · exact .inl ⟨e, rfl⟩
  · rintro (⟨e, _⟩ | w)
    · exact .inr e
    · exact .inl (.inr w)
theorem rel_fold {n : Nat} {b : Nat → Nat} {f : Mat → Mat → Mat} {g : Pla → Pla → Pla} (hg : ∀ {m m' p q}, Rel n b m p → Rel n b m' q → Rel n b (f m m') (g p q)) : ∀ (l : List RX) (m : Mat) (p : Pla), Rel n b m p → (∀ x ∈ l, Rel n b (x.mt b n) x.pla) → Rel n b ((l.map (RX.mt b n)).foldl f m) ((l.map RX.pla).foldl g p)
  | [], m, p, h, _ => h
  | x :: l, m, p, h, hl => rel_fold hg l (f m (x.mt b n)) (g p x.pla) (hg h (hl x (by simp))) (fun y hy => hl y (by simp [hy]))
theorem spells (n : Nat) (b : Nat → Nat) : ∀ x : RX, x.formed = true → Rel n b (x.mt b n) x.pla := by
  refine RX.ind ?_
  intro k p l ih hf
  have hfk := formed_kind hf
  have hnn := hf
  rw [formed_eq, Bool.and_eq_true] at hnn
  have hnode := hnn.1
  unfold node at hnode
  have hall : ∀ y ∈ l, Rel n b (y.mt b n) y.pla := fun y hy => ih y hy (formed_part hf (show y ∈ (⟨k, p, l⟩ : RX).args from hy)).1
  rw [mt_eq, pla_eq]
  unfold plaK
  simp only at hfk
  by_cases h1 : k = 1
  · rw [if_pos h1, if_pos h1]; exact rel_set n b p
  · rw [if_neg h1, if_neg h1]
    cases l with
    | nil =>
      exfalso
      revert hnode
      by_cases h2 : k = 3 ∨ k = 2
      · rw [if_pos h2]; simp
      · rw [if_neg h2, if_pos (by omega)]; simp
    | cons x l =>
      have hx := hall x (by simp)
      have hl : ∀ y ∈ l, Rel n b (y.mt b n) y.pla := fun y hy => hall y (by simp [hy])
      simp only [List.map_cons, mtK]
      by_cases h2 : k = 2
      · rw [if_pos h2, if_pos h2, List.foldl_cons, thenP_eP]
        exact rel_fold rel_then l _ _ hx hl
      · rw [if_neg h2, if_neg h2]
        by_cases h3 : k = 3
        · rw [if_pos h3, if_pos h3, List.foldl_cons, orP_oP]
          exact rel_fold rel_or l _ _ hx hl
        · rw [if_neg h3, if_neg h3]
          unfold signP
          by_cases h4 : k = 4
          · rw [if_pos h4, if_pos h4]; exact rel_star hx
          · rw [if_neg h4, if_neg h4]
            by_cases h5 : k = 5
            · rw [if_pos h5, if_pos h5]; exact rel_plus hx
            · rw [if_neg h5, if_neg h5]; exact rel_opt hx

/-! Step by step. -/
/-- Which places may stand at byte i. -/
def Rch (p : Pla) (b : Nat → Nat) : Nat → Nat → Prop
  | 0, c => p.fst 0 c = true
  | i + 1, c => ∃ a, Rch p b i a ∧ p.has 0 a (b i) = true ∧ p.fol 0 a c = true
theorem rch_suf {p : Pla} {b : Nat → Nat} : ∀ {i t : Nat}, (∃ a, p.fst 0 a = true ∧ Suf p 0 b (i + t) 0 a) ↔ ∃ a, Rch p b i a ∧ Suf p 0 b t i a
  | 0, t => by rw [Nat.zero_add]; exact Iff.rfl
  | i + 1, t => by
    rw [show i + 1 + t = i + (t + 1) from by omega, rch_suf (i := i) (t := t + 1)]
    constructor
    · rintro ⟨a, h1, h2, c, h3, h4⟩; exact ⟨c, ⟨a, h1, h2, h3⟩, h4⟩
    · rintro ⟨c, ⟨a, h1, h2, h3⟩, h4⟩; exact ⟨a, h1, h2, c, h3, h4⟩
theorem mch_zero (p : Pla) (b : Nat → Nat) : Mch p 0 b 0 0 ↔ p.null = true := by
  unfold Mch
  constructor
  · rintro (⟨_, e⟩ | w)
    · exact e
    · have := w.lt; omega
  · intro e; exact .inl ⟨rfl, e⟩
theorem mch_succ (p : Pla) (b : Nat → Nat) (n : Nat) : Mch p 0 b 0 (n + 1) ↔ ∃ a, Rch p b n a ∧ p.has 0 a (b n) = true ∧ p.lst 0 a = true := by
  unfold Mch
  constructor
  · rintro (⟨e, _⟩ | ⟨t, a, e, f, s⟩)
    · omega
    · obtain rfl : t = n := by omega
      exact (rch_suf (i := t) (t := 0)).1 ⟨a, f, s⟩
  · rintro h
    obtain ⟨a, f, s⟩ := (rch_suf (i := n) (t := 0)).2 h
    exact .inr ⟨n, a, by omega, f, s⟩
/-- Is the text up to byte i a match? -/
def Ism (p : Pla) (b : Nat → Nat) (i : Nat) : Prop := Mch p 0 b 0 i
theorem spells_in {x : RX} (hf : x.formed = true) (n : Nat) (b : Nat → Nat) : x.mt b n 0 n = true ↔ Mch x.pla 0 b 0 n := (spells n b x hf).2.2 0 0 n (by omega) (by omega)
theorem spells_null {x : RX} (hf : x.formed = true) (b : Nat → Nat) : x.mt b 0 0 0 = x.pla.null := by
  rw [Bool.eq_iff_iff, spells_in hf, mch_zero]

end Go.Proofs.YtojbakkbmfgoaaaDoor
