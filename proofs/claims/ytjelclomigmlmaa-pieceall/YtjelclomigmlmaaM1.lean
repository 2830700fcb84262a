/- Pieces, and what they spell. -/
import Derived.Test.YtjelclomigmlmaaB1
namespace Go.Proofs.Ytjelclomigmlmaa

/-- A byte of a text: of what was added, or not; where. -/
abbrev Bt := Bool × Nat
/-- A piece. -/
structure Pc where
  ad : Bool
  fr : Nat
  to : Nat
/-- What a piece spells, what pieces spell. -/
def sp1 (p : Pc) : List Bt := (List.range' p.fr (p.to - p.fr)).map (fun k => (p.ad, k))
def spl (ps : List Pc) : List Bt := ps.flatMap sp1
theorem sp1_length (p : Pc) : (sp1 p).length = p.to - p.fr := by simp [sp1]
theorem spl_nil : spl [] = [] := rfl
theorem spl_cons (p : Pc) (ps : List Pc) : spl (p :: ps) = sp1 p ++ spl ps := by simp [spl]
theorem spl_append (ps qs : List Pc) : spl (ps ++ qs) = spl ps ++ spl qs := by simp [spl]
theorem sp1_mem {p : Pc} {x : Bt} : x ∈ sp1 p ↔ x.1 = p.ad ∧ p.fr ≤ x.2 ∧ x.2 < p.to := by
  obtain ⟨a, k⟩ := x
  simp only [sp1, List.mem_map, List.mem_range'_1, Prod.mk.injEq]
  constructor
  · rintro ⟨j, h, rfl, rfl⟩
    exact ⟨rfl, h.1, by omega⟩
  · rintro ⟨rfl, h1, h2⟩
    exact ⟨k, ⟨h1, by omega⟩, rfl, rfl⟩
theorem sp1_get {p : Pc} {j : Nat} (h : j < p.to - p.fr) : (sp1 p)[j]? = some (p.ad, p.fr + j) := by
  simp [sp1, h]
theorem sp1_parts (a : Bool) (f m t : Nat) (h1 : f ≤ m) (h2 : m ≤ t) : sp1 ⟨a, f, t⟩ = sp1 ⟨a, f, m⟩ ++ sp1 ⟨a, m, t⟩ := by
  simp only [sp1, ← List.map_append]
  congr 1
  rw [show List.range' m (t - m) = List.range' (f + (m - f)) (t - m) from by rw [show f + (m - f) = m by omega], List.range'_append_1]
  congr 1; omega
theorem sp1_snoc (a : Bool) (f t : Nat) (h : f ≤ t) : sp1 ⟨a, f, t + 1⟩ = sp1 ⟨a, f, t⟩ ++ [(a, t)] := by
  rw [sp1_parts a f t (t + 1) h (by omega)]
  congr 1
  simp [sp1]
theorem sp1_none (a : Bool) (f t : Nat) (h : t ≤ f) : sp1 ⟨a, f, t⟩ = [] := by
  simp [sp1, show t - f = 0 by omega]

/-- One byte more; one piece more. -/
def putB (l : List Pc) (x : Bt) : List Pc :=
  match l.getLast? with
  | some q => if q.ad = x.1 ∧ q.to = x.2 then l.dropLast ++ [⟨q.ad, q.fr, q.to + 1⟩] else l ++ [⟨x.1, x.2, x.2 + 1⟩]
  | none => [⟨x.1, x.2, x.2 + 1⟩]
def putP (l : List Pc) (p : Pc) : List Pc :=
  if p.to = p.fr then l else
  match l.getLast? with
  | some q => if q.ad = p.ad ∧ q.to = p.fr then l.dropLast ++ [⟨q.ad, q.fr, p.to⟩] else l ++ [p]
  | none => l ++ [p]
/-- The pieces that spell X. -/
def nf (X : List Bt) : List Pc := X.foldl putB []

theorem putB_snoc (l : List Pc) (q : Pc) (x : Bt) : putB (l ++ [q]) x = if q.ad = x.1 ∧ q.to = x.2 then l ++ [⟨q.ad, q.fr, q.to + 1⟩] else l ++ [q] ++ [⟨x.1, x.2, x.2 + 1⟩] := by
  simp [putB]
theorem putB_nil (x : Bt) : putB [] x = [⟨x.1, x.2, x.2 + 1⟩] := rfl
theorem putP_snoc (l : List Pc) (q p : Pc) (h : p.to ≠ p.fr) : putP (l ++ [q]) p = if q.ad = p.ad ∧ q.to = p.fr then l ++ [⟨q.ad, q.fr, p.to⟩] else l ++ [q] ++ [p] := by
  simp [putP, h]
theorem putP_nil (p : Pc) (h : p.to ≠ p.fr) : putP [] p = [p] := by simp [putP, h]
theorem putP_none (l : List Pc) (p : Pc) (h : p.to = p.fr) : putP l p = l := by simp [putP, h]

theorem run_ext (l : List Pc) (a : Bool) (f : Nat) : ∀ d t, ((List.range' t d).map (fun k => ((a, k) : Bt))).foldl putB (l ++ [⟨a, f, t⟩]) = l ++ [⟨a, f, t + d⟩]
  | 0, t => rfl
  | d + 1, t => by
    rw [List.range'_succ, List.map_cons, List.foldl_cons, putB_snoc, if_pos ⟨rfl, rfl⟩, run_ext l a f d (t + 1)]
    rw [show t + 1 + d = t + (d + 1) by omega]
theorem last_cases (l : List Pc) : l = [] ∨ ∃ l' q, l = l' ++ [q] := by
  rcases List.eq_nil_or_concat l with h | ⟨l', q, h⟩
  · exact .inl h
  · exact .inr ⟨l', q, by rw [h, List.concat_eq_append]⟩
theorem putP_eq (l : List Pc) (p : Pc) (h : p.fr ≤ p.to) : putP l p = (sp1 p).foldl putB l := by
  obtain ⟨a, f, t⟩ := p
  have h : f ≤ t := h
  by_cases e : t = f
  · subst e
    rw [putP_none _ _ rfl, sp1_none _ _ _ (Nat.le_refl _)]; rfl
  · obtain ⟨d, rfl⟩ : ∃ d, t = f + (d + 1) := ⟨t - f - 1, by omega⟩
    have e1 : sp1 ⟨a, f, f + (d + 1)⟩ = (a, f) :: (List.range' (f + 1) d).map (fun k => ((a, k) : Bt)) := by
      simp only [sp1, show f + (d + 1) - f = d + 1 by omega, List.range'_succ, List.map_cons]
    have e2 : f + 1 + d = f + (d + 1) := by omega
    rw [e1, List.foldl_cons]
    rcases last_cases l with rfl | ⟨l', q, rfl⟩
    · rw [putP_nil _ e, putB_nil]
      have := run_ext [] a f d (f + 1)
      rw [List.nil_append, e2] at this
      exact this.symm
    · rw [putP_snoc _ _ _ e, putB_snoc]
      by_cases c : q.ad = a ∧ q.to = f
      · rw [if_pos c, if_pos c]
        obtain ⟨rfl, rfl⟩ := c
        have := run_ext l' q.ad q.fr d (q.to + 1)
        rw [e2] at this
        exact this.symm
      · rw [if_neg c, if_neg c]
        have := run_ext (l' ++ [q]) a f d (f + 1)
        rw [e2] at this
        exact this.symm
theorem putP_fold : ∀ (ps l : List Pc), (∀ p ∈ ps, p.fr ≤ p.to) → ps.foldl putP l = (spl ps).foldl putB l
  | [], _, _ => rfl
  | p :: ps, l, h => by
    rw [List.foldl_cons, spl_cons, List.foldl_append, putP_fold ps _ (fun q hq => h q (by simp [hq])), putP_eq l p (h p (by simp))]
theorem nf_append (X Y : List Bt) : nf (X ++ Y) = Y.foldl putB (nf X) := by simp [nf]
theorem nf_snoc (X : List Bt) (x : Bt) : nf (X ++ [x]) = putB (nf X) x := by rw [nf_append]; rfl
theorem nf_put (X : List Bt) (p : Pc) (h : p.fr ≤ p.to) : putP (nf X) p = nf (X ++ sp1 p) := by rw [nf_append, putP_eq _ _ h]

theorem putB_spl (l : List Pc) (x : Bt) (h : ∀ p ∈ l, p.fr < p.to) : spl (putB l x) = spl l ++ [x] ∧ (∀ p ∈ putB l x, p.fr < p.to) ∧ (putB l x).length ≤ l.length + 1 := by
  rcases last_cases l with rfl | ⟨l', q, rfl⟩
  · rw [putB_nil]
    refine ⟨?_, ?_, by simp⟩
    · rw [spl_cons, sp1_snoc _ _ _ (Nat.le_refl _), sp1_none _ _ _ (Nat.le_refl _)]; rfl
    · intro p hp
      simp at hp
      subst hp
      exact Nat.lt_succ_self _
  · have hq := h q (by simp)
    rw [putB_snoc]
    by_cases c : q.ad = x.1 ∧ q.to = x.2
    · rw [if_pos c]
      refine ⟨?_, ?_, by simp⟩
      · rw [spl_append, spl_append, List.append_assoc]
        congr 1
        rw [spl_cons, spl_cons, spl_nil, List.append_nil, List.append_nil, sp1_snoc _ _ _ (Nat.le_of_lt hq)]
        obtain ⟨c1, c2⟩ := c
        rw [c1, c2]
        congr 1
        cases q
        simp only at c1 c2
        subst c1 c2
        rfl
      · intro p hp
        rcases List.mem_append.1 hp with h1 | h1
        · exact h p (by simp [h1])
        · simp at h1
          subst h1
          show q.fr < q.to + 1
          omega
    · rw [if_neg c]
      refine ⟨?_, ?_, by simp⟩
      · rw [spl_append, spl_append]
        congr 1
        rw [spl_cons, sp1_snoc _ _ _ (Nat.le_refl _), sp1_none _ _ _ (Nat.le_refl _)]; rfl
      · intro p hp
        rcases List.mem_append.1 hp with h1 | h1
        · exact h p h1
        · simp at h1
          subst h1
          exact Nat.lt_succ_self _
theorem fold_spl : ∀ (X : List Bt) (l : List Pc), (∀ p ∈ l, p.fr < p.to) → spl (X.foldl putB l) = spl l ++ X ∧ (∀ p ∈ X.foldl putB l, p.fr < p.to) ∧ (X.foldl putB l).length ≤ l.length + X.length
  | [], l, h => ⟨by simp, h, by simp⟩
  | x :: X, l, h => by
    obtain ⟨h1, h2, h3⟩ := putB_spl l x h
    obtain ⟨k1, k2, k3⟩ := fold_spl X (putB l x) h2
    refine ⟨by rw [List.foldl_cons, k1, h1]; simp, k2, ?_⟩
    rw [List.foldl_cons, List.length_cons]; omega
theorem spl_nf (X : List Bt) : spl (nf X) = X := by have := (fold_spl X [] (by simp)).1; rw [spl_nil, List.nil_append] at this; exact this
theorem nf_pos (X : List Bt) : ∀ p ∈ nf X, p.fr < p.to := (fold_spl X [] (by simp)).2.1
theorem nf_length (X : List Bt) : (nf X).length ≤ X.length := by have := (fold_spl X [] (by simp)).2.2; rw [List.length_nil, Nat.zero_add] at this; exact this
theorem mem_spl {ps : List Pc} {p : Pc} {x : Bt} (h : p ∈ ps) (hx : x ∈ sp1 p) : x ∈ spl ps := by
  simp only [spl, List.mem_flatMap]; exact ⟨p, h, hx⟩
theorem nf_bound {X : List Bt} {M : Nat} (h : ∀ x ∈ X, x.2 < M) : ∀ p ∈ nf X, p.to ≤ M := by
  intro p hp
  have hq := nf_pos X p hp
  have : ((p.ad, p.to - 1) : Bt) ∈ spl (nf X) := mem_spl hp (sp1_mem.2 ⟨rfl, by show p.fr ≤ p.to - 1; omega, by show p.to - 1 < p.to; omega⟩)
  rw [spl_nf] at this
  have := h _ this
  have : p.to - 1 < M := this
  omega
theorem nf_last {X : List Bt} {p : Pc} (hp : p ∈ nf X) : ((p.ad, p.to - 1) : Bt) ∈ X := by
  have hq := nf_pos X p hp
  have : ((p.ad, p.to - 1) : Bt) ∈ spl (nf X) := mem_spl hp (sp1_mem.2 ⟨rfl, by show p.fr ≤ p.to - 1; omega, by show p.to - 1 < p.to; omega⟩)
  rwa [spl_nf] at this

/-- Where a byte stands. -/
def plc : List Pc → Nat → Nat × Nat
  | [], _ => (0, 0)
  | p :: r, at' => if at' < p.to - p.fr then (0, at') else ((plc r (at' - (p.to - p.fr))).1 + 1, (plc r (at' - (p.to - p.fr))).2)
theorem plc_here (p : Pc) (r : List Pc) (at' : Nat) (h : at' < p.to - p.fr) : plc (p :: r) at' = (0, at') := by simp [plc, h]
theorem plc_on (p : Pc) (r : List Pc) (at' : Nat) (h : ¬ at' < p.to - p.fr) : plc (p :: r) at' = ((plc r (at' - (p.to - p.fr))).1 + 1, (plc r (at' - (p.to - p.fr))).2) := by simp [plc, h]
theorem plc_le : ∀ (ps : List Pc) (at' : Nat), (plc ps at').1 ≤ ps.length ∧ (plc ps at').2 ≤ at'
  | [], _ => ⟨Nat.le_refl _, Nat.zero_le _⟩
  | p :: r, a => by
    by_cases h : a < p.to - p.fr
    · rw [plc_here _ _ _ h]; exact ⟨by simp, Nat.le_refl _⟩
    · rw [plc_on _ _ _ h]
      have := plc_le r (a - (p.to - p.fr))
      exact ⟨by simp; omega, by simp; omega⟩
theorem plc_split : ∀ (ps : List Pc) (at' : Nat), (∀ p ∈ ps, p.fr ≤ p.to) → 
    ((plc ps at').2 = 0 → spl (ps.take (plc ps at').1) = (spl ps).take at' ∧ spl (ps.drop (plc ps at').1) = (spl ps).drop at') ∧
    ((plc ps at').2 ≠ 0 → ∃ p, ps[(plc ps at').1]? = some p ∧ (plc ps at').2 < p.to - p.fr ∧ spl (ps.take (plc ps at').1 ++ [⟨p.ad, p.fr, p.fr + (plc ps at').2⟩]) = (spl ps).take at' ∧ spl (⟨p.ad, p.fr + (plc ps at').2, p.to⟩ :: ps.drop ((plc ps at').1 + 1)) = (spl ps).drop at')
  | [], a, _ => ⟨fun _ => by simp [plc, spl], fun h => (h rfl).elim⟩
  | p :: r, a, hp => by
    by_cases h : a < p.to - p.fr
    · rw [plc_here _ _ _ h]
      constructor
      · intro h0
        have h0 : a = 0 := h0
        subst h0
        simp [spl]
      · intro h0
        refine ⟨p, rfl, h, ?_, ?_⟩
        · rw [List.take_zero, List.nil_append, spl_cons, spl_nil, List.append_nil, spl_cons, List.take_append_of_le_length (by rw [sp1_length]; omega)]
          conv => rhs; rw [show p = ⟨p.ad, p.fr, p.to⟩ from rfl, sp1_parts p.ad p.fr (p.fr + a) p.to (by omega) (by omega)]
          rw [List.take_left' (by rw [sp1_length]; show p.fr + a - p.fr = a; omega)]
        · rw [show (p :: r).drop (0 + 1) = r from rfl, spl_cons, spl_cons, List.drop_append_of_le_length (by rw [sp1_length]; omega)]
          congr 1
          conv => rhs; rw [show p = ⟨p.ad, p.fr, p.to⟩ from rfl, sp1_parts p.ad p.fr (p.fr + a) p.to (by omega) (by omega)]
          rw [List.drop_left' (by rw [sp1_length]; show p.fr + a - p.fr = a; omega)]
    · have ih := plc_split r (a - (p.to - p.fr)) (fun q hq => hp q (by simp [hq]))
      have e1 : (spl (p :: r)).take a = sp1 p ++ (spl r).take (a - (p.to - p.fr)) := by
        rw [spl_cons, List.take_append, sp1_length, List.take_of_length_le (by rw [sp1_length]; omega)]
      have e2 : (spl (p :: r)).drop a = (spl r).drop (a - (p.to - p.fr)) := by
        rw [spl_cons, List.drop_append, sp1_length, List.drop_eq_nil_of_le (by rw [sp1_length]; omega), List.nil_append]
      rw [plc_on _ _ _ h, e1, e2]
      generalize plc r (a - (p.to - p.fr)) = io at ih
      constructor
      · intro h0
        obtain ⟨i1, i2⟩ := ih.1 h0
        refine ⟨?_, ?_⟩
        · rw [List.take_succ_cons, spl_cons, i1]
        · rw [List.drop_succ_cons, i2]
      · intro h0
        obtain ⟨q, i1, i2, i3, i4⟩ := ih.2 h0
        refine ⟨q, by rw [List.getElem?_cons_succ]; exact i1, i2, ?_, ?_⟩
        · rw [List.take_succ_cons, List.cons_append, spl_cons, i3]
        · rw [List.drop_succ_cons]; exact i4
theorem plc_at : ∀ (ps : List Pc) (i j : Nat) (p : Pc), ps[i]? = some p → j < p.to - p.fr → (∀ p ∈ ps, p.fr ≤ p.to) → plc ps ((spl (ps.take i)).length + j) = (i, j)
  | [], i, j, p, h, _, _ => by simp at h
  | q :: r, 0, j, p, h, hj, _ => by
    simp at h
    subst h
    rw [List.take_zero, spl_nil, List.length_nil, Nat.zero_add, plc_here _ _ _ hj]
  | q :: r, i + 1, j, p, h, hj, hp => by
    rw [List.getElem?_cons_succ] at h
    rw [List.take_succ_cons, spl_cons, List.length_append, sp1_length, plc_on _ _ _ (by omega)]
    rw [show q.to - q.fr + (spl (List.take i r)).length + j - (q.to - q.fr) = (spl (List.take i r)).length + j by omega, plc_at r i j p h hj (fun p hp' => hp p (by simp [hp']))]
/-- A byte that there is, is in a piece. -/
theorem plc_in : ∀ (ps : List Pc) (at' : Nat), at' < (spl ps).length → (plc ps at').1 < ps.length
  | [], a, h => by simp [spl] at h
  | p :: r, a, h => by
    by_cases c : a < p.to - p.fr
    · rw [plc_here _ _ _ c]; simp
    · rw [plc_on _ _ _ c]
      rw [spl_cons, List.length_append, sp1_length] at h
      have := plc_in r (a - (p.to - p.fr)) (by omega)
      simp; omega
end Go.Proofs.Ytjelclomigmlmaa
