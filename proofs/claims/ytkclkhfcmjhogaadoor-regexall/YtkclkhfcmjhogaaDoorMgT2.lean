/- Expressions as trees, and where they lie. -/
import Derived.Test.YtkclkhfcmjhogaaDoorMgA
import Derived.Test.YtkclkhfcmjhogaaDoorMgA2
namespace Go.Proofs.YtkclkhfcmjhogaaDoor
open Go.RowKit
set_option linter.unusedVariables false

/-- An expression: its kind, its set, its parts. -/
structure RX where
  kind : Int
  set : Nat → Bool
  args : List RX

/-- What is made of a tree from below. -/
def RX.fold {α : Type} (f : Int → (Nat → Bool) → List RX → List α → α) : RX → α
  | ⟨k, p, l⟩ => f k p l (go f l)
  where go {α : Type} (f : Int → (Nat → Bool) → List RX → List α → α) : List RX → List α
  | [] => []
  | x :: l => x.fold f :: go f l
theorem RX.go_map {α : Type} (f : Int → (Nat → Bool) → List RX → List α → α) (l : List RX) : RX.fold.go f l = l.map (RX.fold f) := by
  induction l with
  | nil => rfl
  | cons x l ih => rw [RX.fold.go, ih]; rfl
theorem RX.fold_eq {α : Type} (f : Int → (Nat → Bool) → List RX → List α → α) (k : Int) (p : Nat → Bool) (l : List RX) : RX.fold f ⟨k, p, l⟩ = f k p l (l.map (RX.fold f)) := by
  rw [RX.fold, RX.go_map]
theorem RX.ind {P : RX → Prop} (h : ∀ k p l, (∀ x ∈ l, P x) → P ⟨k, p, l⟩) : ∀ x, P x
  | ⟨k, p, l⟩ => h k p l (all h l)
  where all {P : RX → Prop} (h : ∀ k p l, (∀ x ∈ l, P x) → P ⟨k, p, l⟩) : ∀ (l : List RX), ∀ x ∈ l, P x
  | [] => fun x hx => by cases hx
  | y :: l => fun x hx => by
      rcases List.mem_cons.1 hx with e | hx
      · rw [e]; exact RX.ind h y
      · exact all h l x hx

/-- An expression's six cells. -/
def cells6 (k : Int) (p : Nat → Bool) (a : Option Addr) (n c : Nat) : List Value := [.int .i64 k, .int .u64 (limb p 0), .int .u64 (limb p 1), .int .u64 (limb p 2), .int .u64 (limb p 3), .slice a n c]
/-- An expression as its callers have it. -/
abbrev xv (k : Int) (p : Nat → Bool) (a : Option Addr) (n c : Nat) : Value := .agg #[.int .i64 k, .int .u64 (limb p 0), .int .u64 (limb p 1), .int .u64 (limb p 2), .int .u64 (limb p 3), .slice a n c]

/-- A block of cells that nobody sees another way. -/
def Flat (w : World) (q : Addr) : Prop := q = ⟨q.block, q.off, none⟩ ∧ ∃ cs t, w.heap[q.block]? = some (.cells cs t (0, 0))
theorem Flat.mv {X : Nat → Prop} {w w' : World} {q : Addr} (h : Flat w q) (m : Mv X w w') (hx : ¬ X q.block) : Flat w' q := by
  obtain ⟨e, cs, t, hg⟩ := h
  exact ⟨e, cs, t, (m.block _ (Array.getElem?_eq_some_iff.1 hg).1 hx).trans hg⟩
/-- A row of trees, each by its six cells; their blocks are in K. -/
def RX.lies : RX → (Nat → Prop) → World → List Value → Prop
  | ⟨k, p, l⟩, K, w, cs => ∃ a c ys, cs = cells6 k p a l.length c ∧ (∀ q, a = some q → K q.block ∧ Flat w q) ∧ l.length ≤ c ∧ (l.length < 140737488355328 ∧ (a = none → l = [] ∧ c = 0)) ∧ Ls w a ys ∧ row l K w ys
  where row : List RX → (Nat → Prop) → World → List Value → Prop
  | [], _, _, ys => ys = []
  | x :: l, K, w, ys => ∃ cs zs, ys = cs ++ zs ∧ x.lies K w cs ∧ row l K w zs
/-- Where the parts of an expression lie. -/
def Parts (l : List RX) (K : Nat → Prop) (w : World) (a : Option Addr) (c : Nat) : Prop :=
  ∃ ys, (∀ q, a = some q → K q.block ∧ Flat w q) ∧ l.length ≤ c ∧ (l.length < 140737488355328 ∧ (a = none → l = [] ∧ c = 0)) ∧ Ls w a ys ∧ RX.lies.row l K w ys
theorem RX.lies_iff {k : Int} {p : Nat → Bool} {l : List RX} {K : Nat → Prop} {w : World} {cs : List Value} : RX.lies ⟨k, p, l⟩ K w cs ↔ ∃ a c, cs = cells6 k p a l.length c ∧ Parts l K w a c := by
  constructor
  · rintro ⟨a, c, ys, h1, h2, h3, h4, h5, h6⟩
    exact ⟨a, c, h1, ys, h2, h3, h4, h5, h6⟩
  · rintro ⟨a, c, h1, ys, h2, h3, h4, h5, h6⟩
    exact ⟨a, c, ys, h1, h2, h3, h4, h5, h6⟩
theorem lies_of {x : RX} {K : Nat → Prop} {w : World} {a : Option Addr} {c : Nat} (h : Parts x.args K w a c) : x.lies K w (cells6 x.kind x.set a x.args.length c) := by
  obtain ⟨k, p, l⟩ := x
  exact RX.lies_iff.2 ⟨a, c, rfl, h⟩
theorem RX.lies_len {x : RX} {K : Nat → Prop} {w : World} {cs : List Value} (h : x.lies K w cs) : cs.length = 6 := by
  obtain ⟨k, p, l⟩ := x
  obtain ⟨a, c, rfl, _⟩ := RX.lies_iff.1 h
  rfl
theorem row_len {l : List RX} {K : Nat → Prop} {w : World} {ys : List Value} (h : RX.lies.row l K w ys) : ys.length = l.length * 6 := by
  induction l generalizing ys with
  | nil => rw [RX.lies.row] at h; subst h; rfl
  | cons x l ih =>
    rw [RX.lies.row] at h
    obtain ⟨cs, zs, rfl, h1, h2⟩ := h
    rw [List.length_append, RX.lies_len h1, ih h2, List.length_cons]
    omega
theorem row_append {l m : List RX} {K : Nat → Prop} {w : World} {ys zs : List Value} (h : RX.lies.row l K w ys) (g : RX.lies.row m K w zs) : RX.lies.row (l ++ m) K w (ys ++ zs) := by
  induction l generalizing ys with
  | nil => rw [RX.lies.row] at h; subst h; exact g
  | cons x l ih =>
    rw [RX.lies.row] at h
    obtain ⟨cs, us, rfl, h1, h2⟩ := h
    rw [List.cons_append, RX.lies.row]
    exact ⟨cs, us ++ zs, by rw [List.append_assoc], h1, ih h2⟩
theorem row_one {x : RX} {K : Nat → Prop} {w : World} {cs : List Value} (h : x.lies K w cs) : RX.lies.row [x] K w cs := by
  rw [RX.lies.row]
  exact ⟨cs, [], by simp, h, by rw [RX.lies.row]⟩
/-- The cells of one of a row. -/
theorem row_at {l : List RX} {K : Nat → Prop} {w : World} {ys : List Value} (h : RX.lies.row l K w ys) {i : Nat} {x : RX} (hx : l[i]? = some x) : ∃ cs, x.lies K w cs ∧ ∀ j, j < 6 → ys[i * 6 + j]? = cs[j]? := by
  induction l generalizing ys i with
  | nil => simp at hx
  | cons y l ih =>
    rw [RX.lies.row] at h
    obtain ⟨cs, zs, rfl, h1, h2⟩ := h
    have hl := RX.lies_len h1
    cases i with
    | zero =>
      simp only [List.getElem?_cons_zero, Option.some.injEq] at hx
      subst hx
      exact ⟨cs, h1, fun j hj => by rw [Nat.zero_mul, Nat.zero_add, List.getElem?_append_left (by omega)]⟩
    | succ i =>
      rw [List.getElem?_cons_succ] at hx
      obtain ⟨ds, h3, h4⟩ := ih h2 hx
      refine ⟨ds, h3, fun j hj => ?_⟩
      rw [← h4 j hj, List.getElem?_append_right (by omega)]
      congr 1
      omega

theorem RX.lies_mv {X : Nat → Prop} {w w' : World} (m : Mv X w w') : ∀ (x : RX) (K : Nat → Prop) (cs : List Value), (∀ j, K j → ¬ X j) → x.lies K w cs → x.lies K w' cs := by
  refine RX.ind ?_
  intro k p l ih K cs hk h
  obtain ⟨a, c, rfl, ys, h1, h2, h3, h4, h5⟩ := RX.lies_iff.1 h
  refine RX.lies_iff.2 ⟨a, c, rfl, ys, fun q hq => ⟨(h1 q hq).1, (h1 q hq).2.mv m (hk _ (h1 q hq).1)⟩, h2, h3, h4.mv m (fun q hq => hk _ (h1 q hq).1), ?_⟩
  clear h h1 h2 h3 h4
  induction l generalizing ys with
  | nil => exact h5
  | cons x l ih2 =>
    rw [RX.lies.row] at h5 ⊢
    obtain ⟨ds, zs, rfl, g1, g2⟩ := h5
    exact ⟨ds, zs, rfl, ih x (by simp) K ds hk g1, ih2 (fun y hy => ih y (by simp [hy])) zs g2⟩
theorem RX.lies_mono : ∀ (x : RX) (K J : Nat → Prop) (w : World) (cs : List Value), (∀ j, K j → J j) → x.lies K w cs → x.lies J w cs := by
  refine RX.ind ?_
  intro k p l ih K J w cs hk h
  obtain ⟨a, c, rfl, ys, h1, h2, h3, h4, h5⟩ := RX.lies_iff.1 h
  refine RX.lies_iff.2 ⟨a, c, rfl, ys, fun q hq => ⟨hk _ (h1 q hq).1, (h1 q hq).2⟩, h2, h3, h4, ?_⟩
  clear h h1 h2 h3 h4
  induction l generalizing ys with
  | nil => exact h5
  | cons x l ih2 =>
    rw [RX.lies.row] at h5 ⊢
    obtain ⟨ds, zs, rfl, g1, g2⟩ := h5
    exact ⟨ds, zs, rfl, ih x (by simp) K J w ds hk g1, ih2 (fun y hy => ih y (by simp [hy])) zs g2⟩
theorem row_mv {X : Nat → Prop} {w w' : World} (m : Mv X w w') {l : List RX} {K : Nat → Prop} {ys : List Value} (hk : ∀ j, K j → ¬ X j) (h : RX.lies.row l K w ys) : RX.lies.row l K w' ys := by
  induction l generalizing ys with
  | nil => exact h
  | cons x l ih =>
    rw [RX.lies.row] at h ⊢
    obtain ⟨ds, zs, rfl, g1, g2⟩ := h
    exact ⟨ds, zs, rfl, RX.lies_mv m x K ds hk g1, ih g2⟩
theorem row_mono {w : World} {l : List RX} {K J : Nat → Prop} {ys : List Value} (hk : ∀ j, K j → J j) (h : RX.lies.row l K w ys) : RX.lies.row l J w ys := by
  induction l generalizing ys with
  | nil => exact h
  | cons x l ih =>
    rw [RX.lies.row] at h ⊢
    obtain ⟨ds, zs, rfl, g1, g2⟩ := h
    exact ⟨ds, zs, rfl, RX.lies_mono x K J w ds hk g1, ih g2⟩
theorem Parts.mv {X : Nat → Prop} {w w' : World} (m : Mv X w w') {l : List RX} {K : Nat → Prop} {a : Option Addr} {c : Nat} (hk : ∀ j, K j → ¬ X j) (h : Parts l K w a c) : Parts l K w' a c := by
  obtain ⟨ys, h1, h2, h3, h4, h5⟩ := h
  exact ⟨ys, fun q hq => ⟨(h1 q hq).1, (h1 q hq).2.mv m (hk _ (h1 q hq).1)⟩, h2, h3, h4.mv m (fun q hq => hk _ (h1 q hq).1), row_mv m hk h5⟩
theorem Parts.mono {w : World} {l : List RX} {K J : Nat → Prop} {a : Option Addr} {c : Nat} (hk : ∀ j, K j → J j) (h : Parts l K w a c) : Parts l J w a c := by
  obtain ⟨ys, h1, h2, h3, h4, h5⟩ := h
  exact ⟨ys, fun q hq => ⟨hk _ (h1 q hq).1, (h1 q hq).2⟩, h2, h3, h4, row_mono hk h5⟩
/-- One of the parts, by its address. -/
theorem Parts.at {w : World} {l : List RX} {K : Nat → Prop} {a : Option Addr} {c : Nat} (h : Parts l K w a c) {i : Nat} {x : RX} (hx : l[i]? = some x) : ∃ b o a' c', a = some ⟨b, o, none⟩ ∧ Parts x.args K w a' c' ∧ w.cell? ⟨b, o + i * 6, none⟩ = some (.int .i64 x.kind) ∧ w.cell? ⟨b, o + i * 6 + 1, none⟩ = some (.int .u64 (limb x.set 0)) ∧ w.cell? ⟨b, o + i * 6 + 2, none⟩ = some (.int .u64 (limb x.set 1)) ∧ w.cell? ⟨b, o + i * 6 + 3, none⟩ = some (.int .u64 (limb x.set 2)) ∧ w.cell? ⟨b, o + i * 6 + 4, none⟩ = some (.int .u64 (limb x.set 3)) ∧ w.cell? ⟨b, o + i * 6 + 5, none⟩ = some (.slice a' x.args.length c') := by
  obtain ⟨ys, h1, h2, h3, h4, h5⟩ := h
  obtain ⟨cs, g1, g2⟩ := row_at h5 hx
  obtain ⟨k, p, m⟩ := x
  obtain ⟨a', c', rfl, hp⟩ := RX.lies_iff.1 g1
  have e0 := g2 0 (by omega)
  have e1 := g2 1 (by omega)
  have e2 := g2 2 (by omega)
  have e3 := g2 3 (by omega)
  have e4 := g2 4 (by omega)
  have e5 := g2 5 (by omega)
  simp only [cells6, List.getElem?_cons_zero, List.getElem?_cons_succ] at e0 e1 e2 e3 e4 e5
  obtain ⟨b, o, ea, hb, q0⟩ := h4 _ _ e0
  obtain ⟨b1, o1, ea1, _, q1⟩ := h4 _ _ e1
  obtain ⟨b2, o2, ea2, _, q2⟩ := h4 _ _ e2
  obtain ⟨b3, o3, ea3, _, q3⟩ := h4 _ _ e3
  obtain ⟨b4, o4, ea4, _, q4⟩ := h4 _ _ e4
  obtain ⟨b5, o5, ea5, _, q5⟩ := h4 _ _ e5
  rw [ea] at ea1 ea2 ea3 ea4 ea5
  cases ea1; cases ea2; cases ea3; cases ea4; cases ea5
  simp only [Nat.add_zero, ← Nat.add_assoc] at q0 q1 q2 q3 q4 q5
  exact ⟨b, o, a', c', ea, hp, q0, q1, q2, q3, q4, q5⟩

end Go.Proofs.YtkclkhfcmjhogaaDoor

namespace Go.Proofs.YtkclkhfcmjhogaaDoor
open Go.RowKit
set_option linter.unusedVariables false

def lvl (k : Int) : Int := if k = 3 then 1 else if k = 2 then 2 else if k = 4 ∨ k = 5 ∨ k = 6 then 3 else if k = 1 then 4 else 0
/-- Has it what its kind asks for? -/
def node (k : Int) (p : Nat → Bool) (n : Nat) : Bool :=
  if k = 3 ∨ k = 2 then !any p && decide (2 ≤ n) else if k = 4 ∨ k = 5 ∨ k = 6 then !any p && decide (n = 1) else if k = 1 then any p && decide (n = 0) else false
def RX.formed : RX → Bool := RX.fold (fun k p l R => node k p l.length && (l.all (fun a => decide (lvl a.kind ≠ lvl k)) && R.all id))
def RX.nodes : RX → Nat := RX.fold (fun _ _ _ R => 1 + R.sum)
def maxl : List Nat → Nat
  | [] => 0
  | n :: l => max n (maxl l)
def RX.depth : RX → Nat := RX.fold (fun _ _ _ R => maxl R + 1)
theorem formed_eq (k : Int) (p : Nat → Bool) (l : List RX) : RX.formed ⟨k, p, l⟩ = (node k p l.length && (l.all (fun a => decide (lvl a.kind ≠ lvl k)) && l.all RX.formed)) := by
  rw [RX.formed, RX.fold_eq, List.all_map]; rfl
theorem nodes_eq (k : Int) (p : Nat → Bool) (l : List RX) : RX.nodes ⟨k, p, l⟩ = 1 + (l.map RX.nodes).sum := by rw [RX.nodes, RX.fold_eq]
theorem depth_eq (k : Int) (p : Nat → Bool) (l : List RX) : RX.depth ⟨k, p, l⟩ = maxl (l.map RX.depth) + 1 := by rw [RX.depth, RX.fold_eq]
def RX.node (x : RX) : Bool := Proofs.YtkclkhfcmjhogaaDoor.node x.kind x.set x.args.length
/-- May it be? -/
def may (x : RX) : Int := if x.formed = false then 2 else if x.nodes ≤ 40 ∧ x.depth ≤ 12 then 0 else 6

/-- The document's form. -/
def RX.form : RX → Bool := RX.fold (fun k p l R =>
  if k = 1 then decide (l.length = 0) && any p
  else if k = 2 ∨ k = 3 then decide (2 ≤ l.length) && ((l.all (fun a => decide (a.kind ≠ k)) && R.all id) && !any p)
  else if k = 4 ∨ k = 5 ∨ k = 6 then decide (l.length = 1) && (l.all (fun a => decide (a.kind < 4)) && ((l.all (fun a => decide (a.kind ≠ k)) && R.all id) && !any p))
  else false)
theorem form_eq (k : Int) (p : Nat → Bool) (l : List RX) : RX.form ⟨k, p, l⟩ = (if k = 1 then decide (l.length = 0) && any p
  else if k = 2 ∨ k = 3 then decide (2 ≤ l.length) && ((l.all (fun a => decide (a.kind ≠ k)) && l.all RX.form) && !any p)
  else if k = 4 ∨ k = 5 ∨ k = 6 then decide (l.length = 1) && (l.all (fun a => decide (a.kind < 4)) && ((l.all (fun a => decide (a.kind ≠ k)) && l.all RX.form) && !any p))
  else false) := by rw [RX.form, RX.fold_eq, List.all_map]; rfl
theorem formed_kind {x : RX} (h : x.formed = true) : x.kind = 1 ∨ x.kind = 2 ∨ x.kind = 3 ∨ x.kind = 4 ∨ x.kind = 5 ∨ x.kind = 6 := by
  obtain ⟨k, p, l⟩ := x
  rw [formed_eq] at h
  unfold Proofs.YtkclkhfcmjhogaaDoor.node at h
  show k = 1 ∨ k = 2 ∨ k = 3 ∨ k = 4 ∨ k = 5 ∨ k = 6
  by_cases h1 : k = 3 ∨ k = 2
  · omega
  · by_cases h2 : k = 4 ∨ k = 5 ∨ k = 6
    · omega
    · by_cases h3 : k = 1
      · omega
      · rw [if_neg h1, if_neg h2, if_neg h3] at h
        simp at h
theorem all_congr {l : List RX} {f g : RX → Bool} (h : ∀ x ∈ l, f x = g x) : l.all f = l.all g := by
  induction l with
  | nil => rfl
  | cons x l ih => rw [List.all_cons, List.all_cons, h x (by simp), ih (fun y hy => h y (by simp [hy]))]
theorem all_and {l : List RX} {f g : RX → Bool} : (l.all f && l.all g) = l.all (fun x => f x && g x) := by
  induction l with
  | nil => rfl
  | cons x l ih =>
    simp only [List.all_cons, ← ih]
    cases f x <;> cases g x <;> simp
theorem form_formed : ∀ x : RX, x.form = x.formed := by
  refine RX.ind ?_
  intro k p l ih
  rw [form_eq, formed_eq, all_congr ih]
  unfold Proofs.YtkclkhfcmjhogaaDoor.node
  by_cases h1 : k = 1
  · subst h1
    simp only [if_true, show ¬ ((1 : Int) = 3 ∨ (1 : Int) = 2) from by decide, show ¬ ((1 : Int) = 4 ∨ (1 : Int) = 5 ∨ (1 : Int) = 6) from by decide, if_false]
    cases l with
    | nil => simp
    | cons x l => simp
  · rw [if_neg h1]
    by_cases h2 : k = 2 ∨ k = 3
    · rw [if_pos h2, if_pos (by omega)]
      rw [all_and, all_and]
      rw [all_congr (g := fun x => decide (lvl x.kind ≠ lvl k) && x.formed)]
      · cases any p <;> cases decide (2 ≤ l.length) <;> simp
      · intro x _
        cases hf : x.formed with
        | false => simp
        | true =>
          have := formed_kind hf
          simp only [Bool.and_true, decide_eq_decide]
          unfold lvl
          rcases h2 with rfl | rfl <;> rcases this with e | e | e | e | e | e <;> rw [e] <;> decide
    · rw [if_neg h2, if_neg (show ¬ (k = 3 ∨ k = 2) from by omega)]
      by_cases h3 : k = 4 ∨ k = 5 ∨ k = 6
      · rw [if_pos h3, if_pos h3]
        have e : (l.all (fun a => decide (a.kind < 4)) && (l.all (fun a => decide (a.kind ≠ k)) && l.all RX.formed)) = (l.all (fun a => decide (lvl a.kind ≠ lvl k)) && l.all RX.formed) := by
          rw [all_and, all_and, all_and]
          refine all_congr (fun x _ => ?_)
          cases hf : x.formed with
          | false => simp
          | true =>
            have := formed_kind hf
            unfold lvl
            rcases h3 with rfl | rfl | rfl <;> rcases this with e | e | e | e | e | e <;> rw [e] <;> decide
        rw [← e]
        cases any p <;> cases decide (l.length = 1) <;> simp
      · rw [if_neg h3, if_neg h3, if_neg h1]
        simp

theorem le_maxl {l : List Nat} {n : Nat} (h : n ∈ l) : n ≤ maxl l := by
  induction l with
  | nil => cases h
  | cons m l ih =>
    rw [maxl]
    rcases List.mem_cons.1 h with e | e
    · omega
    · have := ih e; omega
theorem maxl_le {l : List Nat} {d : Nat} : maxl l ≤ d ↔ ∀ n ∈ l, n ≤ d := by
  induction l with
  | nil => simp [maxl]
  | cons m l ih => rw [maxl]; simp only [List.mem_cons, forall_eq_or_imp]; rw [← ih]; omega

/-- Equal trees. -/
def sameX : RX → RX → Bool
  | ⟨k, p, l⟩, y => decide (k = y.kind) && (same p y.set && (decide (l.length = y.args.length) && sameL l y.args))
  where sameL : List RX → List RX → Bool
  | [], _ => true
  | x :: l, m => (match m with | [] => false | y :: m => sameX x y && sameL l m)
def Like2 (x y : RX) : Prop := sameX x y = true

end Go.Proofs.YtkclkhfcmjhogaaDoor

namespace Go.Proofs.YtkclkhfcmjhogaaDoor
open Go.RowKit
set_option linter.unusedVariables false

theorem zero28 : Tryd.t28.zero = some (.agg #[.int .i64 0, .int .u64 0, .int .u64 0, .int .u64 0, .int .u64 0, .slice none 0 0]) := by kernel_rfl
theorem info28' : Tryd.prog.info? 28 = some Tryd.t28 := by kernel_rfl
theorem size28' : Tryd.t28.size = 6 := by kernel_rfl
theorem bytes28 : Tryd.t28.bytes = 64 := by kernel_rfl
/-- A row of its own, from block base on; its trees lie in K, the row itself does not. -/
structure Ro (base : Nat) (K : Nat → Prop) (w : World) (v : Value) (l : List RX) : Prop where
  ow : ∃ ys, w.ownsRow base 28 6 v l.length ys ∧ RX.lies.row l K w ys
  off : ∀ j, K j → v.ownBlock ≠ some j
theorem Ro.mv {X : Nat → Prop} {base : Nat} {K : Nat → Prop} {w w' : World} {v : Value} {l : List RX} (h : Ro base K w v l) (m : Mv X w w') (hk : ∀ j, K j → ¬ X j) (hv : ∀ j, v.ownBlock = some j → ¬ X j) : Ro base K w' v l := by
  obtain ⟨ys, h1, h2⟩ := h.ow
  exact ⟨⟨ys, m.owns h1 hv, row_mv m hk h2⟩, h.off⟩
/-- What lies in K lies there in each world that has the same blocks in K. -/
theorem RX.lies_same {w w' : World} {K : Nat → Prop} (e : ∀ j, K j → w'.heap[j]? = w.heap[j]?) : ∀ (x : RX) (cs : List Value), x.lies K w cs → x.lies K w' cs := by
  refine RX.ind ?_
  intro k p l ih cs h
  obtain ⟨a, c, rfl, ys, h1, h2, h3, h4, h5⟩ := RX.lies_iff.1 h
  refine RX.lies_iff.2 ⟨a, c, rfl, ys, fun q hq => ⟨(h1 q hq).1, ?_⟩, h2, h3, ?_, ?_⟩
  · obtain ⟨e2, cs, t, hg⟩ := (h1 q hq).2
    exact ⟨e2, cs, t, (e _ (h1 q hq).1).trans hg⟩
  · intro j u hj
    obtain ⟨b, off, ea, hb, hc⟩ := h4 j u hj
    have hk := (h1 _ ea).1
    have e2 := e b hk
    refine ⟨b, off, ea, ?_, (World.cell?_of_block e2).trans hc⟩
    rw [Array.getElem?_eq_getElem hb] at e2
    exact (Array.getElem?_eq_some_iff.1 e2).1
  clear h h1 h2 h3 h4
  induction l generalizing ys with
  | nil => exact h5
  | cons x l ih2 =>
    rw [RX.lies.row] at h5 ⊢
    obtain ⟨ds, zs, rfl, g1, g2⟩ := h5
    exact ⟨ds, zs, rfl, ih x (by simp) ds g1, ih2 (fun y hy => ih y (by simp [hy])) zs g2⟩
theorem Parts.same {w w' : World} {K : Nat → Prop} (e : ∀ j, K j → w'.heap[j]? = w.heap[j]?) {l : List RX} {a : Option Addr} {c : Nat} (h : Parts l K w a c) : Parts l K w' a c := by
  have := RX.lies_same e ⟨0, fun _ => false, l⟩ _ (RX.lies_iff.2 ⟨a, c, rfl, h⟩)
  obtain ⟨a', c', e, h'⟩ := RX.lies_iff.1 this
  simp only [cells6, List.cons.injEq, Value.slice.injEq] at e
  obtain ⟨_, _, _, _, _, ⟨rfl, _, rfl⟩, _⟩ := e
  exact h'
theorem ow_take {w : World} {base n k m c : Nat} {e : TypeId} {a : Option Addr} {xs : List Value} (h : w.ownsRow base e k (.slice a n c) n xs) (hm : m ≤ n) (hn : 0 < n) : w.ownsRow base e k (.slice a m c) m (xs.take (m * k)) := by
  have hl := h.1
  have hmk : m * k ≤ n * k := Nat.mul_le_mul_right k hm
  refine ⟨by rw [List.length_take, hl]; omega, ?_⟩
  rcases h.2 with ⟨hv, h0⟩ | ⟨g, cap, cur, hv, h2, h3, h4, h5, h6, h7⟩
  · omega
  · cases hv
    refine .inr ⟨g, c, cur, rfl, h2, h3, by omega, h5, h6, ?_⟩
    rw [← h7, List.take_take]
    congr 1
    omega
theorem row_split {l m : List RX} {K : Nat → Prop} {w : World} {ys : List Value} (h : RX.lies.row (l ++ m) K w ys) : RX.lies.row l K w (ys.take (l.length * 6)) ∧ RX.lies.row m K w (ys.drop (l.length * 6)) := by
  induction l generalizing ys with
  | nil => exact ⟨by simp [RX.lies.row], by simpa using h⟩
  | cons x l ih =>
    rw [List.cons_append, RX.lies.row] at h
    obtain ⟨cs, zs, rfl, h1, h2⟩ := h
    have hc := RX.lies_len h1
    obtain ⟨g1, g2⟩ := ih h2
    have e : (x :: l).length * 6 = cs.length + l.length * 6 := by simp; omega
    rw [e, List.take_append, List.drop_append]
    refine ⟨?_, ?_⟩
    · rw [RX.lies.row]
      refine ⟨cs, zs.take (l.length * 6), ?_, h1, g1⟩
      rw [List.take_of_length_le (by omega), Nat.add_sub_cancel_left]
    · rw [List.drop_eq_nil_of_le (by omega), Nat.add_sub_cancel_left, List.nil_append]
      exact g2
theorem Ro.at {base : Nat} {K : Nat → Prop} {w : World} {a : Option Addr} {n c : Nat} {l : List RX} (h : Ro base K w (.slice a n c) l) {i : Nat} {x : RX} (hx : l[i]? = some x) : ∃ b a' c', a = some ⟨b, 0, none⟩ ∧ base ≤ b ∧ Parts x.args K w a' c' ∧ w.cell? ⟨b, i * 6, none⟩ = some (.int .i64 x.kind) ∧ w.cell? ⟨b, i * 6 + 1, none⟩ = some (.int .u64 (limb x.set 0)) ∧ w.cell? ⟨b, i * 6 + 2, none⟩ = some (.int .u64 (limb x.set 1)) ∧ w.cell? ⟨b, i * 6 + 3, none⟩ = some (.int .u64 (limb x.set 2)) ∧ w.cell? ⟨b, i * 6 + 4, none⟩ = some (.int .u64 (limb x.set 3)) ∧ w.cell? ⟨b, i * 6 + 5, none⟩ = some (.slice a' x.args.length c') := by
  obtain ⟨ys, h1, h2⟩ := h.ow
  have hil := (List.getElem?_eq_some_iff.1 hx).1
  obtain ⟨g, cap, hv, hb⟩ : ∃ g cap, Value.slice a n c = .slice (some ⟨g, 0, none⟩) l.length cap ∧ base ≤ g := by
    rcases h1.2 with ⟨hv, h0⟩ | ⟨g, cap, cur, hv, hb, h3, _⟩
    · omega
    · exact ⟨g, cap, hv, hb⟩
  obtain ⟨rfl, rfl, rfl⟩ := Value.slice.inj hv
  obtain ⟨a2, cap2, hv2, hls, _⟩ := ow_ls h1
  obtain ⟨rfl, _, rfl⟩ := Value.slice.inj hv2
  obtain ⟨cs, g1, g2⟩ := row_at h2 hx
  obtain ⟨k, p, m⟩ := x
  obtain ⟨a', c', rfl, hp⟩ := RX.lies_iff.1 g1
  have key : ∀ j u, j < 6 → (cells6 k p a' m.length c')[j]? = some u → w.cell? ⟨g, i * 6 + j, none⟩ = some u := by
    intro j u hj hu
    obtain ⟨b, o, ea, _, q0⟩ := hls (i * 6 + j) u ((g2 j hj).trans hu)
    cases ea
    rw [Nat.zero_add] at q0
    exact q0
  exact ⟨g, a', c', rfl, hb, hp, key 0 _ (by omega) rfl, key 1 _ (by omega) rfl, key 2 _ (by omega) rfl, key 3 _ (by omega) rfl, key 4 _ (by omega) rfl, key 5 _ (by omega) rfl⟩
/-- The last one is taken off. -/
theorem Ro.pop {base : Nat} {K : Nat → Prop} {w : World} {a : Option Addr} {c : Nat} {l : List RX} {x : RX} (h : Ro base K w (.slice a (l.length + 1) c) (l ++ [x])) : Ro base K w (.slice a l.length c) l := by
  obtain ⟨ys, h1, h2⟩ := h.ow
  rw [List.length_append, List.length_singleton] at h1
  refine ⟨⟨ys.take (l.length * 6), ow_take h1 (by omega) (by omega), (row_split h2).1⟩, ?_⟩
  intro j hj e
  cases a with
  | none => cases e
  | some q => exact h.off j hj e
/-- A row as a slice. -/
theorem Ro.sl {base : Nat} {K : Nat → Prop} {w : World} {v : Value} {l : List RX} (h : Ro base K w v l) (hl : l.length < 100000) : ∃ a c, v = .slice a l.length c ∧ Parts l (fun j => K j ∨ v.ownBlock = some j) w a c ∧ (a = none → l = []) := by
  obtain ⟨ys, h1, h2⟩ := h.ow
  obtain ⟨a, c, rfl, g1, g2, g3, g4⟩ := ow_ls h1
  refine ⟨a, c, rfl, ⟨ys, ?_, g2, ⟨by omega, fun e => ⟨List.length_eq_zero_iff.1 (g3 e).1, (g3 e).2⟩⟩, g1, row_mono (fun j hj => .inl hj) h2⟩, fun e => List.length_eq_zero_iff.1 (g3 e).1⟩
  intro q hq
  refine ⟨.inr (g4 q hq), ?_⟩
  rcases h1.2 with ⟨hv, h0⟩ | ⟨g, cap, cur, hv, h2, h3, _⟩
  · have := (Value.slice.inj hv).1
    rw [hq] at this; cases this
  · have := (Value.slice.inj hv).1
    rw [hq] at this; cases this
    exact ⟨rfl, cur, 28, h3⟩
theorem cells6_one (k : Int) (p : Nat → Bool) (a : Option Addr) (n c : Nat) : ∀ u ∈ cells6 k p a n c, u.oneCell' = true := by
  intro u hu
  simp only [cells6, List.mem_cons, List.not_mem_nil, or_false] at hu
  rcases hu with rfl | rfl | rfl | rfl | rfl | rfl <;> rfl
/-- One more. -/
theorem Ro.push {base : Nat} {K : Nat → Prop} {w : World} {v : Value} {l : List RX} (h : Ro base K w v l) (hb : base ≤ w.heap.size) (hl : l.length < 90000) (hK : ∀ j, K j → j < w.heap.size) {x : RX} {a : Option Addr} {c : Nat} (hx : Parts x.args K w a c) :
    ∃ v' W, (Builtin.append_ #[26, 26] 26 #[v, .slice (some ⟨w.heap.size, 0, none⟩) 1 1]).run Tryd.prog (w.alloc (.cells #[.int .i64 x.kind, .int .u64 (limb x.set 0), .int .u64 (limb x.set 1), .int .u64 (limb x.set 2), .int .u64 (limb x.set 3), .slice a x.args.length c] 28)) = .ok v' W ∧ Hid (Ro base K W v' (l ++ [x])) ∧ Hid (Mv (fun j => v.ownBlock = some j) w W) ∧ Hid (v'.ownBlock = v.ownBlock ∨ ∃ g, v'.ownBlock = some g ∧ w.heap.size ≤ g) := by
  obtain ⟨ys, h1, h2⟩ := h.ow
  have qa := Mv.alloc (fun _ => False) w (.cells #[.int .i64 x.kind, .int .u64 (limb x.set 0), .int .u64 (limb x.set 1), .int .u64 (limb x.set 2), .int .u64 (limb x.set 3), .slice a x.args.length c] 28)
  have hlx := lies_of hx
  obtain ⟨v', W, hr, hown, hgr, hnb⟩ := append_ow 26 26 28 Tryd.t28 _ 6 64 Tryd.underlying26 info28' zero28 size28' bytes28 rfl (by decide) (by decide) (w.alloc (.cells #[.int .i64 x.kind, .int .u64 (limb x.set 0), .int .u64 (limb x.set 1), .int .u64 (limb x.set 2), .int .u64 (limb x.set 3), .slice a x.args.length c] 28)) base v l.length 1 1 ys (cells6 x.kind x.set a x.args.length c) (some ⟨w.heap.size, 0, none⟩) (h1.alloc _) (Ls.new w _ 28) rfl (cells6_one _ _ _ _ _) (by omega) (by simp) (Nat.le_trans hb qa.size)
  have hmv : Mv (fun j => v.ownBlock = some j) w W := by
    refine Mv.trans (qa.mono (fun _ _ h => h.elim)) (Mv.of_grown hgr) (fun j hj e => e)
  have hnb2 : v'.ownBlock = v.ownBlock ∨ ∃ g, v'.ownBlock = some g ∧ w.heap.size ≤ g := by
    rcases hnb with e | ⟨g, e, hg⟩
    · exact .inl e
    · exact .inr ⟨g, e, Nat.le_trans qa.size hg⟩
  refine ⟨v', W, hr, ⟨⟨ys ++ cells6 x.kind x.set a x.args.length c, ?_, ?_⟩, ?_⟩, hmv, hnb2⟩
  · rw [List.length_append, List.length_singleton]; exact hown
  · exact row_append (row_mv hmv (fun j hj e => h.off j hj e) h2) (row_one (RX.lies_mv hmv x K _ (fun j hj e => h.off j hj e) hlx))
  · intro j hj e
    rcases hnb2 with e2 | ⟨g, e2, hg⟩
    · exact h.off j hj (e2.symm.trans e)
    · have hg2 : g = j := by rw [e2] at e; exact Option.some.inj e
      have := hK j hj
      omega
/-- The first one. -/
theorem Ro.new {base : Nat} {K : Nat → Prop} {w : World} (hb : base ≤ w.heap.size) (hK : ∀ j, K j → j < w.heap.size) {x : RX} {a : Option Addr} {c : Nat} (hx : Parts x.args K w a c) :
    Hid (Ro base K (w.alloc (.cells #[.int .i64 x.kind, .int .u64 (limb x.set 0), .int .u64 (limb x.set 1), .int .u64 (limb x.set 2), .int .u64 (limb x.set 3), .slice a x.args.length c] 28)) (.slice (some ⟨w.heap.size, 0, none⟩) 1 1) [x]) := by
  have qa := Mv.alloc (fun _ => False) w (.cells #[.int .i64 x.kind, .int .u64 (limb x.set 0), .int .u64 (limb x.set 1), .int .u64 (limb x.set 2), .int .u64 (limb x.set 3), .slice a x.args.length c] 28)
  refine ⟨⟨cells6 x.kind x.set a x.args.length c, ow_new w base 6 28 _ 1 hb (by omega) rfl, row_one (RX.lies_mv qa x K _ (fun _ _ h => h) (lies_of hx))⟩, ?_⟩
  intro j hj e
  have e2 : w.heap.size = j := Option.some.inj e
  have := hK j hj
  omega
theorem RX.lies_lt : ∀ (x : RX) (K : Nat → Prop) (w : World) (cs : List Value), x.lies K w cs → x.lies (fun j => K j ∧ j < w.heap.size) w cs := by
  refine RX.ind ?_
  intro k p l ih K w cs h
  obtain ⟨a, c, rfl, ys, h1, h2, h3, h4, h5⟩ := RX.lies_iff.1 h
  refine RX.lies_iff.2 ⟨a, c, rfl, ys, fun q hq => ⟨⟨(h1 q hq).1, ?_⟩, (h1 q hq).2⟩, h2, h3, h4, ?_⟩
  · obtain ⟨_, cs, t, hg⟩ := (h1 q hq).2
    exact (Array.getElem?_eq_some_iff.1 hg).1
  clear h h1 h2 h3 h4
  induction l generalizing ys with
  | nil => exact h5
  | cons x l ih2 =>
    rw [RX.lies.row] at h5 ⊢
    obtain ⟨ds, zs, rfl, g1, g2⟩ := h5
    exact ⟨ds, zs, rfl, ih x (by simp) K w ds g1, ih2 (fun y hy => ih y (by simp [hy])) zs g2⟩
theorem Parts.lt {l : List RX} {K : Nat → Prop} {w : World} {a : Option Addr} {c : Nat} (h : Parts l K w a c) : Parts l (fun j => K j ∧ j < w.heap.size) w a c := by
  have := RX.lies_lt ⟨0, fun _ => false, l⟩ K w _ (RX.lies_iff.2 ⟨a, c, rfl, h⟩)
  obtain ⟨a', c', e, h'⟩ := RX.lies_iff.1 this
  simp only [cells6, List.cons.injEq, Value.slice.injEq] at e
  obtain ⟨_, _, _, _, _, ⟨rfl, _, rfl⟩, _⟩ := e
  exact h'

end Go.Proofs.YtkclkhfcmjhogaaDoor

namespace Go.Proofs.YtkclkhfcmjhogaaDoor
open Go.RowKit
set_option linter.unusedVariables false

/-- t is what is left of l, and less. -/
def Sx (t l : List Nat) : Prop := ∃ c u, l = c :: u ∧ t <:+ u
theorem Sx.len {t l : List Nat} (h : Sx t l) : t.length < l.length := by
  obtain ⟨c, u, rfl, h⟩ := h
  have := h.length_le
  simp; omega
theorem Sx.suf {t l : List Nat} (h : Sx t l) : t <:+ l := by
  obtain ⟨c, u, rfl, h⟩ := h
  exact h.trans (List.suffix_cons c u)
theorem Sx.more {s t l : List Nat} (h : Sx t l) (k : s <:+ t) : Sx s l := by
  obtain ⟨c, u, rfl, h⟩ := h
  exact ⟨c, u, rfl, k.trans h⟩
theorem Sx.cons (c : Nat) (l : List Nat) : Sx l (c :: l) := ⟨c, l, rfl, List.suffix_refl l⟩
theorem Sx.one {c : Nat} {t l : List Nat} (h : t <:+ l) : Sx t (c :: l) := ⟨c, l, rfl, h⟩
theorem hx_suf {l t : List Nat} {c : Nat} (h : hx l = some (c, t)) : Sx t l := by
  unfold hx at h
  split at h
  · rename_i a b l
    split at h
    · cases h
      exact .one (List.suffix_cons b _)
    · cases h
  · cases h
theorem esc_suf {l t : List Nat} {c : Nat} (h : esc l = some (c, t)) : Sx t l := by
  unfold esc at h
  split at h
  · cases h
  · split at h
    · exact .one (hx_suf h).suf
    · split at h
      · cases h; exact .cons _ _
      · cases h
theorem sgn_suf {l t : List Nat} {c : Nat} (h : sgn l = some (c, t)) : Sx t l := by
  unfold sgn at h
  split at h
  · cases h
  · split at h
    · exact .one (esc_suf h).suf
    · split at h
      · cases h; exact .cons _ _
      · cases h
theorem prt_suf {l t : List Nat} {r : Nat × Nat} (h : prt l = some (r, t)) : Sx t l := by
  unfold prt at h
  split at h
  · cases h
  · rename_i a' t' hs
    have h1 := sgn_suf hs
    unfold prt2 at h
    split at h
    · cases h; exact h1
    · rename_i c l'
      split at h
      · split at h
        · cases h
        · rename_i b' t'' hs2
          split at h
          · cases h; exact h1.more ((sgn_suf hs2).suf.trans (List.suffix_cons c _))
          · cases h
      · cases h; exact h1
theorem prs_suf : ∀ (f : Nat) (p q : Nat → Bool) (l t : List Nat), prs f p l = some (q, t) → Sx t l
  | 0, _, _, _, _, h => by cases h
  | _ + 1, _, _, [], _, h => by cases h
  | f + 1, p, q, c :: l, t, h => by
    unfold prs at h
    split at h
    · cases h; exact .cons _ _
    · split at h
      · cases h
      · rename_i a b u hp
        exact (prt_suf hp).more (prs_suf f _ q u t h).suf
theorem brk_suf {l t : List Nat} {p : Nat → Bool} (h : brk l = some (p, t)) : Sx t l := by
  unfold brk at h
  split at h
  · cases h
  · rename_i a b u hp
    exact (prt_suf hp).more (prs_suf _ _ _ _ _ h).suf
theorem bks_suf {l t : List Nat} {p : Nat → Bool} (h : bks l = some (p, t)) : Sx t l := by
  unfold bks at h
  split at h
  · cases h
  · split at h
    · split at h
      · cases h
      · rename_i q u hb
        cases h
        exact .one (brk_suf hb).suf
    · exact brk_suf h
theorem cls_suf {l t : List Nat} {p : Nat → Bool} (h : cls l = some (p, t)) : Sx t l ∧ any p = true := by
  unfold cls at h
  split at h
  · cases h
  · rename_i q u h0
    split at h
    · rename_i ha
      cases h
      refine ⟨?_, ha⟩
      unfold cls0 at h0
      split at h0
      · cases h0
      · split at h0
        · cases h0; exact .cons _ _
        · split at h0
          · exact .one (bks_suf h0).suf
          · split at h0
            · cases h0
            · rename_i a v hs
              cases h0
              exact sgn_suf hs
    · cases h

/-- What is read: an error, or an expression and what is left. -/
abbrev Res := Except Int (RX × List Nat)
def eset : Nat → Bool := fun _ => false
def atomS (inner : List Nat → Res) : List Nat → Res
  | [] => .error 2
  | c :: t => if c = 40 then (match inner t with
    | .error e => .error e
    | .ok (x, []) => .error 2
    | .ok (x, d :: v) => if d = 41 then .ok (x, v) else .error 2) else (match cls (c :: t) with
    | none => .error 2
    | some (p, u) => .ok (⟨1, p, []⟩, u))
def signK (c : Nat) : Option Int := if c = 42 then some 4 else if c = 43 then some 5 else if c = 63 then some 6 else none
def signS (x : RX) : List Nat → RX × List Nat
  | [] => (x, [])
  | c :: u => match signK c with
    | some k => (⟨k, eset, [x]⟩, u)
    | none => (x, c :: u)
def repS (inner : List Nat → Res) (l : List Nat) : Res := match atomS inner l with
  | .error e => .error e
  | .ok (x, t) => .ok (signS x t)
def endsC : List Nat → Bool
  | [] => true
  | c :: _ => c == 124 || c == 41
abbrev Resl := Except Int (List RX × List Nat)
def catL (inner : List Nat → Res) : Nat → List RX → List Nat → Resl
  | 0, acc, l => .ok (acc, l)
  | n + 1, acc, l => if endsC l then .ok (acc, l) else match repS inner l with
    | .error e => .error e
    | .ok (x, t) => catL inner n (acc ++ [x]) t
def one (k : Int) (l : List RX) : RX := match l with
  | [x] => x
  | _ => ⟨k, eset, l⟩
def oneR (k : Int) : Resl → Res
  | .error e => .error e
  | .ok (xs, u) => .ok (one k xs, u)
def catS (inner : List Nat → Res) (l : List Nat) : Res := match repS inner l with
  | .error e => .error e
  | .ok (x, t) => oneR 2 (catL inner (t.length + 1) [x] t)
def altL (inner : List Nat → Res) : Nat → List RX → List Nat → Resl
  | 0, acc, l => .ok (acc, l)
  | n + 1, acc, [] => .ok (acc, [])
  | n + 1, acc, c :: t => if c = 124 then (match catS inner t with
    | .error e => .error e
    | .ok (x, u) => altL inner n (acc ++ [x]) u) else .ok (acc, c :: t)
def altS (inner : List Nat → Res) (l : List Nat) : Res := match catS inner l with
  | .error e => .error e
  | .ok (x, t) => oneR 3 (altL inner (t.length + 1) [x] t)
/-- So many brackets more may be opened. -/
def altN : Nat → List Nat → Res
  | 0 => altS (fun _ => .error 6)
  | n + 1 => altS (altN n)
def inn : Nat → List Nat → Res
  | 0 => fun _ => .error 6
  | n + 1 => altN n
theorem altN_inn (n : Nat) : altN n = altS (inn n) := by cases n <;> rfl
def wholeS (l : List Nat) : Except Int RX := match altN 13 l with
  | .error e => .error e
  | .ok (x, []) => .ok x
  | .ok (x, _ :: _) => .error 2
def prsX (l : List Nat) : Except Int RX := match wholeS l with
  | .error e => .error e
  | .ok x => if may x = 0 then .ok x else .error (may x)

/-- What is read is left, and less. -/
def Goes (f : List Nat → Res) : Prop := ∀ l x t, f l = .ok (x, t) → Sx t l
theorem atomS_goes {f : List Nat → Res} (h : Goes f) : Goes (atomS f) := by
  intro l x t e
  unfold atomS at e
  split at e
  · cases e
  · split at e
    · split at e
      · cases e
      · cases e
      · rename_i x' d v hi
        split at e
        · cases e
          exact .one ((List.suffix_cons d _).trans (h _ _ _ hi).suf)
        · cases e
    · split at e
      · cases e
      · rename_i p u hc
        cases e
        exact (cls_suf hc).1
theorem signS_suf (x : RX) (l : List Nat) : (signS x l).2 <:+ l := by
  unfold signS
  split
  · exact List.suffix_refl _
  · split
    · exact List.suffix_cons _ _
    · exact List.suffix_refl _
theorem repS_goes {f : List Nat → Res} (h : Goes f) : Goes (repS f) := by
  intro l x t e
  unfold repS at e
  split at e
  · cases e
  · rename_i y u ha
    have e2 := Except.ok.inj e
    have e3 : t = (signS y u).2 := by rw [e2]
    rw [e3]
    exact (atomS_goes h _ _ _ ha).more (signS_suf y u)
theorem catL_suf {f : List Nat → Res} (h : Goes f) : ∀ (n : Nat) (acc xs : List RX) (l t : List Nat), catL f n acc l = .ok (xs, t) → t <:+ l
  | 0, acc, xs, l, t, e => by cases e; exact List.suffix_refl _
  | n + 1, acc, xs, l, t, e => by
    unfold catL at e
    split at e
    · cases e; exact List.suffix_refl _
    · split at e
      · cases e
      · rename_i y u hr
        exact (catL_suf h n _ _ _ _ e).trans (repS_goes h _ _ _ hr).suf
theorem oneR_ok {k : Int} {r : Resl} {x : RX} {t : List Nat} (h : oneR k r = .ok (x, t)) : ∃ xs, r = .ok (xs, t) ∧ x = one k xs := by
  unfold oneR at h
  split at h
  · cases h
  · cases h; exact ⟨_, rfl, rfl⟩
theorem catS_goes {f : List Nat → Res} (h : Goes f) : Goes (catS f) := by
  intro l x t e
  unfold catS at e
  split at e
  · cases e
  · rename_i y u hr
    obtain ⟨xs, hc, _⟩ := oneR_ok e
    exact (repS_goes h _ _ _ hr).more (catL_suf h _ _ _ _ _ hc)
theorem altL_suf {f : List Nat → Res} (h : Goes f) : ∀ (n : Nat) (acc xs : List RX) (l t : List Nat), altL f n acc l = .ok (xs, t) → t <:+ l
  | 0, acc, xs, l, t, e => by cases e; exact List.suffix_refl _
  | n + 1, acc, xs, [], t, e => by cases e; exact List.suffix_refl _
  | n + 1, acc, xs, c :: l, t, e => by
    unfold altL at e
    split at e
    · split at e
      · cases e
      · rename_i y u hr
        exact ((altL_suf h n _ _ _ _ e).trans (catS_goes h _ _ _ hr).suf).trans (List.suffix_cons _ _)
    · cases e; exact List.suffix_refl _
theorem altS_goes {f : List Nat → Res} (h : Goes f) : Goes (altS f) := by
  intro l x t e
  unfold altS at e
  split at e
  · cases e
  · rename_i y u hr
    obtain ⟨xs, hc, _⟩ := oneR_ok e
    exact (catS_goes h _ _ _ hr).more (altL_suf h _ _ _ _ _ hc)
theorem altN_goes : ∀ n, Goes (altN n)
  | 0 => altS_goes (fun _ _ _ h => by cases h)
  | n + 1 => altS_goes (altN_goes n)
theorem inn_goes : ∀ n, Goes (inn n)
  | 0 => fun _ _ _ h => by cases h
  | n + 1 => altN_goes n

/-- More fuel tells the same. -/
theorem catL_more {f : List Nat → Res} (hf : Goes f) : ∀ (n m : Nat) (acc : List RX) (l : List Nat), l.length < n → l.length < m → catL f n acc l = catL f m acc l
  | 0, _, _, _, h, _ => by omega
  | _, 0, _, _, _, h => by omega
  | n + 1, m + 1, acc, l, h1, h2 => by
    unfold catL
    split
    · rfl
    · cases hr : repS f l with
      | error e => rfl
      | ok r =>
        obtain ⟨x, t⟩ := r
        have := (repS_goes hf _ _ _ hr).len
        exact catL_more hf n m _ t (by omega) (by omega)
theorem altL_more {f : List Nat → Res} (hf : Goes f) : ∀ (n m : Nat) (acc : List RX) (l : List Nat), l.length < n → l.length < m → altL f n acc l = altL f m acc l
  | 0, _, _, _, h, _ => by omega
  | _, 0, _, _, _, h => by omega
  | n + 1, m + 1, acc, [], h1, h2 => rfl
  | n + 1, m + 1, acc, c :: l, h1, h2 => by
    unfold altL
    split
    · cases hr : catS f l with
      | error e => rfl
      | ok r =>
        obtain ⟨x, t⟩ := r
        have := (catS_goes hf _ _ _ hr).len
        simp only [List.length_cons] at h1 h2
        exact altL_more hf n m _ t (by omega) (by omega)
    · rfl
/-- One round of a cat. -/
def catR (f : List Nat → Res) (acc : List RX) (l : List Nat) : Resl := catL f (l.length + 1) acc l
def altR (f : List Nat → Res) (acc : List RX) (l : List Nat) : Resl := altL f (l.length + 1) acc l
theorem catR_ends {f : List Nat → Res} {acc : List RX} {l : List Nat} (h : endsC l = true) : catR f acc l = .ok (acc, l) := by
  unfold catR catL; rw [if_pos h]
theorem catR_step {f : List Nat → Res} (hf : Goes f) {acc : List RX} {l : List Nat} (h : endsC l = false) : catR f acc l = (match repS f l with | .error e => .error e | .ok (x, t) => catR f (acc ++ [x]) t) := by
  unfold catR
  conv => lhs; unfold catL
  rw [if_neg (by simp [h])]
  cases hr : repS f l with
  | error e => rfl
  | ok r =>
    obtain ⟨x, t⟩ := r
    have := (repS_goes hf _ _ _ hr).len
    exact catL_more hf _ _ _ t (by omega) (by omega)
theorem altR_nil {f : List Nat → Res} {acc : List RX} : altR f acc [] = .ok (acc, []) := rfl
theorem altR_ends {f : List Nat → Res} {acc : List RX} {c : Nat} {l : List Nat} (h : c ≠ 124) : altR f acc (c :: l) = .ok (acc, c :: l) := by
  unfold altR altL; rw [if_neg h]
theorem altR_step {f : List Nat → Res} (hf : Goes f) {acc : List RX} {l : List Nat} : altR f acc (124 :: l) = (match catS f l with | .error e => .error e | .ok (x, t) => altR f (acc ++ [x]) t) := by
  unfold altR
  conv => lhs; unfold altL
  rw [if_pos rfl]
  cases hr : catS f l with
  | error e => rfl
  | ok r =>
    obtain ⟨x, t⟩ := r
    have := (catS_goes hf _ _ _ hr).len
    exact altL_more hf _ _ _ t (by simp; omega) (by omega)

end Go.Proofs.YtkclkhfcmjhogaaDoor
