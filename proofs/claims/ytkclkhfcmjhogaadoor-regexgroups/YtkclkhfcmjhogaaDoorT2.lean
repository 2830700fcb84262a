/- Which expressions may be. -/
import Derived.Test.YtkclkhfcmjhogaaDoorT1
import Derived.Test.YtkclkhfcmjhogaaDoorE1
namespace Go.Proofs.YtkclkhfcmjhogaaDoor
open Go.RowKit
set_option linter.unusedVariables false

def lvl (k : Int) : Int := if k = 3 then 1 else if k = 2 then 2 else if k = 4 ∨ k = 5 ∨ k = 6 then 3 else if k = 1 then 4 else 0
/-- Has it what its kind asks for? -/
def node (k : Int) (p : Nat → Bool) (n : Nat) : Bool :=
  if k = 3 ∨ k = 2 then !any p && decide (2 ≤ n) else if k = 4 ∨ k = 5 ∨ k = 6 then !any p && decide (n = 1) else if k = 1 then any p && decide (n = 0) else false
def RX.formed : RX → Bool := RX.fold (fun k p l R => node k p l.length && (l.all (fun a => decide (lvl a.kind ≠ lvl k)) && R.all id))
def RX.nodes : RX → Nat := RX.fold (fun _ _ _ R => 1 + R.sum)
def maxl : List Nat → Nat
  | [] => 0
  | n :: l => max n (maxl l)
def RX.depth : RX → Nat := RX.fold (fun _ _ _ R => maxl R + 1)
theorem formed_eq (k : Int) (p : Nat → Bool) (l : List RX) : RX.formed ⟨k, p, l⟩ = (node k p l.length && (l.all (fun a => decide (lvl a.kind ≠ lvl k)) && l.all RX.formed)) := by
  rw [RX.formed, RX.fold_eq, List.all_map]; rfl
theorem nodes_eq (k : Int) (p : Nat → Bool) (l : List RX) : RX.nodes ⟨k, p, l⟩ = 1 + (l.map RX.nodes).sum := by rw [RX.nodes, RX.fold_eq]
theorem depth_eq (k : Int) (p : Nat → Bool) (l : List RX) : RX.depth ⟨k, p, l⟩ = maxl (l.map RX.depth) + 1 := by rw [RX.depth, RX.fold_eq]
def RX.node (x : RX) : Bool := Proofs.YtkclkhfcmjhogaaDoor.node x.kind x.set x.args.length
/-- May it be? -/
def may (x : RX) : Int := if x.formed = false then 2 else if x.nodes ≤ 40 ∧ x.depth ≤ 12 then 0 else 6

/-- The document's form. -/
def RX.form : RX → Bool := RX.fold (fun k p l R =>
  if k = 1 then decide (l.length = 0) && any p
  else if k = 2 ∨ k = 3 then decide (2 ≤ l.length) && ((l.all (fun a => decide (a.kind ≠ k)) && R.all id) && !any p)
  else if k = 4 ∨ k = 5 ∨ k = 6 then decide (l.length = 1) && (l.all (fun a => decide (a.kind < 4)) && ((l.all (fun a => decide (a.kind ≠ k)) && R.all id) && !any p))
  else false)
theorem form_eq (k : Int) (p : Nat → Bool) (l : List RX) : RX.form ⟨k, p, l⟩ = (if k = 1 then decide (l.length = 0) && any p
  else if k = 2 ∨ k = 3 then decide (2 ≤ l.length) && ((l.all (fun a => decide (a.kind ≠ k)) && l.all RX.form) && !any p)
  else if k = 4 ∨ k = 5 ∨ k = 6 then decide (l.length = 1) && (l.all (fun a => decide (a.kind < 4)) && ((l.all (fun a => decide (a.kind ≠ k)) && l.all RX.form) && !any p))
  else false) := by rw [RX.form, RX.fold_eq, List.all_map]; rfl
theorem formed_kind {x : RX} (h : x.formed = true) : x.kind = 1 ∨ x.kind = 2 ∨ x.kind = 3 ∨ x.kind = 4 ∨ x.kind = 5 ∨ x.kind = 6 := by
  obtain ⟨k, p, l⟩ := x
  rw [formed_eq] at h
  unfold Proofs.YtkclkhfcmjhogaaDoor.node at h
  show k = 1 ∨ k = 2 ∨ k = 3 ∨ k = 4 ∨ k = 5 ∨ k = 6
  by_cases h1 : k = 3 ∨ k = 2
  · omega
  · by_cases h2 : k = 4 ∨ k = 5 ∨ k = 6
    · omega
    · by_cases h3 : k = 1
      · omega
      · rw [if_neg h1, if_neg h2, if_neg h3] at h
        simp at h
theorem all_congr {l : List RX} {f g : RX → Bool} (h : ∀ x ∈ l, f x = g x) : l.all f = l.all g := by
  induction l with
  | nil => rfl
  | cons x l ih => rw [List.all_cons, List.all_cons, h x (by simp), ih (fun y hy => h y (by simp [hy]))]
theorem all_and {l : List RX} {f g : RX → Bool} : (l.all f && l.all g) = l.all (fun x => f x && g x) := by
  induction l with
  | nil => rfl
  | cons x l ih =>
    simp only [List.all_cons, ← ih]
    cases f x <;> cases g x <;> simp
theorem form_formed : ∀ x : RX, x.form = x.formed := by
  refine RX.ind ?_
  intro k p l ih
  rw [form_eq, formed_eq, all_congr ih]
  unfold Proofs.YtkclkhfcmjhogaaDoor.node
  by_cases h1 : k = 1
  · subst h1
    simp only [if_true, show ¬ ((1 : Int) = 3 ∨ (1 : Int) = 2) from by decide, show ¬ ((1 : Int) = 4 ∨ (1 : Int) = 5 ∨ (1 : Int) = 6) from by decide, if_false]
    cases l with
    | nil => simp
    | cons x l => simp
  · rw [if_neg h1]
    by_cases h2 : k = 2 ∨ k = 3
    · rw [if_pos h2, if_pos (by omega)]
      rw [all_and, all_and]
      rw [all_congr (g := fun x => decide (lvl x.kind ≠ lvl k) && x.formed)]
      · cases any p <;> cases decide (2 ≤ l.length) <;> simp
      · intro x _
        cases hf : x.formed with
        | false => simp
        | true =>
          have := formed_kind hf
          simp only [Bool.and_true, decide_eq_decide]
          unfold lvl
          rcases h2 with rfl | rfl <;> rcases this with e | e | e | e | e | e <;> rw [e] <;> decide
    · rw [if_neg h2, if_neg (show ¬ (k = 3 ∨ k = 2) from by omega)]
      by_cases h3 : k = 4 ∨ k = 5 ∨ k = 6
      · rw [if_pos h3, if_pos h3]
        have e : (l.all (fun a => decide (a.kind < 4)) && (l.all (fun a => decide (a.kind ≠ k)) && l.all RX.formed)) = (l.all (fun a => decide (lvl a.kind ≠ lvl k)) && l.all RX.formed) := by
          rw [all_and, all_and, all_and]
          refine all_congr (fun x _ => ?_)
          cases hf : x.formed with
          | false => simp
          | true =>
            have := formed_kind hf
            unfold lvl
            rcases h3 with rfl | rfl | rfl <;> rcases this with e | e | e | e | e | e <;> rw [e] <;> decide
        rw [← e]
        cases any p <;> cases decide (l.length = 1) <;> simp
      · rw [if_neg h3, if_neg h3, if_neg h1]
        simp

theorem le_maxl {l : List Nat} {n : Nat} (h : n ∈ l) : n ≤ maxl l := by
  induction l with
  | nil => cases h
  | cons m l ih =>
    rw [maxl]
    rcases List.mem_cons.1 h with e | e
    · omega
    · have := ih e; omega
theorem maxl_le {l : List Nat} {d : Nat} : maxl l ≤ d ↔ ∀ n ∈ l, n ≤ d := by
  induction l with
  | nil => simp [maxl]
  | cons m l ih => rw [maxl]; simp only [List.mem_cons, forall_eq_or_imp]; rw [← ih]; omega

/-- Equal trees. -/
def sameX : RX → RX → Bool
  | ⟨k, p, l⟩, y => decide (k = y.kind) && (same p y.set && (decide (l.length = y.args.length) && sameL l y.args))
  where sameL : List RX → List RX → Bool
  | [], _ => true
  | x :: l, m => (match m with | [] => false | y :: m => sameX x y && sameL l m)
def Like2 (x y : RX) : Prop := sameX x y = true

end Go.Proofs.YtkclkhfcmjhogaaDoor
