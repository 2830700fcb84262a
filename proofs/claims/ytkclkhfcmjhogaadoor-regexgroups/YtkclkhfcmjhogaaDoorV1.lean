/- How expressions are shown. -/
import Derived.Test.YtkclkhfcmjhogaaDoorK8
import Derived.Test.YtkclkhfcmjhogaaDoorSJ
import Derived.Test.YtkclkhfcmjhogaaDoorS5
import Derived.Test.YtkclkhfcmjhogaaDoorA5
import Derived.Test.YtkclkhfcmjhogaaDoorH1
import Derived.BigQuiet
namespace Go.Proofs.YtkclkhfcmjhogaaDoor
open Go.RowKit
set_option linter.unusedVariables false

def signC (k : Int) : Nat := if k = 4 then 42 else if k = 5 then 43 else 63
/-- A part within an expression of kind k: with brackets, where it binds less. -/
def brk1 (k : Int) (a : RX) (t : List Nat) : List Nat := if lvl a.kind < lvl k then 40 :: (t ++ [41]) else t
def joinK (k : Int) (U : List (List Nat)) : List Nat := if k = 2 then U.flatten else if k = 3 then [124].intercalate U else (match U with
  | [] => []
  | t :: _ => t ++ [signC k])
/-- The text of an expression, g of sets. -/
def RX.sh (g : (Nat → Bool) → List Nat) : RX → List Nat := RX.fold (fun k p l T => if k = 1 then g p else joinK k (List.zipWith (brk1 k) l T))
def texts (g : (Nat → Bool) → List Nat) (k : Int) (l : List RX) : List (List Nat) := l.map (fun a => brk1 k a (a.sh g))
theorem sh_eq (g : (Nat → Bool) → List Nat) (k : Int) (p : Nat → Bool) (l : List RX) : RX.sh g ⟨k, p, l⟩ = if k = 1 then g p else joinK k (texts g k l) := by
  rw [RX.sh, RX.fold_eq]
  congr 2
  rw [texts, List.zipWith_map_right, List.zipWith_self]
  rfl
theorem sh_at (g : (Nat → Bool) → List Nat) (x : RX) : x.sh g = if x.kind = 1 then g x.set else joinK x.kind (texts g x.kind x.args) := by obtain ⟨k, p, l⟩ := x; exact sh_eq g k p l
/-- g tells how sets are shown. -/
def Gd (g : (Nat → Bool) → List Nat) : Prop := ∀ p, ∃ R, Runs p 0 R ∧ g p = shw R
theorem Gd.small {g : (Nat → Bool) → List Nat} (h : Gd g) (p : Nat → Bool) : (g p).length ≤ 3000 ∧ ∀ c ∈ g p, c < 256 := by
  obtain ⟨R, h1, h2⟩ := h p
  rw [h2]
  exact shw_len h1 (by have := Runs.len h1 (by omega); omega)
theorem sum_le {l : List RX} {f : RX → Nat} (h : ∀ x ∈ l, f x ≤ 3004 * x.nodes) : (l.map f).sum ≤ 3004 * (l.map RX.nodes).sum := by
  induction l with
  | nil => simp
  | cons x l ih =>
    have h1 := h x (by simp)
    have h2 := ih (fun y hy => h y (by simp [hy]))
    simp only [List.map_cons, List.sum_cons]
    omega
theorem brk1_len (k : Int) (a : RX) (t : List Nat) : (brk1 k a t).length ≤ t.length + 2 := by
  unfold brk1
  split
  · simp
  · omega
theorem inter_len (U : List (List Nat)) : ([124].intercalate U).length ≤ (U.map (fun t => t.length + 1)).sum := by
  unfold List.intercalate
  induction U with
  | nil => simp
  | cons t U ih =>
    cases U with
    | nil => simp
    | cons u U =>
      rw [List.intersperse_cons_cons, List.flatten_cons, List.flatten_cons, List.length_append, List.length_append, List.map_cons, List.sum_cons]
      simp only [List.length_singleton] at *
      omega
theorem sh_len {g : (Nat → Bool) → List Nat} (hg : Gd g) : ∀ x : RX, (x.sh g).length + 4 ≤ 3004 * x.nodes := by
  refine RX.ind ?_
  intro k p l ih
  rw [sh_eq, nodes_eq]
  have h1 : ((l.map (fun a => (brk1 k a (a.sh g)).length + 1))).sum ≤ 3004 * (l.map RX.nodes).sum := sum_le (fun x hx => by have := ih x hx; have := brk1_len k x (x.sh g); omega)
  split
  · have := (hg.small p).1; omega
  · unfold joinK
    split
    · unfold texts
      have h2 : ((l.map (fun a => brk1 k a (a.sh g))).flatten).length ≤ ((l.map (fun a => (brk1 k a (a.sh g)).length + 1))).sum := by
        clear h1 ih
        induction l with
        | nil => simp
        | cons x l ih => simp only [List.map_cons, List.flatten_cons, List.length_append, List.sum_cons]; omega
      omega
    · split
      · have h2 := inter_len (texts g k l)
        unfold texts at h2
        rw [List.map_map] at h2
        have h3 : (List.map ((fun t => t.length + 1) ∘ fun a => brk1 k a (RX.sh g a)) l).sum = ((l.map (fun a => (brk1 k a (a.sh g)).length + 1))).sum := rfl
        unfold texts
        omega
      · unfold texts
        cases l with
        | nil => simp
        | cons x l =>
          simp only [List.map_cons, List.sum_cons, List.length_append, List.length_singleton] at *
          have := nodes_pos x
          omega

end Go.Proofs.YtkclkhfcmjhogaaDoor
