/- How expressions are shown. -/
import Derived.Test.YtojbakkbmfgoaaaDoorMg16
import Derived.Test.YtojbakkbmfgoaaaDoorMg00
import Derived.Test.YtojbakkbmfgoaaaDoorMg10
import Derived.Test.YtojbakkbmfgoaaaDoorMg09
import Derived.Test.YtojbakkbmfgoaaaDoorMg07
import Derived.Test.YtojbakkbmfgoaaaDoorMg08
import Derived.Test.YtojbakkbmfgoaaaDoorMg11
import Derived.BigQuiet
import Derived.Shelf.Small.Strs
import Derived.MapKept
namespace Go.Proofs.YtojbakkbmfgoaaaDoor
open Go.RowKit
set_option linter.unusedVariables false

def signC (k : Int) : Nat := if k = 4 then 42 else if k = 5 then 43 else 63
/-- A part within an expression of kind k: with brackets, where it binds less. -/
def brk1 (k : Int) (a : RX) (t : List Nat) : List Nat := if lvl a.kind < lvl k then 40 :: (t ++ [41]) else t
def joinK (k : Int) (U : List (List Nat)) : List Nat := if k = 2 then U.flatten else if k = 3 then [124].intercalate U else (match U with
  | [] => []
  | t :: _ => t ++ [signC k])
/-- The text of an expression, g of sets. -/
def RX.sh (g : (Nat → Bool) → List Nat) : RX → List Nat := RX.fold (fun k p l T => if k = 1 then g p else joinK k (List.zipWith (brk1 k) l T))
def texts (g : (Nat → Bool) → List Nat) (k : Int) (l : List RX) : List (List Nat) := l.map (fun a => brk1 k a (a.sh g))
theorem sh_eq (g : (Nat → Bool) → List Nat) (k : Int) (p : Nat → Bool) (l : List RX) : RX.sh g ⟨k, p, l⟩ = if k = 1 then g p else joinK k (texts g k l) := by
  rw [RX.sh, RX.fold_eq]
  congr 2
  rw [texts, List.zipWith_map_right, List.zipWith_self]
  rfl
/-- g tells how sets are shown. -/
def Gd (g : (Nat → Bool) → List Nat) : Prop := ∀ p, ∃ R, Runs p 0 R ∧ g p = shw R
theorem Gd.small {g : (Nat → Bool) → List Nat} (h : Gd g) (p : Nat → Bool) : (g p).length ≤ 3000 ∧ ∀ c ∈ g p, c < 256 := by
  obtain ⟨R, h1, h2⟩ := h p
  rw [h2]
  exact shw_len h1 (by have := Runs.len h1 (by omega); omega)
theorem brk1_len (k : Int) (a : RX) (t : List Nat) : (brk1 k a t).length ≤ t.length + 2 := by
  unfold brk1
  split
  · simp
  · omega
theorem inter_len (U : List (List Nat)) : ([124].intercalate U).length ≤ (U.map (fun t => t.length + 1)).sum := by
  unfold List.intercalate
  induction U with
  | nil => simp
  | cons t U ih =>
    cases U with
    | nil => simp
    | cons u U =>
      rw [List.intersperse_cons_cons, List.flatten_cons, List.flatten_cons, List.length_append, List.length_append, List.map_cons, List.sum_cons]
      simp only [List.length_singleton] at *
      omega
end Go.Proofs.YtojbakkbmfgoaaaDoor
