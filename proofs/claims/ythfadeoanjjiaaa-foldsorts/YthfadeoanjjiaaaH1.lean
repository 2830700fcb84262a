/- Small facts that the statements' walks share. -/
import Derived.Test.YthfadeoanjjiaaaG1
namespace Go.Proofs.Ythfadeoanjjiaaa
open Go.RowKit Srt

theorem neg_at {a : Nat} (ha : Fl.Ok a) (w : World) : (Op.unary .neg (.float .f64 a)).run Try.prog w = .ok (.float .f64 (Fl.opp a)) w := by
  rw [← Fl.opp_eq ha]
  rfl
theorem okw {x : Nat} (h : x < 18446744073709551616) : Fl.Ok x := h
theorem ok_list {l : List Nat} (h : l.all (fun x => decide (x < 18446744073709551616)) = true) (i : Nat) : Fl.Ok (at' l i) := by
  refine at_ok (fun x hx => ?_) i
  rw [List.all_eq_true] at h
  have := of_decide_eq_true (h x hx)
  exact this

theorem ext_none {side : Int} {f : Nat → Nat} {n x : Nat} {is : Bool} (h : Ext side f n x is) (k : ∀ i, i < n → Fl.nan (f i) = true) : is = false := by
  rcases h with ⟨h, _⟩ | ⟨_, ⟨i, hi, rfl⟩, h3, _⟩
  · exact h
  · rw [k i hi] at h3; cases h3

end Go.Proofs.Ythfadeoanjjiaaa
