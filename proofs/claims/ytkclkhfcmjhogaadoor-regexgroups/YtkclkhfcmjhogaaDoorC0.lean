/- Of the play's trees: what signs make of them. -/
import Derived.Test.YtkclkhfcmjhogaaDoorQ6
import Derived.Test.YtkclkhfcmjhogaaDoorX2
import Derived.Test.YtkclkhfcmjhogaaDoorG1
namespace Go.Proofs.YtkclkhfcmjhogaaDoor
open Go.RowKit
set_option linter.unusedVariables false

theorem Nd_le {d : Nat} (h : d ≤ 3) : Nd d ≤ 40 := by
  rcases (show d = 0 ∨ d = 1 ∨ d = 2 ∨ d = 3 from by omega) with rfl | rfl | rfl | rfl <;> decide
theorem Nd_le2 {d : Nat} (h : d ≤ 2) : Nd d ≤ 13 := by
  rcases (show d = 0 ∨ d = 1 ∨ d = 2 from by omega) with rfl | rfl | rfl <;> decide
theorem may_of {x : RX} (h1 : x.formed = true) (h2 : x.nodes ≤ 40) (h3 : x.depth ≤ 12) : may x = 0 := by
  unfold may
  rw [h1, if_neg (by simp), if_pos ⟨h2, h3⟩]
theorem Pl.may {d : Nat} {x : RX} (h : Pl d x) (hd : d ≤ 3) : may x = 0 :=
  may_of h.formed (Nat.le_trans h.nodes (Nd_le hd)) (by have := h.depth; omega)
theorem Pl.tall {d : Nat} {x : RX} (h : Pl d x) (hd : d ≤ 3) : x.tall < 90000 := by
  have := tall_nodes x
  have := Nat.le_trans h.nodes (Nd_le hd)
  omega
/-- A sign behind a tree that is none. -/
theorem sign_pl {d : Nat} {x : RX} (h : Pl d x) (hd : d ≤ 2) (h4 : x.kind < 4) {k : Int} (hk : k = 4 ∨ k = 5 ∨ k = 6) : Proofs.YtkclkhfcmjhogaaDoor.may ⟨k, fun _ => false, [x]⟩ = 0 := by
  have h1 := h.kind
  refine may_of ?_ ?_ ?_
  · rw [formed_eq]
    simp only [List.all_cons, List.all_nil, h.formed, any_none, node, List.length_cons, List.length_nil]
    have hl : lvl x.kind ≠ lvl k := by
      unfold lvl
      generalize x.kind = m at *
      rcases (show m = 1 ∨ m = 2 ∨ m = 3 from by omega) with rfl | rfl | rfl <;> rcases hk with rfl | rfl | rfl <;> simp
    rcases hk with rfl | rfl | rfl <;> simp [hl]
  · rw [nodes_eq]
    have := Nat.le_trans h.nodes (Nd_le2 hd)
    simp; omega
  · rw [depth_eq]
    have := h.depth
    simp [maxl]; omega
theorem sign_tall2 {d : Nat} {x : RX} (h : Pl d x) (hd : d ≤ 2) (k : Int) : RX.tall ⟨k, fun _ => false, [x]⟩ < 90000 := by
  have := h.tall (by omega : d ≤ 3)
  have h2 := tall_nodes x
  have := Nat.le_trans h.nodes (Nd_le2 hd)
  rw [tall_eq]
  simp [maxl]; omega
theorem inX_at {bt : Nat → Nat} {n : Nat} {x : RX} (hn : n ≤ 60) (h : may x = 0) : inX bt n x = x.mt bt n 0 n := by
  unfold inX
  rw [decide_eq_true hn, h]
  simp
theorem star_self {N : Nat} {f : Mat} (hf : Fwd N f) {i : Nat} (hi : i < N) : starM N f i i = true := (starM_true hf hi).2 (.inl rfl)
/-- Nothing at all: a star, an option, a plus. -/
theorem null_star {bt : Nat → Nat} {n : Nat} {x : RX} (hn : n ≤ 60) (h : may ⟨4, fun _ => false, [x]⟩ = 0) (h0 : n = 0) : inX bt n ⟨4, fun _ => false, [x]⟩ = true := by
  subst h0
  rw [inX_at hn h, mt_eq, if_neg (by decide)]
  simp only [List.map_cons, List.map_nil, mtK4]
  exact star_self (mt_fwd bt 0 x) (by omega)
theorem null_opt {bt : Nat → Nat} {x : RX} (h : may ⟨6, fun _ => false, [x]⟩ = 0) : inX bt 0 ⟨6, fun _ => false, [x]⟩ = true := by
  rw [inX_at (by omega) h, mt_eq, if_neg (by decide)]
  simp only [List.map_cons, List.map_nil, mtK6]
  simp [orM, idM]
theorem null_plus {bt : Nat → Nat} {x : RX} (hx : may x = 0) (h : may ⟨5, fun _ => false, [x]⟩ = 0) : inX bt 0 ⟨5, fun _ => false, [x]⟩ = inX bt 0 x := by
  rw [inX_at (by omega) h, inX_at (by omega) hx, mt_eq, if_neg (by decide)]
  simp only [List.map_cons, List.map_nil, mtK5]
  apply bool_iff
  rw [thenM_true]
  constructor
  · rintro ⟨k, hk, h1, _⟩
    obtain rfl : k = 0 := by omega
    exact h1
  · intro h1
    exact ⟨0, by omega, h1, star_self (mt_fwd bt 0 x) (by omega)⟩
theorem null_kind4 {bt : Nat → Nat} {x : RX} (h : may x = 0) (hk : x.kind = 4) : inX bt 0 x = true := by
  obtain ⟨k, p, l⟩ := x
  have e : k = 4 := hk
  subst e
  have hl := (formed_kd (may_small h).1).2.2.2.2 (by show (4 : Int) ≤ 4; decide)
  match l, hl with
  | [y], _ =>
    rw [inX_at (by omega) h, mt_eq, if_neg (by decide)]
    simp only [List.map_cons, List.map_nil, mtK4]
    exact star_self (mt_fwd bt 0 y) (by omega)

end Go.Proofs.YtkclkhfcmjhogaaDoor
