/- The walk of PageFaults. -/
import Derived.Test.YtjlnmkoggobbgaaD2
namespace Go.Proofs.Ytjlnmkoggobbgaa
open Go.RowKit

set_option maxHeartbeats 1000000 in
theorem faults_out (a b c : Option Addr) (na ca nb cb nc cc : Nat) (s : Int) (w : World) (h : 200 < na ∨ 8 < nb ∨ 8 < nc) :
    Calls Try.prog 6 #[.slice a na ca, .int .u8 s, .slice b nb cb, .slice c nc cc] w fun e w' => e = .returned (.bool true) ∧ Below w.heap.size w w' := by
  by_cases h1 : 200 < na
  · have z1 : (200 : Int) < na := by omega
    clear h
    go_enter Try.func6, Try.ntmps6
    go_wp2_with fail
    refine (begun_any w).mono ?_
    rintro e W ⟨rfl, B⟩
    have B' : Hid _ := B
    clear B
    go_wp2_with fail
    go_ret
    exact ⟨rfl, B'.out⟩
  · have z1 : (na : Int) ≤ 200 := by omega
    by_cases h2 : 8 < nb
    · have z2 : (8 : Int) < nb := by omega
      clear h
      go_enter Try.func6, Try.ntmps6
      go_wp2_with fail
      refine (begun_any w).mono ?_
      rintro e W ⟨rfl, B⟩
      have B' : Hid _ := B
      clear B
      go_wp2_with fail
      go_ret
      exact ⟨rfl, B'.out⟩
    · have z2 : (nb : Int) ≤ 8 := by omega
      have z3 : (8 : Int) < nc := by omega
      clear h
      go_enter Try.func6, Try.ntmps6
      go_wp2_with fail
      refine (begun_any w).mono ?_
      rintro e W ⟨rfl, B⟩
      have B' : Hid _ := B
      clear B
      go_wp2_with fail
      go_ret
      exact ⟨rfl, B'.out⟩

/-- The three lists, by their numbers. -/
structure Ls where
  A : Nat → Option Addr
  N : Nat → Nat
  C : Nat → Nat
  F : Nat → Nat → Int
structure Lists (w : World) (base LB : Nat) (l : Ls) : Prop where
  cell : ∀ i, i < 3 → w.cell? ⟨LB, i, none⟩ = some (.slice (l.A i) (l.N i) (l.C i))
  sl : ∀ i, i < 3 → Sl w (l.A i) (l.N i) (In (l.F i))
  low : ∀ i, i < 3 → ∀ j, j < l.N i → ∀ p, l.A i = some p → p.block < base
  nil : ∀ i, i < 3 → l.A i = none → l.N i = 0 ∧ l.C i = 0
  few : ∀ i, i < 3 → l.N i ≤ 8
def three {α : Type} (x y z : α) : Nat → α := fun i => if i = 0 then x else if i = 1 then y else z

theorem lists_new {w W : World} {a b : Option Addr} {na ca nb cb : Nat} {fa fb : Nat → Int} (ha : Sl w a na (In fa)) (hb : Sl w b nb (In fb)) (ea : a = none → na = 0 ∧ ca = 0) (eb : b = none → nb = 0 ∧ cb = 0) (la : na ≤ 8) (lb : nb ≤ 8) (B : Below w.heap.size w W) :
    Lists (W.alloc (.cells #[.slice a na ca, .slice b nb cb, .slice none 0 0] 31)) w.heap.size W.heap.size ⟨three a b none, three na nb 0, three ca cb 0, three fa fb (fun _ => 0)⟩ := by
  have M : Mv (fun _ => False) W (W.alloc (.cells #[.slice a na ca, .slice b nb cb, .slice none 0 0] 31)) := Mv.alloc _ _ _
  have i3 : ∀ i, i < 3 → i = 0 ∨ i = 1 ∨ i = 2 := fun i h => by omega
  have lo : ∀ {x : Option Addr} {n : Nat} {f : Nat → Int}, Sl w x n (In f) → ∀ j, j < n → ∀ p, x = some p → p.block < w.heap.size := by
    intro x n f h j hj p hp
    obtain ⟨q, off, e, hq, _⟩ := h j hj
    rw [e] at hp
    cases hp
    exact hq
  refine ⟨?_, ?_, ?_, ?_, ?_⟩
  · intro i hi
    rcases i3 i hi with rfl | rfl | rfl
    · exact (alloc_new W _ 31 0 _ rfl).1
    · exact (alloc_new W _ 31 1 _ rfl).1
    · exact (alloc_new W _ 31 2 _ rfl).1
  · intro i hi
    rcases i3 i hi with rfl | rfl | rfl
    · exact (ha.below B).mv M (fun _ _ h => h)
    · exact (hb.below B).mv M (fun _ _ h => h)
    · exact fun j hj => by cases hj
  · intro i hi
    rcases i3 i hi with rfl | rfl | rfl
    · exact lo ha
    · exact lo hb
    · exact fun j hj => by cases hj
  · intro i hi
    rcases i3 i hi with rfl | rfl | rfl
    · exact ea
    · exact eb
    · exact fun _ => ⟨rfl, rfl⟩
  · intro i hi
    rcases i3 i hi with rfl | rfl | rfl
    · exact la
    · exact lb
    · exact Nat.zero_le _

/-- One of them. -/
structure One (w : World) (base LB i : Nat) (A : Option Addr) (N C : Nat) (F : Nat → Int) : Prop where
  cell : w.cell? ⟨LB, i, none⟩ = some (.slice A N C)
  sl : Sl w A N (In F)
  low : ∀ j, j < N → ∀ p, A = some p → p.block < base
  nil : A = none → N = 0 ∧ C = 0
  few : N ≤ 8
theorem Lists.one {w : World} {base LB : Nat} {l : Ls} (h : Lists w base LB l) {i : Nat} (hi : i < 3) : One w base LB i (l.A i) (l.N i) (l.C i) (l.F i) := ⟨h.cell i hi, h.sl i hi, h.low i hi, h.nil i hi, h.few i hi⟩
/-- Where the lists lie. -/
def Lies (d : Pd) (base LB : Nat) : Prop := base ≤ d.bp ∧ base ≤ d.bl ∧ base ≤ d.top ∧ LB < d.top ∧ LB ≠ d.bp ∧ LB ≠ d.bl
theorem One.kept {w W : World} {base LB i : Nat} {A : Option Addr} {N C : Nat} {F : Nat → Int} {d : Pd} (h : One w base LB i A N C F) (hL : Lies d base LB) (k : Kept d w W) : One W base LB i A N C F := by
  obtain ⟨l1, l2, l3, l4, l5, l6⟩ := hL
  refine ⟨Mv.cell k h.cell ?_, fun j hj => ?_, h.low, h.nil, h.few⟩
  · show ¬ (LB = d.bp ∨ LB = d.bl ∨ d.top ≤ LB)
    omega
  · obtain ⟨b, off, e, hb2, hc⟩ := h.sl j hj
    have := h.low j hj _ e
    refine ⟨b, off, e, Nat.lt_of_lt_of_le hb2 k.size, Mv.cell k hc ?_⟩
    show ¬ (b = d.bp ∨ b = d.bl ∨ d.top ≤ b)
    have h2 : b < base := this
    omega

theorem Own.slOf {w : World} {base n : Nat} {e : TypeId} {a : Option Addr} {c : Nat} {V : Nat → Value} (h : Own w base e (.slice a n c) n V) : Sl w a n V := by
  obtain ⟨x, y, e, h, _⟩ := h.sl
  cases e
  exact h

end Go.Proofs.Ytjlnmkoggobbgaa
