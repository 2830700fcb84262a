/- Pieces as cells; size, touch. -/
import Derived.Test.YtjelclomigmlmaaB2
import Derived.Test.YtjelclomigmlmaaM1
import Derived.Deep.QuietTactic
import Derived.BigQuiet
namespace Go.Proofs.Ytjelclomigmlmaa
open Go.RowKit

/-- Nothing that was there has turned. -/
abbrev Qt (w w' : World) : Prop := Mv (fun _ => False) w w'
theorem Qt.comp {a b c : World} (h : Qt a b) (k : Qt b c) : Qt a c := Mv.trans h k (fun _ _ h => h)
theorem Qt.alloc {a b : World} (h : Qt a b) (o : Obj) : Qt a (b.alloc o) := h.comp (Mv.alloc _ b o)

def pcs (p : Pc) : List Value := [.bool p.ad, .int .i64 p.fr, .int .i64 p.to]
def cellsP (ps : List Pc) : List Value := ps.flatMap pcs
theorem cellsP_nil : cellsP [] = [] := rfl
theorem cellsP_cons (p : Pc) (ps : List Pc) : cellsP (p :: ps) = pcs p ++ cellsP ps := by simp [cellsP]
theorem cellsP_append (ps qs : List Pc) : cellsP (ps ++ qs) = cellsP ps ++ cellsP qs := by simp [cellsP]
theorem cellsP_length : ∀ ps : List Pc, (cellsP ps).length = ps.length * 3
  | [] => rfl
  | p :: ps => by rw [cellsP_cons, List.length_append, cellsP_length ps, List.length_cons]; simp [pcs]; omega
theorem cellsP_one (ps : List Pc) : ∀ u ∈ cellsP ps, u.oneCell' = true := by
  intro u hu
  simp only [cellsP, List.mem_flatMap] at hu
  obtain ⟨p, _, hu⟩ := hu
  simp [pcs] at hu
  rcases hu with rfl | rfl | rfl <;> rfl
theorem cellsP_get : ∀ (ps : List Pc) (i : Nat) (p : Pc), ps[i]? = some p → (cellsP ps)[i * 3]? = some (.bool p.ad) ∧ (cellsP ps)[i * 3 + 1]? = some (.int .i64 p.fr) ∧ (cellsP ps)[i * 3 + 2]? = some (.int .i64 p.to)
  | [], i, p, h => by simp at h
  | q :: r, 0, p, h => by
    simp at h
    subst h
    rw [cellsP_cons]
    exact ⟨rfl, rfl, rfl⟩
  | q :: r, i + 1, p, h => by
    rw [List.getElem?_cons_succ] at h
    have ih := cellsP_get r i p h
    have e : ∀ j, (cellsP (q :: r))[(i + 1) * 3 + j]? = (cellsP r)[i * 3 + j]? := by
      intro j
      rw [cellsP_cons, List.getElem?_append_right (by simp [pcs]; omega)]
      congr 1
      simp [pcs]; omega
    have e0 := e 0
    simp only [Nat.add_zero] at e0
    exact ⟨by rw [e0]; exact ih.1, by rw [e 1]; exact ih.2.1, by rw [e 2]; exact ih.2.2⟩
theorem cellsP_take (ps : List Pc) (i : Nat) : (cellsP ps).take (i * 3) = cellsP (ps.take i) := by
  by_cases h : i ≤ ps.length
  · conv => lhs; rw [← List.take_append_drop i ps, cellsP_append]
    rw [List.take_left' (by rw [cellsP_length, List.length_take]; omega)]
  · rw [List.take_of_length_le (by rw [cellsP_length]; omega), List.take_of_length_le (by omega)]
theorem cellsP_drop (ps : List Pc) (i : Nat) : (cellsP ps).drop (i * 3) = cellsP (ps.drop i) := by
  by_cases h : i ≤ ps.length
  · conv => lhs; rw [← List.take_append_drop i ps, cellsP_append]
    rw [List.drop_left' (by rw [cellsP_length, List.length_take]; omega)]
  · rw [List.drop_eq_nil_of_le (by rw [cellsP_length]; omega), List.drop_eq_nil_of_le (by omega)]; rfl

/-- The cells of a piece that lies in a slice. -/
theorem ls_get {w : World} {a : Option Addr} {ps : List Pc} {i : Nat} {p : Pc} (h : Ls w a (cellsP ps)) (hi : ps[i]? = some p) : ∃ b off, a = some ⟨b, off, none⟩ ∧ b < w.heap.size ∧ w.cell? ⟨b, off + i * 3, none⟩ = some (.bool p.ad) ∧ w.cell? ⟨b, off + i * 3 + 1, none⟩ = some (.int .i64 p.fr) ∧ w.cell? ⟨b, off + i * 3 + 2, none⟩ = some (.int .i64 p.to) := by
  obtain ⟨h0, h1, h2⟩ := cellsP_get ps i p hi
  obtain ⟨b, off, e, hb, c0⟩ := h _ _ h0
  obtain ⟨b1, off1, e1, _, c1⟩ := h _ _ h1
  obtain ⟨b2, off2, e2, _, c2⟩ := h _ _ h2
  rw [e] at e1 e2
  cases e1; cases e2
  exact ⟨b, off, e, hb, c0, by rw [Nat.add_assoc]; exact c1, by rw [Nat.add_assoc]; exact c2⟩

theorem Qt.refl (w : World) : Qt w w := Mv.refl _ w
theorem Qt.two (w : World) (o u : Obj) : Qt w ((w.alloc o).alloc u) := ((Qt.refl w).alloc o).alloc u
set_option maxHeartbeats 1000000 in
theorem size_any (a : Bool) (f t : Nat) (w : World) (h : f ≤ t) (hb : t < 1000000) :
    Calls Try.prog 30 #[.agg #[.bool a, .int .i64 f, .int .i64 t]] w fun e w' => e = .returned (.int .i64 ((t - f : Nat) : Int)) ∧ Hid (Qt w w') := by
  have hz : (t : Int) - f = ((t - f : Nat) : Int) := by omega
  go_enter Try.func30, Try.ntmps30
  go_wp2_with fail
  go_ret
  exact ⟨by simp, (Qt.refl w).alloc _⟩

set_option maxHeartbeats 1000000 in
theorem touch_yes (a : Bool) (f t u : Nat) (w : World) :
    Calls Try.prog 36 #[.agg #[.bool a, .int .i64 f, .int .i64 t], .agg #[.bool a, .int .i64 t, .int .i64 u]] w fun e w' => e = .returned (.bool true) ∧ Hid (Qt w w') := by
  go_enter Try.func36, Try.ntmps36
  go_wp2_with fail
  go_ret
  exact ⟨by simp, Qt.two w _ _⟩
set_option maxHeartbeats 1000000 in
theorem touch_no (a b : Bool) (f t g u : Nat) (w : World) (h : ¬ (a = b ∧ t = g)) :
    Calls Try.prog 36 #[.agg #[.bool a, .int .i64 f, .int .i64 t], .agg #[.bool b, .int .i64 g, .int .i64 u]] w fun e w' => e = .returned (.bool false) ∧ Hid (Qt w w') := by
  by_cases hab : a = b
  · subst hab
    have ht : ¬ t = g := fun e => h ⟨rfl, e⟩
    have ht' : ((t : Int) == (g : Int)) = false := by simp; omega
    clear h ht
    go_enter Try.func36, Try.ntmps36
    go_wp2_with fail
    go_ret
    exact ⟨by simp, Qt.two w _ _⟩
  · have hab' : (a == b) = false := by simp [hab]
    clear h hab
    go_enter Try.func36, Try.ntmps36
    go_wp2_with fail
    go_ret
    exact ⟨by simp, Qt.two w _ _⟩
end Go.Proofs.Ytjelclomigmlmaa
