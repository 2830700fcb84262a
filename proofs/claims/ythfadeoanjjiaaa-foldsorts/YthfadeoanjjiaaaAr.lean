/- Sums and products of words: what is no number, what the order of drawing leaves open. -/
import Derived.Test.YthfadeoanjjiaaaM2
import Derived.Laws.FloatArith
import Derived.Below
namespace Go.Proofs.Ythfadeoanjjiaaa
open Go.RowKit

theorem word_num (s : Bool) (r : Nat) (h : r ≤ 9218868437227405312) : Fl.nan (Ieee.double.word s r) = false ∧ Fl.Ok (Ieee.double.word s r) := by
  unfold Ieee.Format.word
  rw [Fl.sw]
  unfold Fl.nan Fl.Ok
  rw [decide_eq_false_iff_not]
  split <;> omega
theorem write_num (d : Ieee.Datum) (h : d.isNaN = false) : Fl.nan (Ieee.double.write d) = false ∧ Fl.Ok (Ieee.double.write d) := by
  cases d with
  | number s m p =>
    show Fl.nan (Ieee.double.nearest s m p) = false ∧ Fl.Ok (Ieee.double.nearest s m p)
    unfold Ieee.Format.nearest
    split
    · exact word_num _ 0 (by omega)
    · exact word_num _ _ (by rw [Fl.ir]; exact Nat.min_le_right _ _)
  | infinity s =>
    show Fl.nan (Ieee.double.word s Ieee.double.infRung) = false ∧ Fl.Ok (Ieee.double.word s Ieee.double.infRung)
    rw [Fl.ir]
    exact word_num _ _ (by omega)
  | nan s t => cases h

theorem sum_num {x y d : Ieee.Datum} (h : x.sum y = some d) : d.isNaN = false := by
  cases x <;> cases y <;> simp only [Ieee.Datum.sum] at h <;> first | (cases h; done) | (cases h; rfl) | (split at h <;> cases h; rfl)
theorem prod_num {x y d : Ieee.Datum} (h : x.product y = some d) : d.isNaN = false := by
  cases x <;> cases y <;> simp only [Ieee.Datum.product] at h <;> first | (cases h; done) | (cases h; rfl) | (split at h <;> cases h; rfl)

theorem add_some {x y r : Nat} (h : Ieee.double.add x y = some r) : Fl.nan r = false ∧ Fl.Ok r := by
  unfold Ieee.Format.add at h
  rw [Option.map_eq_some_iff] at h
  obtain ⟨d, hd, rfl⟩ := h
  exact write_num d (sum_num hd)
theorem mul_some {x y r : Nat} (h : Ieee.double.mul x y = some r) : Fl.nan r = false ∧ Fl.Ok r := by
  unfold Ieee.Format.mul at h
  rw [Option.map_eq_some_iff] at h
  obtain ⟨d, hd, rfl⟩ := h
  exact write_num d (prod_num hd)

theorem nan_big {b : Nat} (h : Fl.nan b = true) : 9218868437227405312 < b % 9223372036854775808 := of_decide_eq_true h
theorem add_nan_left {x y : Nat} (hx : Fl.Ok x) (h : Fl.nan x = true) : Ieee.double.add x y = none := by
  unfold Ieee.Format.add
  rw [Fl.read_nan hx (nan_big h)]
  cases Ieee.double.read y <;> rfl
theorem add_nan_right {x y : Nat} (hy : Fl.Ok y) (h : Fl.nan y = true) : Ieee.double.add x y = none := by
  unfold Ieee.Format.add
  rw [Fl.read_nan hy (nan_big h)]
  cases Ieee.double.read x <;> rfl
theorem mul_nan_left {x y : Nat} (hx : Fl.Ok x) (h : Fl.nan x = true) : Ieee.double.mul x y = none := by
  unfold Ieee.Format.mul
  rw [Fl.read_nan hx (nan_big h)]
  cases Ieee.double.read y <;> rfl

/-- A word that is no number, as the model draws it. -/
theorem drawn_nan (x y t : Nat) : Fl.nan (Question.cut (.nanBits .f64 x y) t) = true ∧ Fl.Ok (Question.cut (.nanBits .f64 x y) t) := by
  show Fl.nan ((t % 2) * 2 ^ 63 + 0x7ff0000000000000 + 1 + (t / 2) % (2 ^ 52 - 1)) = true ∧ Fl.Ok ((t % 2) * 2 ^ 63 + 0x7ff0000000000000 + 1 + (t / 2) % (2 ^ 52 - 1))
  have h1 : t % 2 < 2 := Nat.mod_lt _ (by omega)
  have h2 : (t / 2) % (2 ^ 52 - 1) < 2 ^ 52 - 1 := Nat.mod_lt _ (by omega)
  generalize t % 2 = u at *
  generalize (t / 2) % (2 ^ 52 - 1) = v at *
  unfold Fl.nan Fl.Ok
  rw [decide_eq_true_iff]
  obtain rfl | rfl : u = 0 ∨ u = 1 := by omega
  · omega
  · omega

/-- What one operation may give: its answer or, where it has none, any NaN. -/
def Got (o : Option Nat) (r : Nat) : Prop := o = some r ∧ Fl.nan r = false ∧ Fl.Ok r ∨ o = none ∧ Fl.nan r = true ∧ Fl.Ok r
theorem Got.ok {o : Option Nat} {r : Nat} (h : Got o r) : Fl.Ok r := by rcases h with h | h <;> exact h.2.2
theorem Got.same {o : Option Nat} {r s : Nat} (h : Got o r) (k : Got o s) : ordB r s = 0 := by
  rcases h with ⟨h, _⟩ | ⟨h, h2, _⟩ <;> rcases k with ⟨k, _⟩ | ⟨k, k2, _⟩
  · rw [h] at k; cases k; exact ordB_self _
  · rw [h] at k; cases k
  · rw [h] at k; cases k
  · exact ordB_nan h2 k2

theorem run_add (P : Program) (t : TypeId) (x y : Nat) (w : World) : ∃ r q, Got (Ieee.double.add x y) r ∧ (binOp .add t (.float .f64 x) (.float .f64 y)).run P w = .ok (.float .f64 r) (w.drewN q) := by
  cases h : Ieee.double.add x y with
  | some r =>
    exact ⟨r, 0, .inl ⟨rfl, add_some h⟩, by rw [run_float_arith w .add t .f64 x y r h]; rfl⟩
  | none =>
    refine ⟨_, 1, .inr ⟨rfl, drawn_nan x y (w.tape w.drawn (.nanBits .f64 x y))⟩, ?_⟩
    have h' : FloatKind.f64.format.add x y = none := h
    simp [binOp, Op.floatArith, h', Question.forced]
    rfl
theorem run_mul (P : Program) (t : TypeId) (x y : Nat) (w : World) : ∃ r q, Got (Ieee.double.mul x y) r ∧ (binOp .mul t (.float .f64 x) (.float .f64 y)).run P w = .ok (.float .f64 r) (w.drewN q) := by
  cases h : Ieee.double.mul x y with
  | some r =>
    exact ⟨r, 0, .inl ⟨rfl, mul_some h⟩, by rw [run_float_arith w .mul t .f64 x y r h]; rfl⟩
  | none =>
    refine ⟨_, 1, .inr ⟨rfl, drawn_nan x y (w.tape w.drawn (.nanBits .f64 x y))⟩, ?_⟩
    have h' : FloatKind.f64.format.mul x y = none := h
    simp [binOp, Op.floatArith, h', Question.forced]
    rfl

/-- The sum of the first n, from the left. -/
def sumO (f : Nat → Nat) : Nat → Option Nat
  | 0 => some 0
  | n + 1 => (sumO f n).bind fun s => Ieee.double.add s (f n)

theorem Got.zero : Got (some 0) 0 := .inl ⟨rfl, by decide +kernel, by unfold Fl.Ok; decide⟩
/-- One more, from whatever word there was. -/
theorem Got.next {o : Option Nat} {s x r : Nat} (h : Got o s) (k : Got (Ieee.double.add s x) r) : Got (o.bind fun s => Ieee.double.add s x) r := by
  rcases h with ⟨rfl, _⟩ | ⟨rfl, h2, h3⟩
  · exact k
  · rw [add_nan_left h3 h2] at k
    exact k
theorem sumO_none {f : Nat → Nat} {k : Nat} (h : sumO f k = none) (n : Nat) (hn : k ≤ n) : sumO f n = none := by
  induction n with
  | zero => obtain rfl : k = 0 := by omega
            exact h
  | succ n ih =>
    by_cases e : k = n + 1
    · rw [← e]; exact h
    · unfold sumO; rw [ih (by omega)]; rfl
/-- No number once is none ever after. -/
theorem Got.stays {f : Nat → Nat} {k r : Nat} (h : Got (sumO f k) r) (hr : Fl.nan r = true) (n : Nat) (hn : k ≤ n) : Got (sumO f n) r := by
  rcases h with ⟨_, h2, _⟩ | ⟨h, h2, h3⟩
  · rw [h2] at hr; cases hr
  · exact .inr ⟨sumO_none h n hn, h2, h3⟩

/-- A slice of n numbers lies there, f of them. -/
def Sl (w : World) (a : Option Addr) (n : Nat) (f : Nat → Nat) : Prop := ∀ i, i < n → ∃ b off, a = some ⟨b, off, none⟩ ∧ b < w.heap.size ∧ w.cell? ⟨b, off + i, none⟩ = some (.float .f64 (f i))
theorem Sl.below {w w' : World} {a : Option Addr} {n : Nat} {f : Nat → Nat} (h : Sl w a n f) (k : Below w.heap.size w w') : Sl w' a n f := by
  intro i hi
  obtain ⟨b, off, e, hb, hc⟩ := h i hi
  exact ⟨b, off, e, Nat.lt_of_lt_of_le hb k.size, (k.cell hb).trans hc⟩
theorem below_drewN (B : Nat) (w : World) (q : Nat) : Below B w (w.drewN q) := ⟨rfl, rfl, rfl, Nat.le_refl _, fun _ _ => rfl⟩
theorem chain {w a b : World} (h : Below w.heap.size w a) (k : Below a.heap.size a b) : Below w.heap.size w b := h.trans (k.mono h.size)

end Go.Proofs.Ythfadeoanjjiaaa
