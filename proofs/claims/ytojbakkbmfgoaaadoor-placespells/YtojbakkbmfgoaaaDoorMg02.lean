/- Sets of bytes as the program has them. -/
import Derived.Test.YtojbakkbmfgoaaaDoorMg00
import Derived.Test.YtojbakkbmfgoaaaDoorMg01
import Derived.Laws.Rows
import Derived.Laws.BitsAllLaws
import Derived.Laws.Bits64b
import Derived.Lib.TrailingZeros
import Derived.Deep.RegionHeld3
import Derived.LoopN
namespace Go.Proofs.YtojbakkbmfgoaaaDoor
open Go.RowKit
set_option linter.unusedVariables false

abbrev Qt (w w' : World) : Prop := Mv (fun _ => False) w w'
theorem Qt.comp {a b c : World} (h : Qt a b) (k : Qt b c) : Qt a c := Mv.trans h k (fun _ _ h => h)
theorem Qt.refl (w : World) : Qt w w := Mv.refl _ w
theorem Qt.alloc {a b : World} (h : Qt a b) (o : Obj) : Qt a (b.alloc o) := h.comp (Mv.alloc _ b o)

/-- A set. -/
def sv (p : Nat → Bool) : Value := .agg #[.int .u64 (limb p 0), .int .u64 (limb p 1), .int .u64 (limb p 2), .int .u64 (limb p 3)]


theorem Qt.drew {a b : World} (h : Qt a b) : Qt a b.drew := ⟨h.os, h.tape, h.output, h.size, h.block⟩

end Go.Proofs.YtojbakkbmfgoaaaDoor

namespace Go.Proofs.YtojbakkbmfgoaaaDoor
open Go.RowKit
set_option linter.unusedVariables false

theorem heap2a (w : World) (A B : Obj) : ((w.alloc A).alloc B).heap[w.heap.size]? = some A := by
  rw [heap_alloc_old (w.alloc A) B (h := by simp)]
  exact heap_alloc_new _ _
/-- Bytes in a row. -/
def Bn (f : Nat → Nat) : Nat → Value := fun i => .int .u8 (f i : Int)
/-- The bytes of a row. -/
def ofl (f : Nat → Nat) (n : Nat) : Nat → Bool := fun b => (List.range n).any (fun i => f i == b)
theorem ofl_succ (f : Nat → Nat) (n : Nat) : ofl f (n + 1) = fun b => ofl f n b || f n == b := by
  funext b
  unfold ofl
  rw [List.range_succ, List.any_append]
  simp

/-- The set while it is made. -/
structure Made (w wr : World) (g : Nat) (p : Nat → Bool) : Prop where
  qt : Qt w wr
  new : w.heap.size ≤ g
  res : wr.heap[w.heap.size]? = some (.cells #[.int .u64 0, .int .u64 0, .int .u64 0, .int .u64 0] 26 (0, 0))
  at_ : wr.heap[g]? = some (.cells #[.int .u64 (limb p 0), .int .u64 (limb p 1), .int .u64 (limb p 2), .int .u64 (limb p 3)] 26 (0, 0))

theorem heap_set {W : World} {g o : Nat} {v : Value} {cs : Array Value} {t : TypeId} {fr : Nat × Nat} (h : W.heap[g]? = some (.cells cs t fr)) : (W.setCell ⟨g, o, none⟩ v).heap[g]? = some (.cells (cs.setIfInBounds o v) t fr) := by
  obtain ⟨hlt, hk⟩ := Array.getElem?_eq_some_iff.1 h
  show (W.heap.modify g _)[g]? = _
  rw [Array.getElem?_eq_getElem (by rw [Array.size_modify]; exact hlt), Array.getElem_modify_self, hk]
  rfl
theorem or_one (p : Nat → Bool) (b : Nat) (q : Nat) (hq : q = b / 64) : bits .or .u64 (limb p q : Int) (IntKind.u64.wrap (2 ^ (b % 64))) = (limb (fun c => p c || b == c) q : Int) := by
  have h1 : (2 : Nat) ^ (b % 64) < 18446744073709551616 := show 2 ^ (b % 64) < 2 ^ 64 from Nat.pow_lt_pow_right (by decide) (by omega)
  have e : IntKind.u64.wrap (2 ^ (b % 64)) = ((2 ^ (b % 64) : Nat) : Int) := by
    rw [IntKind.wrap_u64, show ((2 : Int) ^ (b % 64)) = ((2 ^ (b % 64) : Nat) : Int) from by rw [Int.natCast_pow]; rfl]
    generalize (2 : Nat) ^ (b % 64) = X at h1
    omega
  rw [e, bits_or_u64_nat _ _ (limb_lt p q) h1, ← limb_one q (b % 64) (by omega), limb_or]
  congr 1
  refine limb_congr (fun k hk => ?_)
  congr 1
  rw [Bool.eq_iff_iff]; simp; omega
theorem limb_other (p : Nat → Bool) (b q : Nat) (hq : q ≠ b / 64) : limb (fun c => p c || b == c) q = limb p q := by
  refine limb_congr (fun k hk => ?_)
  have : (b == 64 * q + k) = false := by simp; omega
  rw [this, Bool.or_false]
theorem Made.put {w wr : World} {g : Nat} {p : Nat → Bool} (M : Made w wr g p) (hg : w.heap.size < g) (b q : Nat) (hb : b < 256) (hq : q = b / 64) :
    Made w (wr.setCell ⟨g, q, none⟩ (.int .u64 (bits .or .u64 (limb p q : Int) (IntKind.u64.wrap (2 ^ (b % 64)))))) g (fun c => p c || b == c) := by
  rw [or_one p b q hq]
  have hlt : g < wr.heap.size := (Array.getElem?_eq_some_iff.1 M.at_).1
  refine ⟨M.qt.trans (Mv.setCell wr _ _) (fun j hj e => by simp at e; omega), M.new, ?_, ?_⟩
  · rw [(Mv.setCell wr ⟨g, q, none⟩ _).block _ (by omega) (by simp; omega)]; exact M.res
  · rw [heap_set M.at_]
    rcases (show q = 0 ∨ q = 1 ∨ q = 2 ∨ q = 3 from by omega) with rfl | rfl | rfl | rfl
    · rw [limb_other p b 1 (by omega), limb_other p b 2 (by omega), limb_other p b 3 (by omega)]; rfl
    · rw [limb_other p b 0 (by omega), limb_other p b 2 (by omega), limb_other p b 3 (by omega)]; rfl
    · rw [limb_other p b 0 (by omega), limb_other p b 1 (by omega), limb_other p b 3 (by omega)]; rfl
    · rw [limb_other p b 0 (by omega), limb_other p b 1 (by omega), limb_other p b 2 (by omega)]; rfl
theorem Made.cells {w wr : World} {g : Nat} {p : Nat → Bool} (M : Made w wr g p) (q : Nat) (hq : q < 4) : wr.cell? ⟨g, q, none⟩ = some (.int .u64 (limb p q)) ∧ wr.frozen? ⟨g, q, none⟩ = false := by
  have h := M.at_
  rcases (show q = 0 ∨ q = 1 ∨ q = 2 ∨ q = 3 from by omega) with rfl | rfl | rfl | rfl <;> exact ⟨by simp [World.cell?, h], by simp [World.frozen?, h]⟩

theorem Made.cellr {w wr : World} {g : Nat} {p : Nat → Bool} (M : Made w wr g p) (q : Nat) (hq : q < 4) : wr.cell? ⟨w.heap.size, q, none⟩ = some (.int .u64 0) ∧ wr.frozen? ⟨w.heap.size, q, none⟩ = false := by
  have h := M.res
  rcases (show q = 0 ∨ q = 1 ∨ q = 2 ∨ q = 3 from by omega) with rfl | rfl | rfl | rfl <;> exact ⟨by simp [World.cell?, h], by simp [World.frozen?, h]⟩
theorem Qt.set {w wr : World} (h : Qt w wr) (g o : Nat) (v : Value) (hg : w.heap.size ≤ g) : Qt w (wr.setCell ⟨g, o, none⟩ v) :=
  Mv.trans h (Mv.setCell wr _ _) (fun j hj e => by simp at e; omega)
theorem Made.four {w wr : World} {g : Nat} {p : Nat → Bool} (M : Made w wr g p) (v0 v1 v2 v3 : Value) : Qt w ((((wr.setCell ⟨w.heap.size, 0, none⟩ v0).setCell ⟨w.heap.size, 1, none⟩ v1).setCell ⟨w.heap.size, 2, none⟩ v2).setCell ⟨w.heap.size, 3, none⟩ v3) :=
  (((M.qt.set _ _ _ (Nat.le_refl _)).set _ _ _ (Nat.le_refl _)).set _ _ _ (Nat.le_refl _)).set _ _ _ (Nat.le_refl _)

end Go.Proofs.YtojbakkbmfgoaaaDoor

namespace Go.Proofs.YtojbakkbmfgoaaaDoor
open Go.RowKit
set_option linter.unusedVariables false

/-- An expression: its kind, its set, its parts. -/
structure RX where
  kind : Int
  set : Nat → Bool
  args : List RX

/-- What is made of a tree from below. -/
def RX.fold {α : Type} (f : Int → (Nat → Bool) → List RX → List α → α) : RX → α
  | ⟨k, p, l⟩ => f k p l (go f l)
  where go {α : Type} (f : Int → (Nat → Bool) → List RX → List α → α) : List RX → List α
  | [] => []
  | x :: l => x.fold f :: go f l
theorem RX.go_map {α : Type} (f : Int → (Nat → Bool) → List RX → List α → α) (l : List RX) : RX.fold.go f l = l.map (RX.fold f) := by
  induction l with
  | nil => rfl
  | cons x l ih => rw [RX.fold.go, ih]; rfl
theorem RX.fold_eq {α : Type} (f : Int → (Nat → Bool) → List RX → List α → α) (k : Int) (p : Nat → Bool) (l : List RX) : RX.fold f ⟨k, p, l⟩ = f k p l (l.map (RX.fold f)) := by
  rw [RX.fold, RX.go_map]
theorem RX.ind {P : RX → Prop} (h : ∀ k p l, (∀ x ∈ l, P x) → P ⟨k, p, l⟩) : ∀ x, P x
  | ⟨k, p, l⟩ => h k p l (all h l)
  where all {P : RX → Prop} (h : ∀ k p l, (∀ x ∈ l, P x) → P ⟨k, p, l⟩) : ∀ (l : List RX), ∀ x ∈ l, P x
  | [] => fun x hx => by cases hx
  | y :: l => fun x hx => by
      rcases List.mem_cons.1 hx with e | hx
      · rw [e]; exact RX.ind h y
      · exact all h l x hx

/-- An expression's six cells. -/
def cells6 (k : Int) (p : Nat → Bool) (a : Option Addr) (n c : Nat) : List Value := [.int .i64 k, .int .u64 (limb p 0), .int .u64 (limb p 1), .int .u64 (limb p 2), .int .u64 (limb p 3), .slice a n c]
/-- An expression as its callers have it. -/
abbrev xv (k : Int) (p : Nat → Bool) (a : Option Addr) (n c : Nat) : Value := .agg #[.int .i64 k, .int .u64 (limb p 0), .int .u64 (limb p 1), .int .u64 (limb p 2), .int .u64 (limb p 3), .slice a n c]

/-- A block of cells that nobody sees another way. -/
def Flat (w : World) (q : Addr) : Prop := q = ⟨q.block, q.off, none⟩ ∧ ∃ cs t, w.heap[q.block]? = some (.cells cs t (0, 0))
theorem Flat.mv {X : Nat → Prop} {w w' : World} {q : Addr} (h : Flat w q) (m : Mv X w w') (hx : ¬ X q.block) : Flat w' q := by
  obtain ⟨e, cs, t, hg⟩ := h
  exact ⟨e, cs, t, (m.block _ (Array.getElem?_eq_some_iff.1 hg).1 hx).trans hg⟩
/-- A row of trees, each by its six cells; their blocks are in K. -/
def RX.lies : RX → (Nat → Prop) → World → List Value → Prop
  | ⟨k, p, l⟩, K, w, cs => ∃ a c ys, cs = cells6 k p a l.length c ∧ (∀ q, a = some q → K q.block ∧ Flat w q) ∧ l.length ≤ c ∧ (l.length < 140737488355328 ∧ (a = none → l = [] ∧ c = 0)) ∧ Ls w a ys ∧ row l K w ys
  where row : List RX → (Nat → Prop) → World → List Value → Prop
  | [], _, _, ys => ys = []
  | x :: l, K, w, ys => ∃ cs zs, ys = cs ++ zs ∧ x.lies K w cs ∧ row l K w zs
/-- Where the parts of an expression lie. -/
def Parts (l : List RX) (K : Nat → Prop) (w : World) (a : Option Addr) (c : Nat) : Prop :=
  ∃ ys, (∀ q, a = some q → K q.block ∧ Flat w q) ∧ l.length ≤ c ∧ (l.length < 140737488355328 ∧ (a = none → l = [] ∧ c = 0)) ∧ Ls w a ys ∧ RX.lies.row l K w ys
theorem RX.lies_iff {k : Int} {p : Nat → Bool} {l : List RX} {K : Nat → Prop} {w : World} {cs : List Value} : RX.lies ⟨k, p, l⟩ K w cs ↔ ∃ a c, cs = cells6 k p a l.length c ∧ Parts l K w a c := by
  constructor
  · rintro ⟨a, c, ys, h1, h2, h3, h4, h5, h6⟩
    exact ⟨a, c, h1, ys, h2, h3, h4, h5, h6⟩
  · rintro ⟨a, c, h1, ys, h2, h3, h4, h5, h6⟩
    exact ⟨a, c, ys, h1, h2, h3, h4, h5, h6⟩
theorem lies_of {x : RX} {K : Nat → Prop} {w : World} {a : Option Addr} {c : Nat} (h : Parts x.args K w a c) : x.lies K w (cells6 x.kind x.set a x.args.length c) := by
  obtain ⟨k, p, l⟩ := x
  exact RX.lies_iff.2 ⟨a, c, rfl, h⟩
theorem RX.lies_len {x : RX} {K : Nat → Prop} {w : World} {cs : List Value} (h : x.lies K w cs) : cs.length = 6 := by
  obtain ⟨k, p, l⟩ := x
  obtain ⟨a, c, rfl, _⟩ := RX.lies_iff.1 h
  rfl
theorem row_append {l m : List RX} {K : Nat → Prop} {w : World} {ys zs : List Value} (h : RX.lies.row l K w ys) (g : RX.lies.row m K w zs) : RX.lies.row (l ++ m) K w (ys ++ zs) := by
  induction l generalizing ys with
  | nil => rw [RX.lies.row] at h; subst h; exact g
  | cons x l ih =>
    rw [RX.lies.row] at h
    obtain ⟨cs, us, rfl, h1, h2⟩ := h
    rw [List.cons_append, RX.lies.row]
    exact ⟨cs, us ++ zs, by rw [List.append_assoc], h1, ih h2⟩
theorem row_one {x : RX} {K : Nat → Prop} {w : World} {cs : List Value} (h : x.lies K w cs) : RX.lies.row [x] K w cs := by
  rw [RX.lies.row]
  exact ⟨cs, [], by simp, h, by rw [RX.lies.row]⟩
/-- The cells of one of a row. -/
theorem row_at {l : List RX} {K : Nat → Prop} {w : World} {ys : List Value} (h : RX.lies.row l K w ys) {i : Nat} {x : RX} (hx : l[i]? = some x) : ∃ cs, x.lies K w cs ∧ ∀ j, j < 6 → ys[i * 6 + j]? = cs[j]? := by
  induction l generalizing ys i with
  | nil => simp at hx
  | cons y l ih =>
    rw [RX.lies.row] at h
    obtain ⟨cs, zs, rfl, h1, h2⟩ := h
    have hl := RX.lies_len h1
    cases i with
    | zero =>
      simp only [List.getElem?_cons_zero, Option.some.injEq] at hx
      subst hx
      exact ⟨cs, h1, fun j hj => by rw [Nat.zero_mul, Nat.zero_add, List.getElem?_append_left (by omega)]⟩
    | succ i =>
      rw [List.getElem?_cons_succ] at hx
      obtain ⟨ds, h3, h4⟩ := ih h2 hx
      refine ⟨ds, h3, fun j hj => ?_⟩
      rw [← h4 j hj, List.getElem?_append_right (by omega)]
      congr 1
      omega

theorem RX.lies_mv {X : Nat → Prop} {w w' : World} (m : Mv X w w') : ∀ (x : RX) (K : Nat → Prop) (cs : List Value), (∀ j, K j → ¬ X j) → x.lies K w cs → x.lies K w' cs := by
  refine RX.ind ?_
  intro k p l ih K cs hk h
  obtain ⟨a, c, rfl, ys, h1, h2, h3, h4, h5⟩ := RX.lies_iff.1 h
  refine RX.lies_iff.2 ⟨a, c, rfl, ys, fun q hq => ⟨(h1 q hq).1, (h1 q hq).2.mv m (hk _ (h1 q hq).1)⟩, h2, h3, h4.mv m (fun q hq => hk _ (h1 q hq).1), ?_⟩
  clear h h1 h2 h3 h4
  induction l generalizing ys with
  | nil => exact h5
  | cons x l ih2 =>
    rw [RX.lies.row] at h5 ⊢
    obtain ⟨ds, zs, rfl, g1, g2⟩ := h5
    exact ⟨ds, zs, rfl, ih x (by simp) K ds hk g1, ih2 (fun y hy => ih y (by simp [hy])) zs g2⟩
theorem RX.lies_mono : ∀ (x : RX) (K J : Nat → Prop) (w : World) (cs : List Value), (∀ j, K j → J j) → x.lies K w cs → x.lies J w cs := by
  refine RX.ind ?_
  intro k p l ih K J w cs hk h
  obtain ⟨a, c, rfl, ys, h1, h2, h3, h4, h5⟩ := RX.lies_iff.1 h
  refine RX.lies_iff.2 ⟨a, c, rfl, ys, fun q hq => ⟨hk _ (h1 q hq).1, (h1 q hq).2⟩, h2, h3, h4, ?_⟩
  clear h h1 h2 h3 h4
  induction l generalizing ys with
  | nil => exact h5
  | cons x l ih2 =>
    rw [RX.lies.row] at h5 ⊢
    obtain ⟨ds, zs, rfl, g1, g2⟩ := h5
    exact ⟨ds, zs, rfl, ih x (by simp) K J w ds hk g1, ih2 (fun y hy => ih y (by simp [hy])) zs g2⟩
theorem row_mv {X : Nat → Prop} {w w' : World} (m : Mv X w w') {l : List RX} {K : Nat → Prop} {ys : List Value} (hk : ∀ j, K j → ¬ X j) (h : RX.lies.row l K w ys) : RX.lies.row l K w' ys := by
  induction l generalizing ys with
  | nil => exact h
  | cons x l ih =>
    rw [RX.lies.row] at h ⊢
    obtain ⟨ds, zs, rfl, g1, g2⟩ := h
    exact ⟨ds, zs, rfl, RX.lies_mv m x K ds hk g1, ih g2⟩
theorem row_mono {w : World} {l : List RX} {K J : Nat → Prop} {ys : List Value} (hk : ∀ j, K j → J j) (h : RX.lies.row l K w ys) : RX.lies.row l J w ys := by
  induction l generalizing ys with
  | nil => exact h
  | cons x l ih =>
    rw [RX.lies.row] at h ⊢
    obtain ⟨ds, zs, rfl, g1, g2⟩ := h
    exact ⟨ds, zs, rfl, RX.lies_mono x K J w ds hk g1, ih g2⟩
theorem Parts.mv {X : Nat → Prop} {w w' : World} (m : Mv X w w') {l : List RX} {K : Nat → Prop} {a : Option Addr} {c : Nat} (hk : ∀ j, K j → ¬ X j) (h : Parts l K w a c) : Parts l K w' a c := by
  obtain ⟨ys, h1, h2, h3, h4, h5⟩ := h
  exact ⟨ys, fun q hq => ⟨(h1 q hq).1, (h1 q hq).2.mv m (hk _ (h1 q hq).1)⟩, h2, h3, h4.mv m (fun q hq => hk _ (h1 q hq).1), row_mv m hk h5⟩
theorem Parts.mono {w : World} {l : List RX} {K J : Nat → Prop} {a : Option Addr} {c : Nat} (hk : ∀ j, K j → J j) (h : Parts l K w a c) : Parts l J w a c := by
  obtain ⟨ys, h1, h2, h3, h4, h5⟩ := h
  exact ⟨ys, fun q hq => ⟨hk _ (h1 q hq).1, (h1 q hq).2⟩, h2, h3, h4, row_mono hk h5⟩
/-- One of the parts, by its address. -/
theorem Parts.at {w : World} {l : List RX} {K : Nat → Prop} {a : Option Addr} {c : Nat} (h : Parts l K w a c) {i : Nat} {x : RX} (hx : l[i]? = some x) : ∃ b o a' c', a = some ⟨b, o, none⟩ ∧ Parts x.args K w a' c' ∧ w.cell? ⟨b, o + i * 6, none⟩ = some (.int .i64 x.kind) ∧ w.cell? ⟨b, o + i * 6 + 1, none⟩ = some (.int .u64 (limb x.set 0)) ∧ w.cell? ⟨b, o + i * 6 + 2, none⟩ = some (.int .u64 (limb x.set 1)) ∧ w.cell? ⟨b, o + i * 6 + 3, none⟩ = some (.int .u64 (limb x.set 2)) ∧ w.cell? ⟨b, o + i * 6 + 4, none⟩ = some (.int .u64 (limb x.set 3)) ∧ w.cell? ⟨b, o + i * 6 + 5, none⟩ = some (.slice a' x.args.length c') := by
  obtain ⟨ys, h1, h2, h3, h4, h5⟩ := h
  obtain ⟨cs, g1, g2⟩ := row_at h5 hx
  obtain ⟨k, p, m⟩ := x
  obtain ⟨a', c', rfl, hp⟩ := RX.lies_iff.1 g1
  have e0 := g2 0 (by omega)
  have e1 := g2 1 (by omega)
  have e2 := g2 2 (by omega)
  have e3 := g2 3 (by omega)
  have e4 := g2 4 (by omega)
  have e5 := g2 5 (by omega)
  simp only [cells6, List.getElem?_cons_zero, List.getElem?_cons_succ] at e0 e1 e2 e3 e4 e5
  obtain ⟨b, o, ea, hb, q0⟩ := h4 _ _ e0
  obtain ⟨b1, o1, ea1, _, q1⟩ := h4 _ _ e1
  obtain ⟨b2, o2, ea2, _, q2⟩ := h4 _ _ e2
  obtain ⟨b3, o3, ea3, _, q3⟩ := h4 _ _ e3
  obtain ⟨b4, o4, ea4, _, q4⟩ := h4 _ _ e4
  obtain ⟨b5, o5, ea5, _, q5⟩ := h4 _ _ e5
  rw [ea] at ea1 ea2 ea3 ea4 ea5
  cases ea1; cases ea2; cases ea3; cases ea4; cases ea5
  simp only [Nat.add_zero, ← Nat.add_assoc] at q0 q1 q2 q3 q4 q5
  exact ⟨b, o, a', c', ea, hp, q0, q1, q2, q3, q4, q5⟩

end Go.Proofs.YtojbakkbmfgoaaaDoor
