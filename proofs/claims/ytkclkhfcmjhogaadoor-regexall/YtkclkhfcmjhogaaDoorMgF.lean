/- How often a sign lets one byte stand. -/
import Derived.Test.YtkclkhfcmjhogaaDoorMgZ4
import Derived.Test.YtkclkhfcmjhogaaDoorMgT2
import Derived.Test.YtkclkhfcmjhogaaDoorMgH1
import Derived.Test.YtkclkhfcmjhogaaDoorMgO
import Derived.Test.YtkclkhfcmjhogaaDoorMgA
import Derived.Test.YtkclkhfcmjhogaaDoorMgR
namespace Go.Proofs.YtkclkhfcmjhogaaDoor
open Go.RowKit
set_option linter.unusedVariables false

theorem setM_true {p : Nat → Bool} {b : Nat → Nat} {n i j : Nat} : setM p b n i j = true ↔ i < n ∧ p (b i) = true ∧ j = i + 1 := by
  unfold setM; simp
theorem starM_true {N : Nat} {f : Mat} (hf : Fwd N f) {i j : Nat} (hi : i < N) : starM N f i j = true ↔ j = i ∨ ∃ k, k < N ∧ f i k = true ∧ k ≠ i ∧ starM N f k j = true := by
  rw [starM_step hf hi, Bool.or_eq_true, any_range]
  simp [and_assoc]
theorem star_set {p : Nat → Bool} {b : Nat → Nat} {n : Nat} : ∀ (d i : Nat), i + d = n → (starM (n + 1) (setM p b n) i n = true ↔ ∀ m, i ≤ m → m < n → p (b m) = true)
  | 0, i, h => by
    rw [starM_true (setM_fwd p b n) (by omega)]
    exact ⟨fun _ m h1 h2 => by omega, fun _ => .inl (by omega)⟩
  | d + 1, i, h => by
    rw [starM_true (setM_fwd p b n) (by omega)]
    constructor
    · rintro (h1 | ⟨k, h1, h2, h3, h4⟩) m hm1 hm2
      · omega
      · obtain ⟨g1, g2, rfl⟩ := setM_true.1 h2
        by_cases e : m = i
        · rw [e]; exact g2
        · exact (star_set d (i + 1) (by omega)).1 h4 m (by omega) hm2
    · intro hall
      exact .inr ⟨i + 1, by omega, setM_true.2 ⟨by omega, hall i (Nat.le_refl i) (by omega), rfl⟩, by omega, (star_set d (i + 1) (by omega)).2 (fun m h1 h2 => hall m (by omega) h2)⟩
theorem plus_set {p : Nat → Bool} {b : Nat → Nat} {n : Nat} : thenM (n + 1) (setM p b n) (starM (n + 1) (setM p b n)) 0 n = true ↔ 0 < n ∧ ∀ m, m < n → p (b m) = true := by
  rw [thenM_true]
  constructor
  · rintro ⟨k, h1, h2, h3⟩
    obtain ⟨g1, g2, rfl⟩ := setM_true.1 h2
    refine ⟨g1, fun m hm => ?_⟩
    by_cases e : m = 0
    · rw [e]; exact g2
    · exact (star_set (n - 1) 1 (by omega)).1 h3 m (by omega) hm
  · rintro ⟨h0, hall⟩
    exact ⟨1, by omega, setM_true.2 ⟨h0, hall 0 h0, rfl⟩, (star_set (n - 1) 1 (by omega)).2 (fun m _ h2 => hall m h2)⟩
theorem opt_set {p : Nat → Bool} {b : Nat → Nat} {n : Nat} : orM (setM p b n) idM 0 n = true ↔ n = 0 ∨ n = 1 ∧ p (b 0) = true := by
  unfold orM idM
  rw [Bool.or_eq_true, setM_true, beq_iff_eq]
  constructor
  · rintro (⟨h1, h2, h3⟩ | h)
    · exact .inr ⟨by omega, h2⟩
    · exact .inl h
  · rintro (h | ⟨h1, h2⟩)
    · exact .inr h
    · exact .inl ⟨by omega, h2, by omega⟩
theorem mtK4 (N : Nat) (m : Mat) : mtK N 4 [m] = starM N m := by simp [mtK]
theorem mtK5 (N : Nat) (m : Mat) : mtK N 5 [m] = thenM N m (starM N m) := by simp [mtK]
theorem mtK6 (N : Nat) (m : Mat) : mtK N 6 [m] = orM m idM := by simp [mtK]
theorem mtK2 (N : Nat) (m m2 : Mat) : mtK N 2 [m, m2] = thenM N m m2 := by simp [mtK]
theorem mtK3 (N : Nat) (m m2 : Mat) : mtK N 3 [m, m2] = orM m m2 := by simp [mtK]

/-- One byte's set, as the trees have it. -/
theorem any_btw {c : Nat} (hc : c < 256) : any (btw c c) = true := by
  unfold any
  simp [btw]
  exact ⟨c, hc, by omega⟩
def oneX (c : Nat) : RX := ⟨1, btw c c, []⟩
theorem one_formed {c : Nat} (hc : c < 256) : (oneX c).formed = true := by
  unfold oneX; rw [formed_eq]; simp [node, any_btw hc]
theorem one_may {c : Nat} (hc : c < 256) : may (oneX c) = 0 := by
  unfold may
  rw [one_formed hc]
  simp [oneX, nodes_eq, depth_eq, maxl]
theorem any_none : any (fun _ => false) = false := by
  unfold any; simp
theorem sign_may {c : Nat} (hc : c < 256) {k : Int} (hk : k = 4 ∨ k = 5 ∨ k = 6) : may ⟨k, fun _ => false, [oneX c]⟩ = 0 := by
  have hf : RX.formed ⟨k, fun _ => false, [oneX c]⟩ = true := by
    rw [formed_eq]
    simp only [List.all_cons, List.all_nil, one_formed hc, any_none, node, List.length_cons, List.length_nil]
    rcases hk with rfl | rfl | rfl <;> simp [oneX, lvl]
  unfold may
  rw [hf]
  simp [oneX, nodes_eq, depth_eq, maxl]
theorem btw_self {c x : Nat} : btw c c x = true ↔ x = c := by
  unfold btw; simp; omega
theorem mt_one (c : Nat) (bt : Nat → Nat) (n : Nat) : (oneX c).mt bt n = setM (btw c c) bt n := by unfold oneX; rw [mt_eq]; rfl
theorem bool_iff {a b : Bool} (h : a = true ↔ b = true) : a = b := by cases a <;> cases b <;> simp_all
theorem inX_one {c : Nat} (hc : c < 256) (bt : Nat → Nat) (n : Nat) (hn : n ≤ 60) : inX bt n (oneX c) = decide (n = 1 ∧ bt 0 = c) := by
  unfold inX
  rw [decide_eq_true hn, one_may hc, mt_one]
  simp only [decide_true, Bool.true_and]
  apply bool_iff
  rw [setM_true, decide_eq_true_iff, btw_self]
  omega
theorem inX_star {c : Nat} (hc : c < 256) (bt : Nat → Nat) (n : Nat) (hn : n ≤ 60) : inX bt n ⟨4, fun _ => false, [oneX c]⟩ = decide (∀ m, m < n → bt m = c) := by
  unfold inX
  rw [decide_eq_true hn, sign_may hc (.inl rfl), mt_eq, if_neg (by decide)]
  simp only [List.map_cons, List.map_nil, mt_one, mtK4, decide_true, Bool.true_and]
  apply bool_iff
  rw [star_set n 0 (by omega), decide_eq_true_iff]
  exact ⟨fun h m hm => btw_self.1 (h m (Nat.zero_le m) hm), fun h m _ hm => btw_self.2 (h m hm)⟩
theorem inX_plus {c : Nat} (hc : c < 256) (bt : Nat → Nat) (n : Nat) (hn : n ≤ 60) : inX bt n ⟨5, fun _ => false, [oneX c]⟩ = decide (0 < n ∧ ∀ m, m < n → bt m = c) := by
  unfold inX
  rw [decide_eq_true hn, sign_may hc (.inr (.inl rfl)), mt_eq, if_neg (by decide)]
  simp only [List.map_cons, List.map_nil, mt_one, mtK5, decide_true, Bool.true_and]
  apply bool_iff
  rw [plus_set, decide_eq_true_iff]
  exact ⟨fun h => ⟨h.1, fun m hm => btw_self.1 (h.2 m hm)⟩, fun h => ⟨h.1, fun m hm => btw_self.2 (h.2 m hm)⟩⟩
theorem inX_opt {c : Nat} (hc : c < 256) (bt : Nat → Nat) (n : Nat) (hn : n ≤ 60) : inX bt n ⟨6, fun _ => false, [oneX c]⟩ = decide (n = 0 ∨ n = 1 ∧ bt 0 = c) := by
  unfold inX
  rw [decide_eq_true hn, sign_may hc (.inr (.inr rfl)), mt_eq, if_neg (by decide)]
  simp only [List.map_cons, List.map_nil, mt_one, mtK6, decide_true, Bool.true_and]
  apply bool_iff
  rw [opt_set, decide_eq_true_iff, btw_self]
/-- How tall such trees are. -/
theorem sign_tall (c : Nat) (k : Int) : RX.tall ⟨k, fun _ => false, [oneX c]⟩ < 90000 ∧ (oneX c).tall < 90000 := by
  constructor <;> simp [oneX, tall_eq, maxl]

end Go.Proofs.YtkclkhfcmjhogaaDoor

namespace Go.Proofs.YtkclkhfcmjhogaaDoor
open Go.RowKit
set_option linter.unusedVariables false

/-- A tree's six cells in a row of values. -/
abbrev cs6 (x : RX) (a : Option Addr) (c : Nat) : Array Value := #[.int .i64 x.kind, .int .u64 (limb x.set 0), .int .u64 (limb x.set 1), .int .u64 (limb x.set 2), .int .u64 (limb x.set 3), .slice a x.args.length c]
abbrev cs12 (x y : RX) (a b : Option Addr) (c d : Nat) : Array Value := #[.int .i64 x.kind, .int .u64 (limb x.set 0), .int .u64 (limb x.set 1), .int .u64 (limb x.set 2), .int .u64 (limb x.set 3), .slice a x.args.length c, .int .i64 y.kind, .int .u64 (limb y.set 0), .int .u64 (limb y.set 1), .int .u64 (limb y.set 2), .int .u64 (limb y.set 3), .slice b y.args.length d]
theorem parts_none (w : World) : Parts [] (fun _ => False) w none 0 := ⟨[], (fun q h => nomatch h), Nat.le_refl 0, ⟨Nat.zero_lt_succ _, fun _ => ⟨rfl, rfl⟩⟩, (fun i v h => nomatch h), rfl⟩
theorem parts_new1 {K : Nat → Prop} {w : World} {x : RX} {a : Option Addr} {c : Nat} (hx : Parts x.args K w a c) : Parts [x] (fun j => K j ∨ j = w.heap.size) (w.alloc (.cells (cs6 x a c) 28)) (some ⟨w.heap.size, 0, none⟩) 1 := by
  have qa := Mv.alloc (fun _ => False) w (.cells (cs6 x a c) 28)
  refine ⟨cells6 x.kind x.set a x.args.length c, fun q hq => ?_, Nat.le_refl 1, ⟨by simp, fun h => nomatch h⟩, Ls.new w _ 28, row_one (RX.lies_mono x _ _ _ _ (fun _ h => .inl h) (RX.lies_mv qa x K _ (fun _ _ h => h) (lies_of hx)))⟩
  cases hq
  exact ⟨.inr rfl, rfl, _, _, heap_alloc_new w _⟩
theorem parts_new2 {K : Nat → Prop} {w : World} {x y : RX} {a b : Option Addr} {c d : Nat} (hx : Parts x.args K w a c) (hy : Parts y.args K w b d) : Parts [x, y] (fun j => K j ∨ j = w.heap.size) (w.alloc (.cells (cs12 x y a b c d) 28)) (some ⟨w.heap.size, 0, none⟩) 2 := by
  have qa := Mv.alloc (fun _ => False) w (.cells (cs12 x y a b c d) 28)
  refine ⟨cells6 x.kind x.set a x.args.length c ++ cells6 y.kind y.set b y.args.length d, fun q hq => ?_, Nat.le_refl 2, ⟨by simp, fun h => nomatch h⟩, Ls.new w _ 28, row_append (l := [x]) (m := [y]) (row_one (RX.lies_mono x _ _ _ _ (fun _ h => .inl h) (RX.lies_mv qa x K _ (fun _ _ h => h) (lies_of hx)))) (row_one (RX.lies_mono y _ _ _ _ (fun _ h => .inl h) (RX.lies_mv qa y K _ (fun _ _ h => h) (lies_of hy))))⟩
  cases hq
  exact ⟨.inr rfl, rfl, _, _, heap_alloc_new w _⟩

/-- While a row of one byte is filled. -/
def Pf (c i : Nat) : Nat → Value := fun r => if r < i then .int .u8 (c : Int) else .int .u8 0
structure Fw (w wr : World) (g N c i : Nat) : Prop where
  own : Own wr w.heap.size 5 (.slice (some ⟨g, 0, none⟩) N N) N (Pf c i)
  qt : Qt w wr
end Go.Proofs.YtkclkhfcmjhogaaDoor

namespace Go.Proofs.YtkclkhfcmjhogaaDoor
open Go.RowKit
set_option linter.unusedVariables false

theorem far_of {P : Program} {W : World} {base : Nat} {t e : TypeId} {a : Option Addr} {len cap : Nat} (ht : P.underlying t = some (.slice e)) (h : Value.okWide P W .any base t (.slice a len cap)) : ∀ q, a = some q → q.block < W.heap.size := by
  intro q hq
  subst hq
  unfold Value.okWide at h
  rw [ht] at h
  have h2 : Cell.ok P W .any base t (.slice (some q) len cap) := by
    unfold Cell.okWide at h
    rw [ht] at h
    exact h
  unfold Cell.ok at h2
  rw [ht] at h2
  obtain ⟨_, _, _, _, row, cells, hs, _⟩ := h2
  unfold World.shape? at hs
  cases hb : W.heap[q.block]? with
  | none => rw [hb] at hs; cases hs
  | some o => exact (Array.getElem?_eq_some_iff.1 hb).1
/-- Bytes that are handed in, as numbers. -/
theorem bytes_of {W : World} {a : Option Addr} {len : Nat} {f : Nat → Int} (hs : Sl W a len (fun i => .int .u8 (f i))) (ho : ∀ i, (Lit.int .u8 (f i)).wf = true) : ∃ g : Nat → Nat, Sl W a len (Bn g) ∧ ∀ i, g i < 256 := by
  have h0 : ∀ i, 0 ≤ f i ∧ f i < 256 := by
    intro i
    have := ho i
    simp [Lit.wf, IntKind.min, IntKind.max, IntKind.signed, IntKind.bits] at this
    omega
  refine ⟨fun i => (f i).toNat, ?_, fun i => by have := h0 i; show (f i).toNat < 256; omega⟩
  intro i hi
  obtain ⟨b, o, e, hb, hc⟩ := hs i hi
  refine ⟨b, o, e, hb, hc.trans ?_⟩
  have h1 : (((f i).toNat : Nat) : Int) = f i := by have := h0 i; omega
  show some (Value.int .u8 (f i)) = some (Value.int .u8 (((f i).toNat : Nat) : Int))
  rw [h1]
end Go.Proofs.YtkclkhfcmjhogaaDoor

namespace Go.Proofs.YtkclkhfcmjhogaaDoor
open Go.RowKit
set_option linter.unusedVariables false

def deepL : Nat → List Nat
  | 0 => [97]
  | k + 1 => [40] ++ deepL k ++ [41]
def isOk1 (r : Except Int RX) : Bool := match r with | .error _ => false | .ok x => x.kind == 1 && (x.args.length == 0 && same x.set (btw 97 97))
def isCap (r : Except Int RX) : Bool := match r with | .error n => n == 6 | .ok _ => false
theorem deep_all : (List.range 30).all (fun k => if 13 < k then isCap (prsX (deepL k)) else isOk1 (prsX (deepL k))) = true := by kernel_rfl
theorem deep_cap {k : Nat} (h : k < 30) (h2 : 13 < k) : prsX (deepL k) = .error 6 := by
  have h1 := List.all_eq_true.1 deep_all k (List.mem_range.2 h)
  rw [if_pos h2] at h1
  cases hp : prsX (deepL k) with
  | error n => rw [hp] at h1; unfold isCap at h1; simp at h1; rw [h1]
  | ok x => rw [hp] at h1; cases h1
theorem deep_ok {k : Nat} (h2 : ¬ 13 < k) : ∃ p, prsX (deepL k) = .ok ⟨1, p, []⟩ ∧ same p (btw 97 97) = true := by
  have h1 := List.all_eq_true.1 deep_all k (List.mem_range.2 (by omega))
  rw [if_neg h2] at h1
  cases hp : prsX (deepL k) with
  | error n => rw [hp] at h1; cases h1
  | ok x =>
    obtain ⟨k', p, l⟩ := x
    rw [hp] at h1
    unfold isOk1 at h1
    simp only [Bool.and_eq_true, beq_iff_eq, List.length_eq_zero_iff] at h1
    obtain ⟨rfl, rfl, h3⟩ := h1
    exact ⟨p, rfl, h3⟩
theorem deep_len : ∀ k, (deepL k).length = 2 * k + 1
  | 0 => rfl
  | k + 1 => by simp [deepL, deep_len k]; omega
theorem deep_byte : ∀ k, ∀ c ∈ deepL k, c < 256
  | 0, c, h => by simp [deepL] at h; omega
  | k + 1, c, h => by
    simp [deepL] at h
    rcases h with rfl | h | rfl
    · decide
    · exact deep_byte k c h
    · decide
end Go.Proofs.YtkclkhfcmjhogaaDoor
