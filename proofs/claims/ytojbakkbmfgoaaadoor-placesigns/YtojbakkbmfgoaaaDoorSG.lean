/- place.Of of a sign over a tree. -/
import Derived.Test.YtojbakkbmfgoaaaDoorCA
import Derived.Test.YtojbakkbmfgoaaaDoorMsN3
namespace Go.Proofs.YtojbakkbmfgoaaaDoor
open Go.RowKit
set_option linter.unusedVariables false
set_option linter.unusedSimpArgs false

/-- A tree's six cells in a row of values. -/
abbrev cs6 (x : RX) (a : Option Addr) (c : Nat) : Array Value := #[.int .i64 x.kind, .int .u64 (limb x.set 0), .int .u64 (limb x.set 1), .int .u64 (limb x.set 2), .int .u64 (limb x.set 3), .slice a x.args.length c]
theorem parts_new1 {K : Nat → Prop} {w : World} {x : RX} {a : Option Addr} {c : Nat} (hx : Parts x.args K w a c) : Parts [x] (fun j => K j ∨ j = w.heap.size) (w.alloc (.cells (cs6 x a c) 29)) (some ⟨w.heap.size, 0, none⟩) 1 := by
  have qa := Mv.alloc (fun _ => False) w (.cells (cs6 x a c) 29)
  refine ⟨cells6 x.kind x.set a x.args.length c, fun q hq => ?_, Nat.le_refl 1, ⟨by simp, fun h => nomatch h⟩, Ls.new w _ 29, row_one (RX.lies_mono x _ _ _ _ (fun _ h => .inl h) (RX.lies_mv qa x K _ (fun _ _ h => h) (lies_of hx)))⟩
  cases hq
  exact ⟨.inr rfl, rfl, _, _, heap_alloc_new w _⟩
/-- A sign over x. -/
def sgn (k : Int) (x : RX) : RX := ⟨k, fun _ => false, [x]⟩
theorem sgn_formed {k : Int} (hk : k = 4 ∨ k = 6) {x : RX} (hf : x.formed = true) (hx : x.kind < 4) : (sgn k x).formed = true := by
  unfold sgn
  rw [formed_eq]
  have hfk := formed_kind hf
  have h1 : node k (fun _ => false) [x].length = true := by
    unfold node
    rw [if_neg (by omega), if_pos (by omega), any_none]
    rfl
  have h2 : lvl x.kind ≠ lvl k := by
    unfold lvl
    rw [if_neg (show ¬ k = 3 by omega), if_neg (show ¬ k = 2 by omega), if_pos (show k = 4 ∨ k = 5 ∨ k = 6 by omega)]
    rcases (show x.kind = 1 ∨ x.kind = 2 ∨ x.kind = 3 by omega) with e | e | e <;> rw [e] <;> decide
  rw [h1]
  simp [hf, h2]
theorem sgn_may {k : Int} (hk : k = 4 ∨ k = 6) {x : RX} (hf : x.formed = true) (hx : x.kind < 4) (hn : x.nodes ≤ 39) (hd : x.depth ≤ 11) : may (sgn k x) = 0 := by
  unfold may
  rw [if_neg (by rw [sgn_formed hk hf hx]; decide)]
  have h1 : (sgn k x).nodes = 1 + x.nodes := by unfold sgn; rw [nodes_eq]; simp
  have h2 : (sgn k x).depth = x.depth + 1 := by unfold sgn; rw [depth_eq]; simp [maxl]
  rw [if_pos ⟨by omega, by omega⟩]
theorem sgn_tall {k : Int} {x : RX} (hn : x.nodes ≤ 39) : (sgn k x).tall < 90000 := by
  have h1 : (sgn k x).nodes = 1 + x.nodes := by unfold sgn; rw [nodes_eq]; simp
  have := tall_nodes (sgn k x)
  omega
theorem sign_sets (k : Int) (p : Pla) : (signP k p).sets = p.sets := by unfold signP; split; rfl; split <;> rfl
theorem sign_fst (k : Int) (p : Pla) : (signP k p).fst = p.fst := by unfold signP; split; rfl; split <;> rfl
theorem sign_lst (k : Int) (p : Pla) : (signP k p).lst = p.lst := by unfold signP; split; rfl; split <;> rfl
/-- What place.Of tells of a sign over x. -/
def OgP (w : World) (x : RX) (G : Nat → List Nat) (e : Ending) (w' : World) : Prop :=
  ∃ s f l g, e = .returned (.tuple #[.agg #[s, f, l, g, .bool true], .int .i64 0]) ∧ Hid (Pv w' s f l g x.pla.sets x.pla.cnt (asc 64 (x.pla.fst 0)) (asc 64 (x.pla.lst 0)) G) ∧ Hid (Qt w w')
theorem of_sign {k : Int} (hk : k = 4 ∨ k = 6) {x : RX} (hf : x.formed = true) (hx : x.kind < 4) (hn : x.nodes ≤ 39) (hd : x.depth ≤ 11) (K : Nat → Prop) (a : Option Addr) (c : Nat) (w : World) (hK : ∀ j, K j → j < w.heap.size) (hX : Parts x.args K w a c) (hT : Hid (Tab w)) (h0 : 0 < w.heap.size) :
    Calls Tryd.prog 10 #[.agg #[.int .i64 k, .int .u64 0, .int .u64 0, .int .u64 0, .int .u64 0, .slice (some ⟨w.heap.size, 0, none⟩) 1 1]] (w.alloc (.cells (cs6 x a c) 29)) fun e w' => OgP (w.alloc (.cells (cs6 x a c) 29)) x (fun i => asc 64 ((signP k x.pla).fol 0 i)) e w' := by
  have QA : Qt w (w.alloc (.cells (cs6 x a c) 29)) := Mv.alloc _ _ _
  have h := of_yes (sgn k x) (sgn_may hk hf hx hn hd) _ _ _ _ (fun j hj => by
    rcases hj with hj | hj
    · exact Nat.lt_of_lt_of_le (hK j hj) QA.size
    · rw [hj]; simp) (parts_new1 hX) (sgn_tall hn) (show Hid _ from hT.out.qt QA) (Nat.lt_of_lt_of_le h0 QA.size)
  have hp : (sgn k x).pla = signP k x.pla := pla_sign k (by omega) _ x
  have hnull : (signP k x.pla).null = true := by
    unfold signP
    rcases hk with rfl | rfl
    · rfl
    · rfl
  have hlen : (sgn k x).args.length = 1 := rfl
  refine Calls.mono ?_ (fun e w' (he : OfP (w.alloc (.cells (cs6 x a c) 29)) (sgn k x) e w') => ?_)
  rotate_left
  · obtain ⟨s, f, l, g, e1, e2, e3⟩ := he
    rw [hp, hnull] at e1
    rw [hp, sign_sets, sign_cnt, sign_fst, sign_lst] at e2
    exact ⟨s, f, l, g, e1, e2, e3⟩
  · show Calls _ _ #[.agg #[.int .i64 (sgn k x).kind, _, _, _, _, _]] _ _
    have e := h
    unfold sgn at e
    simp only [limb_none] at e
    exact e
theorem asc_le {p q : Nat → Bool} (n : Nat) (h : ∀ i, p i = true → q i = true) : (asc n p).length ≤ (asc n q).length := by
  unfold asc
  rw [← List.countP_eq_length_filter, ← List.countP_eq_length_filter]
  exact List.countP_mono_left (fun x _ hx => h x hx)
theorem star_fol {p : Pla} (hc : p.Fine) (h : p.cnt ≤ 40) {c d : Nat} (h1 : p.lst 0 c = true) (h2 : p.fst 0 d = true) : d ∈ asc 64 ((signP 4 p).fol 0 c) := by
  have := hc.fst 0 d h2
  refine asc_mem.2 ⟨by omega, ?_⟩
  show (p.fol 0 c d || (p.lst 0 c && p.fst 0 d)) = true
  rw [h1, h2]; simp
theorem star_le (p : Pla) (i : Nat) : (asc 64 (p.fol 0 i)).length ≤ (asc 64 ((signP 4 p).fol 0 i)).length := asc_le 64 (fun j h => by
  show (p.fol 0 i j || (p.lst 0 i && p.fst 0 j)) = true
  rw [h]; rfl)
theorem opt_eq (p : Pla) (i : Nat) : asc 64 ((signP 6 p).fol 0 i) = asc 64 (p.fol 0 i) := rfl

end Go.Proofs.YtojbakkbmfgoaaaDoor
