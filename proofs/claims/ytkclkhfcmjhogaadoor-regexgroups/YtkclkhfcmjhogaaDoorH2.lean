/- The program's reader: what a call tells; oneOrAll. -/
import Derived.Test.YtkclkhfcmjhogaaDoorH1
namespace Go.Proofs.YtkclkhfcmjhogaaDoor
open Go.RowKit
set_option linter.unusedVariables false

/-- Behind a call of the reader: what was read, or the panic. -/
def Px (q o : Nat) (w : World) (r : Res) (e : Ending) (w' : World) : Prop :=
  match r with
  | .error n => e = .panicked (chainE n) ∧ Hid (Mv (fun k => k = q) w w')
  | .ok (x, t) => ∃ a c, e = .returned (.agg #[.int .i64 x.kind, .int .u64 (limb x.set 0), .int .u64 (limb x.set 1), .int .u64 (limb x.set 2), .int .u64 (limb x.set 3), .slice a x.args.length c]) ∧ Hid (Parts x.args (fun j => w.heap.size ≤ j) w' a c) ∧ Hid (Gx q t o w w')
/-- The cells of a result that nobody has written yet. -/
abbrev zeros6 : Obj := .cells #[.int .i64 0, .int .u64 0, .int .u64 0, .int .u64 0, .int .u64 0, .slice none 0 0] 28
abbrev put6 (w : World) (g : Nat) (v0 v1 v2 v3 v4 v5 : Value) : World := (((((w.setCell ⟨g, 0, none⟩ v0).setCell ⟨g, 1, none⟩ v1).setCell ⟨g, 2, none⟩ v2).setCell ⟨g, 3, none⟩ v3).setCell ⟨g, 4, none⟩ v4).setCell ⟨g, 5, none⟩ v5
theorem put6_heap {w : World} {g : Nat} {c0 c1 c2 c3 c4 c5 : Value} (h : w.heap[g]? = some (.cells #[c0, c1, c2, c3, c4, c5] 28 (0, 0))) (v0 v1 v2 v3 v4 v5 : Value) : (put6 w g v0 v1 v2 v3 v4 v5).heap[g]? = some (.cells #[v0, v1, v2, v3, v4, v5] 28 (0, 0)) :=
  heap_set (heap_set (heap_set (heap_set (heap_set (heap_set h)))))
theorem put6_mv (w : World) (g : Nat) (v0 v1 v2 v3 v4 v5 : Value) : Mv (fun k => k = g) w (put6 w g v0 v1 v2 v3 v4 v5) :=
  (((((Mv.setCell w ⟨g, 0, none⟩ v0).trans (Mv.setCell _ ⟨g, 1, none⟩ v1) (fun _ _ h => h)).trans (Mv.setCell _ ⟨g, 2, none⟩ v2) (fun _ _ h => h)).trans (Mv.setCell _ ⟨g, 3, none⟩ v3) (fun _ _ h => h)).trans (Mv.setCell _ ⟨g, 4, none⟩ v4) (fun _ _ h => h)).trans (Mv.setCell _ ⟨g, 5, none⟩ v5) (fun _ _ h => h)
/-- A block of six cells. -/
abbrev B6 (g : Nat) (v0 v1 v2 v3 v4 v5 : Value) (w : World) : Prop := w.heap[g]? = some (.cells #[v0, v1, v2, v3, v4, v5] 28 (0, 0))
theorem B6.mv {X : Nat → Prop} {g : Nat} {v0 v1 v2 v3 v4 v5 : Value} {w w' : World} (h : B6 g v0 v1 v2 v3 v4 v5 w) (m : Mv X w w') (hx : ¬ X g) : Hid (B6 g v0 v1 v2 v3 v4 v5 w') := (m.block g (Array.getElem?_eq_some_iff.1 h).1 hx).trans h
theorem B6.facts {g : Nat} {v0 v1 v2 v3 v4 v5 : Value} {w : World} (h : Hid (B6 g v0 v1 v2 v3 v4 v5 w)) : w.cell? ⟨g, 0, none⟩ = some v0 ∧ w.cell? ⟨g, 1, none⟩ = some v1 ∧ w.cell? ⟨g, 2, none⟩ = some v2 ∧ w.cell? ⟨g, 3, none⟩ = some v3 ∧ w.cell? ⟨g, 4, none⟩ = some v4 ∧ w.cell? ⟨g, 5, none⟩ = some v5 ∧ w.frozen? ⟨g, 0, none⟩ = false ∧ w.frozen? ⟨g, 1, none⟩ = false ∧ w.frozen? ⟨g, 2, none⟩ = false ∧ w.frozen? ⟨g, 3, none⟩ = false ∧ w.frozen? ⟨g, 4, none⟩ = false ∧ w.frozen? ⟨g, 5, none⟩ = false := by
  have h' := h.out
  unfold B6 at h'
  refine ⟨?_, ?_, ?_, ?_, ?_, ?_, ?_, ?_, ?_, ?_, ?_, ?_⟩ <;> simp [World.cell?, World.frozen?, h']
theorem B6.lt {g : Nat} {v0 v1 v2 v3 v4 v5 : Value} {w : World} (h : B6 g v0 v1 v2 v3 v4 v5 w) : g < w.heap.size := (Array.getElem?_eq_some_iff.1 h).1
/-- What is left behind a result that was written into its block. -/
theorem Gx.end {q g o : Nat} {l t : List Nat} {w w1 : World} (hq : q < w.heap.size) (hg : w.heap.size ≤ g) (h : Gx q t o w w1) (v0 v1 v2 v3 v4 v5 : Value) : Gx q t o w (put6 w1 g v0 v1 v2 v3 v4 v5) :=
  ⟨h.rd.mv (put6_mv w1 g v0 v1 v2 v3 v4 v5) (by omega), h.mv.trans (put6_mv w1 g v0 v1 v2 v3 v4 v5) (fun j hj e => by omega)⟩
theorem Gx.comp {q o : Nat} {l t : List Nat} {w w1 w2 : World} (h : Mv (fun k => k = q) w w1) (k : Gx q t o w1 w2) : Gx q t o w w2 := ⟨k.rd, h.trans k.mv (fun _ _ h => h)⟩

set_option maxHeartbeats 1000000 in
/-- One of a row: it. -/
theorem oneOrAll_one (k : Int) (x : RX) (base : Nat) (K : Nat → Prop) (b n c : Nat) (w : World) (hn : n = 1) (hR : Hid (Ro base K w (.slice (some ⟨b, 0, none⟩) n c) [x])) :
    Calls Tryd.prog 72 #[.int .i64 k, .slice (some ⟨b, 0, none⟩) n c] w fun e w' => ∃ a c', e = .returned (.agg #[.int .i64 x.kind, .int .u64 (limb x.set 0), .int .u64 (limb x.set 1), .int .u64 (limb x.set 2), .int .u64 (limb x.set 3), .slice a x.args.length c']) ∧ Hid (Parts x.args K w' a c') ∧ Hid (Qt w w') := by
  subst hn
  obtain ⟨b2, a', c', hb, hbb, hpt, q0, q1, q2, q3, q4, q5⟩ := hR.out.at (i := 0) (x := x) rfl
  cases hb
  have qa := Mv.alloc (fun _ => False) w zeros6
  have r0 := Qt.keep qa q0
  have r1 := Qt.keep qa q1
  have r2 := Qt.keep qa q2
  have r3 := Qt.keep qa q3
  have r4 := Qt.keep qa q4
  have r5 := Qt.keep qa q5
  simp only [Nat.zero_mul, Nat.zero_add] at r0 r1 r2 r3 r4 r5
  have HP : Hid (Parts x.args K w a' c') := hpt
  have Z : Hid (B6 w.heap.size (.int .i64 0) (.int .u64 0) (.int .u64 0) (.int .u64 0) (.int .u64 0) (.slice none 0 0) (w.alloc zeros6)) := heap_alloc_new w zeros6
  obtain ⟨z0, z1, z2, z3, z4, z5, f0, f1, f2, f3, f4, f5⟩ := B6.facts Z
  clear q0 q1 q2 q3 q4 q5 hpt qa hbb
  go_enter Tryd.func72, Tryd.ntmps72
  go_wp2_with fail
  refine bodyPost_ret (results_cell_row (p := 4) (ty := 28) rfl _ _ w.heap.size 28 _ (0, 0) _ rfl (heap_alloc_new w _) Tryd.underlying28 rfl (by kernel_rfl)) rfl ?_
  exact ⟨a', c', rfl, HP.out.mv (Mv.alloc (fun _ => False) w _) (fun _ _ h => h), Mv.alloc _ _ _⟩
set_option maxHeartbeats 1000000 in
/-- Of more: all of them. -/
theorem oneOrAll_all (k : Int) (a : Option Addr) (n c : Nat) (w : World) (hn : n ≠ 1) :
    Calls Tryd.prog 72 #[.int .i64 k, .slice a n c] w fun e w' => e = .returned (.agg #[.int .i64 k, .int .u64 0, .int .u64 0, .int .u64 0, .int .u64 0, .slice a n c]) ∧ Hid (Qt w w') := by
  have hz : ((n : Int) == 1) = false := by simp; omega
  have hz' : ((n : Int) = 1) = False := by simp; omega
  have hz2 : (n = 1) = False := by simp; omega
  go_enter Tryd.func72, Tryd.ntmps72
  go_wp2_with fail
  refine bodyPost_ret (results_cell_row (p := 4) (ty := 28) rfl _ _ w.heap.size 28 _ (0, 0) _ rfl (heap_alloc_new w _) Tryd.underlying28 rfl (by kernel_rfl)) rfl ?_
  exact ⟨rfl, Mv.alloc _ _ _⟩
/-- A row of trees as one tree. -/
theorem oneOrAll_any (k : Int) (l : List RX) (base : Nat) (K : Nat → Prop) (v : Value) (w : World) (hl : l ≠ []) (hlen : l.length < 100000) (hR : Hid (Ro base K w v l)) (hb : ∀ j, v.ownBlock = some j → base ≤ j) :
    Calls Tryd.prog 72 #[.int .i64 k, v] w fun e w' => ∃ a c, e = .returned (.agg #[.int .i64 (one k l).kind, .int .u64 (limb (one k l).set 0), .int .u64 (limb (one k l).set 1), .int .u64 (limb (one k l).set 2), .int .u64 (limb (one k l).set 3), .slice a (one k l).args.length c]) ∧ Hid (Parts (one k l).args (fun j => K j ∨ base ≤ j) w' a c) ∧ Hid (Qt w w') := by
  obtain ⟨a, c, hv, hp, hnn⟩ := hR.out.sl hlen
  match l, hl with
  | [x], _ =>
    subst hv
    obtain ⟨b, _, _, ha, _⟩ := hR.out.at (i := 0) (x := x) rfl
    subst ha
    refine (oneOrAll_one k x base K b _ c w rfl hR).mono ?_
    rintro e w' ⟨a', c', rfl, h1, h2⟩
    exact ⟨a', c', rfl, h1.out.mono (fun j hj => .inl hj), h2⟩
  | x :: y :: m, _ =>
    subst hv
    refine (oneOrAll_all k a (x :: y :: m).length c w (by simp)).mono ?_
    rintro e w' ⟨rfl, h2⟩
    refine ⟨a, c, ?_, (hp.mv h2.out (fun _ _ h => h)).mono (fun j hj => hj.imp id (fun h => hb j h)), h2⟩
    show _ = Ending.returned (.agg #[.int .i64 k, .int .u64 (limb eset 0), .int .u64 (limb eset 1), .int .u64 (limb eset 2), .int .u64 (limb eset 3), .slice a (x :: y :: m).length c])
    rw [show limb eset 0 = 0 from limb_none 0, show limb eset 1 = 0 from limb_none 1, show limb eset 2 = 0 from limb_none 2, show limb eset 3 = 0 from limb_none 3]
    rfl

end Go.Proofs.YtkclkhfcmjhogaaDoor
