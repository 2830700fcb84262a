/- A run's bytes. -/
import Derived.Test.YtkclkhfcmjhogaaDoorMgA3
import Derived.Test.YtkclkhfcmjhogaaDoorMgA1
import Derived.Deep.RegionHeld3
namespace Go.Proofs.YtkclkhfcmjhogaaDoor
open Go.RowKit
set_option linter.unusedVariables false

theorem Qt.keep {w w' : World} (h : Hid (Qt w w')) {g o : Nat} {v : Value} (hc : w.cell? ⟨g, o, none⟩ = some v) : w'.cell? ⟨g, o, none⟩ = some v := h.out.cell (p := ⟨g, o, none⟩) hc (fun h => h)

/-- A block of a set's size lies there, and nothing else has turned since W. -/
structure Rs (W : World) (g : Nat) (w' : World) : Prop where
  mv : Mv (fun k => k = g) W w'
  at_ : ∃ c0 c1 c2 c3, w'.heap[g]? = some (.cells #[c0, c1, c2, c3] 25 (0, 0))
theorem Rs.lt {W : World} {g : Nat} {w' : World} (h : Rs W g w') : g < w'.heap.size := by
  obtain ⟨_, _, _, _, e⟩ := h.at_
  exact (Array.getElem?_eq_some_iff.1 e).1
theorem Rs.qt {W : World} {g : Nat} {w' w'' : World} (h : Hid (Rs W g w')) (q : Hid (Qt w' w'')) : Hid (Rs W g w'') := by
  refine ⟨h.out.mv.trans q.out (fun _ _ h => h.elim), ?_⟩
  obtain ⟨c0, c1, c2, c3, e⟩ := h.out.at_
  exact ⟨c0, c1, c2, c3, by rw [q.out.block g h.out.lt (fun h => h), e]⟩
theorem Rs.qt' {W : World} {g : Nat} {w' w'' : World} (q : Hid (Qt w' w'')) (h : Hid (Rs W g w')) : Hid (Rs W g w'') := Rs.qt h q
theorem Rs.qt3 {W : World} {g : Nat} {w' w'' : World} {A B : Prop} (q : Hid (Qt w' w'')) (h : A ∧ B ∧ Hid (Rs W g w')) : Hid (Rs W g w'') := Rs.qt h.2.2 q
theorem Rs.drew {W : World} {g : Nat} {w' : World} (h : Hid (Rs W g w')) : Hid (Rs W g w'.drew) := ⟨⟨h.out.mv.os, h.out.mv.tape, h.out.mv.output, h.out.mv.size, h.out.mv.block⟩, h.out.at_⟩
theorem Rs.set {W : World} {g : Nat} {w' : World} (h : Hid (Rs W g w')) (o : Nat) (ho : o < 4) (v : Value) : Hid (Rs W g (w'.setCell ⟨g, o, none⟩ v)) := by
  refine ⟨h.out.mv.trans (Mv.setCell w' _ _) (fun _ _ h => h), ?_⟩
  obtain ⟨c0, c1, c2, c3, e⟩ := h.out.at_
  rw [heap_set e]
  rcases (show o = 0 ∨ o = 1 ∨ o = 2 ∨ o = 3 from by omega) with rfl | rfl | rfl | rfl <;> exact ⟨_, _, _, _, rfl⟩
theorem Rs.four {W : World} {g : Nat} {w' : World} (h : Hid (Rs W g w')) (v0 v1 v2 v3 : Value) : Hid (Rs W g ((((w'.setCell ⟨g, 0, none⟩ v0).setCell ⟨g, 1, none⟩ v1).setCell ⟨g, 2, none⟩ v2).setCell ⟨g, 3, none⟩ v3)) :=
  Rs.set (Rs.set (Rs.set (Rs.set h 0 (by omega) v0) 1 (by omega) v1) 2 (by omega) v2) 3 (by omega) v3
theorem Rs.put {W : World} {g : Nat} {w' : World} (h : Rs W g w') (v0 v1 v2 v3 : Value) : ((((w'.setCell ⟨g, 0, none⟩ v0).setCell ⟨g, 1, none⟩ v1).setCell ⟨g, 2, none⟩ v2).setCell ⟨g, 3, none⟩ v3).heap[g]? = some (.cells #[v0, v1, v2, v3] 25 (0, 0)) := by
  obtain ⟨c0, c1, c2, c3, e⟩ := h.at_
  exact heap_set (heap_set (heap_set (heap_set e)))
theorem Rs.cells {W : World} {g : Nat} {w' : World} (h : Hid (Rs W g w')) : ∃ c0 c1 c2 c3, w'.cell? ⟨g, 0, none⟩ = some c0 ∧ w'.cell? ⟨g, 1, none⟩ = some c1 ∧ w'.cell? ⟨g, 2, none⟩ = some c2 ∧ w'.cell? ⟨g, 3, none⟩ = some c3 ∧ w'.frozen? ⟨g, 0, none⟩ = false ∧ w'.frozen? ⟨g, 1, none⟩ = false ∧ w'.frozen? ⟨g, 2, none⟩ = false ∧ w'.frozen? ⟨g, 3, none⟩ = false := by
  obtain ⟨c0, c1, c2, c3, e⟩ := h.out.at_
  exact ⟨c0, c1, c2, c3, by simp [World.cell?, e], by simp [World.cell?, e], by simp [World.cell?, e], by simp [World.cell?, e], by simp [World.frozen?, e], by simp [World.frozen?, e], by simp [World.frozen?, e], by simp [World.frozen?, e]⟩
theorem Rs.keep2 {W : World} {g b : Nat} {w' : World} {u v : Value} (c0 : Hid (W.cell? ⟨b, 0, none⟩ = some u)) (c1 : Hid (W.cell? ⟨b, 1, none⟩ = some v)) (hb : Hid (b ≠ g)) (h : Hid (Rs W g w')) : w'.cell? ⟨b, 0, none⟩ = some u ∧ w'.cell? ⟨b, 1, none⟩ = some v ∧ Hid (Rs W g w') :=
  ⟨h.out.mv.cell (p := ⟨b, 0, none⟩) c0.out hb.out, h.out.mv.cell (p := ⟨b, 1, none⟩) c1.out hb.out, h⟩
theorem Rs.out {w W : World} {g : Nat} {w' : World} (h : Rs W g w') (q : Qt w W) (hg : w.heap.size ≤ g) : Qt w w' := Mv.trans q h.mv (fun j hj e => by omega)
theorem sv_cells (p : Nat → Bool) : sv p = .agg #[.int .u64 (limb p 0), .int .u64 (limb p 1), .int .u64 (limb p 2), .int .u64 (limb p 3)] := rfl

set_option maxHeartbeats 1000000 in
theorem set_any (a b : Nat) (ha : a < 256) (hb : b < 256) (w : World) : Calls Tryd.prog 117 #[.agg #[.int .u8 a, .int .u8 b]] w fun e w' => e = .returned (sv (btw a b)) ∧ Hid (Qt w w') := by
  have hs1 := fun W => since_any a W (by omega)
  have hs2 := fun W => since_any (b + 1) W (by omega)
  rw [show ((b + 1 : Nat) : Int) = (b : Int) + 1 from by omega] at hs2
  have HE : Hid (sv (fun c => frm a c && no (frm (b + 1)) c) = sv (btw a b)) := by
    congr 1; funext c; unfold frm no btw; rw [Bool.eq_iff_iff]; simp; omega
  have hw1 : IntKind.i64.wrap ((b : Int) + 1) = (b : Int) + 1 := by rw [IntKind.wrap_i64]; omega
  have hw2 : IntKind.i64.wrap (a : Int) = (a : Int) := by rw [IntKind.wrap_i64]; omega
  have hw3 : IntKind.i64.wrap (b : Int) = (b : Int) := by rw [IntKind.wrap_i64]; omega
  go_enter Tryd.func117, Tryd.ntmps117
  go_wp2_with fail
  have H0 : Hid (Rs ((w.alloc (.cells #[.int .u8 a, .int .u8 b] 99)).alloc (.cells #[.int .u64 0, .int .u64 0, .int .u64 0, .int .u64 0] 25)) (w.heap.size + 1) ((w.alloc (.cells #[.int .u8 a, .int .u8 b] 99)).alloc (.cells #[.int .u64 0, .int .u64 0, .int .u64 0, .int .u64 0] 25))) :=
    ⟨Mv.refl _ _, _, _, _, _, heap_alloc2_new _ _ _⟩
  have c0 : ((w.alloc (.cells #[.int .u8 a, .int .u8 b] 99)).alloc (.cells #[.int .u64 0, .int .u64 0, .int .u64 0, .int .u64 0] 25)).cell? ⟨w.heap.size, 0, none⟩ = some (.int .u8 a) := by simp
  have c1 : ((w.alloc (.cells #[.int .u8 a, .int .u8 b] 99)).alloc (.cells #[.int .u64 0, .int .u64 0, .int .u64 0, .int .u64 0] 25)).cell? ⟨w.heap.size, 1, none⟩ = some (.int .u8 b) := by simp
  have Q0 : Hid (Qt w ((w.alloc (.cells #[.int .u8 a, .int .u8 b] 99)).alloc (.cells #[.int .u64 0, .int .u64 0, .int .u64 0, .int .u64 0] 25))) := ((Qt.refl w).alloc _).alloc _
  generalize ((w.alloc (.cells #[.int .u8 a, .int .u8 b] 99)).alloc (.cells #[.int .u64 0, .int .u64 0, .int .u64 0, .int .u64 0] 25)) = W at *
  have C0 : Hid _ := c0
  have C1 : Hid _ := c1
  have HB : Hid (w.heap.size ≠ w.heap.size + 1) := by intro h; omega
  go_region_held3 (fun w' => w'.cell? ⟨w.heap.size, 0, none⟩ = some (.int .u8 a) ∧ w'.cell? ⟨w.heap.size, 1, none⟩ = some (.int .u8 b) ∧ Hid (Rs W (w.heap.size + 1) w')) (first
    | (refine Rs.keep2 C0 C1 HB ?_; first | exact Rs.qt3 (by assumption) (by assumption) | exact Rs.drew (by assumption) | exact Rs.qt' (by assumption) (Rs.drew H0) | exact Rs.four (And.right (And.right (by assumption))) _ _ _ _))
    ((first
    | (go_at_call 92; with_reducible refine (hs1 _).mono ?_; rintro e w1 ⟨rfl, q1⟩)
    | (go_at_call 92; with_reducible refine (hs2 _).mono ?_; rintro e w2 ⟨rfl, q2⟩)
    | (go_at_call 74; with_reducible refine (not_any _ _).mono ?_; rintro e w3 ⟨rfl, q3⟩)
    | (go_at_call 91; with_reducible refine (and_any _ _ _).mono ?_; rintro e w4 ⟨rfl, q4⟩; rw [HE.out, sv_cells]; obtain ⟨d0, d1, d2, d3, k0, k1, k2, k3, l0, l1, l2, l3⟩ := Rs.cells (W := W) (g := w.heap.size + 1) (Rs.qt3 q4 (by assumption)))))
  have R4 : Hid (Rs W (w.heap.size + 1) w4) := Rs.qt' q4 (Rs.qt' q3 (Rs.qt' q2 (Rs.qt' q1 (Rs.drew H0))))
  go_wp2_with fail
  refine bodyPost_ret (results_cell_row (p := 2) (ty := 25) rfl _ _ (w.heap.size + 1) 25 _ (0, 0) _ rfl (R4.out.put _ _ _ _) Tryd.underlying25 rfl (by kernel_rfl)) rfl ?_
  exact ⟨rfl, (Rs.four R4 _ _ _ _).out.out Q0.out (by omega)⟩

end Go.Proofs.YtkclkhfcmjhogaaDoor
