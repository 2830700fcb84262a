/- What is added: add. -/
import Derived.Test.YtjelclomigmlmaaD1
namespace Go.Proofs.Ytjelclomigmlmaa
open Go.RowKit

/-- Bytes behind bytes. -/
def catI (A : Nat → Int) (m : Nat) (f : Nat → Int) : Nat → Int := fun i => if i < m then A i else f (i - m)
theorem by_catI (A : Nat → Int) (m : Nat) (f : Nat → Int) : cat (By A) m (By f) = By (catI A m f) := by
  funext i
  unfold cat By catI
  split <;> rfl
theorem Wf.mono {n m k : Nat} {L : List Bt} (h : Wf n m L) (hk : m ≤ k) : Wf n k L := fun x hx => ⟨(h x hx).1, fun e => Nat.lt_of_lt_of_le ((h x hx).2 e) hk⟩

/-- What add leaves. -/
def AddLeft (w w' : World) (p n : Nat) (L : List Bt) (m : Nat) (A : Nat → Int) (vp va va' : Value) (Y : Nat → Prop) : Prop := TxAt w' p n L m A vp va' Y ∧ Mv (fun j => j = p ∨ va.ownBlock = some j) w w'

theorem heap_set {W : World} {g o : Nat} {v : Value} {cs : Array Value} {t : TypeId} {fr : Nat × Nat} (h : W.heap[g]? = some (.cells cs t fr)) : (W.setCell ⟨g, o, none⟩ v).heap[g]? = some (.cells (cs.setIfInBounds o v) t fr) := by
  obtain ⟨hlt, hk⟩ := Array.getElem?_eq_some_iff.1 h
  show (W.heap.modify g _)[g]? = _
  rw [Array.getElem?_eq_getElem (by rw [Array.size_modify]; exact hlt), Array.getElem_modify_self, hk]
  rfl

theorem add_fin {w W : World} {p n : Nat} {L : List Bt} {m k : Nat} {A f : Nat → Int} {Y : Nat → Prop} {vp va v1 x y z : Value} (h : TxAt w p n L m A vp va Y) (hm : m + k ≤ 20000) (M1 : Mv (fun j => va.ownBlock = some j) w W) (h2 : Own W 0 5 v1 (m + k) (By (catI A m f))) (h4 : v1.ownBlock = va.ownBlock ∨ ∃ g, v1.ownBlock = some g ∧ w.heap.size + 1 ≤ g) :
    AddLeft w ((((W.setCell ⟨p, 1, none⟩ v1).setCell ⟨w.heap.size, 0, none⟩ x).setCell ⟨w.heap.size, 1, none⟩ y).setCell ⟨w.heap.size, 2, none⟩ z) p n L (m + k) (catI A m f) vp va v1 Y := by
  have hp : p < w.heap.size := World.block_lt_of_cell? _ _ h.c1
  have np : ¬ va.ownBlock = some p := h.sep.2.1
  have MW : Mv (fun j => j = p ∨ j = w.heap.size) W ((((W.setCell ⟨p, 1, none⟩ v1).setCell ⟨w.heap.size, 0, none⟩ x).setCell ⟨w.heap.size, 1, none⟩ y).setCell ⟨w.heap.size, 2, none⟩ z) := by
    refine ((((Mv.setCell W ⟨p, 1, none⟩ v1).mono (T := fun j => j = p ∨ j = w.heap.size) (fun j _ e => .inl e)).trans (Mv.setCell _ ⟨w.heap.size, 0, none⟩ x) (fun j _ e => .inr e)).trans (Mv.setCell _ ⟨w.heap.size, 1, none⟩ y) (fun j _ e => .inr e)).trans (Mv.setCell _ ⟨w.heap.size, 2, none⟩ z) (fun j _ e => .inr e)
  have MR : Mv (fun j => j = w.heap.size) (W.setCell ⟨p, 1, none⟩ v1) ((((W.setCell ⟨p, 1, none⟩ v1).setCell ⟨w.heap.size, 0, none⟩ x).setCell ⟨w.heap.size, 1, none⟩ y).setCell ⟨w.heap.size, 2, none⟩ z) := by
    refine ((Mv.setCell _ ⟨w.heap.size, 0, none⟩ x).trans (Mv.setCell _ ⟨w.heap.size, 1, none⟩ y) (fun j _ e => e)).trans (Mv.setCell _ ⟨w.heap.size, 2, none⟩ z) (fun j _ e => e)
  have d0 : W.cell? ⟨p, 0, none⟩ = some vp := M1.cell h.c0 np
  have d1 : W.cell? ⟨p, 1, none⟩ = some va := M1.cell h.c1 np
  have hpr : ¬ p = w.heap.size := by omega
  have hsz := M1.size
  have M2 : Mv (fun j => j = p ∨ va.ownBlock = some j) w ((((W.setCell ⟨p, 1, none⟩ v1).setCell ⟨w.heap.size, 0, none⟩ x).setCell ⟨w.heap.size, 1, none⟩ y).setCell ⟨w.heap.size, 2, none⟩ z) := by
    refine (M1.mono (fun j _ e => .inr e)).trans MW (fun j hj e => ?_)
    rcases e with e | e
    · exact .inl e
    · omega
  have v1p : ∀ j, v1.ownBlock = some j → ¬ (j = p ∨ j = w.heap.size) := by
    intro j hj e
    rcases h4 with h4 | ⟨g, h4, h5⟩
    · rw [h4] at hj
      rcases e with e | e
      · subst e; exact np hj
      · have := (h.ad.blk j hj).2
        omega
    · rw [h4] at hj
      cases hj
      omega
  refine ⟨⟨?_, ?_, ?_, ?_, ?_, h2.mv MW v1p, ?_, ?_, h.wf.mono (by omega), ⟨h.small.1, hm, h.small.2.2⟩⟩, M2⟩
  · refine MR.cell (p := ⟨p, 0, none⟩) ?_ hpr
    rw [World.cell?_setCell_other _ _ _ _ (fun e => by cases e)]; exact d0
  · refine MR.cell (p := ⟨p, 1, none⟩) ?_ hpr
    exact World.cell?_setCell_same _ _ _ d1
  · refine (MR.frozen (p := ⟨p, 0, none⟩) (by simp [World.setCell]; omega) hpr).trans ?_
    rw [World.frozen?_setCell]; exact (M1.frozen (p := ⟨p, 0, none⟩) hp np).trans h.z0
  · refine (MR.frozen (p := ⟨p, 1, none⟩) (by simp [World.setCell]; omega) hpr).trans ?_
    rw [World.frozen?_setCell]; exact (M1.frozen (p := ⟨p, 1, none⟩) hp np).trans h.z1
  · refine M2.owns h.pl (fun j hj e => ?_)
    rcases e with e | e
    · subst e; exact h.sep.1 hj
    · exact h.sep.2.2 j hj e
  · intro j hj
    obtain ⟨a, b, c, d⟩ := h.away j hj
    refine ⟨Nat.lt_of_lt_of_le a M2.size, b, c, ?_⟩
    intro e
    rcases h4 with h4 | ⟨g, h4, h5⟩
    · rw [h4] at e; exact d e
    · rw [h4] at e; cases e; omega
  · refine ⟨h.sep.1, fun e => v1p p e (.inl rfl), fun j hj e => ?_⟩
    rcases h4 with h4 | ⟨g, h4, h5⟩
    · rw [h4] at e; exact h.sep.2.2 j hj e
    · rw [h4] at e; cases e
      have := (ow_blk h.pl j hj).2
      omega

set_option maxHeartbeats 1000000 in
theorem add_any {w : World} {p n : Nat} {L : List Bt} {m : Nat} {A : Nat → Int} {Y : Nat → Prop} {vp va : Value} (h : Hid (TxAt w p n L m A vp va Y)) (sa : Option Addr) (k sc : Nat) (f : Nat → Int) (hs : Hid (Sl w sa k (By f))) (hn : Hid (sa = none → k = 0 ∧ sc = 0)) (hm : m + k ≤ 20000) :
    Calls Try.prog 29 #[.pointer (some ⟨p, 0, none⟩), .slice sa k sc] w fun e w' => e = .returned (.agg #[.bool true, .int .i64 m, .int .i64 ((m + k : Nat) : Int)]) ∧ ∃ va', Hid (AddLeft w w' p n L (m + k) (catI A m f) vp va va' Y) := by
  have c1 := h.out.c1
  have hp : p < w.heap.size := World.block_lt_of_cell? _ _ c1
  have q1 : Qt w (w.alloc (.cells #[.bool false, .int .i64 0, .int .i64 0] 50)) := (Qt.refl w).alloc _
  obtain ⟨v', W, hr, h2, h3, h4⟩ := append_own 28 28 5 Try.t5 (.int .u8 0) 1 Try.underlying28 info5 (by kernel_rfl) (by kernel_rfl) (by kernel_rfl) rfl (by omega) (w.alloc (.cells #[.bool false, .int .i64 0, .int .i64 0] 50)) 0 va m k sc (By A) (By f) sa (h.out.ad.mv q1 (fun _ _ h => h)) (hs.out.mv q1 (fun _ _ h => h)) (fun _ => rfl) (by omega) hn.out (Nat.zero_le _)
  have M1 : Mv (fun j => va.ownBlock = some j) w W := (q1.mono (fun _ _ h => h.elim)).trans (Mv.of_grown h3) (fun _ _ h => h)
  have np : ¬ va.ownBlock = some p := h.out.sep.2.1
  have nr : ¬ va.ownBlock = some w.heap.size := fun e => by have := (h.out.ad.blk _ e).2; omega
  have d1 : W.cell? ⟨p, 1, none⟩ = some va := M1.cell c1 np
  have y1 : W.frozen? ⟨p, 1, none⟩ = false := (M1.frozen (p := ⟨p, 1, none⟩) hp np).trans h.out.z1
  have r0 := (Mv.of_grown h3).cell (alloc_new w #[.bool false, .int .i64 0, .int .i64 0] 50 0 _ rfl).1 nr
  have r1 := (Mv.of_grown h3).cell (alloc_new w #[.bool false, .int .i64 0, .int .i64 0] 50 1 _ rfl).1 nr
  have r2 := (Mv.of_grown h3).cell (alloc_new w #[.bool false, .int .i64 0, .int .i64 0] 50 2 _ rfl).1 nr
  have t0 := ((Mv.of_grown h3).frozen (p := ⟨w.heap.size, 0, none⟩) (by simp) nr).trans (alloc_new w #[.bool false, .int .i64 0, .int .i64 0] 50 0 _ rfl).2
  have t1 := ((Mv.of_grown h3).frozen (p := ⟨w.heap.size, 1, none⟩) (by simp) nr).trans (alloc_new w #[.bool false, .int .i64 0, .int .i64 0] 50 1 _ rfl).2
  have t2 := ((Mv.of_grown h3).frozen (p := ⟨w.heap.size, 2, none⟩) (by simp) nr).trans (alloc_new w #[.bool false, .int .i64 0, .int .i64 0] 50 2 _ rfl).2
  obtain ⟨va0, ca0, rfl, _⟩ := h.out.ad.sl
  obtain ⟨va1, ca1, rfl, _⟩ := h2.sl
  have hrp : ¬ p = w.heap.size := by omega
  have HG : Hid ((W.setCell ⟨p, 1, none⟩ (.slice va1 (m + k) ca1)).heap[w.heap.size]? = some (.cells #[.bool false, .int .i64 0, .int .i64 0] 50 (0, 0))) := by
    show _ = _
    rw [Below.heap_setCell _ _ _ _ (show ¬ w.heap.size = p by omega), h3.block _ (by simp) (fun e => nr e.symm)]
    exact heap_alloc_new _ _
  have H2 : Hid (Own W 0 5 (.slice va1 (m + k) ca1) (m + k) (cat (By A) m (By f))) := h2
  have H4 : Hid _ := h4
  have HM1 : Hid _ := M1
  clear h2 h3 h4 q1 M1 np nr
  go_enter Try.func29, Try.ntmps29
  go_wp2_with (at_builtin; first | (refine wpList_append_given rfl _ _ 28 rfl _ _ _ W rfl rfl hr ?_))
  refine bodyPost_ret (results_cell_row (p := 4) (ty := 50) rfl _ _ w.heap.size 50 _ (0, 0) _ rfl (heap_set (heap_set (heap_set HG.out))) Try.underlying50 rfl (by kernel_rfl)) rfl ?_
  refine ⟨by simp, _, add_fin h.out hm HM1.out ?_ ?_⟩
  · have := H2.out
    rw [by_catI] at this
    exact this
  · rcases H4.out with h4 | ⟨g, h4, h5⟩
    · exact .inl h4
    · exact .inr ⟨g, h4, by simpa using h5⟩
end Go.Proofs.Ytjelclomigmlmaa
