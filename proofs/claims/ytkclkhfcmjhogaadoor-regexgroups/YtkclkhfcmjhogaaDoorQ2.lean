/- The play's Set and Rx, where no number is left. -/
import Derived.Test.YtkclkhfcmjhogaaDoorQ1
import Derived.Test.YtkclkhfcmjhogaaDoorR2
import Derived.Test.YtkclkhfcmjhogaaDoorL3
namespace Go.Proofs.YtkclkhfcmjhogaaDoor
open Go.RowKit
set_option linter.unusedVariables false

theorem sl_ab {w : World} : Sl (w.alloc (.cells #[.int .u8 97, .int .u8 98] 5)) (some ⟨w.heap.size, 0, none⟩) 2 (Bn (fun i => 97 + i)) := by
  intro i hi
  refine ⟨_, _, rfl, by simp, ?_⟩
  rcases (show i = 0 ∨ i = 1 from by omega) with rfl | rfl <;> simp [Bn]
set_option maxRecDepth 20000 in
set_option maxHeartbeats 2000000 in
theorem set_none (g : Nat) (a : Option Addr) (len cap : Nat) (f : Nat → Nat) (n : Nat) (hn : ¬ n < len) (w : World) (h : Hid (Pk w g a len cap f n)) :
    Calls Tryd.prog 41 #[.pointer (some ⟨g, 0, none⟩)] w fun e w' => e = .returned (sv (ofl (fun i => 97 + i) 2)) ∧ Hid (Mv (fun j => j = g) w w') := by
  have HQ : Hid (g < w.heap.size) := (Array.getElem?_eq_some_iff.1 h.out.at_).1
  have hnum := fun m h1 h2 W (P : Hid (Pk W g a len cap f n)) => num_any m h1 h2 g a len cap f n W P
  have hz : ∀ m, numS f len n m = 0 := fun m => if_neg hn
  have h0 : Hid (Pk (w.alloc zeros) g a len cap f n) := h.out.mv (Mv.alloc (fun _ => False) w zeros)
  have h7 := hnum 7 (by decide) (by decide) (w.alloc zeros) h0
  rw [hz] at h7
  clear hnum hz hn
  go_enter Tryd.func41, Tryd.ntmps41
  go_wp2_with fail
  refine h7.mono ?_
  rintro e w1 ⟨rfl, p1, m1⟩
  go_wp2_with fail
  refine (rof_f (some ⟨w1.heap.size, 0, none⟩) 2 2 (fun i => 97 + i) _ sl_ab (fun i hi => by omega) (by decide)).mono ?_
  rintro e w2 ⟨rfl, q2⟩
  rw [sv_cells]
  have Q2 : Hid (Qt w1 w2) := ((Qt.refl w1).alloc _).comp q2.out
  have Z : Hid (Zr w.heap.size w2) := Zr.mv (Zr.mv (w := w.alloc zeros) (heap_alloc_new w zeros) m1.out (fun h => Nat.ne_of_lt HQ.out h.symm)) Q2.out (fun h => h)
  obtain ⟨k0, k1, k2, k3, l0, l1, l2, l3⟩ := Zr.facts Z
  go_wp2_with fail
  refine bodyPost_ret (results_cell_row (p := 2) (ty := 25) rfl _ _ w.heap.size 25 _ (0, 0) _ rfl (put4_heap Z.out _ _ _ _) Tryd.underlying25 rfl (by kernel_rfl)) rfl ?_
  refine ⟨rfl, ?_⟩
  have M1 : Mv (fun j => j = g) w w1 := up1 m1
  exact Mv.trans (Mv.trans M1 Q2.out (fun _ _ h => h.elim)) (put4_mv w2 w.heap.size _ _ _ _) (fun j hj e => by omega)

end Go.Proofs.YtkclkhfcmjhogaaDoor
