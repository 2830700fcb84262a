/- The play's Rx, where no number is left and no depth is asked for. -/
import Derived.Test.YtkclkhfcmjhogaaDoorQ2
import Derived.Test.YtkclkhfcmjhogaaDoorH8
namespace Go.Proofs.YtkclkhfcmjhogaaDoor
open Go.RowKit
set_option linter.unusedVariables false

set_option maxRecDepth 20000 in
set_option maxHeartbeats 2000000 in
theorem rx_none (g : Nat) (a : Option Addr) (len cap : Nat) (f : Nat → Nat) (n : Nat) (hn : ¬ n < len) (w : World) (h : Hid (Pk w g a len cap f n)) :
    Calls Tryd.prog 21 #[.pointer (some ⟨g, 0, none⟩), .int .i64 0] w fun e w' => e = .returned (.agg #[.int .i64 1, .int .u64 (limb (ofl (fun i => 97 + i) 2) 0), .int .u64 (limb (ofl (fun i => 97 + i) 2) 1), .int .u64 (limb (ofl (fun i => 97 + i) 2) 2), .int .u64 (limb (ofl (fun i => 97 + i) 2) 3), .slice none 0 0]) ∧ Hid (Mv (fun j => j = g) w w') := by
  have HQ : Hid (g < w.heap.size) := (Array.getElem?_eq_some_iff.1 h.out.at_).1
  have hz : ∀ m, numS f len n m = 0 := fun m => if_neg hn
  have hnn : numN len n = n := if_neg hn
  have h0 : Hid (Pk (w.alloc zeros6) g a len cap f n) := h.out.mv (Mv.alloc (fun _ => False) w zeros6)
  have h9 := num_any 9 (by decide) (by decide) g a len cap f n (w.alloc zeros6) h0
  have hset := fun W (P : Hid (Pk W g a len cap f n)) => set_none g a len cap f n hn W P
  rw [sv_cells] at hset
  rw [hz, hnn] at h9
  clear hz hn hnn
  go_enter Tryd.func21, Tryd.ntmps21
  go_wp2_with fail
  refine h9.mono ?_
  rintro e w1 ⟨rfl, p1, m1⟩
  go_wp2_with fail
  refine (hset _ p1).mono ?_
  rintro e w2 ⟨rfl, m2⟩
  have M : Hid (Mv (fun k => k = g) (w.alloc zeros6) w2) := Mv.trans m1.out m2.out (fun _ _ h => h)
  have Z := B6.mv (w := w.alloc zeros6) (show Hid (B6 w.heap.size (.int .i64 0) (.int .u64 0) (.int .u64 0) (.int .u64 0) (.int .u64 0) (.slice none 0 0) (w.alloc zeros6)) from heap_alloc_new w zeros6) M.out (fun h => Nat.ne_of_lt HQ.out h.symm)
  obtain ⟨b0, b1, b2, b3, b4, b5, _, _, _, _, _, _⟩ := B6.facts Z
  go_wp2_with fail
  refine bodyPost_ret (results_cell_row (p := 4) (ty := 28) rfl _ _ w.heap.size 28 _ (0, 0) _ rfl (put6_heap Z.out _ _ _ _ _ _) Tryd.underlying28 rfl (by kernel_rfl)) rfl ?_
  refine ⟨rfl, ?_⟩
  have M1 : Mv (fun j => j = g) w w2 := up1 M
  exact Mv.trans M1 (put6_mv w2 w.heap.size _ _ _ _ _ _) (fun j hj e => by omega)

end Go.Proofs.YtkclkhfcmjhogaaDoor
