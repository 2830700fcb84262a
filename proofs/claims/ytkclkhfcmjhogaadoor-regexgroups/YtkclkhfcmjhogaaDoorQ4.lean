/- The play's Set: any one, not empty. -/
import Derived.Test.YtkclkhfcmjhogaaDoorQ2
import Derived.Test.YtkclkhfcmjhogaaDoorR5
import Derived.Test.YtkclkhfcmjhogaaDoorS5
namespace Go.Proofs.YtkclkhfcmjhogaaDoor
open Go.RowKit
set_option linter.unusedVariables false

theorem numS_lt (f : Nat → Nat) (len n m : Nat) (hm : 0 < m) : numS f len n m < m := by
  unfold numS
  split
  · exact Nat.mod_lt _ hm
  · exact hm
theorem sl_bcd {w : World} : Sl (w.alloc (.cells #[.int .u8 98, .int .u8 99, .int .u8 100] 5)) (some ⟨w.heap.size, 0, none⟩) 3 (Bn (fun i => 98 + i)) := by
  intro i hi
  refine ⟨_, _, rfl, by simp, ?_⟩
  rcases (show i = 0 ∨ i = 1 ∨ i = 2 from by omega) with rfl | rfl | rfl <;> simp [Bn]
theorem sl_012 {w : World} : Sl (w.alloc (.cells #[.int .u8 48, .int .u8 49, .int .u8 50] 5)) (some ⟨w.heap.size, 0, none⟩) 3 (Bn (fun i => 48 + i)) := by
  intro i hi
  refine ⟨_, _, rfl, by simp, ?_⟩
  rcases (show i = 0 ∨ i = 1 ∨ i = 2 from by omega) with rfl | rfl | rfl <;> simp [Bn]
theorem sl_anl {w : World} : Sl (w.alloc (.cells #[.int .u8 97, .int .u8 10] 5)) (some ⟨w.heap.size, 0, none⟩) 2 (Bn (fun i => if i = 0 then 97 else 10)) := by
  intro i hi
  refine ⟨_, _, rfl, by simp, ?_⟩
  rcases (show i = 0 ∨ i = 1 from by omega) with rfl | rfl <;> simp [Bn]
theorem any_ofl {f : Nat → Nat} {n : Nat} (hn : 0 < n) (h0 : f 0 < 256) : any (ofl f n) = true := any_true.2 ⟨f 0, h0, by simp [ofl]; exact ⟨0, hn, rfl⟩⟩
theorem any_no_anl : any (no (ofl (fun i => if i = 0 then 97 else 10) 2)) = true := by decide +kernel
theorem play_sign (m : Nat) (hm : m < 6) : ∃ c, c < 256 ∧ ∀ w, (Instr.index 9 (.string ⟨#[97, 98, 49, 10, 32, 45]⟩) (.int .i64 m)).run Tryd.prog w = .ok (.int .u8 ((c : Nat) : Int)) w := by
  have hb : bs ⟨#[97, 98, 49, 10, 32, 45]⟩ = [97, 98, 49, 10, 32, 45] := by decide +kernel
  rcases (show m = 0 ∨ m = 1 ∨ m = 2 ∨ m = 3 ∨ m = 4 ∨ m = 5 from by omega) with rfl | rfl | rfl | rfl | rfl | rfl
  · exact ⟨97, by decide, fun w => index_run _ [] _ 97 hb w⟩
  · exact ⟨98, by decide, fun w => index_run _ [97] _ 98 hb w⟩
  · exact ⟨49, by decide, fun w => index_run _ [97, 98] _ 49 hb w⟩
  · exact ⟨10, by decide, fun w => index_run _ [97, 98, 49] _ 10 hb w⟩
  · exact ⟨32, by decide, fun w => index_run _ [97, 98, 49, 10] _ 32 hb w⟩
  · exact ⟨45, by decide, fun w => index_run _ [97, 98, 49, 10, 32] _ 45 hb w⟩
/-- A set of few runs. -/
def Few (p : Nat → Bool) : Prop := ∀ R, Runs p 0 R → R.length ≤ 3
theorem few_of {p : Nat → Bool} {R : List (Nat × Nat)} (h : Runs p 0 R) (hl : R.length ≤ 3) : Few p := fun R' h' => by rw [Runs.one h' h]; exact hl
theorem ofl_in {f : Nat → Nat} {n b : Nat} : ofl f n b = true ↔ ∃ i, i < n ∧ f i = b := by
  unfold ofl
  rw [List.any_eq_true]
  simp
theorem ofl_out {f : Nat → Nat} {n b : Nat} (h : ∀ i, i < n → f i ≠ b) : ofl f n b = false := by
  cases e : ofl f n b with
  | false => rfl
  | true => obtain ⟨i, hi, he⟩ := ofl_in.1 e; exact absurd he (h i hi)
theorem few_row (s n : Nat) (hn : 0 < n) (hs : s + n < 256) : Few (ofl (fun i => s + i) n) := by
  refine few_of (R := [(s, s + n - 1)]) ⟨Nat.zero_le _, by omega, by omega, fun c _ hc => ofl_out (fun i hi => by omega), fun c h1 h2 => ofl_in.2 ⟨c - s, by omega, by omega⟩, fun _ => ofl_out (fun i hi => by omega), fun b h1 h2 => ofl_out (fun i hi => by omega)⟩ (by simp)
theorem few_one {c : Nat} (hc : c < 256) : Few (btw c c) := by
  refine few_of (R := [(c, c)]) ⟨Nat.zero_le _, Nat.le_refl _, hc, fun d _ hd => ?_, fun d h1 h2 => ?_, fun _ => ?_, fun b h1 h2 => ?_⟩ (by simp)
  all_goals ((unfold btw; simp) <;> omega)
theorem few_anl : Few (no (ofl (fun i => if i = 0 then 97 else 10) 2)) := by
  have hi : ∀ c, ofl (fun i => if i = 0 then 97 else 10) 2 c = (c == 97 || c == 10) := by
    intro c
    rw [Bool.eq_iff_iff, ofl_in]
    simp only [Bool.or_eq_true, beq_iff_eq]
    constructor
    · rintro ⟨i, hi, e⟩
      rcases (show i = 0 ∨ i = 1 from by omega) with rfl | rfl
      · left; simpa using e.symm
      · right; simpa using e.symm
    · rintro (e | e)
      · exact ⟨0, by omega, by simp [e]⟩
      · exact ⟨1, by omega, by simp [e]⟩
  have ho : ∀ c, no (ofl (fun i => if i = 0 then 97 else 10) 2) c = !(c == 97 || c == 10) := fun c => by unfold no; rw [hi]
  refine few_of (R := [(0, 9), (11, 96), (98, 255)]) ⟨by omega, by omega, by omega, ?_, ?_, ?_, by omega, by omega, by omega, ?_, ?_, ?_, by omega, by omega, by omega, ?_, ?_, ?_, fun b h1 h2 => by omega⟩ (by simp)
  all_goals (intros; rw [ho]; simp; try omega)
/-- What the play's Set tells. -/
def SetP (w : World) (g : Nat) (a : Option Addr) (len cap : Nat) (f : Nat → Nat) (e : Ending) (w' : World) : Prop :=
  ∃ p n', e = .returned (sv p) ∧ (any p = true ∧ Few p) ∧ Hid (Pk w' g a len cap f n') ∧ Hid (Mv (fun j => j = g) w w')

theorem Pk.mv2 {w w2 w' : World} {S : Nat → Prop} {g : Nat} {a : Option Addr} {len cap : Nat} {f : Nat → Nat} {n : Nat} (hq : g < w.heap.size) (hs : Sl w a len (Bn f)) (h : Pk w2 g a len cap f n) (m : Mv S w2 w') (hz : w.heap.size ≤ w2.heap.size) (hS : ∀ j, j < w.heap.size → ¬ S j) : Pk w' g a len cap f n := by
  refine ⟨by rw [m.block g (Array.getElem?_eq_some_iff.1 h.at_).1 (hS g hq)]; exact h.at_, fun i hi => ?_, h.le, h.far, h.byte, h.room⟩
  obtain ⟨b, o, ea, hb, _⟩ := hs i hi
  obtain ⟨b2, o2, ea2, hb2, hc⟩ := h.row i hi
  rw [ea] at ea2
  cases ea2
  exact ⟨b, o, ea, Nat.lt_of_lt_of_le hb2 m.size, m.cell (p := ⟨b, o + i, none⟩) hc (hS b hb)⟩
theorem setP_tell {w w2 : World} {g : Nat} {a : Option Addr} {len cap : Nat} {f : Nat → Nat} {n1 : Nat} (hs : Hid (Sl w a len (Bn f))) (hq : g < w.heap.size) (m : Mv (fun j => j = g) w w2) (p2 : Pk w2 g a len cap f n1) (p : Nat → Bool) (ha : any p = true ∧ Few p) :
    SetP w g a len cap f (.returned (.agg #[.int .u64 (limb p 0), .int .u64 (limb p 1), .int .u64 (limb p 2), .int .u64 (limb p 3)])) (put4 w2 w.heap.size (.int .u64 (limb p 0)) (.int .u64 (limb p 1)) (.int .u64 (limb p 2)) (.int .u64 (limb p 3))) := by
  have mp := put4_mv w2 w.heap.size (.int .u64 (limb p 0)) (.int .u64 (limb p 1)) (.int .u64 (limb p 2)) (.int .u64 (limb p 3))
  exact ⟨p, n1, rfl, ha, Pk.mv2 hq hs.out p2 mp m.size (fun j hj e => by omega), Mv.trans m mp (fun j hj e => by omega)⟩

set_option maxRecDepth 20000 in
set_option maxHeartbeats 4000000 in
theorem pset_any (g : Nat) (a : Option Addr) (len cap : Nat) (f : Nat → Nat) (n : Nat) (w : World) (h : Hid (Pk w g a len cap f n)) :
    Calls Tryd.prog 41 #[.pointer (some ⟨g, 0, none⟩)] w fun e w' => SetP w g a len cap f e w' := by
  have HQ : Hid (g < w.heap.size) := (Array.getElem?_eq_some_iff.1 h.out.at_).1
  have h0 : Hid (Pk (w.alloc zeros) g a len cap f n) := h.out.mv (Mv.alloc (fun _ => False) w zeros)
  have HS : Hid (Hid (Sl w a len (Bn f))) := h.out.row
  have h7 := num_any 7 (by decide) (by decide) g a len cap f n (w.alloc zeros) h0
  have hm := numS_lt f len n 7 (by decide)
  have h6 := fun n' W (P : Hid (Pk W g a len cap f n')) => num_any 6 (by decide) (by decide) g a len cap f n' W P
  have hs6 : Hid (∀ n', ∃ c, c < 256 ∧ ∀ w, (Instr.index 9 (.string ⟨#[97, 98, 49, 10, 32, 45]⟩) (.int .i64 (numS f len n' 6 : Nat))).run Tryd.prog w = .ok (.int .u8 ((c : Nat) : Int)) w) := fun n' => play_sign _ (numS_lt f len n' 6 (by decide))
  generalize numS f len n 7 = m at h7 hm
  generalize numN len n = n1 at h7
  clear h h0
  rcases (show m = 0 ∨ m = 1 ∨ m = 2 ∨ m = 3 ∨ (4 ≤ m) from by omega) with rfl | rfl | rfl | rfl | h4
  · go_enter Tryd.func41, Tryd.ntmps41
    go_wp2_with fail
    refine h7.mono ?_
    rintro e w1 ⟨rfl, p1, m1⟩
    go_wp2_with fail
    refine (rof_f (some ⟨w1.heap.size, 0, none⟩) 2 2 (fun i => 97 + i) _ sl_ab (fun i hi => by omega) (by decide)).mono ?_
    rintro e w2 ⟨rfl, q2⟩
    rw [sv_cells]
    have Q2 : Hid (Qt w1 w2) := ((Qt.refl w1).alloc _).comp q2.out
    have M1 : Mv (fun j => j = g) w w1 := up1 m1
    have Z : Hid (Zr w.heap.size w2) := Zr.mv (Zr.mv (w := w.alloc zeros) (heap_alloc_new w zeros) m1.out (fun h => Nat.ne_of_lt HQ.out h.symm)) Q2.out (fun h => h)
    have MM : Hid (Mv (fun j => j = g) w w2) := Mv.trans M1 Q2.out (fun _ _ h => h.elim)
    have P2 : Hid (Pk w2 g a len cap f n1) := p1.out.mv Q2.out
    obtain ⟨k0, k1, k2, k3, l0, l1, l2, l3⟩ := Zr.facts Z
    clear h6 hs6
    go_wp2_with fail
    refine bodyPost_ret (results_cell_row (p := 2) (ty := 25) rfl _ _ w.heap.size 25 _ (0, 0) _ rfl (put4_heap Z.out _ _ _ _) Tryd.underlying25 rfl (by kernel_rfl)) rfl ?_
    exact setP_tell HS.out HQ.out MM.out P2.out _ ⟨any_ofl (by decide) (by decide), few_row 97 2 (by decide) (by decide)⟩
  · go_enter Tryd.func41, Tryd.ntmps41
    go_wp2_with fail
    refine h7.mono ?_
    rintro e w1 ⟨rfl, p1, m1⟩
    go_wp2_with fail
    refine (rof_f (some ⟨w1.heap.size, 0, none⟩) 3 3 (fun i => 98 + i) _ sl_bcd (fun i hi => by omega) (by decide)).mono ?_
    rintro e w2 ⟨rfl, q2⟩
    rw [sv_cells]
    have Q2 : Hid (Qt w1 w2) := ((Qt.refl w1).alloc _).comp q2.out
    have M1 : Mv (fun j => j = g) w w1 := up1 m1
    have Z : Hid (Zr w.heap.size w2) := Zr.mv (Zr.mv (w := w.alloc zeros) (heap_alloc_new w zeros) m1.out (fun h => Nat.ne_of_lt HQ.out h.symm)) Q2.out (fun h => h)
    have MM : Hid (Mv (fun j => j = g) w w2) := Mv.trans M1 Q2.out (fun _ _ h => h.elim)
    have P2 : Hid (Pk w2 g a len cap f n1) := p1.out.mv Q2.out
    obtain ⟨k0, k1, k2, k3, l0, l1, l2, l3⟩ := Zr.facts Z
    clear h6 hs6
    go_wp2_with fail
    refine bodyPost_ret (results_cell_row (p := 2) (ty := 25) rfl _ _ w.heap.size 25 _ (0, 0) _ rfl (put4_heap Z.out _ _ _ _) Tryd.underlying25 rfl (by kernel_rfl)) rfl ?_
    exact setP_tell HS.out HQ.out MM.out P2.out _ ⟨any_ofl (by decide) (by decide), few_row 98 3 (by decide) (by decide)⟩
  · go_enter Tryd.func41, Tryd.ntmps41
    go_wp2_with fail
    refine h7.mono ?_
    rintro e w1 ⟨rfl, p1, m1⟩
    go_wp2_with fail
    refine (rof_f (some ⟨w1.heap.size, 0, none⟩) 2 2 (fun i => if i = 0 then 97 else 10) _ sl_anl (fun i hi => by split <;> omega) (by decide)).mono ?_
    rintro e w3 ⟨rfl, q3⟩
    rw [sv_cells]
    go_wp2_with fail
    refine (rnot_any _ _).mono ?_
    rintro e w2 ⟨rfl, q2⟩
    rw [sv_cells]
    have Q2 : Hid (Qt w1 w2) := (((Qt.refl w1).alloc _).comp q3.out).comp q2.out
    have M1 : Mv (fun j => j = g) w w1 := up1 m1
    have Z : Hid (Zr w.heap.size w2) := Zr.mv (Zr.mv (w := w.alloc zeros) (heap_alloc_new w zeros) m1.out (fun h => Nat.ne_of_lt HQ.out h.symm)) Q2.out (fun h => h)
    have MM : Hid (Mv (fun j => j = g) w w2) := Mv.trans M1 Q2.out (fun _ _ h => h.elim)
    have P2 : Hid (Pk w2 g a len cap f n1) := p1.out.mv Q2.out
    obtain ⟨k0, k1, k2, k3, l0, l1, l2, l3⟩ := Zr.facts Z
    clear h6 hs6
    go_wp2_with fail
    refine bodyPost_ret (results_cell_row (p := 2) (ty := 25) rfl _ _ w.heap.size 25 _ (0, 0) _ rfl (put4_heap Z.out _ _ _ _) Tryd.underlying25 rfl (by kernel_rfl)) rfl ?_
    exact setP_tell HS.out HQ.out MM.out P2.out _ ⟨any_no_anl, few_anl⟩
  · go_enter Tryd.func41, Tryd.ntmps41
    go_wp2_with fail
    refine h7.mono ?_
    rintro e w1 ⟨rfl, p1, m1⟩
    go_wp2_with fail
    refine (rof_f (some ⟨w1.heap.size, 0, none⟩) 3 3 (fun i => 48 + i) _ sl_012 (fun i hi => by omega) (by decide)).mono ?_
    rintro e w2 ⟨rfl, q2⟩
    rw [sv_cells]
    have Q2 : Hid (Qt w1 w2) := ((Qt.refl w1).alloc _).comp q2.out
    have M1 : Mv (fun j => j = g) w w1 := up1 m1
    have Z : Hid (Zr w.heap.size w2) := Zr.mv (Zr.mv (w := w.alloc zeros) (heap_alloc_new w zeros) m1.out (fun h => Nat.ne_of_lt HQ.out h.symm)) Q2.out (fun h => h)
    have MM : Hid (Mv (fun j => j = g) w w2) := Mv.trans M1 Q2.out (fun _ _ h => h.elim)
    have P2 : Hid (Pk w2 g a len cap f n1) := p1.out.mv Q2.out
    obtain ⟨k0, k1, k2, k3, l0, l1, l2, l3⟩ := Zr.facts Z
    clear h6 hs6
    go_wp2_with fail
    refine bodyPost_ret (results_cell_row (p := 2) (ty := 25) rfl _ _ w.heap.size 25 _ (0, 0) _ rfl (put4_heap Z.out _ _ _ _) Tryd.underlying25 rfl (by kernel_rfl)) rfl ?_
    exact setP_tell HS.out HQ.out MM.out P2.out _ ⟨any_ofl (by decide) (by decide), few_row 48 3 (by decide) (by decide)⟩
  · have hi : (4 : Int) ≤ (m : Int) := by omega
    have b0 : ((m : Int) == 0) = false := beq_false_of_ne (by omega)
    have b1 : ((m : Int) == 1) = false := beq_false_of_ne (by omega)
    have b2 : ((m : Int) == 2) = false := beq_false_of_ne (by omega)
    have b3 : ((m : Int) == 3) = false := beq_false_of_ne (by omega)
    clear h4 hm
    go_enter Tryd.func41, Tryd.ntmps41
    go_wp2_with fail
    refine h7.mono ?_
    rintro e w1 ⟨rfl, p1, m1⟩
    go_wp2_with fail
    refine (h6 _ _ p1).mono ?_
    rintro e w3 ⟨rfl, p3, m3⟩
    obtain ⟨c, hc, hidx⟩ := hs6.out n1
    generalize numS f len n1 6 = m6 at *
    have hof := fun W => rof_one c hc W
    have hc2 : (c : Int) < 256 := by omega
    go_wp2_with fail
    refine (hof _).mono ?_
    rintro e w2 ⟨rfl, q2⟩
    rw [sv_cells]
    have Q2 : Hid (Qt w3 w2) := ((Qt.refl w3).alloc _).comp q2.out
    have M1 : Mv (fun j => j = g) w w1 := up1 m1
    have Z : Hid (Zr w.heap.size w2) := Zr.mv (Zr.mv (Zr.mv (w := w.alloc zeros) (heap_alloc_new w zeros) m1.out (fun h => Nat.ne_of_lt HQ.out h.symm)) m3.out (fun h => Nat.ne_of_lt HQ.out h.symm)) Q2.out (fun h => h)
    have MM : Hid (Mv (fun j => j = g) w w2) := Mv.trans (Mv.trans M1 m3.out (fun _ _ h => h)) Q2.out (fun _ _ h => h.elim)
    have P2 : Hid (Pk w2 g a len cap f (numN len n1)) := p3.out.mv Q2.out
    obtain ⟨k0, k1, k2, k3, l0, l1, l2, l3⟩ := Zr.facts Z
    clear h6 hs6 hof hidx
    go_wp2_with fail
    refine bodyPost_ret (results_cell_row (p := 2) (ty := 25) rfl _ _ w.heap.size 25 _ (0, 0) _ rfl (put4_heap Z.out _ _ _ _) Tryd.underlying25 rfl (by kernel_rfl)) rfl ?_
    exact setP_tell HS.out HQ.out MM.out P2.out _ ⟨any_true.2 ⟨c, hc, by unfold btw; simp⟩, few_one hc⟩

end Go.Proofs.YtkclkhfcmjhogaaDoor
