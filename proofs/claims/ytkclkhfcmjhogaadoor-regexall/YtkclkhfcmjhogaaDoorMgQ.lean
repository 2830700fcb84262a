/- The play's numbers: Made, Num. -/
import Derived.Test.YtkclkhfcmjhogaaDoorMgZ4
import Derived.Test.YtkclkhfcmjhogaaDoorMgR
import Derived.Test.YtkclkhfcmjhogaaDoorMgL
import Derived.Test.YtkclkhfcmjhogaaDoorMgH4
import Derived.Test.YtkclkhfcmjhogaaDoorMgS3
import Derived.Test.YtkclkhfcmjhogaaDoorMgF
import Derived.Test.YtkclkhfcmjhogaaDoorMgK5
import Derived.Test.YtkclkhfcmjhogaaDoorMgH3
import Derived.Test.YtkclkhfcmjhogaaDoorMgV
namespace Go.Proofs.YtkclkhfcmjhogaaDoor
open Go.RowKit
set_option linter.unusedVariables false

/-- The numbers that are handed in, and how many have been taken. -/
structure Pk (w : World) (g : Nat) (a : Option Addr) (len cap : Nat) (f : Nat → Nat) (n : Nat) : Prop where
  at_ : w.heap[g]? = some (.cells #[.slice a len cap, .int .i64 n] 60 (0, 0))
  row : Sl w a len (Bn f)
  le : n ≤ len
  far : ∀ q, a = some q → q.block ≠ g
  byte : ∀ i, i < len → f i < 256
  room : len < 1000000
/-- What Num tells. -/
def numS (f : Nat → Nat) (len n m : Nat) : Nat := if n < len then f n % m else 0
def numN (len n : Nat) : Nat := if n < len then n + 1 else n
theorem Pk.cells {w : World} {g : Nat} {a : Option Addr} {len cap : Nat} {f : Nat → Nat} {n : Nat} (h : Hid (Pk w g a len cap f n)) : w.cell? ⟨g, 0, none⟩ = some (.slice a len cap) ∧ w.cell? ⟨g, 1, none⟩ = some (.int .i64 n) ∧ w.frozen? ⟨g, 1, none⟩ = false := by
  refine ⟨?_, ?_, ?_⟩ <;> simp only [World.cell?, World.frozen?, h.out.at_] <;> rfl
theorem made_any (a : Option Addr) (len cap : Nat) (f : Nat → Nat) (w : World) (hs : Hid (Sl w a len (Bn f))) (hl : len < 1000000) (hb : ∀ i, i < len → f i < 256) (ha : ∀ q, a = some q → q.block < w.heap.size) :
    Calls Tryd.prog 20 #[.slice a len cap] w fun e w' => e = .returned (.pointer (some ⟨w.heap.size, 0, none⟩)) ∧ Hid (Pk w' w.heap.size a len cap f 0) ∧ Hid (Qt w w') := by
  have HB : Hid _ := hb
  have HA : Hid _ := ha
  clear hb ha
  go_enter Tryd.func20, Tryd.ntmps20
  go_wp2_with fail
  go_ret
  refine ⟨rfl, ⟨heap_alloc_new w _, hs.out.mv (Mv.alloc (fun _ => False) w _) (fun _ _ h => h), by omega, fun q h => Nat.ne_of_lt (HA.out q h), HB.out, hl⟩, (Qt.refl w).alloc _⟩

theorem Pk.mv {w w' : World} {g : Nat} {a : Option Addr} {len cap : Nat} {f : Nat → Nat} {n : Nat} (h : Pk w g a len cap f n) (q : Qt w w') : Pk w' g a len cap f n :=
  ⟨by rw [q.block g (Array.getElem?_eq_some_iff.1 h.at_).1 (fun h => h)]; exact h.at_, h.row.mv q (fun _ _ h => h), h.le, h.far, h.byte, h.room⟩
theorem Pk.take {w : World} {g : Nat} {a : Option Addr} {len cap : Nat} {f : Nat → Nat} {n : Nat} (h : Pk w g a len cap f n) (hn : n < len) : Pk (w.setCell ⟨g, 1, none⟩ (.int .i64 ((n + 1 : Nat) : Int))) g a len cap f (n + 1) ∧ Mv (fun j => j = g) w (w.setCell ⟨g, 1, none⟩ (.int .i64 ((n + 1 : Nat) : Int))) := by
  have m := Mv.setCell w ⟨g, 1, none⟩ (.int .i64 ((n + 1 : Nat) : Int))
  have m2 : Mv (fun j => j = g) w (w.setCell ⟨g, 1, none⟩ (.int .i64 ((n + 1 : Nat) : Int))) := m.mono (fun j _ h => by simpa using h)
  refine ⟨⟨?_, h.row.mv m2 (fun q hq e => h.far q hq e), by omega, h.far, h.byte, h.room⟩, m2⟩
  rw [heap_setCell_same w g 1 _ 60 _ h.at_]
  rfl

set_option maxRecDepth 20000 in
set_option maxHeartbeats 2000000 in
theorem num_any (m : Nat) (hm : 0 < m) (hm2 : m < 1000) (g : Nat) (a : Option Addr) (len cap : Nat) (f : Nat → Nat) (n : Nat) (w : World) (h : Hid (Pk w g a len cap f n)) :
    Calls Tryd.prog 40 #[.pointer (some ⟨g, 0, none⟩), .int .i64 m] w fun e w' => e = .returned (.int .i64 (numS f len n m : Nat)) ∧ Hid (Pk w' g a len cap f (numN len n)) ∧ Hid (Mv (fun j => j = g) w w') := by
  obtain ⟨k0, k1, k2⟩ := Pk.cells h
  have hle := h.out.le
  have hroom := h.out.room
  unfold numS numN
  by_cases hn : n < len
  · rw [if_pos hn, if_pos hn]
    have hn1 : ¬ (len ≤ n) := by omega
    go_enter Tryd.func40, Tryd.ntmps40
    go_wp2_with fail
    go_quiet (fail)
    obtain ⟨W, hW⟩ : ∃ W, W = w.drewN nq := ⟨_, rfl⟩
    have QF : Hid (Qt w W) := by rw [hW]; exact Mv.drewN (fun _ => False) w nq
    rw [← hW]
    clear hW k0 k1 k2
    have P1 : Hid (Pk W g a len cap f n) := h.out.mv QF.out
    obtain ⟨k0, k1, k2⟩ := Pk.cells P1
    have HT := P1.out.take hn
    obtain ⟨W1, hW1⟩ : ∃ W1, W1 = W.setCell ⟨g, 1, none⟩ (.int .i64 ((n + 1 : Nat) : Int)) := ⟨_, rfl⟩
    rw [← hW1] at HT
    have H2 : Hid (Pk W1 g a len cap f (n + 1)) := HT.1
    have M2 : Hid (Mv (fun j => j = g) W W1) := HT.2
    rw [show ((n + 1 : Nat) : Int) = (n : Int) + 1 by omega] at hW1
    clear HT
    go_wp2_with fail
    rw [← hW1]
    clear hW1 k0 k1 k2
    obtain ⟨k0, k1, k2⟩ := Pk.cells H2
    obtain ⟨b, o, rfl, _, k3⟩ := H2.out.row n hn
    have hbyte : f n < 256 := H2.out.byte n hn
    have hmod : ((f n : Int) % (m : Int)) = ((f n % m : Nat) : Int) := by omega
    rw [show ((n + 1 : Nat) : Int) = (n : Int) + 1 by omega] at k1
    unfold Bn at k3
    have hw1 : IntKind.i64.wrap ((n : Int) + 1 - 1) = (n : Int) := by rw [IntKind.wrap_i64]; omega
    have hw2 : IntKind.i64.wrap (n : Int) = (n : Int) := by rw [IntKind.wrap_i64]; omega
    have hw3 : (n : Int) + 1 - 1 = (n : Int) := by omega
    have hmt : Int.tmod (f n : Int) (m : Int) = ((f n % m : Nat) : Int) := by rw [Int.tmod_eq_emod_of_nonneg (by omega)]; exact hmod
    have hm0 : ¬ ((m : Int) = 0) := by omega
    have hlr : ((f n % m : Nat) : Int) < 1000 := by have := Nat.mod_lt (f n) hm; omega
    clear hmod
    obtain ⟨y, hy⟩ : ∃ y, Hid (f n % m = y) := ⟨_, rfl⟩
    obtain ⟨z, hz⟩ : ∃ z, Hid (f n = z) := ⟨_, rfl⟩
    rw [hy.out] at hmt hlr
    rw [hz.out] at hmt k3 hbyte
    go_quiet (fail)
    go_wp2_with fail
    go_ret
    exact ⟨by rw [hy.out]; rfl, H2.out.mv (Mv.drewN (fun _ => False) W1 nq), Mv.trans (Mv.trans (QF.out.mono (fun _ _ h => h.elim)) M2.out (fun _ _ h => h)) (Mv.drewN (fun j => j = g) W1 nq) (fun _ _ h => h)⟩
  · rw [if_neg hn, if_neg hn]
    have hn1 : len ≤ n := by omega
    go_enter Tryd.func40, Tryd.ntmps40
    go_wp2_with fail
    go_quiet (fail)
    go_wp2_with fail
    go_ret
    exact ⟨rfl, h.out.mv (Mv.drewN (fun _ => False) w nq), Mv.drewN _ w nq⟩

end Go.Proofs.YtkclkhfcmjhogaaDoor

namespace Go.Proofs.YtkclkhfcmjhogaaDoor
open Go.RowKit
set_option linter.unusedVariables false

theorem sl_ab {w : World} : Sl (w.alloc (.cells #[.int .u8 97, .int .u8 98] 5)) (some ⟨w.heap.size, 0, none⟩) 2 (Bn (fun i => 97 + i)) := by
  intro i hi
  refine ⟨_, _, rfl, by simp, ?_⟩
  rcases (show i = 0 ∨ i = 1 from by omega) with rfl | rfl <;> simp [Bn]
set_option maxRecDepth 20000 in
set_option maxHeartbeats 2000000 in
theorem set_none (g : Nat) (a : Option Addr) (len cap : Nat) (f : Nat → Nat) (n : Nat) (hn : ¬ n < len) (w : World) (h : Hid (Pk w g a len cap f n)) :
    Calls Tryd.prog 41 #[.pointer (some ⟨g, 0, none⟩)] w fun e w' => e = .returned (sv (ofl (fun i => 97 + i) 2)) ∧ Hid (Mv (fun j => j = g) w w') := by
  have HQ : Hid (g < w.heap.size) := (Array.getElem?_eq_some_iff.1 h.out.at_).1
  have hnum := fun m h1 h2 W (P : Hid (Pk W g a len cap f n)) => num_any m h1 h2 g a len cap f n W P
  have hz : ∀ m, numS f len n m = 0 := fun m => if_neg hn
  have h0 : Hid (Pk (w.alloc zeros) g a len cap f n) := h.out.mv (Mv.alloc (fun _ => False) w zeros)
  have h7 := hnum 7 (by decide) (by decide) (w.alloc zeros) h0
  rw [hz] at h7
  clear hnum hz hn
  go_enter Tryd.func41, Tryd.ntmps41
  go_wp2_with fail
  refine h7.mono ?_
  rintro e w1 ⟨rfl, p1, m1⟩
  go_wp2_with fail
  refine (rof_f (some ⟨w1.heap.size, 0, none⟩) 2 2 (fun i => 97 + i) _ sl_ab (fun i hi => by omega) (by decide)).mono ?_
  rintro e w2 ⟨rfl, q2⟩
  rw [sv_cells]
  have Q2 : Hid (Qt w1 w2) := ((Qt.refl w1).alloc _).comp q2.out
  have Z : Hid (Zr w.heap.size w2) := Zr.mv (Zr.mv (w := w.alloc zeros) (heap_alloc_new w zeros) m1.out (fun h => Nat.ne_of_lt HQ.out h.symm)) Q2.out (fun h => h)
  obtain ⟨k0, k1, k2, k3, l0, l1, l2, l3⟩ := Zr.facts Z
  go_wp2_with fail
  refine bodyPost_ret (results_cell_row (p := 2) (ty := 25) rfl _ _ w.heap.size 25 _ (0, 0) _ rfl (put4_heap Z.out _ _ _ _) Tryd.underlying25 rfl (by kernel_rfl)) rfl ?_
  refine ⟨rfl, ?_⟩
  have M1 : Mv (fun j => j = g) w w1 := up1 m1
  exact Mv.trans (Mv.trans M1 Q2.out (fun _ _ h => h.elim)) (put4_mv w2 w.heap.size _ _ _ _) (fun j hj e => by omega)

end Go.Proofs.YtkclkhfcmjhogaaDoor

namespace Go.Proofs.YtkclkhfcmjhogaaDoor
open Go.RowKit
set_option linter.unusedVariables false

set_option maxRecDepth 20000 in
set_option maxHeartbeats 2000000 in
theorem rx_none (g : Nat) (a : Option Addr) (len cap : Nat) (f : Nat → Nat) (n : Nat) (hn : ¬ n < len) (w : World) (h : Hid (Pk w g a len cap f n)) :
    Calls Tryd.prog 21 #[.pointer (some ⟨g, 0, none⟩), .int .i64 0] w fun e w' => e = .returned (.agg #[.int .i64 1, .int .u64 (limb (ofl (fun i => 97 + i) 2) 0), .int .u64 (limb (ofl (fun i => 97 + i) 2) 1), .int .u64 (limb (ofl (fun i => 97 + i) 2) 2), .int .u64 (limb (ofl (fun i => 97 + i) 2) 3), .slice none 0 0]) ∧ Hid (Mv (fun j => j = g) w w') := by
  have HQ : Hid (g < w.heap.size) := (Array.getElem?_eq_some_iff.1 h.out.at_).1
  have hz : ∀ m, numS f len n m = 0 := fun m => if_neg hn
  have hnn : numN len n = n := if_neg hn
  have h0 : Hid (Pk (w.alloc zeros6) g a len cap f n) := h.out.mv (Mv.alloc (fun _ => False) w zeros6)
  have h9 := num_any 9 (by decide) (by decide) g a len cap f n (w.alloc zeros6) h0
  have hset := fun W (P : Hid (Pk W g a len cap f n)) => set_none g a len cap f n hn W P
  rw [sv_cells] at hset
  rw [hz, hnn] at h9
  clear hz hn hnn
  go_enter Tryd.func21, Tryd.ntmps21
  go_wp2_with fail
  refine h9.mono ?_
  rintro e w1 ⟨rfl, p1, m1⟩
  go_wp2_with fail
  refine (hset _ p1).mono ?_
  rintro e w2 ⟨rfl, m2⟩
  have M : Hid (Mv (fun k => k = g) (w.alloc zeros6) w2) := Mv.trans m1.out m2.out (fun _ _ h => h)
  have Z := B6.mv (w := w.alloc zeros6) (show Hid (B6 w.heap.size (.int .i64 0) (.int .u64 0) (.int .u64 0) (.int .u64 0) (.int .u64 0) (.slice none 0 0) (w.alloc zeros6)) from heap_alloc_new w zeros6) M.out (fun h => Nat.ne_of_lt HQ.out h.symm)
  obtain ⟨b0, b1, b2, b3, b4, b5, _, _, _, _, _, _⟩ := B6.facts Z
  go_wp2_with fail
  refine bodyPost_ret (results_cell_row (p := 4) (ty := 28) rfl _ _ w.heap.size 28 _ (0, 0) _ rfl (put6_heap Z.out _ _ _ _ _ _) Tryd.underlying28 rfl (by kernel_rfl)) rfl ?_
  refine ⟨rfl, ?_⟩
  have M1 : Mv (fun j => j = g) w w2 := up1 M
  exact Mv.trans M1 (put6_mv w2 w.heap.size _ _ _ _ _ _) (fun j hj e => by omega)

end Go.Proofs.YtkclkhfcmjhogaaDoor

namespace Go.Proofs.YtkclkhfcmjhogaaDoor
open Go.RowKit
set_option linter.unusedVariables false

theorem numS_lt (f : Nat → Nat) (len n m : Nat) (hm : 0 < m) : numS f len n m < m := by
  unfold numS
  split
  · exact Nat.mod_lt _ hm
  · exact hm
theorem sl_bcd {w : World} : Sl (w.alloc (.cells #[.int .u8 98, .int .u8 99, .int .u8 100] 5)) (some ⟨w.heap.size, 0, none⟩) 3 (Bn (fun i => 98 + i)) := by
  intro i hi
  refine ⟨_, _, rfl, by simp, ?_⟩
  rcases (show i = 0 ∨ i = 1 ∨ i = 2 from by omega) with rfl | rfl | rfl <;> simp [Bn]
theorem sl_012 {w : World} : Sl (w.alloc (.cells #[.int .u8 48, .int .u8 49, .int .u8 50] 5)) (some ⟨w.heap.size, 0, none⟩) 3 (Bn (fun i => 48 + i)) := by
  intro i hi
  refine ⟨_, _, rfl, by simp, ?_⟩
  rcases (show i = 0 ∨ i = 1 ∨ i = 2 from by omega) with rfl | rfl | rfl <;> simp [Bn]
theorem sl_anl {w : World} : Sl (w.alloc (.cells #[.int .u8 97, .int .u8 10] 5)) (some ⟨w.heap.size, 0, none⟩) 2 (Bn (fun i => if i = 0 then 97 else 10)) := by
  intro i hi
  refine ⟨_, _, rfl, by simp, ?_⟩
  rcases (show i = 0 ∨ i = 1 from by omega) with rfl | rfl <;> simp [Bn]
theorem any_ofl {f : Nat → Nat} {n : Nat} (hn : 0 < n) (h0 : f 0 < 256) : any (ofl f n) = true := any_true.2 ⟨f 0, h0, by simp [ofl]; exact ⟨0, hn, rfl⟩⟩
theorem any_no_anl : any (no (ofl (fun i => if i = 0 then 97 else 10) 2)) = true := by decide +kernel
theorem play_sign (m : Nat) (hm : m < 6) : ∃ c, c < 256 ∧ ∀ w, (Instr.index 9 (.string ⟨#[97, 98, 49, 10, 32, 45]⟩) (.int .i64 m)).run Tryd.prog w = .ok (.int .u8 ((c : Nat) : Int)) w := by
  have hb : bs ⟨#[97, 98, 49, 10, 32, 45]⟩ = [97, 98, 49, 10, 32, 45] := by decide +kernel
  rcases (show m = 0 ∨ m = 1 ∨ m = 2 ∨ m = 3 ∨ m = 4 ∨ m = 5 from by omega) with rfl | rfl | rfl | rfl | rfl | rfl
  · exact ⟨97, by decide, fun w => index_run _ [] _ 97 hb w⟩
  · exact ⟨98, by decide, fun w => index_run _ [97] _ 98 hb w⟩
  · exact ⟨49, by decide, fun w => index_run _ [97, 98] _ 49 hb w⟩
  · exact ⟨10, by decide, fun w => index_run _ [97, 98, 49] _ 10 hb w⟩
  · exact ⟨32, by decide, fun w => index_run _ [97, 98, 49, 10] _ 32 hb w⟩
  · exact ⟨45, by decide, fun w => index_run _ [97, 98, 49, 10, 32] _ 45 hb w⟩
/-- A set of few runs. -/
def Few (p : Nat → Bool) : Prop := ∀ R, Runs p 0 R → R.length ≤ 3
theorem few_of {p : Nat → Bool} {R : List (Nat × Nat)} (h : Runs p 0 R) (hl : R.length ≤ 3) : Few p := fun R' h' => by rw [Runs.one h' h]; exact hl
theorem ofl_in {f : Nat → Nat} {n b : Nat} : ofl f n b = true ↔ ∃ i, i < n ∧ f i = b := by
  unfold ofl
  rw [List.any_eq_true]
  simp
theorem ofl_out {f : Nat → Nat} {n b : Nat} (h : ∀ i, i < n → f i ≠ b) : ofl f n b = false := by
  cases e : ofl f n b with
  | false => rfl
  | true => obtain ⟨i, hi, he⟩ := ofl_in.1 e; exact absurd he (h i hi)
theorem few_row (s n : Nat) (hn : 0 < n) (hs : s + n < 256) : Few (ofl (fun i => s + i) n) := by
  refine few_of (R := [(s, s + n - 1)]) ⟨Nat.zero_le _, by omega, by omega, fun c _ hc => ofl_out (fun i hi => by omega), fun c h1 h2 => ofl_in.2 ⟨c - s, by omega, by omega⟩, fun _ => ofl_out (fun i hi => by omega), fun b h1 h2 => ofl_out (fun i hi => by omega)⟩ (by simp)
theorem few_one {c : Nat} (hc : c < 256) : Few (btw c c) := by
  refine few_of (R := [(c, c)]) ⟨Nat.zero_le _, Nat.le_refl _, hc, fun d _ hd => ?_, fun d h1 h2 => ?_, fun _ => ?_, fun b h1 h2 => ?_⟩ (by simp)
  all_goals ((unfold btw; simp) <;> omega)
theorem few_anl : Few (no (ofl (fun i => if i = 0 then 97 else 10) 2)) := by
  have hi : ∀ c, ofl (fun i => if i = 0 then 97 else 10) 2 c = (c == 97 || c == 10) := by
    intro c
    rw [Bool.eq_iff_iff, ofl_in]
    simp only [Bool.or_eq_true, beq_iff_eq]
    constructor
    · rintro ⟨i, hi, e⟩
      rcases (show i = 0 ∨ i = 1 from by omega) with rfl | rfl
      · left; simpa using e.symm
      · right; simpa using e.symm
    · rintro (e | e)
      · exact ⟨0, by omega, by simp [e]⟩
      · exact ⟨1, by omega, by simp [e]⟩
  have ho : ∀ c, no (ofl (fun i => if i = 0 then 97 else 10) 2) c = !(c == 97 || c == 10) := fun c => by unfold no; rw [hi]
  refine few_of (R := [(0, 9), (11, 96), (98, 255)]) ⟨by omega, by omega, by omega, ?_, ?_, ?_, by omega, by omega, by omega, ?_, ?_, ?_, by omega, by omega, by omega, ?_, ?_, ?_, fun b h1 h2 => by omega⟩ (by simp)
  all_goals (intros; rw [ho]; simp; try omega)
/-- What the play's Set tells. -/
def SetP (w : World) (g : Nat) (a : Option Addr) (len cap : Nat) (f : Nat → Nat) (e : Ending) (w' : World) : Prop :=
  ∃ p n', e = .returned (sv p) ∧ (any p = true ∧ Few p) ∧ Hid (Pk w' g a len cap f n') ∧ Hid (Mv (fun j => j = g) w w')

theorem Pk.mv2 {w w2 w' : World} {S : Nat → Prop} {g : Nat} {a : Option Addr} {len cap : Nat} {f : Nat → Nat} {n : Nat} (hq : g < w.heap.size) (hs : Sl w a len (Bn f)) (h : Pk w2 g a len cap f n) (m : Mv S w2 w') (hz : w.heap.size ≤ w2.heap.size) (hS : ∀ j, j < w.heap.size → ¬ S j) : Pk w' g a len cap f n := by
  refine ⟨by rw [m.block g (Array.getElem?_eq_some_iff.1 h.at_).1 (hS g hq)]; exact h.at_, fun i hi => ?_, h.le, h.far, h.byte, h.room⟩
  obtain ⟨b, o, ea, hb, _⟩ := hs i hi
  obtain ⟨b2, o2, ea2, hb2, hc⟩ := h.row i hi
  rw [ea] at ea2
  cases ea2
  exact ⟨b, o, ea, Nat.lt_of_lt_of_le hb2 m.size, m.cell (p := ⟨b, o + i, none⟩) hc (hS b hb)⟩
theorem setP_tell {w w2 : World} {g : Nat} {a : Option Addr} {len cap : Nat} {f : Nat → Nat} {n1 : Nat} (hs : Hid (Sl w a len (Bn f))) (hq : g < w.heap.size) (m : Mv (fun j => j = g) w w2) (p2 : Pk w2 g a len cap f n1) (p : Nat → Bool) (ha : any p = true ∧ Few p) :
    SetP w g a len cap f (.returned (.agg #[.int .u64 (limb p 0), .int .u64 (limb p 1), .int .u64 (limb p 2), .int .u64 (limb p 3)])) (put4 w2 w.heap.size (.int .u64 (limb p 0)) (.int .u64 (limb p 1)) (.int .u64 (limb p 2)) (.int .u64 (limb p 3))) := by
  have mp := put4_mv w2 w.heap.size (.int .u64 (limb p 0)) (.int .u64 (limb p 1)) (.int .u64 (limb p 2)) (.int .u64 (limb p 3))
  exact ⟨p, n1, rfl, ha, Pk.mv2 hq hs.out p2 mp m.size (fun j hj e => by omega), Mv.trans m mp (fun j hj e => by omega)⟩

set_option maxRecDepth 20000 in
set_option maxHeartbeats 4000000 in
theorem pset_any (g : Nat) (a : Option Addr) (len cap : Nat) (f : Nat → Nat) (n : Nat) (w : World) (h : Hid (Pk w g a len cap f n)) :
    Calls Tryd.prog 41 #[.pointer (some ⟨g, 0, none⟩)] w fun e w' => SetP w g a len cap f e w' := by
  have HQ : Hid (g < w.heap.size) := (Array.getElem?_eq_some_iff.1 h.out.at_).1
  have h0 : Hid (Pk (w.alloc zeros) g a len cap f n) := h.out.mv (Mv.alloc (fun _ => False) w zeros)
  have HS : Hid (Hid (Sl w a len (Bn f))) := h.out.row
  have h7 := num_any 7 (by decide) (by decide) g a len cap f n (w.alloc zeros) h0
  have hm := numS_lt f len n 7 (by decide)
  have h6 := fun n' W (P : Hid (Pk W g a len cap f n')) => num_any 6 (by decide) (by decide) g a len cap f n' W P
  have hs6 : Hid (∀ n', ∃ c, c < 256 ∧ ∀ w, (Instr.index 9 (.string ⟨#[97, 98, 49, 10, 32, 45]⟩) (.int .i64 (numS f len n' 6 : Nat))).run Tryd.prog w = .ok (.int .u8 ((c : Nat) : Int)) w) := fun n' => play_sign _ (numS_lt f len n' 6 (by decide))
  generalize numS f len n 7 = m at h7 hm
  generalize numN len n = n1 at h7
  clear h h0
  rcases (show m = 0 ∨ m = 1 ∨ m = 2 ∨ m = 3 ∨ (4 ≤ m) from by omega) with rfl | rfl | rfl | rfl | h4
  · go_enter Tryd.func41, Tryd.ntmps41
    go_wp2_with fail
    refine h7.mono ?_
    rintro e w1 ⟨rfl, p1, m1⟩
    go_wp2_with fail
    refine (rof_f (some ⟨w1.heap.size, 0, none⟩) 2 2 (fun i => 97 + i) _ sl_ab (fun i hi => by omega) (by decide)).mono ?_
    rintro e w2 ⟨rfl, q2⟩
    rw [sv_cells]
    have Q2 : Hid (Qt w1 w2) := ((Qt.refl w1).alloc _).comp q2.out
    have M1 : Mv (fun j => j = g) w w1 := up1 m1
    have Z : Hid (Zr w.heap.size w2) := Zr.mv (Zr.mv (w := w.alloc zeros) (heap_alloc_new w zeros) m1.out (fun h => Nat.ne_of_lt HQ.out h.symm)) Q2.out (fun h => h)
    have MM : Hid (Mv (fun j => j = g) w w2) := Mv.trans M1 Q2.out (fun _ _ h => h.elim)
    have P2 : Hid (Pk w2 g a len cap f n1) := p1.out.mv Q2.out
    obtain ⟨k0, k1, k2, k3, l0, l1, l2, l3⟩ := Zr.facts Z
    clear h6 hs6
    go_wp2_with fail
    refine bodyPost_ret (results_cell_row (p := 2) (ty := 25) rfl _ _ w.heap.size 25 _ (0, 0) _ rfl (put4_heap Z.out _ _ _ _) Tryd.underlying25 rfl (by kernel_rfl)) rfl ?_
    exact setP_tell HS.out HQ.out MM.out P2.out _ ⟨any_ofl (by decide) (by decide), few_row 97 2 (by decide) (by decide)⟩
  · go_enter Tryd.func41, Tryd.ntmps41
    go_wp2_with fail
    refine h7.mono ?_
    rintro e w1 ⟨rfl, p1, m1⟩
    go_wp2_with fail
    refine (rof_f (some ⟨w1.heap.size, 0, none⟩) 3 3 (fun i => 98 + i) _ sl_bcd (fun i hi => by omega) (by decide)).mono ?_
    rintro e w2 ⟨rfl, q2⟩
    rw [sv_cells]
    have Q2 : Hid (Qt w1 w2) := ((Qt.refl w1).alloc _).comp q2.out
    have M1 : Mv (fun j => j = g) w w1 := up1 m1
    have Z : Hid (Zr w.heap.size w2) := Zr.mv (Zr.mv (w := w.alloc zeros) (heap_alloc_new w zeros) m1.out (fun h => Nat.ne_of_lt HQ.out h.symm)) Q2.out (fun h => h)
    have MM : Hid (Mv (fun j => j = g) w w2) := Mv.trans M1 Q2.out (fun _ _ h => h.elim)
    have P2 : Hid (Pk w2 g a len cap f n1) := p1.out.mv Q2.out
    obtain ⟨k0, k1, k2, k3, l0, l1, l2, l3⟩ := Zr.facts Z
    clear h6 hs6
    go_wp2_with fail
    refine bodyPost_ret (results_cell_row (p := 2) (ty := 25) rfl _ _ w.heap.size 25 _ (0, 0) _ rfl (put4_heap Z.out _ _ _ _) Tryd.underlying25 rfl (by kernel_rfl)) rfl ?_
    exact setP_tell HS.out HQ.out MM.out P2.out _ ⟨any_ofl (by decide) (by decide), few_row 98 3 (by decide) (by decide)⟩
  · go_enter Tryd.func41, Tryd.ntmps41
    go_wp2_with fail
    refine h7.mono ?_
    rintro e w1 ⟨rfl, p1, m1⟩
    go_wp2_with fail
    refine (rof_f (some ⟨w1.heap.size, 0, none⟩) 2 2 (fun i => if i = 0 then 97 else 10) _ sl_anl (fun i hi => by split <;> omega) (by decide)).mono ?_
    rintro e w3 ⟨rfl, q3⟩
    rw [sv_cells]
    go_wp2_with fail
    refine (rnot_any _ _).mono ?_
    rintro e w2 ⟨rfl, q2⟩
    rw [sv_cells]
    have Q2 : Hid (Qt w1 w2) := (((Qt.refl w1).alloc _).comp q3.out).comp q2.out
    have M1 : Mv (fun j => j = g) w w1 := up1 m1
    have Z : Hid (Zr w.heap.size w2) := Zr.mv (Zr.mv (w := w.alloc zeros) (heap_alloc_new w zeros) m1.out (fun h => Nat.ne_of_lt HQ.out h.symm)) Q2.out (fun h => h)
    have MM : Hid (Mv (fun j => j = g) w w2) := Mv.trans M1 Q2.out (fun _ _ h => h.elim)
    have P2 : Hid (Pk w2 g a len cap f n1) := p1.out.mv Q2.out
    obtain ⟨k0, k1, k2, k3, l0, l1, l2, l3⟩ := Zr.facts Z
    clear h6 hs6
    go_wp2_with fail
    refine bodyPost_ret (results_cell_row (p := 2) (ty := 25) rfl _ _ w.heap.size 25 _ (0, 0) _ rfl (put4_heap Z.out _ _ _ _) Tryd.underlying25 rfl (by kernel_rfl)) rfl ?_
    exact setP_tell HS.out HQ.out MM.out P2.out _ ⟨any_no_anl, few_anl⟩
  · go_enter Tryd.func41, Tryd.ntmps41
    go_wp2_with fail
    refine h7.mono ?_
    rintro e w1 ⟨rfl, p1, m1⟩
    go_wp2_with fail
    refine (rof_f (some ⟨w1.heap.size, 0, none⟩) 3 3 (fun i => 48 + i) _ sl_012 (fun i hi => by omega) (by decide)).mono ?_
    rintro e w2 ⟨rfl, q2⟩
    rw [sv_cells]
    have Q2 : Hid (Qt w1 w2) := ((Qt.refl w1).alloc _).comp q2.out
    have M1 : Mv (fun j => j = g) w w1 := up1 m1
    have Z : Hid (Zr w.heap.size w2) := Zr.mv (Zr.mv (w := w.alloc zeros) (heap_alloc_new w zeros) m1.out (fun h => Nat.ne_of_lt HQ.out h.symm)) Q2.out (fun h => h)
    have MM : Hid (Mv (fun j => j = g) w w2) := Mv.trans M1 Q2.out (fun _ _ h => h.elim)
    have P2 : Hid (Pk w2 g a len cap f n1) := p1.out.mv Q2.out
    obtain ⟨k0, k1, k2, k3, l0, l1, l2, l3⟩ := Zr.facts Z
    clear h6 hs6
    go_wp2_with fail
    refine bodyPost_ret (results_cell_row (p := 2) (ty := 25) rfl _ _ w.heap.size 25 _ (0, 0) _ rfl (put4_heap Z.out _ _ _ _) Tryd.underlying25 rfl (by kernel_rfl)) rfl ?_
    exact setP_tell HS.out HQ.out MM.out P2.out _ ⟨any_ofl (by decide) (by decide), few_row 48 3 (by decide) (by decide)⟩
  · have hi : (4 : Int) ≤ (m : Int) := by omega
    have b0 : ((m : Int) == 0) = false := beq_false_of_ne (by omega)
    have b1 : ((m : Int) == 1) = false := beq_false_of_ne (by omega)
    have b2 : ((m : Int) == 2) = false := beq_false_of_ne (by omega)
    have b3 : ((m : Int) == 3) = false := beq_false_of_ne (by omega)
    clear h4 hm
    go_enter Tryd.func41, Tryd.ntmps41
    go_wp2_with fail
    refine h7.mono ?_
    rintro e w1 ⟨rfl, p1, m1⟩
    go_wp2_with fail
    refine (h6 _ _ p1).mono ?_
    rintro e w3 ⟨rfl, p3, m3⟩
    obtain ⟨c, hc, hidx⟩ := hs6.out n1
    generalize numS f len n1 6 = m6 at *
    have hof := fun W => rof_one c hc W
    have hc2 : (c : Int) < 256 := by omega
    go_wp2_with fail
    refine (hof _).mono ?_
    rintro e w2 ⟨rfl, q2⟩
    rw [sv_cells]
    have Q2 : Hid (Qt w3 w2) := ((Qt.refl w3).alloc _).comp q2.out
    have M1 : Mv (fun j => j = g) w w1 := up1 m1
    have Z : Hid (Zr w.heap.size w2) := Zr.mv (Zr.mv (Zr.mv (w := w.alloc zeros) (heap_alloc_new w zeros) m1.out (fun h => Nat.ne_of_lt HQ.out h.symm)) m3.out (fun h => Nat.ne_of_lt HQ.out h.symm)) Q2.out (fun h => h)
    have MM : Hid (Mv (fun j => j = g) w w2) := Mv.trans (Mv.trans M1 m3.out (fun _ _ h => h)) Q2.out (fun _ _ h => h.elim)
    have P2 : Hid (Pk w2 g a len cap f (numN len n1)) := p3.out.mv Q2.out
    obtain ⟨k0, k1, k2, k3, l0, l1, l2, l3⟩ := Zr.facts Z
    clear h6 hs6 hof hidx
    go_wp2_with fail
    refine bodyPost_ret (results_cell_row (p := 2) (ty := 25) rfl _ _ w.heap.size 25 _ (0, 0) _ rfl (put4_heap Z.out _ _ _ _) Tryd.underlying25 rfl (by kernel_rfl)) rfl ?_
    exact setP_tell HS.out HQ.out MM.out P2.out _ ⟨any_true.2 ⟨c, hc, by unfold btw; simp⟩, few_one hc⟩

end Go.Proofs.YtkclkhfcmjhogaaDoor

namespace Go.Proofs.YtkclkhfcmjhogaaDoor
open Go.RowKit
set_option linter.unusedVariables false

/-- How many nodes such a tree has at most. -/
def Nd : Nat → Nat
  | 0 => 1
  | d + 1 => 1 + 3 * Nd d
theorem Nd_pos : ∀ d, 1 ≤ Nd d
  | 0 => Nat.le_refl 1
  | d + 1 => by unfold Nd; omega
/-- A tree that the play makes. -/
structure Pl (d : Nat) (x : RX) : Prop where
  formed : x.formed = true
  depth : x.depth ≤ d + 1
  nodes : x.nodes ≤ Nd d
  kind : 1 ≤ x.kind ∧ x.kind ≤ 4
  text : ∀ g, Gd g → (x.sh g).length + 4 ≤ 60 * x.nodes
/-- What the play's Rx tells. -/
def RxP (d : Nat) (w : World) (g : Nat) (a : Option Addr) (len cap : Nat) (f : Nat → Nat) (e : Ending) (w' : World) : Prop :=
  ∃ x pa pc n', e = .returned (.agg #[.int .i64 x.kind, .int .u64 (limb x.set 0), .int .u64 (limb x.set 1), .int .u64 (limb x.set 2), .int .u64 (limb x.set 3), .slice pa x.args.length pc]) ∧ Hid (Pl d x) ∧ Hid (Parts x.args (fun j => w.heap.size ≤ j) w' pa pc) ∧ Hid (Pk w' g a len cap f n') ∧ Hid (Mv (fun j => j = g) w w')
theorem sum_le60 {l : List RX} {f : RX → Nat} (h : ∀ x ∈ l, f x ≤ 60 * x.nodes) : (l.map f).sum ≤ 60 * (l.map RX.nodes).sum := by
  induction l with
  | nil => simp
  | cons x l ih =>
    have h1 := h x (by simp)
    have h2 := ih (fun y hy => h y (by simp [hy]))
    simp only [List.map_cons, List.sum_cons]
    omega
/-- A node's text, out of its parts'. -/
theorem sh_step {g : (Nat → Bool) → List Nat} {k : Int} {p : Nat → Bool} {l : List RX} (hk : k ≠ 1) (ih : ∀ x ∈ l, (x.sh g).length + 4 ≤ 60 * x.nodes) : (RX.sh g ⟨k, p, l⟩).length + 4 ≤ 60 * RX.nodes ⟨k, p, l⟩ := by
  rw [sh_eq, nodes_eq, if_neg hk]
  have h1 : ((l.map (fun a => (brk1 k a (a.sh g)).length + 1))).sum ≤ 60 * (l.map RX.nodes).sum := sum_le60 (fun x hx => by have := ih x hx; have := brk1_len k x (x.sh g); omega)
  unfold joinK
  split
  · unfold texts
    have h2 : ((l.map (fun a => brk1 k a (a.sh g))).flatten).length ≤ ((l.map (fun a => (brk1 k a (a.sh g)).length + 1))).sum := by
      clear h1 ih
      induction l with
      | nil => simp
      | cons x l ih => simp only [List.map_cons, List.flatten_cons, List.length_append, List.sum_cons]; omega
    omega
  · split
    · have h2 := inter_len (texts g k l)
      unfold texts at h2
      rw [List.map_map] at h2
      have h3 : (List.map ((fun t => t.length + 1) ∘ fun a => brk1 k a (RX.sh g a)) l).sum = ((l.map (fun a => (brk1 k a (a.sh g)).length + 1))).sum := rfl
      unfold texts
      omega
    · unfold texts
      cases l with
      | nil => simp
      | cons x l =>
        simp only [List.map_cons, List.sum_cons, List.length_append, List.length_singleton] at *
        have := nodes_pos x
        omega
theorem few_text {p : Nat → Bool} (h : Few p) {g : (Nat → Bool) → List Nat} (hg : Gd g) : (g p).length ≤ 50 := by
  obtain ⟨R, hR, e⟩ := hg p
  have h3 := h R hR
  have hgood := hR.good
  obtain ⟨_, f2⟩ := flat_lt hgood
  rw [e]
  match R, hgood with
  | [], _ => simp [shw]
  | [(a, b)], hgood =>
    show (if a = b then shn a else if a = 0 ∧ b = 255 then [46] else 91 :: (rtx (a, b) ++ [93])).length ≤ 50
    have hr := (rtx_lt (hgood (a, b) (List.mem_cons_self ..))).2
    split
    · next h1 =>
      have e : rtx (a, b) = shn a := by unfold rtx; simp [h1]
      rw [e] at hr; omega
    · split
      · simp
      · simp; omega
  | r :: s :: R, _ =>
    show (91 :: ((r :: s :: R).flatMap rtx ++ [93])).length ≤ 50
    rw [List.length_cons, List.length_append, List.length_singleton]
    omega
/-- A set. -/
theorem pl_set (d : Nat) {p : Nat → Bool} (h : any p = true ∧ Few p) : Pl d ⟨1, p, []⟩ := by
  refine ⟨?_, ?_, ?_, ⟨by show (1 : Int) ≤ 1; decide, by show (1 : Int) ≤ 4; decide⟩, fun g hg => by rw [sh_eq, nodes_eq, if_pos rfl]; have := few_text h.2 hg; simp; omega⟩
  · rw [formed_eq]; simp [node, h.1]
  · rw [depth_eq]; simp [maxl]
  · rw [nodes_eq]; simp; exact Nd_pos d
theorem set_kind {x : RX} (h : x.kind = 1) (hf : x.formed = true) : x.args = [] := by
  obtain ⟨k, p, l⟩ := x
  have h1 : k = 1 := h
  subst h1
  rw [formed_eq] at hf
  simp [node] at hf
  exact hf.1.2
/-- A node of play's. -/
theorem pl_node {d : Nat} {k : Int} {l : List RX} (hk : 2 ≤ k ∧ k ≤ 4) (hl : if k = 4 then l.length = 1 else 2 ≤ l.length ∧ l.length ≤ 3) (h : ∀ x ∈ l, Pl d x ∧ x.kind ≠ k) : Pl (d + 1) ⟨k, fun _ => false, l⟩ := by
  have h3 : l.length ≤ 3 := by split at hl <;> omega
  refine ⟨?_, ?_, ?_, ⟨by show 1 ≤ k; omega, hk.2⟩, fun g hg => sh_step (by omega) (fun x hx => (h x hx).1.text g hg)⟩
  · rw [formed_eq]
    have hn : node k (fun _ => false) l.length = true := by
      unfold node
      rw [any_none]
      by_cases e : k = 4
      · rw [if_pos e] at hl; subst e; simp [hl]
      · rw [if_neg e] at hl
        rw [if_pos (by omega)]; simp; omega
    rw [hn, Bool.true_and, Bool.and_eq_true, List.all_eq_true, List.all_eq_true]
    refine ⟨fun x hx => ?_, fun x hx => (h x hx).1.formed⟩
    have h1 := (h x hx).1.kind
    have h2 := (h x hx).2
    rw [decide_eq_true_iff]
    unfold lvl
    obtain ⟨m, hm⟩ : ∃ m, m = x.kind := ⟨_, rfl⟩
    rw [← hm] at h1 h2 ⊢
    clear hm h hl hn h3
    rcases (show m = 1 ∨ m = 2 ∨ m = 3 ∨ m = 4 from by omega) with rfl | rfl | rfl | rfl <;> rcases (show k = 2 ∨ k = 3 ∨ k = 4 from by omega) with rfl | rfl | rfl <;> simp at h2 ⊢
  · rw [depth_eq]
    have : maxl (l.map RX.depth) ≤ d + 1 := by
      clear hl h3
      induction l with
      | nil => simp [maxl]
      | cons x l ih =>
        have := ih (fun y hy => h y (by simp [hy]))
        have := (h x (by simp)).1.depth
        simp only [List.map_cons, maxl]
        omega
    omega
  · rw [nodes_eq]
    have : (l.map RX.nodes).sum ≤ l.length * Nd d := by
      clear hl h3
      induction l with
      | nil => simp
      | cons x l ih =>
        have := ih (fun y hy => h y (by simp [hy]))
        have := (h x (by simp)).1.nodes
        simp only [List.map_cons, List.sum_cons, List.length_cons, Nat.add_mul, Nat.one_mul]
        omega
    have h4 : l.length * Nd d ≤ 3 * Nd d := Nat.mul_le_mul_right _ h3
    unfold Nd
    omega

/-- While a node's parts are made: gr its box, v its row. -/
def Kr (gr : Nat) (wr : World) (v : Value) : Nat → Prop := fun j => gr + 1 ≤ j ∧ j < wr.heap.size ∧ v.ownBlock ≠ some j
structure Plr (w : World) (g : Nat) (a : Option Addr) (len cap : Nat) (f : Nat → Nat) (gr : Nat) (k : Int) (d : Nat) (wr : World) (v : Value) (acc : List RX) : Prop where
  ro : Ro (gr + 1) (Kr gr wr v) wr v acc
  pk : ∃ n', Pk wr g a len cap f n'
  z : B6 w.heap.size (.int .i64 0) (.int .u64 0) (.int .u64 0) (.int .u64 0) (.int .u64 0) (.slice none 0 0) wr
  r : B6 gr (.int .i64 k) (.int .u64 0) (.int .u64 0) (.int .u64 0) (.int .u64 0) v wr
  mv : Mv (fun j => j = g) w wr
  ok : ∀ x ∈ acc, Pl d x ∧ x.kind ≠ k
  row : Sl w a len (Bn f)
  hg : g < w.heap.size
  hr : w.heap.size < gr
theorem Plr.blk {w : World} {g : Nat} {a : Option Addr} {len cap : Nat} {f : Nat → Nat} {gr : Nat} {k : Int} {d : Nat} {wr : World} {v : Value} {acc : List RX} (h : Plr w g a len cap f gr k d wr v acc) : ∀ j, v.ownBlock = some j → gr + 1 ≤ j ∧ j < wr.heap.size := by
  obtain ⟨ys, h1, _⟩ := h.ro.ow
  exact ow_blk h1
/-- What other calls leave. -/
theorem Plr.go {w : World} {g : Nat} {a : Option Addr} {len cap : Nat} {f : Nat → Nat} {gr : Nat} {k : Int} {d : Nat} {wr w3 : World} {v : Value} {acc : List RX} (h : Plr w g a len cap f gr k d wr v acc) (m : Mv (fun j => j = g) wr w3) {n' : Nat} (p : Pk w3 g a len cap f n') : Plr w g a len cap f gr k d w3 v acc := by
  have hg := h.hg
  have hr := h.hr
  have hz := h.mv.size
  have hb := h.blk
  have hz2 := m.size
  exact ⟨(h.ro.mv m (fun j hj e => by have := hj.1; omega) (fun j hj e => by have := hb j hj; omega)).mono (fun j hj => ⟨hj.1, by have := hj.2.1; omega, hj.2.2⟩) (fun j hj => hj.2.2), ⟨n', p⟩, (B6.mv h.z m (by omega)).out, (B6.mv h.r m (by omega)).out, h.mv.trans m (fun _ _ h => h), h.ok, h.row, hg, hr⟩
/-- One more is appended. -/
theorem Plr.step {w : World} {g : Nat} {a : Option Addr} {len cap : Nat} {f : Nat → Nat} {gr : Nat} {k : Int} {d : Nat} {wr w3 : World} {v : Value} {acc : List RX} {x : RX} {pa : Option Addr} {pc n' : Nat} {S : Nat → Prop} (h : Hid (Plr w g a len cap f gr k d wr v acc)) (hx : Hid (Parts x.args (fun j => wr.heap.size ≤ j ∧ ¬ S j) w3 pa pc)) (m : Mv (fun j => j = g) wr w3) (p : Hid (Pk w3 g a len cap f n')) (ho : Hid (Pl d x ∧ x.kind ≠ k)) (hl : acc.length < 90000) :
    ∃ v' W, (Builtin.append_ #[26, 26] 26 #[v, .slice (some ⟨w3.heap.size, 0, none⟩) 1 1]).run Tryd.prog (w3.alloc (.cells #[.int .i64 x.kind, .int .u64 (limb x.set 0), .int .u64 (limb x.set 1), .int .u64 (limb x.set 2), .int .u64 (limb x.set 3), .slice pa x.args.length pc] 28)) = .ok v' W ∧ Hid (B6 gr (.int .i64 k) (.int .u64 0) (.int .u64 0) (.int .u64 0) (.int .u64 0) v W) ∧ (∃ va vc, v' = .slice va (acc.length + 1) vc) ∧ Hid (Plr w g a len cap f gr k d (W.setCell ⟨gr, 5, none⟩ v') v' (acc ++ [x])) := by
  have h3 := h.out.go m p.out
  have hg := h3.hg
  have hr := h3.hr
  have hz := h3.mv.size
  have hb := h3.blk
  have hb0 := h.out.blk
  have hrl := h3.r.lt
  have hp2 : Parts x.args (Kr gr w3 v) w3 pa pc := hx.out.lt.mono (fun j hj => ⟨by have := hj.1.1; have := h.out.r.lt; omega, hj.2, fun e => by have := hb0 j e; have := hj.1.1; omega⟩)
  obtain ⟨v', W, hrun, ro', m2, nb⟩ := h3.ro.push (by omega) hl (fun j hj => hj.2.1) hp2
  have hW := m2.out.size
  have hR := B6.mv h3.r m2.out (fun e => by have := hb gr e; omega)
  have mg := Mv.setCell W ⟨gr, 5, none⟩ v'
  have hv' : ∀ j, v'.ownBlock = some j → gr + 1 ≤ j ∧ j < W.heap.size := by
    obtain ⟨ys, h1, _⟩ := ro'.out.ow
    exact ow_blk h1
  have hsz : (W.setCell ⟨gr, 5, none⟩ v').heap.size = W.heap.size := by simp
  have hW2 : Pk W g a len cap f n' := Pk.mv2 hg h3.row p.out m2.out (by omega) (fun j hj e => by have := hb j e; omega)
  refine ⟨v', W, hrun, hR, ?_, ⟨?_, ⟨n', Pk.mv2 hg h3.row hW2 mg (by omega) (fun j hj e => by simp at e; omega)⟩, ?_, ?_, ?_, ?_, h3.row, hg, hr⟩⟩
  · obtain ⟨ys, h1, _⟩ := ro'.out.ow
    obtain ⟨va, vc, e, _⟩ := ow_ls h1
    exact ⟨va, vc, by rw [e, List.length_append, List.length_singleton]⟩
  · exact (ro'.out.mv mg (fun j hj e => by have := hj.1; simp at e; omega) (fun j hj e => by have := hv' j hj; simp at e; omega)).mono (fun j hj => ⟨hj.1, by have := hj.2.1; rw [hsz]; omega, ro'.out.off j hj⟩) (fun j hj => hj.2.2)
  · exact (B6.mv (B6.mv h3.z m2.out (fun e => by have := hb _ e; omega)).out mg (by simp; omega)).out
  · exact heap_set hR.out
  · exact (h3.mv.trans m2.out (fun j hj e => by have := hb j e; omega)).trans mg (fun j hj e => by simp at e; omega)
  · intro y hy
    rcases List.mem_append.1 hy with e | e
    · exact h3.ok y e
    · rw [List.mem_singleton.1 e]; exact ho.out
/-- All were made. -/
theorem Plr.tell {w : World} {g : Nat} {a : Option Addr} {len cap : Nat} {f : Nat → Nat} {gr : Nat} {k : Int} {d : Nat} {wr : World} {va : Option Addr} {vn vc : Nat} {acc : List RX} (h : Hid (Plr w g a len cap f gr k d wr (.slice va vn vc) acc)) (hn : acc.length = vn) (hk : 2 ≤ k ∧ k ≤ 4) (hl : if k = 4 then vn = 1 else 2 ≤ vn ∧ vn ≤ 3) (v0 v1 v2 v3 v4 v5 : Value) :
    RxP (d + 1) w g a len cap f (.returned (.agg #[.int .i64 k, .int .u64 0, .int .u64 0, .int .u64 0, .int .u64 0, .slice va vn vc])) (put6 wr w.heap.size v0 v1 v2 v3 v4 v5) := by
  have hr := h.out.hr
  have hg := h.out.hg
  have hb := h.out.blk
  have mp := put6_mv wr w.heap.size v0 v1 v2 v3 v4 v5
  obtain ⟨n', hp⟩ := h.out.pk
  subst hn
  have hl3 : acc.length < 100000 := by split at hl <;> omega
  obtain ⟨a2, c2, hv, hparts, _⟩ := h.out.ro.sl hl3
  obtain ⟨rfl, _, rfl⟩ := Value.slice.inj hv
  refine ⟨⟨k, fun _ => false, acc⟩, va, vc, n', ?_, pl_node hk hl h.out.ok, (hparts.mv mp (fun j hj e => ?_)).mono (fun j hj => ?_), Pk.mv2 hg h.out.row hp mp h.out.mv.size (fun j hj e => by omega), h.out.mv.trans mp (fun j hj e => by omega)⟩
  · show _ = Ending.returned (.agg #[.int .i64 k, .int .u64 (limb (fun _ => false) 0), .int .u64 (limb (fun _ => false) 1), .int .u64 (limb (fun _ => false) 2), .int .u64 (limb (fun _ => false) 3), .slice va acc.length vc])
    rw [limb_none, limb_none, limb_none, limb_none]
    rfl
  · rcases hj with hj | hj
    · have := hj.1; omega
    · have := hb j hj; omega
  · rcases hj with hj | hj
    · have := hj.1; omega
    · have := hb j hj; omega

set_option maxRecDepth 20000 in
set_option maxHeartbeats 4000000 in
theorem rx_leaf (d : Nat) (D : Int) (g : Nat) (a : Option Addr) (len cap : Nat) (f : Nat → Nat) (n : Nat) (w : World) (h : Hid (Pk w g a len cap f n)) (hk : D ≤ 0 ∨ (0 < D ∧ numS f len n 9 < 4)) :
    Calls Tryd.prog 21 #[.pointer (some ⟨g, 0, none⟩), .int .i64 D] w fun e w' => RxP d w g a len cap f e w' := by
  have HQ : Hid (g < w.heap.size) := (Array.getElem?_eq_some_iff.1 h.out.at_).1
  have HS : Hid (Hid (Sl w a len (Bn f))) := h.out.row
  have h0 : Hid (Pk (w.alloc zeros6) g a len cap f n) := h.out.mv (Mv.alloc (fun _ => False) w zeros6)
  have h9 := num_any 9 (by decide) (by decide) g a len cap f n (w.alloc zeros6) h0
  have hset := fun n' W (P : Hid (Pk W g a len cap f n')) => pset_any g a len cap f n' W P
  have hk2 : D ≤ 0 ∨ (0 < D ∧ ((numS f len n 9 : Nat) : Int) < 4) := by omega
  generalize numS f len n 9 = m at h9 hk2
  generalize numN len n = n1 at h9
  clear hk h h0
  rcases hk2 with hk | ⟨hk, hk3⟩
  · go_enter Tryd.func21, Tryd.ntmps21
    go_wp2_with fail
    refine h9.mono ?_
    rintro e w1 ⟨rfl, p1, m1⟩
    go_wp2_with fail
    refine (hset _ _ p1).mono ?_
    intro e w2 h2
    obtain ⟨p, n2, rfl, hp, p2, m2⟩ := h2
    rw [sv_cells]
    have M : Hid (Mv (fun k => k = g) (w.alloc zeros6) w2) := Mv.trans m1.out m2.out (fun _ _ h => h)
    have Z := B6.mv (w := w.alloc zeros6) (show Hid (B6 w.heap.size (.int .i64 0) (.int .u64 0) (.int .u64 0) (.int .u64 0) (.int .u64 0) (.slice none 0 0) (w.alloc zeros6)) from heap_alloc_new w zeros6) M.out (fun h => Nat.ne_of_lt HQ.out h.symm)
    obtain ⟨b0, b1, b2, b3, b4, b5, _, _, _, _, _, _⟩ := B6.facts Z
    clear hset
    go_wp2_with fail
    refine bodyPost_ret (results_cell_row (p := 4) (ty := 28) rfl _ _ w.heap.size 28 _ (0, 0) _ rfl (put6_heap Z.out _ _ _ _ _ _) Tryd.underlying28 rfl (by kernel_rfl)) rfl ?_
    have M1 : Mv (fun j => j = g) w w2 := up1 M
    have MP := put6_mv w2 w.heap.size (.int .i64 1) (.int .u64 (limb p 0)) (.int .u64 (limb p 1)) (.int .u64 (limb p 2)) (.int .u64 (limb p 3)) (.slice none 0 0)
    exact ⟨⟨1, p, []⟩, none, 0, n2, rfl, pl_set d hp, (parts_none _).mono (fun _ h => h.elim), Pk.mv2 HQ.out HS.out.out p2.out MP M1.size (fun j hj e => by omega), Mv.trans M1 MP (fun j hj e => by omega)⟩
  · go_enter Tryd.func21, Tryd.ntmps21
    go_wp2_with fail
    refine h9.mono ?_
    rintro e w1 ⟨rfl, p1, m1⟩
    go_wp2_with fail
    refine (hset _ _ p1).mono ?_
    intro e w2 h2
    obtain ⟨p, n2, rfl, hp, p2, m2⟩ := h2
    rw [sv_cells]
    have M : Hid (Mv (fun k => k = g) (w.alloc zeros6) w2) := Mv.trans m1.out m2.out (fun _ _ h => h)
    have Z := B6.mv (w := w.alloc zeros6) (show Hid (B6 w.heap.size (.int .i64 0) (.int .u64 0) (.int .u64 0) (.int .u64 0) (.int .u64 0) (.slice none 0 0) (w.alloc zeros6)) from heap_alloc_new w zeros6) M.out (fun h => Nat.ne_of_lt HQ.out h.symm)
    obtain ⟨b0, b1, b2, b3, b4, b5, _, _, _, _, _, _⟩ := B6.facts Z
    clear hset
    go_wp2_with fail
    refine bodyPost_ret (results_cell_row (p := 4) (ty := 28) rfl _ _ w.heap.size 28 _ (0, 0) _ rfl (put6_heap Z.out _ _ _ _ _ _) Tryd.underlying28 rfl (by kernel_rfl)) rfl ?_
    have M1 : Mv (fun j => j = g) w w2 := up1 M
    have MP := put6_mv w2 w.heap.size (.int .i64 1) (.int .u64 (limb p 0)) (.int .u64 (limb p 1)) (.int .u64 (limb p 2)) (.int .u64 (limb p 3)) (.slice none 0 0)
    exact ⟨⟨1, p, []⟩, none, 0, n2, rfl, pl_set d hp, (parts_none _).mono (fun _ h => h.elim), Pk.mv2 HQ.out HS.out.out p2.out MP M1.size (fun j hj e => by omega), Mv.trans M1 MP (fun j hj e => by omega)⟩

end Go.Proofs.YtkclkhfcmjhogaaDoor
