/- Rows of places: or, and nothing. -/
import Derived.Test.YtkclkhfcmjhogaaDoorZ2
namespace Go.Proofs.YtkclkhfcmjhogaaDoor
open Go.RowKit
set_option linter.unusedVariables false

theorem zero23 : Tryd.t23.zero = some (.int .u64 0) := by kernel_rfl
theorem size23 : Tryd.t23.size = 1 := by kernel_rfl
theorem bytes23 : Tryd.t23.bytes = 8 := by kernel_rfl
def Pt1 (F : Mat) (i : Nat) : Nat → Value := fun r => if r < i then Ux F r else .int .u64 0
/-- While a row of places is filled. -/
structure Rw (w wr : World) (g N : Nat) (F : Mat) (i : Nat) : Prop where
  own : Own wr w.heap.size 23 (.slice (some ⟨g, 0, none⟩) N N) N (Pt1 F i)
  qt : Qt w wr
theorem row_set (V : Nat → Value) (n j : Nat) (u : Value) : (row V n).set j u = row (fun i => if i = j then u else V i) n := by
  apply List.ext_getElem
  · simp [row_length]
  · intro i h1 h2
    rw [List.getElem_set, row_get, row_get]
    by_cases h : j = i
    · rw [if_pos h, if_pos h.symm]
    · rw [if_neg h, if_neg (fun e => h e.symm)]
theorem Rw.start (w : World) (N : Nat) (F : Mat) (hN : N < 100000) : (Instr.makeSlice 65 (.int .i64 N) (.int .i64 N)).run Tryd.prog w = .ok (.slice (some ⟨w.heap.size, 0, none⟩) N N) (w.alloc (.cells (madeCells #[.int .u64 0] N) 23)) ∧ Hid (Rw w (w.alloc (.cells (madeCells #[.int .u64 0] N) 23)) w.heap.size N F 0) := by
  obtain ⟨h1, h2⟩ := made 65 23 Tryd.t23 (.int .u64 0) 8 Tryd.underlying65 info23 zero23 size23 bytes23 rfl (by decide) N hN w w.heap.size (Nat.le_refl _)
  exact ⟨h1, h2.congr (fun i _ => by simp [Pt1]), Mv.alloc _ _ _⟩
theorem Rw.cell {w wr : World} {g N : Nat} {F : Mat} {i : Nat} (h : Rw w wr g N F i) {j : Nat} (hj : j < N) : wr.cell? ⟨g, j, none⟩ = some (Pt1 F i j) ∧ wr.frozen? ⟨g, j, none⟩ = false := h.own.at hj
theorem Rw.put {w wr : World} {g N : Nat} {F : Mat} {i : Nat} (h : Rw w wr g N F i) : Rw w (wr.setCell ⟨g, i, none⟩ (Ux F i)) g N F (i + 1) := by
  have hb := (h.own.blk g rfl).1
  refine ⟨?_, Mv.trans h.qt (Mv.setCell wr ⟨g, i, none⟩ _) (fun j hj e => by simp at e; omega)⟩
  have h1 := (World.ownsRow.stored h.own i (Ux F i)).1
  rw [row_set] at h1
  refine Own.congr h1 (fun r hr => ?_)
  unfold Pt1
  by_cases e : r = i
  · rw [if_pos e, e, if_pos (by omega)]
  · rw [if_neg e]
    by_cases h2 : r < i
    · rw [if_pos h2, if_pos (by omega)]
    · rw [if_neg h2, if_neg (by omega)]
theorem Rw.mv {w wr w' : World} {g N : Nat} {F : Mat} {i : Nat} (h : Rw w wr g N F i) (q : Qt wr w') : Rw w w' g N F i := ⟨Own.mv h.own q (fun _ _ h => h), h.qt.comp q⟩
theorem Rw.skip {w wr : World} {g N : Nat} {F : Mat} {i : Nat} (h : Rw w wr g N F i) (hz : limb (F i) 0 = 0) : Rw w wr g N F (i + 1) := by
  refine ⟨Own.congr h.own (fun r hr => ?_), h.qt⟩
  unfold Pt1
  by_cases h2 : r < i
  · rw [if_pos h2, if_pos (by omega)]
  · rw [if_neg h2]
    by_cases e : r = i
    · rw [if_pos (by omega), e]; unfold Ux; rw [hz]; rfl
    · rw [if_neg (by omega)]
theorem Rw.done {w wr : World} {g N : Nat} {F : Mat} (h : Rw w wr g N F N) : Own wr w.heap.size 23 (.slice (some ⟨g, 0, none⟩) N N) N (Ux F) :=
  Own.congr h.own (fun r hr => by unfold Pt1; rw [if_pos hr])
/-- What a function of rows tells. -/
def Tm (w : World) (N : Nat) (F : Mat) (e : Ending) (w' : World) : Prop := ∃ g, e = .returned (.slice (some ⟨g, 0, none⟩) N N) ∧ Hid (Own w' w.heap.size 23 (.slice (some ⟨g, 0, none⟩) N N) N (Ux F)) ∧ Hid (Qt w w')
theorem Sl.cellx {w : World} {a : Option Addr} {N : Nat} {f : Mat} (h : Sl w a N (Ux f)) {i : Nat} (hi : i < N) : ∃ b o, a = some ⟨b, o, none⟩ ∧ w.cell? ⟨b, o + i, none⟩ = some (.int .u64 (limb (f i) 0 : Int)) := by
  obtain ⟨b, o, e, _, hc⟩ := h i hi
  exact ⟨b, o, e, hc⟩

set_option maxHeartbeats 2000000 in
theorem orX_any (N : Nat) (f f2 : Mat) (a b : Option Addr) (c d : Nat) (w : World) (hN : N ≤ 61) (hf : Hid (Sl w a N (Ux f))) (hf2 : Hid (Sl w b N (Ux f2))) :
    Calls Tryd.prog 63 #[.slice a N c, .slice b N d] w fun e w' => Tm w N (orM f f2) e w' := by
  obtain ⟨hmk, B0⟩ := Rw.start w N (orM f f2) (by omega)
  have HN : Hid (N ≤ 61) := hN
  have hNi : (N : Int) ≤ 61 := by omega
  clear hN
  go_enter Tryd.func63, Tryd.ntmps63
  go_wp2_with fail
  obtain ⟨g, hg⟩ : ∃ g, g = w.heap.size := ⟨_, rfl⟩
  rw [← hg] at B0
  rw [← hg]
  clear hg hmk
  generalize w.alloc (.cells (madeCells #[.int .u64 0] N) 23) = W0 at *
  go_loopw [12] (fun s12 wr => ∃ i : Nat, i ≤ N ∧ s12 = .int .i64 i ∧ Hid (Rw w wr g N (orM f f2) i)) (fun s12 _ => N - (intOf s12).toNat)
  case atStart => exact ⟨0, by omega, rfl, B0⟩
  case round =>
    obtain ⟨i, hi, rfl, B⟩ := hrel
    by_cases hlt : i < N
    · obtain ⟨b1, o1, ha, k1⟩ := (hf.out.mv B.out.qt (fun _ _ h => h)).cellx hlt
      obtain ⟨b2, o2, hb, k2⟩ := (hf2.out.mv B.out.qt (fun _ _ h => h)).cellx hlt
      subst ha hb
      obtain ⟨k3, k4⟩ := B.out.cell hlt
      have BN : Hid _ := B.out.put
      have hor := bits_orL (f i) (f2 i)
      have hux : Ux (orM f f2) i = .int .u64 ((limb (fun b => f i b || f2 i b) 0 : Nat) : Int) := rfl
      rw [hux] at BN
      clear hux
      generalize Pt1 (orM f f2) i i = z0 at k3
      generalize limb (fun b => f i b || f2 i b) 0 = z at *
      generalize limb (f i) 0 = x at *
      generalize limb (f2 i) 0 = y at *
      go_wp2_with fail
      go_region
      go_wp2_with fail
      refine ⟨⟨i + 1, by omega, by go_num, ?_⟩, by simp [intOf]; omega⟩
      exact BN.out.mv (Mv.drewN (fun _ => False) _ 1)
    · obtain rfl : i = N := by omega
      go_wp2_with fail
      go_ret
      exact ⟨g, rfl, B.out.done, B.out.qt⟩

end Go.Proofs.YtkclkhfcmjhogaaDoor
