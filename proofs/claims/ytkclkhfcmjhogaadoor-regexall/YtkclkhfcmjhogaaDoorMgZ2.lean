/- ends: where matches end that begin at any of these places. -/
import Derived.Test.YtkclkhfcmjhogaaDoorMgZ1
import Derived.Test.YtkclkhfcmjhogaaDoorMgA4
import Derived.Test.YtkclkhfcmjhogaaDoorMgK1
import Derived.Deep.LoopGhost
namespace Go.Proofs.YtkclkhfcmjhogaaDoor
open Go.RowKit
set_option linter.unusedVariables false

/-- A row of places, as the program has it. -/
def Ux (f : Mat) : Nat → Value := fun i => .int .u64 (limb (f i) 0 : Int)
/-- Where they end. -/
def endsP (N : Nat) (f : Mat) (P : Nat → Bool) : Nat → Bool := fun j => (List.range N).any (fun k => P k && f k j)
theorem ends_none {N : Nat} {f : Mat} {P : Nat → Bool} (h : ∀ k, k < N → P k = false) : ∀ j, endsP N f P j = false := by
  intro j
  unfold endsP
  rw [List.any_eq_false]
  intro k hk
  rw [List.mem_range] at hk
  simp [h k hk]
theorem ends_take {N : Nat} {f : Mat} {P : Nat → Bool} {k : Nat} (hk : k < N) (hp : P k = true) : ∀ j, endsP N f P j = (f k j || endsP N f (fun c => P c && !(c == k)) j) := by
  intro j
  unfold endsP
  rw [Bool.eq_iff_iff, Bool.or_eq_true, any_range, any_range]
  simp only [Bool.and_eq_true, Bool.not_eq_true', beq_eq_false_iff_ne]
  constructor
  · rintro ⟨c, h1, h2, h3⟩
    by_cases e : c = k
    · subst e; exact .inl h3
    · exact .inr ⟨c, h1, ⟨h2, e⟩, h3⟩
  · rintro (h | ⟨c, h1, ⟨h2, _⟩, h3⟩)
    · exact ⟨k, hk, hp, h⟩
    · exact ⟨c, h1, h2, h3⟩
/-- How many places there are. -/
def cntP (N : Nat) (P : Nat → Bool) : Nat := ((List.range N).filter P).length
theorem cntP_take {N : Nat} {P : Nat → Bool} {k : Nat} (hk : k < N) (hp : P k = true) : cntP N (fun c => P c && !(c == k)) < cntP N P := by
  unfold cntP
  have h : (List.range N).filter (fun c => P c && !(c == k)) = ((List.range N).filter P).filter (fun c => !(c == k)) := by
    rw [List.filter_filter]
    congr 1
    funext c
    rw [Bool.and_comm]
  rw [h]
  refine List.length_filter_lt_length_iff_exists.2 ⟨k, ?_, by simp⟩
  rw [List.mem_filter, List.mem_range]
  exact ⟨hk, hp⟩
theorem bits_orL (p q : Nat → Bool) : bits .or .u64 (limb p 0 : Int) (limb q 0 : Int) = ((limb (fun b => p b || q b) 0 : Nat) : Int) := by
  have := bits_or_u64_nat _ _ (limb_lt p 0) (limb_lt q 0)
  rw [limb_or] at this
  exact this
theorem bits_clear {P : Nat → Bool} {k : Nat} (hk : k < 64) (hp : P k = true) (hl : ∀ c, c < k → P c = false) : bits .and .u64 (limb P 0 : Int) ((limb P 0 - 1 : Nat) : Int) = ((limb (fun c => P c && !(c == k)) 0 : Nat) : Int) := by
  have h := bits_and_u64_nat (limb P 0) (limb P 0 - 1) (limb_lt P 0) (by have := limb_lt P 0; omega)
  rw [limb_clear hk hp hl] at h
  exact h

set_option maxHeartbeats 2000000 in
theorem ends_any (N : Nat) (f : Mat) (P0 : Nat → Bool) (a : Option Addr) (c : Nat) (w : World) (hN : N ≤ 61) (hP : ∀ k, P0 k = true → k < N) (hm : Hid (Sl w a N (Ux f))) (hT : Hid (Tab w)) :
    Calls Tryd.prog 84 #[.slice a N c, .int .u64 (limb P0 0 : Int)] w fun e w' => e = .returned (.int .u64 (limb (endsP N f P0) 0 : Int)) ∧ w' = w := by
  have HP0 : Hid (∀ k, P0 k = true → k < N) := hP
  have HN : Hid (N ≤ 61) := hN
  have hNi : (N : Int) ≤ 61 := by omega
  clear hP hN
  go_enter Tryd.func84, Tryd.ntmps84
  go_wp2_with fail
  go_loopg [1, 5] (cntP N P0) (fun gk s1 s5 wr => ∃ P T : Nat → Bool, s1 = .int .u64 (limb P 0 : Int) ∧ s5 = .int .u64 (limb T 0 : Int) ∧ wr = w ∧ Hid (cntP N P ≤ gk ∧ (∀ k, P k = true → k < N) ∧ ∀ j, endsP N f P0 j = (T j || endsP N f P j)))
  case atStart => exact ⟨P0, fun _ => false, rfl, by rw [limb_none]; rfl, rfl, Nat.le_refl _, HP0.out, fun j => by simp⟩
  case round =>
    obtain ⟨P, T, rfl, rfl, hw, B⟩ := hrel
    subst hw
    by_cases hz : limb P 0 = 0
    · have hz1 : ((limb P 0 : Int) == 0) = true := by simp [hz]
      have hz2 : ((limb P 0 : Int) = 0) = True := by simp [hz]
      have HE : Hid (limb (endsP N f P0) 0 = limb T 0) := by
        show _ = _
        rw [limb_zero] at hz
        congr 1
        funext j
        rw [B.out.2.2 j, ends_none (fun k hk => by have := hz k (by have := HN.out; omega); simpa using this) j, Bool.or_false]
      generalize limb P 0 = x at *
      clear hz
      go_wp2_with fail
      go_ret
      exact ⟨by rw [HE.out]; rfl, rfl⟩
    · obtain ⟨k, hk, hb, hl, htz⟩ := tz_any (limb P 0) (limb_lt P 0) hz wr hT.out
      have hpk : P k = true := by have := hb; rw [limb_bit'] at this; simp at this; exact this.2
      have hlow : ∀ c, c < k → P c = false := fun c hc => by
        have := hl c hc
        rw [limb_bit'] at this
        have h64 : c < 64 := by omega
        simpa [h64] using this
      have hkN : k < N := B.out.2.1 k hpk
      obtain ⟨b, o, ha, hbl, hcell⟩ := hm.out k hkN
      subst ha
      have h1 := bits_clear hk hpk hlow
      have h2 := bits_orL T (f k)
      have hz1 : ((limb P 0 : Int) == 0) = false := by simp [hz]
      have hz2 : ((limb P 0 : Int) = 0) = False := by simp [hz]
      have hx1 : (limb P 0 : Int) - 1 = ((limb P 0 - 1 : Nat) : Int) := by omega
      have hlt := limb_lt P 0
      have hki : (k : Int) < (N : Int) := by omega
      have BN : Hid (cntP N (fun c => P c && !(c == k)) < gk ∧ (∀ c, (fun c => P c && !(c == k)) c = true → c < N) ∧ ∀ j, endsP N f P0 j = ((fun b => T b || f k b) j || endsP N f (fun c => P c && !(c == k)) j)) := by
        refine ⟨Nat.lt_of_lt_of_le (cntP_take hkN hpk) B.out.1, fun c hc => B.out.2.1 c (by simp at hc; exact hc.1), fun j => ?_⟩
        rw [B.out.2.2 j, ends_take hkN hpk j, Bool.or_assoc]
      have hcell2 : wr.cell? ⟨b, o + k, none⟩ = some (.int .u64 (limb (f k) 0 : Int)) := hcell
      generalize hP' : (fun c => P c && !(c == k)) = P' at *
      generalize hT' : (fun b => T b || f k b) = T' at *
      have HPP : Hid _ := hP'
      have HTT : Hid _ := hT'
      clear hP' hT' hl hb hpk hlow hcell hkN hz
      generalize limb P 0 = x at *
      generalize limb (f k) 0 = y at *
      go_wp2_with fail
      refine htz.mono ?_
      rintro e1 w1 ⟨rfl, hw1⟩
      obtain rfl := hw1.symm
      go_wp2_with fail
      go_roundg (cntP N P')
      case measure => exact BN.out.1
      case rel => exact ⟨P', T', rfl, rfl, rfl, Nat.le_refl _, BN.out.2.1, BN.out.2.2⟩

end Go.Proofs.YtkclkhfcmjhogaaDoor

namespace Go.Proofs.YtkclkhfcmjhogaaDoor
open Go.RowKit
set_option linter.unusedVariables false

theorem zero23 : Tryd.t23.zero = some (.int .u64 0) := by kernel_rfl
theorem size23 : Tryd.t23.size = 1 := by kernel_rfl
theorem bytes23 : Tryd.t23.bytes = 8 := by kernel_rfl
def Pt1 (F : Mat) (i : Nat) : Nat → Value := fun r => if r < i then Ux F r else .int .u64 0
/-- While a row of places is filled. -/
structure Rw (w wr : World) (g N : Nat) (F : Mat) (i : Nat) : Prop where
  own : Own wr w.heap.size 23 (.slice (some ⟨g, 0, none⟩) N N) N (Pt1 F i)
  qt : Qt w wr
theorem row_set (V : Nat → Value) (n j : Nat) (u : Value) : (row V n).set j u = row (fun i => if i = j then u else V i) n := by
  apply List.ext_getElem
  · simp [row_length]
  · intro i h1 h2
    rw [List.getElem_set, row_get, row_get]
    by_cases h : j = i
    · rw [if_pos h, if_pos h.symm]
    · rw [if_neg h, if_neg (fun e => h e.symm)]
theorem Rw.start (w : World) (N : Nat) (F : Mat) (hN : N < 100000) : (Instr.makeSlice 65 (.int .i64 N) (.int .i64 N)).run Tryd.prog w = .ok (.slice (some ⟨w.heap.size, 0, none⟩) N N) (w.alloc (.cells (madeCells #[.int .u64 0] N) 23)) ∧ Hid (Rw w (w.alloc (.cells (madeCells #[.int .u64 0] N) 23)) w.heap.size N F 0) := by
  obtain ⟨h1, h2⟩ := made 65 23 Tryd.t23 (.int .u64 0) 8 Tryd.underlying65 info23 zero23 size23 bytes23 rfl (by decide) N hN w w.heap.size (Nat.le_refl _)
  exact ⟨h1, h2.congr (fun i _ => by simp [Pt1]), Mv.alloc _ _ _⟩
theorem Rw.cell {w wr : World} {g N : Nat} {F : Mat} {i : Nat} (h : Rw w wr g N F i) {j : Nat} (hj : j < N) : wr.cell? ⟨g, j, none⟩ = some (Pt1 F i j) ∧ wr.frozen? ⟨g, j, none⟩ = false := h.own.at hj
theorem Rw.put {w wr : World} {g N : Nat} {F : Mat} {i : Nat} (h : Rw w wr g N F i) : Rw w (wr.setCell ⟨g, i, none⟩ (Ux F i)) g N F (i + 1) := by
  have hb := (h.own.blk g rfl).1
  refine ⟨?_, Mv.trans h.qt (Mv.setCell wr ⟨g, i, none⟩ _) (fun j hj e => by simp at e; omega)⟩
  have h1 := (World.ownsRow.stored h.own i (Ux F i)).1
  rw [row_set] at h1
  refine Own.congr h1 (fun r hr => ?_)
  unfold Pt1
  by_cases e : r = i
  · rw [if_pos e, e, if_pos (by omega)]
  · rw [if_neg e]
    by_cases h2 : r < i
    · rw [if_pos h2, if_pos (by omega)]
    · rw [if_neg h2, if_neg (by omega)]
theorem Rw.mv {w wr w' : World} {g N : Nat} {F : Mat} {i : Nat} (h : Rw w wr g N F i) (q : Qt wr w') : Rw w w' g N F i := ⟨Own.mv h.own q (fun _ _ h => h), h.qt.comp q⟩
theorem Rw.skip {w wr : World} {g N : Nat} {F : Mat} {i : Nat} (h : Rw w wr g N F i) (hz : limb (F i) 0 = 0) : Rw w wr g N F (i + 1) := by
  refine ⟨Own.congr h.own (fun r hr => ?_), h.qt⟩
  unfold Pt1
  by_cases h2 : r < i
  · rw [if_pos h2, if_pos (by omega)]
  · rw [if_neg h2]
    by_cases e : r = i
    · rw [if_pos (by omega), e]; unfold Ux; rw [hz]; rfl
    · rw [if_neg (by omega)]
theorem Rw.done {w wr : World} {g N : Nat} {F : Mat} (h : Rw w wr g N F N) : Own wr w.heap.size 23 (.slice (some ⟨g, 0, none⟩) N N) N (Ux F) :=
  Own.congr h.own (fun r hr => by unfold Pt1; rw [if_pos hr])
/-- What a function of rows tells. -/
def Tm (w : World) (N : Nat) (F : Mat) (e : Ending) (w' : World) : Prop := ∃ g, e = .returned (.slice (some ⟨g, 0, none⟩) N N) ∧ Hid (Own w' w.heap.size 23 (.slice (some ⟨g, 0, none⟩) N N) N (Ux F)) ∧ Hid (Qt w w')
theorem Sl.cellx {w : World} {a : Option Addr} {N : Nat} {f : Mat} (h : Sl w a N (Ux f)) {i : Nat} (hi : i < N) : ∃ b o, a = some ⟨b, o, none⟩ ∧ w.cell? ⟨b, o + i, none⟩ = some (.int .u64 (limb (f i) 0 : Int)) := by
  obtain ⟨b, o, e, _, hc⟩ := h i hi
  exact ⟨b, o, e, hc⟩

set_option maxHeartbeats 2000000 in
theorem orX_any (N : Nat) (f f2 : Mat) (a b : Option Addr) (c d : Nat) (w : World) (hN : N ≤ 61) (hf : Hid (Sl w a N (Ux f))) (hf2 : Hid (Sl w b N (Ux f2))) :
    Calls Tryd.prog 63 #[.slice a N c, .slice b N d] w fun e w' => Tm w N (orM f f2) e w' := by
  obtain ⟨hmk, B0⟩ := Rw.start w N (orM f f2) (by omega)
  have HN : Hid (N ≤ 61) := hN
  have hNi : (N : Int) ≤ 61 := by omega
  clear hN
  go_enter Tryd.func63, Tryd.ntmps63
  go_wp2_with fail
  obtain ⟨g, hg⟩ : ∃ g, g = w.heap.size := ⟨_, rfl⟩
  rw [← hg] at B0
  rw [← hg]
  clear hg hmk
  generalize w.alloc (.cells (madeCells #[.int .u64 0] N) 23) = W0 at *
  go_loopw [12] (fun s12 wr => ∃ i : Nat, i ≤ N ∧ s12 = .int .i64 i ∧ Hid (Rw w wr g N (orM f f2) i)) (fun s12 _ => N - (intOf s12).toNat)
  case atStart => exact ⟨0, by omega, rfl, B0⟩
  case round =>
    obtain ⟨i, hi, rfl, B⟩ := hrel
    by_cases hlt : i < N
    · obtain ⟨b1, o1, ha, k1⟩ := (hf.out.mv B.out.qt (fun _ _ h => h)).cellx hlt
      obtain ⟨b2, o2, hb, k2⟩ := (hf2.out.mv B.out.qt (fun _ _ h => h)).cellx hlt
      subst ha hb
      obtain ⟨k3, k4⟩ := B.out.cell hlt
      have BN : Hid _ := B.out.put
      have hor := bits_orL (f i) (f2 i)
      have hux : Ux (orM f f2) i = .int .u64 ((limb (fun b => f i b || f2 i b) 0 : Nat) : Int) := rfl
      rw [hux] at BN
      clear hux
      generalize Pt1 (orM f f2) i i = z0 at k3
      generalize limb (fun b => f i b || f2 i b) 0 = z at *
      generalize limb (f i) 0 = x at *
      generalize limb (f2 i) 0 = y at *
      go_wp2_with fail
      go_region
      go_wp2_with fail
      refine ⟨⟨i + 1, by omega, by go_num, ?_⟩, by simp [intOf]; omega⟩
      exact BN.out.mv (Mv.drewN (fun _ => False) _ 1)
    · obtain rfl : i = N := by omega
      go_wp2_with fail
      go_ret
      exact ⟨g, rfl, B.out.done, B.out.qt⟩

end Go.Proofs.YtkclkhfcmjhogaaDoor
