/- Rows of places: then, one byte of a set, nothing. -/
import Derived.Test.YtkclkhfcmjhogaaDoorMgZ2
import Derived.Deep.Onto
namespace Go.Proofs.YtkclkhfcmjhogaaDoor
open Go.RowKit
set_option linter.unusedVariables false

set_option maxHeartbeats 2000000 in
theorem thenX_any (N : Nat) (f f2 : Mat) (a b : Option Addr) (c d : Nat) (w : World) (hN : N ≤ 61) (hF : Fwd N f) (hf : Hid (Sl w a N (Ux f))) (hf2 : Hid (Sl w b N (Ux f2))) (hT : Hid (Tab w)) :
    Calls Tryd.prog 62 #[.slice a N c, .slice b N d] w fun e w' => Tm w N (thenM N f f2) e w' := by
  obtain ⟨hmk, B0⟩ := Rw.start w N (thenM N f f2) (by omega)
  have HN : Hid (N ≤ 61) := hN
  have HFW : Hid (Fwd N f) := hF
  have hNi : (N : Int) ≤ 61 := by omega
  clear hN hF
  go_enter Tryd.func62, Tryd.ntmps62
  go_wp2_with fail
  obtain ⟨g, hg⟩ : ∃ g, g = w.heap.size := ⟨_, rfl⟩
  rw [← hg] at B0
  rw [← hg]
  clear hg hmk
  generalize w.alloc (.cells (madeCells #[.int .u64 0] N) 23) = W0 at *
  go_loopw [12] (fun s12 wr => ∃ i : Nat, i ≤ N ∧ s12 = .int .i64 i ∧ Hid (Rw w wr g N (thenM N f f2) i)) (fun s12 _ => N - (intOf s12).toNat)
  case atStart => exact ⟨0, by omega, rfl, B0⟩
  case round =>
    obtain ⟨i, hi, rfl, B⟩ := hrel
    by_cases hlt : i < N
    · obtain ⟨b1, o1, ha, k1⟩ := (hf.out.mv B.out.qt (fun _ _ h => h)).cellx hlt
      subst ha
      obtain ⟨k3, k4⟩ := B.out.cell hlt
      have hends := ends_any N f2 (f i) b d wr HN.out (fun k hk => (HFW.out i k hk).2 hlt) (hf2.out.mv B.out.qt (fun _ _ h => h)) (hT.out.qt B.out.qt)
      have BN : Hid _ := B.out.put
      have hux : Ux (thenM N f f2) i = .int .u64 ((limb (endsP N f2 (f i)) 0 : Nat) : Int) := rfl
      rw [hux] at BN
      clear hux
      generalize Pt1 (thenM N f f2) i i = z0 at k3
      generalize limb (endsP N f2 (f i)) 0 = z at *
      generalize limb (f i) 0 = x at *
      go_wp2_with fail
      refine hends.mono ?_
      rintro e1 w1 ⟨rfl, hw1⟩
      obtain rfl := hw1.symm
      go_wp2_with fail
      refine ⟨⟨i + 1, by omega, by go_num, BN⟩, by simp [intOf]; omega⟩
    · obtain rfl : i = N := by omega
      go_wp2_with fail
      go_ret
      exact ⟨g, rfl, B.out.done, B.out.qt⟩

theorem limb_single (k : Nat) (hk : k < 64) : limb (fun j => j == k) 0 = 2 ^ k := by
  have := limb_one 0 k hk
  simpa using this
theorem shl_one (k : Nat) (hk : k < 64) : IntKind.u64.wrap (2 ^ k) = ((limb (fun j => j == k) 0 : Nat) : Int) := by
  rw [limb_single k hk, IntKind.wrap_u64]
  have h : 2 ^ k < 2 ^ 64 := Nat.pow_lt_pow_right (by omega) hk
  have h2 : ((2 ^ k : Nat) : Int) = (2 : Int) ^ k := by push_cast; rfl
  rw [← h2]
  generalize 2 ^ k = x at *
  have : (2 : Nat) ^ 64 = 18446744073709551616 := rfl
  omega
set_option maxHeartbeats 2000000 in
theorem nothing_any (a : Option Addr) (n c : Nat) (w : World) (hn : n ≤ 60) : Calls Tryd.prog 65 #[.slice a n c] w fun e w' => Tm w (n + 1) idM e w' := by
  obtain ⟨hmk, B0⟩ := Rw.start w (n + 1) idM (by omega)
  have HN : Hid (n ≤ 60) := hn
  have hNi : (n : Int) ≤ 60 := by omega
  rw [show ((n + 1 : Nat) : Int) = (n : Int) + 1 from by omega] at hmk
  clear hn
  go_enter Tryd.func65, Tryd.ntmps65
  go_wp2_with fail
  obtain ⟨g, hg⟩ : ∃ g, g = w.heap.size := ⟨_, rfl⟩
  rw [← hg] at B0
  rw [← hg]
  clear hg hmk
  generalize w.alloc (.cells (madeCells #[.int .u64 0] (n + 1)) 23) = W0 at *
  go_loopw [11] (fun s11 wr => ∃ i : Nat, i ≤ n + 1 ∧ s11 = .int .i64 i ∧ Hid (Rw w wr g (n + 1) idM i)) (fun s11 _ => n + 1 - (intOf s11).toNat)
  case atStart => exact ⟨0, by omega, rfl, B0⟩
  case round =>
    obtain ⟨i, hi, rfl, B⟩ := hrel
    by_cases hlt : i < n + 1
    · obtain ⟨k3, k4⟩ := B.out.cell hlt
      have BN : Hid _ := B.out.put
      have hux : Ux idM i = .int .u64 ((limb (fun j => j == i) 0 : Nat) : Int) := rfl
      rw [hux] at BN
      have hsh := shl_one i (by omega)
      have hl1 : (i : Int) < (n : Int) + 1 := by omega
      clear hux
      generalize Pt1 idM i i = z0 at k3
      generalize limb (fun j => j == i) 0 = z at *
      go_wp2_with fail
      refine ⟨⟨i + 1, by omega, by go_num, BN⟩, by simp [intOf]; omega⟩
    · obtain rfl : i = n + 1 := by omega
      have hl2 : ¬ ((n : Int) + 1) < (n : Int) + 1 := by omega
      go_wp2_with fail
      go_ret
      exact ⟨g, rfl, B.out.done, B.out.qt⟩


set_option maxHeartbeats 2000000 in
theorem setX_any (p : Nat → Bool) (bt : Nat → Nat) (a : Option Addr) (n c : Nat) (w : World) (hn : n ≤ 60) (hb : ∀ i, i < n → bt i < 256) (hw : Hid (Sl w a n (Bn bt))) : Calls Tryd.prog 61 #[.agg #[.int .u64 (limb p 0), .int .u64 (limb p 1), .int .u64 (limb p 2), .int .u64 (limb p 3)], .slice a n c] w fun e w' => Tm w (n + 1) (setM p bt n) e w' := by
  have qa := Mv.alloc (fun _ => False) w (.cells #[.int .u64 (limb p 0), .int .u64 (limb p 1), .int .u64 (limb p 2), .int .u64 (limb p 3)] 25)
  obtain ⟨hmk, B1⟩ := Rw.start (w.alloc (.cells #[.int .u64 (limb p 0), .int .u64 (limb p 1), .int .u64 (limb p 2), .int .u64 (limb p 3)] 25)) (n + 1) (setM p bt n) (by omega)
  have hset : (w.alloc (.cells #[.int .u64 (limb p 0), .int .u64 (limb p 1), .int .u64 (limb p 2), .int .u64 (limb p 3)] 25)).heap[w.heap.size]? = some (.cells #[.int .u64 (limb p 0), .int .u64 (limb p 1), .int .u64 (limb p 2), .int .u64 (limb p 3)] 25 (0, 0)) := heap_alloc_new w _
  have HSET : Hid _ := hset
  have HN : Hid (n ≤ 60) := hn
  have HB : Hid (∀ i, i < n → bt i < 256) := hb
  have hNi : (n : Int) ≤ 60 := by omega
  rw [show ((n + 1 : Nat) : Int) = (n : Int) + 1 from by omega] at hmk
  have QA : Hid (Qt w (w.alloc (.cells #[.int .u64 (limb p 0), .int .u64 (limb p 1), .int .u64 (limb p 2), .int .u64 (limb p 3)] 25))) := qa
  have hh := fun b hb W => has_any p b hb W
  rw [sv_cells] at hh
  clear hn hb qa hset
  go_enter Tryd.func61, Tryd.ntmps61
  go_wp2_with fail
  obtain ⟨V, hV⟩ : ∃ V, V = w.alloc (.cells #[.int .u64 (limb p 0), .int .u64 (limb p 1), .int .u64 (limb p 2), .int .u64 (limb p 3)] 25) := ⟨_, rfl⟩
  rw [← hV] at B1 QA HSET
  have HG : Hid (V.heap.size = w.heap.size + 1) := by show _ = _; rw [hV]; simp
  rw [← hV]
  obtain ⟨g, hg⟩ : ∃ g, g = w.heap.size + 1 := ⟨_, rfl⟩
  rw [HG.out, ← hg] at B1
  rw [← hg]
  clear hmk hV hg
  generalize V.alloc (.cells (madeCells #[.int .u64 0] (n + 1)) 23) = W0 at *
  go_loopw [14] (fun s14 wr => ∃ i : Nat, i ≤ n ∧ s14 = .int .i64 i ∧ Hid (Rw V wr g (n + 1) (setM p bt n) i)) (fun s14 _ => n - (intOf s14).toNat)
  case atStart => exact ⟨0, by omega, rfl, B1⟩
  case round =>
    obtain ⟨i, hi, rfl, B⟩ := hrel
    by_cases hlt : i < n
    · obtain ⟨k3, k4⟩ := B.out.cell (j := i) (by omega)
      obtain ⟨b1, o1, ha, _, hcell⟩ := (hw.out.mv (QA.out.comp B.out.qt) (fun _ _ h => h)) i hlt
      subst ha
      have hb256 := HB.out i hlt
      have k1 : wr.cell? ⟨b1, o1 + i, none⟩ = some (.int .u8 (bt i : Int)) := hcell
      have hset2 := (B.out.qt.block _ (Array.getElem?_eq_some_iff.1 HSET.out).1 (fun h => h)).trans HSET.out
      have s0 : wr.cell? ⟨w.heap.size, 0, none⟩ = some (.int .u64 (limb p 0)) := by simp only [World.cell?, hset2]; rfl
      have s1 : wr.cell? ⟨w.heap.size, 1, none⟩ = some (.int .u64 (limb p 1)) := by simp only [World.cell?, hset2]; rfl
      have s2 : wr.cell? ⟨w.heap.size, 2, none⟩ = some (.int .u64 (limb p 2)) := by simp only [World.cell?, hset2]; rfl
      have s3 : wr.cell? ⟨w.heap.size, 3, none⟩ = some (.int .u64 (limb p 3)) := by simp only [World.cell?, hset2]; rfl
      have hhas := hh (bt i) hb256 wr
      have hl1 : (i : Int) < (n : Int) + 1 := by omega
      generalize hbi : bt i = bb at *
      cases hp : p bb with
      | true =>
        rw [hp] at hhas
        have BN : Hid (∀ w', Qt wr w' → Rw V (w'.setCell ⟨g, i, none⟩ (.int .u64 ((limb (fun j => j == i + 1) 0 : Nat) : Int))) g (n + 1) (setM p bt n) (i + 1)) := by
          intro w' q
          have h := (B.out.mv q).put
          have hux : Ux (setM p bt n) i = .int .u64 ((limb (fun j => j == i + 1) 0 : Nat) : Int) := by
            unfold Ux setM
            rw [hbi, hp, decide_eq_true hlt]
            simp
          rw [hux] at h
          exact h
        have hsh := shl_one (i + 1) (by omega)
        have HC : Hid _ := B.out.cell (j := i) (by omega)
        have HQ3 : Hid (∀ w', Qt wr w' → w'.cell? ⟨g, i, none⟩ = some (Pt1 (setM p bt n) i i) ∧ w'.frozen? ⟨g, i, none⟩ = false) := fun w' q => (B.out.mv q).cell (j := i) (by omega)
        clear hset2 hcell hbi hp HC
        go_wp2_with fail
        refine hhas.mono ?_
        rintro e1 w1 ⟨rfl, q1⟩
        obtain ⟨k5, k6⟩ := HQ3.out w1 q1.out
        have BN2 : Hid _ := BN.out w1 q1.out
        generalize Pt1 (setM p bt n) i i = z0 at *
        generalize limb (fun j => j == i + 1) 0 = z at *
        clear k3 k4 s0 s1 s2 s3 hhas
        go_wp2_with fail
        refine ⟨⟨i + 1, by omega, by go_num, BN2⟩, by simp [intOf]; omega⟩
      | false =>
        rw [hp] at hhas
        have BN : Hid (∀ w', Qt wr w' → Rw V w' g (n + 1) (setM p bt n) (i + 1)) := by
          intro w' q
          refine (B.out.mv q).skip ?_
          rw [limb_zero]
          intro k _
          unfold setM
          rw [hbi, hp]; simp
        clear hset2 hcell hbi hp
        go_wp2_with fail
        refine hhas.mono ?_
        rintro e1 w1 ⟨rfl, q1⟩
        clear k3 k4 s0 s1 s2 s3 hhas
        go_wp2_with fail
        refine ⟨⟨i + 1, by omega, by go_num, BN.out w1 q1.out⟩, by simp [intOf]; omega⟩
    · obtain rfl : i = n := by omega
      have BN : Hid (Rw V wr g (i + 1) (setM p bt i) (i + 1)) := B.out.skip (by rw [limb_zero]; intro k _; unfold setM; simp)
      go_wp2_with fail
      go_ret
      exact ⟨g, rfl, World.ownsRow.mono BN.out.done (by rw [HG.out]; omega), QA.out.comp B.out.qt⟩

end Go.Proofs.YtkclkhfcmjhogaaDoor

namespace Go.Proofs.YtkclkhfcmjhogaaDoor
open Go.RowKit
set_option linter.unusedVariables false

/-- The rows from i on. -/
def fromM (S : Mat) (i : Nat) : Mat := fun r j => decide (i ≤ r) && S r j
/-- While a row of places is filled from its end. -/
structure Rb (w wr : World) (g N : Nat) (S : Mat) (i : Nat) : Prop where
  own : Own wr w.heap.size 23 (.slice (some ⟨g, 0, none⟩) N N) N (Ux (fromM S i))
  qt : Qt w wr
theorem limb_congr0 {p q : Nat → Bool} (h : ∀ k, p k = q k) : limb p 0 = limb q 0 := by rw [show p = q from funext h]
theorem Rb.start (w : World) (N : Nat) (S : Mat) (hN : N < 100000) : (Instr.makeSlice 65 (.int .i64 N) (.int .i64 N)).run Tryd.prog w = .ok (.slice (some ⟨w.heap.size, 0, none⟩) N N) (w.alloc (.cells (madeCells #[.int .u64 0] N) 23)) ∧ Hid (Rb w (w.alloc (.cells (madeCells #[.int .u64 0] N) 23)) w.heap.size N S N) := by
  obtain ⟨h1, h2⟩ := made 65 23 Tryd.t23 (.int .u64 0) 8 Tryd.underlying65 info23 zero23 size23 bytes23 rfl (by decide) N hN w w.heap.size (Nat.le_refl _)
  refine ⟨h1, h2.congr (fun r hr => ?_), Mv.alloc _ _ _⟩
  unfold Ux
  rw [limb_congr0 (q := fun _ => false) (fun k => by unfold fromM; rw [decide_eq_false (by omega)]; rfl), limb_none]
  rfl
theorem Rb.put {w wr : World} {g N : Nat} {S : Mat} {i : Nat} (h : Rb w wr g N S (i + 1)) : Rb w (wr.setCell ⟨g, i, none⟩ (Ux S i)) g N S i := by
  have hb := (h.own.blk g rfl).1
  refine ⟨?_, Mv.trans h.qt (Mv.setCell wr ⟨g, i, none⟩ _) (fun j hj e => by simp at e; omega)⟩
  have h1 := (World.ownsRow.stored h.own i (Ux S i)).1
  rw [row_set] at h1
  refine Own.congr h1 (fun r hr => ?_)
  by_cases e : r = i
  · rw [if_pos e, e]
    unfold Ux
    rw [limb_congr0 (p := fromM S i i) (q := S i) (fun k => by unfold fromM; rw [decide_eq_true (Nat.le_refl _)]; rfl)]
  · rw [if_neg e]
    unfold Ux
    rw [limb_congr0 (p := fromM S (i + 1) r) (q := fromM S i r) (fun k => by
      unfold fromM
      by_cases h2 : i + 1 ≤ r
      · rw [decide_eq_true h2, decide_eq_true (show i ≤ r by omega)]
      · rw [decide_eq_false h2, decide_eq_false (show ¬ i ≤ r by omega)])]
theorem Rb.done {w wr : World} {g N : Nat} {S : Mat} (h : Rb w wr g N S 0) : Own wr w.heap.size 23 (.slice (some ⟨g, 0, none⟩) N N) N (Ux S) :=
  Own.congr h.own (fun r hr => by
    unfold Ux
    rw [limb_congr0 (p := fromM S 0 r) (q := S r) (fun k => by unfold fromM; rw [decide_eq_true (Nat.zero_le _)]; rfl)])
/-- One row of a star, out of those behind it. -/
theorem star_row {N : Nat} {f : Mat} (hf : Fwd N f) {i : Nat} (hi : i < N) : limb (fun j => (j == i) || endsP N (fromM (starM N f) (i + 1)) (fun k => f i k && !(k == i)) j) 0 = limb (starM N f i) 0 := by
  refine limb_congr0 (fun j => ?_)
  rw [starM_step hf hi]
  congr 1
  unfold endsP
  rw [Bool.eq_iff_iff, any_range, any_range]
  constructor
  · rintro ⟨k, h1, h2⟩
    unfold fromM at h2
    simp only [Bool.and_eq_true] at h2 ⊢
    exact ⟨k, h1, h2.1, h2.2.2⟩
  · rintro ⟨k, h1, h2⟩
    unfold fromM
    simp only [Bool.and_eq_true, Bool.not_eq_true', beq_eq_false_iff_ne, decide_eq_true_eq] at h2 ⊢
    have := (hf i k h2.1.1).1
    exact ⟨k, h1, h2.1, by omega, h2.2⟩
theorem bits_not1 (P : Nat → Bool) (i : Nat) (hi : i < 64) : bits .andNot .u64 (limb P 0 : Int) ((limb (fun j => j == i) 0 : Nat) : Int) = ((limb (fun k => P k && !(k == i)) 0 : Nat) : Int) := by
  have h := u64_andNot_nat (limb P 0) (limb (fun j => j == i) 0) (limb_lt _ _) (limb_lt _ _)
  rw [limb_not, limb_and] at h
  exact h

set_option maxHeartbeats 2000000 in
theorem againX_any (N : Nat) (f : Mat) (a : Option Addr) (c : Nat) (w : World) (hN : N ≤ 61) (hF : Fwd N f) (hf : Hid (Sl w a N (Ux f))) (hT : Hid (Tab w)) :
    Calls Tryd.prog 64 #[.slice a N c] w fun e w' => Tm w N (starM N f) e w' := by
  obtain ⟨hmk, B0⟩ := Rb.start w N (starM N f) (by omega)
  have HN : Hid (N ≤ 61) := hN
  have HFW : Hid (Fwd N f) := hF
  have hNi : (N : Int) ≤ 61 := by omega
  clear hN hF
  go_enter Tryd.func64, Tryd.ntmps64
  go_wp2_with fail
  obtain ⟨g, hg⟩ : ∃ g, g = w.heap.size := ⟨_, rfl⟩
  rw [← hg] at B0
  rw [← hg]
  clear hg hmk
  generalize w.alloc (.cells (madeCells #[.int .u64 0] N) 23) = W0 at *
  go_loopw [4] (fun s4 wr => ∃ i : Nat, i ≤ N ∧ s4 = .int .i64 ((i : Int) - 1) ∧ Hid (Rb w wr g N (starM N f) i)) (fun s4 _ => (intOf s4 + 1).toNat)
  case atStart => exact ⟨N, by omega, rfl, B0⟩
  case round =>
    obtain ⟨i, hi, rfl, B⟩ := hrel
    cases i with
    | zero =>
      go_wp2_with fail
      go_ret
      exact ⟨g, rfl, B.out.done, B.out.qt⟩
    | succ i =>
      obtain ⟨b1, o1, ha, k1⟩ := (hf.out.mv B.out.qt (fun _ _ h => h)).cellx (i := i) (by omega)
      subst ha
      obtain ⟨k3, k4⟩ := B.out.own.at (i := i) (by omega)
      have hends := ends_any N (fromM (starM N f) (i + 1)) (fun k => f i k && !(k == i)) (some ⟨g, 0, none⟩) N wr HN.out (fun k hk => (HFW.out i k (by simp at hk; exact hk.1)).2 (by omega)) (by
        obtain ⟨a3, c3, h3, h4, _⟩ := B.out.own.sl
        cases h3
        exact h4) (hT.out.qt B.out.qt)
      have BN : Hid _ := B.out.put
      have hst := star_row HFW.out (i := i) (by omega)
      have hux : Ux (starM N f) i = .int .u64 ((limb (fun j => (j == i) || endsP N (fromM (starM N f) (i + 1)) (fun k => f i k && !(k == i)) j) 0 : Nat) : Int) := by unfold Ux; rw [hst]
      rw [hux] at BN
      have hor := bits_orL (fun j => j == i) (endsP N (fromM (starM N f) (i + 1)) (fun k => f i k && !(k == i)))
      have han := bits_not1 (f i) i (by have := HN.out; omega)
      have hsh := shl_one i (by have := HN.out; omega)
      have hii : ((i + 1 : Nat) : Int) - 1 = (i : Int) := by omega
      rw [hii]
      clear hux hst
      generalize Ux (fromM (starM N f) (i + 1)) i = z0 at k3
      generalize limb (fun j => (j == i) || endsP N (fromM (starM N f) (i + 1)) (fun k => f i k && !(k == i)) j) 0 = z at *
      generalize limb (endsP N (fromM (starM N f) (i + 1)) (fun k => f i k && !(k == i))) 0 = y at *
      generalize limb (fun k => f i k && !(k == i)) 0 = x2 at *
      generalize limb (fun j => j == i) 0 = h0 at *
      generalize limb (f i) 0 = x at *
      go_wp2_with fail
      refine hends.mono ?_
      rintro e1 w1 ⟨rfl, hw1⟩
      obtain rfl := hw1.symm
      go_wp2_with fail
      refine ⟨⟨i, by omega, by go_num, BN⟩, by simp [intOf]⟩

end Go.Proofs.YtkclkhfcmjhogaaDoor
