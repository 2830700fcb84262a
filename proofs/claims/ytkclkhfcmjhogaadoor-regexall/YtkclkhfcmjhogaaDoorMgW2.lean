/- The reference's tables of places: table, same. -/
import Derived.Test.YtkclkhfcmjhogaaDoorMgW1
import Derived.Test.YtkclkhfcmjhogaaDoorMgZ3
import Derived.BigRegion
namespace Go.Proofs.YtkclkhfcmjhogaaDoor
open Go.RowKit
set_option linter.unusedVariables false

theorem zero68 : Tryd.t68.zero = some (.slice none 0 0) := by kernel_rfl
theorem size68 : Tryd.t68.size = 1 := by kernel_rfl
theorem bytes68 : Tryd.t68.bytes = 24 := by kernel_rfl
theorem zero4 : Tryd.t4.zero = some (.bool false) := by kernel_rfl
theorem size4 : Tryd.t4.size = 1 := by kernel_rfl
theorem bytes4 : Tryd.t4.bytes = 1 := by kernel_rfl
theorem info68' : Tryd.prog.info? 68 = some Tryd.t68 := by kernel_rfl
theorem info4' : Tryd.prog.info? 4 = some Tryd.t4 := by kernel_rfl

abbrev tv (g N : Nat) : Value := .slice (some ⟨g, 0, none⟩) N N
/-- A table of bits: its rows lie one behind the other. -/
structure Tb (base : Nat) (W : World) (g N : Nat) (F : Mat) : Prop where
  lo : base ≤ g
  top : Own W base 68 (tv g N) N (fun i => tv (g + 1 + i) N)
  rows : ∀ i, i < N → Own W base 4 (tv (g + 1 + i) N) N (fun j => .bool (F i j))
theorem Own.less {w : World} {base base' n : Nat} {e : TypeId} {v : Value} {V : Nat → Value} (h : Own w base e v n V) (hb : base' ≤ base) : Own w base' e v n V :=
  ⟨h.1, h.2.elim .inl (fun ⟨g, cap, cur, h1, h2, h3⟩ => .inr ⟨g, cap, cur, h1, Nat.le_trans hb h2, h3⟩)⟩
theorem Tb.mv {X : Nat → Prop} {base : Nat} {W W' : World} {g N : Nat} {F : Mat} (h : Tb base W g N F) (m : Mv X W W') (hx : ∀ k, X k → k < g ∨ g + N < k) : Tb base W' g N F :=
  ⟨h.lo, h.top.mv m (fun k hk e => by cases hk; have h5 := hx _ e; dsimp only at h5; omega), fun i hi => (h.rows i hi).mv m (fun k hk e => by cases hk; have h5 := hx _ e; dsimp only at h5; omega)⟩
theorem Tb.congr {base : Nat} {W : World} {g N : Nat} {F G : Mat} (h : Tb base W g N F) (e : ∀ r c, r < N → c < N → F r c = G r c) : Tb base W g N G :=
  ⟨h.lo, h.top, fun i hi => (h.rows i hi).congr (fun j hj => by rw [e i j hi hj])⟩
theorem Tb.base {base base' : Nat} {W : World} {g N : Nat} {F : Mat} (h : Tb base W g N F) (hb : base' ≤ base) : Tb base' W g N F :=
  ⟨by have := h.lo; omega, h.top.less hb, fun i hi => (h.rows i hi).less hb⟩
theorem Tb.at {base : Nat} {W : World} {g N : Nat} {F : Mat} (h : Tb base W g N F) {i j : Nat} (hi : i < N) (hj : j < N) : W.cell? ⟨g, i, none⟩ = some (tv (g + 1 + i) N) ∧ W.cell? ⟨g + 1 + i, j, none⟩ = some (.bool (F i j)) ∧ W.frozen? ⟨g + 1 + i, j, none⟩ = false :=
  ⟨(h.top.at hi).1, ((h.rows i hi).at hj).1, ((h.rows i hi).at hj).2⟩
theorem Tb.set {base : Nat} {W : World} {g N : Nat} {F : Mat} (h : Tb base W g N F) {i j : Nat} (hi : i < N) (b : Bool) : Tb base (W.setCell ⟨g + 1 + i, j, none⟩ (.bool b)) g N (updM F i j b) := by
  have m := Mv.setCell W ⟨g + 1 + i, j, none⟩ (.bool b)
  refine ⟨h.lo, h.top.mv m (fun k hk e => by cases hk; simp at e; omega), fun r hr => ?_⟩
  by_cases e : r = i
  · subst e
    have h1 := (World.ownsRow.stored (h.rows r hr) j (.bool b)).1
    rw [row_set] at h1
    refine Own.congr h1 (fun c hc => ?_)
    unfold updM
    by_cases e2 : c = j
    · rw [if_pos e2, if_pos ⟨rfl, e2⟩]
    · rw [if_neg e2, if_neg (fun h => e2 h.2)]
  · refine Own.congr ((h.rows r hr).mv m (fun k hk e2 => by cases hk; simp at e2; omega)) (fun c hc => ?_)
    unfold updM
    rw [if_neg (fun h => e h.1)]
theorem Tb.lt {base : Nat} {W : World} {g N : Nat} {F : Mat} (h : Tb base W g N F) : g < W.heap.size ∧ ∀ i, i < N → g + 1 + i < W.heap.size :=
  ⟨(h.top.blk g rfl).2, fun i hi => ((h.rows i hi).blk _ rfl).2⟩
/-- What a function of tables tells. -/
def Tt (w : World) (N : Nat) (F : Mat) (e : Ending) (w' : World) : Prop := ∃ g, e = .returned (tv g N) ∧ Hid (Tb w.heap.size w' g N F) ∧ Hid (Qt w w')

/-- While a table is made. -/
structure Tp (w wr : World) (N i : Nat) : Prop where
  top : Own wr w.heap.size 68 (tv w.heap.size N) N (fun r => if r < i then tv (w.heap.size + 1 + r) N else .slice none 0 0)
  rows : ∀ r, r < i → Own wr w.heap.size 4 (tv (w.heap.size + 1 + r) N) N (fun j => .bool false)
  sz : wr.heap.size = w.heap.size + 1 + i
  qt : Qt w wr
theorem Tp.start (w : World) (N : Nat) (hN : N < 1000) : (Instr.makeSlice 69 (.int .i64 N) (.int .i64 N)).run Tryd.prog w = .ok (tv w.heap.size N) (w.alloc (.cells (madeCells #[.slice none 0 0] N) 68)) ∧ Hid (Tp w (w.alloc (.cells (madeCells #[.slice none 0 0] N) 68)) N 0) := by
  obtain ⟨h1, h2⟩ := made 69 68 Tryd.t68 (.slice none 0 0) 24 Tryd.underlying69 info68' zero68 size68 bytes68 rfl (by decide) N (by omega) w w.heap.size (Nat.le_refl _)
  exact ⟨h1, h2.congr (fun i _ => by simp), fun r hr => by omega, by simp, Mv.alloc _ _ _⟩
theorem Tp.next {w wr : World} {N i : Nat} (h : Tp w wr N i) (hi : i < N) (hN : N < 1000) : (Instr.makeSlice 68 (.int .i64 N) (.int .i64 N)).run Tryd.prog wr = .ok (tv wr.heap.size N) (wr.alloc (.cells (madeCells #[.bool false] N) 4)) ∧
    (wr.alloc (.cells (madeCells #[.bool false] N) 4)).cell? ⟨w.heap.size, i, none⟩ = some (.slice none 0 0) ∧ (wr.alloc (.cells (madeCells #[.bool false] N) 4)).frozen? ⟨w.heap.size, i, none⟩ = false ∧
    Hid (Tp w ((wr.alloc (.cells (madeCells #[.bool false] N) 4)).setCell ⟨w.heap.size, i, none⟩ (tv wr.heap.size N)) N (i + 1)) := by
  obtain ⟨h1, h2⟩ := made 68 4 Tryd.t4 (.bool false) 1 Tryd.underlying68 info4' zero4 size4 bytes4 rfl (by decide) N (by omega) wr w.heap.size h.qt.size
  have ma := Mv.alloc (fun _ => False) wr (.cells (madeCells #[.bool false] N) 4)
  have ms := Mv.setCell (wr.alloc (.cells (madeCells #[.bool false] N) 4)) ⟨w.heap.size, i, none⟩ (tv wr.heap.size N)
  have ht := h.top.mv ma (fun _ _ h => h)
  have hc := ht.at hi
  have hs := h.sz
  refine ⟨h1, by rw [hc.1, if_neg (by omega)], hc.2, ?_, ?_, ?_, Mv.trans h.qt (Mv.trans (S := fun k => k = w.heap.size) (Mv.alloc _ wr _) ms (fun j hj e => e)) (fun j hj e => ?_)⟩
  · have h3 := (World.ownsRow.stored ht i (tv wr.heap.size N)).1
    rw [row_set] at h3
    refine Own.congr h3 (fun r hr => ?_)
    by_cases e : r = i
    · rw [if_pos e, if_pos (by omega), e, hs]
    · rw [if_neg e]
      by_cases h4 : r < i
      · rw [if_pos h4, if_pos (by omega)]
      · rw [if_neg h4, if_neg (by omega)]
  · intro r hr
    by_cases e : r = i
    · subst e
      rw [← hs]
      exact h2.mv ms (fun k hk e => by cases hk; simp at e; omega)
    · exact ((h.rows r (by omega)).mv ma (fun _ _ h => h)).mv ms (fun k hk e => by cases hk; simp at e; omega)
  · simp [World.setCell, hs]; omega
  · exact Nat.lt_irrefl _ (e ▸ hj)
theorem Tp.done {w wr : World} {N : Nat} (h : Tp w wr N N) : Tt w N (fun _ _ => false) (.returned (tv w.heap.size N)) wr :=
  ⟨w.heap.size, rfl, ⟨Nat.le_refl _, h.top.congr (fun i hi => by rw [if_pos hi]), h.rows⟩, h.qt⟩

set_option maxHeartbeats 2000000 in
theorem rtable_any (N : Nat) (w : World) (hN : N < 1000) : Calls Tryd.prog 66 #[.int .i64 N] w fun e w' => Tt w N (fun _ _ => false) e w' := by
  obtain ⟨hmk, B0⟩ := Tp.start w N hN
  have HN : Hid (N < 1000) := hN
  have hNi : (N : Int) < 1000 := by omega
  clear hN
  go_enter Tryd.func66, Tryd.ntmps66
  go_wp2_with fail
  obtain ⟨g, hg⟩ : ∃ g, g = w.heap.size := ⟨_, rfl⟩
  rw [← hg]
  have HG : Hid (g = w.heap.size) := hg
  clear hg hmk
  generalize w.alloc (.cells (madeCells #[.slice none 0 0] N) 68) = W0 at *
  go_loopw [4] (fun s4 wr => ∃ i : Nat, i ≤ N ∧ s4 = .int .i64 i ∧ Hid (Tp w wr N i)) (fun s4 _ => N - (intOf s4).toNat)
  case atStart => exact ⟨0, by omega, rfl, B0⟩
  case round =>
    obtain ⟨i, hi, rfl, B⟩ := hrel
    by_cases hlt : i < N
    · obtain ⟨hm, k1, k2, BN⟩ := B.out.next hlt HN.out
      rw [← HG.out] at k1 k2 BN
      go_wp2_with fail
      refine ⟨⟨i + 1, by omega, by go_num, BN⟩, by simp [intOf]; omega⟩
    · obtain rfl : i = N := by omega
      go_wp2_with fail
      go_ret
      rw [HG.out]
      exact B.out.done

/-- While the places themselves are put in. -/
structure Tq (w wr : World) (g N : Nat) (F : Mat) : Prop where
  tb : Tb w.heap.size wr g N F
  qt : Qt w wr
theorem Tq.put {w wr : World} {g N : Nat} {F G : Mat} (h : Tq w wr g N F) {i j : Nat} (hi : i < N) (b : Bool) (e : ∀ r c, r < N → c < N → updM F i j b r c = G r c) : Tq w (wr.setCell ⟨g + 1 + i, j, none⟩ (.bool b)) g N G :=
  ⟨(h.tb.set hi b).congr e, Mv.trans h.qt (Mv.setCell wr _ _) (fun k hk e => by have := h.tb.lo; simp at e; omega)⟩
theorem Tq.congr {w wr : World} {g N : Nat} {F G : Mat} (h : Tq w wr g N F) (e : ∀ r c, r < N → c < N → F r c = G r c) : Tq w wr g N G := ⟨h.tb.congr e, h.qt⟩
theorem Tq.drew {w wr : World} {g N : Nat} {F : Mat} (h : Tq w wr g N F) (k : Nat) : Tq w (wr.drewN k) g N F := ⟨h.tb.mv (Mv.drewN (fun _ => False) wr k) (fun _ h => h.elim), Mv.trans h.qt (Mv.drewN (fun _ => False) wr k) (fun _ _ h => h)⟩
theorem Tq.tell {w wr : World} {g N : Nat} {F : Mat} (h : Tq w wr g N F) : Tt w N F (.returned (tv g N)) wr := ⟨g, rfl, h.tb, h.qt⟩

set_option maxHeartbeats 2000000 in
theorem rsame_any (N : Nat) (w : World) (hN : N < 1000) : Calls Tryd.prog 68 #[.int .i64 N] w fun e w' => Tt w N idM e w' := by
  have ht := rtable_any N w hN
  have hNi : (N : Int) < 1000 := by omega
  clear hN
  go_enter Tryd.func68, Tryd.ntmps68
  go_wp2_with fail
  refine ht.mono ?_
  rintro e1 w1 ⟨g, rfl, T1, q1⟩
  have B0 : Hid (Tq w w1 g N (pdM (fun _ _ => false) 0)) := ⟨T1.out.congr (fun r c _ _ => by rw [pdM_start]), q1.out⟩
  clear ht T1 q1
  go_wp2_with fail
  go_loopw [4] (fun s4 wr => ∃ i : Nat, i ≤ N ∧ s4 = .int .i64 i ∧ Hid (Tq w wr g N (pdM (fun _ _ => false) i))) (fun s4 _ => N - (intOf s4).toNat)
  case atStart => exact ⟨0, by omega, rfl, B0⟩
  case round =>
    obtain ⟨i, hi, rfl, B⟩ := hrel
    by_cases hlt : i < N
    · obtain ⟨k0, k1, k2⟩ := B.out.tb.at hlt hlt
      have BN : Hid (Tq w _ g N (pdM (fun _ _ => false) (i + 1))) := B.out.put hlt true (fun r c _ _ => pdM_put _ i r c)
      go_wp2_with fail
      refine ⟨⟨i + 1, by omega, by go_num, BN⟩, by simp [intOf]; omega⟩
    · obtain rfl : i = N := by omega
      have BN : Hid (Tq w wr g i idM) := B.out.congr (fun r c hr _ => by rw [pdM_done hr]; rfl)
      go_wp2_with fail
      go_ret
      exact BN.out.tell

end Go.Proofs.YtkclkhfcmjhogaaDoor

namespace Go.Proofs.YtkclkhfcmjhogaaDoor
open Go.RowKit
set_option linter.unusedVariables false

set_option maxRecDepth 20000 in
set_option maxHeartbeats 8000000 in
theorem rbehind_any (N : Nat) (a b : Mat) (ga gb base : Nat) (w : World) (hN : N < 1000) (ha : Fwd N a) (hb : Fwd N b) (TA : Hid (Tb base w ga N a)) (TB : Hid (Tb base w gb N b)) : Calls Tryd.prog 69 #[tv ga N, tv gb N] w fun e w' => Tt w N (thenM N a b) e w' := by
  have ht := rtable_any N w hN
  have hNi : (N : Int) < 1000 := by omega
  have HA : Hid (Fwd N a) := ha
  have HB : Hid (Fwd N b) := hb
  clear hN ha hb
  go_enter Tryd.func69, Tryd.ntmps69
  go_wp2_with fail
  refine ht.mono ?_
  rintro e1 w1 ⟨g, rfl, T1, q1⟩
  have B0 : Hid (Tq w w1 g N (pbM N a b 0 0 0)) := ⟨T1.out.congr (fun r c _ _ => by rw [pbM_start]), q1.out⟩
  clear ht T1 q1
  go_wp2_with fail
  go_loopw [6, 7, 8] (fun s6 s7 s8 wr => ∃ i : Nat, i ≤ N ∧ s6 = .int .i64 i ∧ Hid (Tq w wr g N (pbM N a b i i i))) (fun s6 _ _ _ => N - (intOf s6).toNat)
  case atStart => exact ⟨0, by omega, rfl, B0⟩
  case round =>
    clear B0
    obtain ⟨i, hi, rfl, B⟩ := hrel
    by_cases hlt : i < N
    · have HI : Hid (i < N) := hlt
      go_wp2_with fail
      go_loopw [7, 8] (fun s7 s8 wr => ∃ j : Nat, i ≤ j ∧ j ≤ N ∧ s7 = .int .i64 j ∧ Hid (Tq w wr g N (pbM N a b i j j))) (fun s7 _ _ => N - (intOf s7).toNat)
      case atStart => exact ⟨i, by omega, by omega, rfl, B⟩
      case round =>
        clear B
        obtain ⟨j, hij, hj, rfl, B⟩ := hrel
        by_cases hjl : j < N
        · go_wp2_with fail
          go_loopw [8] (fun s8 wr => ∃ k : Nat, j ≤ k ∧ k ≤ N ∧ s8 = .int .i64 k ∧ Hid (Tq w wr g N (pbM N a b i j k))) (fun s8 _ => N - (intOf s8).toNat)
          case atStart => exact ⟨j, by omega, by omega, rfl, B⟩
          case round =>
            clear B
            obtain ⟨k, hjk, hk, rfl, B⟩ := hrel
            by_cases hkl : k < N
            · obtain ⟨a0, a1, _⟩ := (TA.out.mv B.out.qt (fun _ h => h.elim)).at hlt hjl
              cases hab : a i j with
              | true =>
                rw [hab] at a1
                obtain ⟨b0, b1, _⟩ := (TB.out.mv B.out.qt (fun _ h => h.elim)).at hjl hkl
                obtain ⟨t0, t1, t2⟩ := B.out.tb.at hlt hkl
                have BN : Hid (Tq w _ g N (pbM N a b i j (k + 1))) := B.out.put hlt (pbM N a b i j k i k || b j k) (fun r c _ _ => pbM_put N a b i j k r c hab)
                generalize b j k = y at *
                cases hz : pbM N a b i j k i k with
                | true =>
                  rw [hz] at t1 BN
                  rw [Bool.true_or] at BN
                  clear hz hab
                  go_wp2_with fail
                  go_region
                  go_wp2_with fail
                  exact ⟨⟨k + 1, by omega, by omega, by go_num, BN.out.drew 1⟩, by simp [intOf]; omega⟩
                | false =>
                  rw [hz] at t1 BN
                  rw [Bool.false_or] at BN
                  clear hz hab
                  go_wp2_with fail
                  go_region
                  go_wp2_with fail
                  exact ⟨⟨k + 1, by omega, by omega, by go_num, BN.out.drew 1⟩, by simp [intOf]; omega⟩
              | false =>
                rw [hab] at a1
                have BN : Hid (Tq w wr g N (pbM N a b i (j + 1) (j + 1))) := B.out.congr (fun r c _ hc => pbM_next HB.out (.inr hab) hc)
                clear hab
                go_wp2_with fail
                go_roundw
                case rel => exact ⟨j + 1, by omega, by omega, by go_num, BN⟩
                case measure => simp [intOf]; omega
            · obtain rfl : k = N := by omega
              have BN : Hid (Tq w wr g k (pbM k a b i (j + 1) (j + 1))) := B.out.congr (fun r c _ hc => pbM_next HB.out (.inl (Nat.le_refl _)) hc)
              have hkf : decide ((k : Int) < (k : Int)) = false := by simp
              go_wp2_with fail
              go_roundw
              case rel => exact ⟨j + 1, by omega, by omega, by go_num, BN⟩
              case measure => simp [intOf]; omega
        · obtain rfl : j = N := by omega
          have BN : Hid (Tq w wr g j (pbM j a b (i + 1) (i + 1) (i + 1))) := B.out.congr (fun r c _ hc => pbM_row (k := 0) HA.out HB.out HI.out)
          go_wp2_with fail
          go_roundw
          case rel => exact ⟨i + 1, by omega, by go_num, BN⟩
          case measure => simp [intOf]; omega
    · obtain rfl : i = N := by omega
      have BN : Hid (Tq w wr g i (thenM i a b)) := B.out.congr (fun r c hr _ => pbM_done hr)
      go_wp2_with fail
      go_ret
      exact BN.out.tell

end Go.Proofs.YtkclkhfcmjhogaaDoor
