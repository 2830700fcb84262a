/- The reference's tables of places: table, same. -/
import Derived.Test.YtojbakkbmfgoaaaDoorMg17
import Derived.Test.YtojbakkbmfgoaaaDoorMsZ3
import Derived.BigRegion
import Derived.Deep.Onto
import Derived.Test.YtojbakkbmfgoaaaDoorMg10
import Derived.Deep.RegionWith
import Derived.Test.YtojbakkbmfgoaaaDoorMg09
import Derived.Test.YtojbakkbmfgoaaaDoorMsC3
namespace Go.Proofs.YtojbakkbmfgoaaaDoor
open Go.RowKit
set_option linter.unusedVariables false

theorem zero68 : Tryd.t71.zero = some (.slice none 0 0) := by kernel_rfl
theorem size68 : Tryd.t71.size = 1 := by kernel_rfl
theorem bytes68 : Tryd.t71.bytes = 24 := by kernel_rfl
theorem zero4 : Tryd.t4.zero = some (.bool false) := by kernel_rfl
theorem size4 : Tryd.t4.size = 1 := by kernel_rfl
theorem bytes4 : Tryd.t4.bytes = 1 := by kernel_rfl
theorem info68' : Tryd.prog.info? 71 = some Tryd.t71 := by kernel_rfl
theorem info4' : Tryd.prog.info? 4 = some Tryd.t4 := by kernel_rfl

abbrev tv (g N : Nat) : Value := .slice (some ⟨g, 0, none⟩) N N
/-- A table of bits: its rows lie one behind the other. -/
structure Tb (base : Nat) (W : World) (g N : Nat) (F : Mat) : Prop where
  lo : base ≤ g
  top : Own W base 71 (tv g N) N (fun i => tv (g + 1 + i) N)
  rows : ∀ i, i < N → Own W base 4 (tv (g + 1 + i) N) N (fun j => .bool (F i j))
theorem Own.less {w : World} {base base' n : Nat} {e : TypeId} {v : Value} {V : Nat → Value} (h : Own w base e v n V) (hb : base' ≤ base) : Own w base' e v n V :=
  ⟨h.1, h.2.elim .inl (fun ⟨g, cap, cur, h1, h2, h3⟩ => .inr ⟨g, cap, cur, h1, Nat.le_trans hb h2, h3⟩)⟩
theorem Tb.mv {X : Nat → Prop} {base : Nat} {W W' : World} {g N : Nat} {F : Mat} (h : Tb base W g N F) (m : Mv X W W') (hx : ∀ k, X k → k < g ∨ g + N < k) : Tb base W' g N F :=
  ⟨h.lo, h.top.mv m (fun k hk e => by cases hk; have h5 := hx _ e; dsimp only at h5; omega), fun i hi => (h.rows i hi).mv m (fun k hk e => by cases hk; have h5 := hx _ e; dsimp only at h5; omega)⟩
theorem Tb.congr {base : Nat} {W : World} {g N : Nat} {F G : Mat} (h : Tb base W g N F) (e : ∀ r c, r < N → c < N → F r c = G r c) : Tb base W g N G :=
  ⟨h.lo, h.top, fun i hi => (h.rows i hi).congr (fun j hj => by rw [e i j hi hj])⟩
theorem Tb.base {base base' : Nat} {W : World} {g N : Nat} {F : Mat} (h : Tb base W g N F) (hb : base' ≤ base) : Tb base' W g N F :=
  ⟨by have := h.lo; omega, h.top.less hb, fun i hi => (h.rows i hi).less hb⟩
theorem Tb.at {base : Nat} {W : World} {g N : Nat} {F : Mat} (h : Tb base W g N F) {i j : Nat} (hi : i < N) (hj : j < N) : W.cell? ⟨g, i, none⟩ = some (tv (g + 1 + i) N) ∧ W.cell? ⟨g + 1 + i, j, none⟩ = some (.bool (F i j)) ∧ W.frozen? ⟨g + 1 + i, j, none⟩ = false :=
  ⟨(h.top.at hi).1, ((h.rows i hi).at hj).1, ((h.rows i hi).at hj).2⟩
theorem Tb.set {base : Nat} {W : World} {g N : Nat} {F : Mat} (h : Tb base W g N F) {i j : Nat} (hi : i < N) (b : Bool) : Tb base (W.setCell ⟨g + 1 + i, j, none⟩ (.bool b)) g N (updM F i j b) := by
  have m := Mv.setCell W ⟨g + 1 + i, j, none⟩ (.bool b)
  refine ⟨h.lo, h.top.mv m (fun k hk e => by cases hk; simp at e; omega), fun r hr => ?_⟩
  by_cases e : r = i
  · subst e
    have h1 := (World.ownsRow.stored (h.rows r hr) j (.bool b)).1
    rw [row_set] at h1
    refine Own.congr h1 (fun c hc => ?_)
    unfold updM
    by_cases e2 : c = j
    · rw [if_pos e2, if_pos ⟨rfl, e2⟩]
    · rw [if_neg e2, if_neg (fun h => e2 h.2)]
  · refine Own.congr ((h.rows r hr).mv m (fun k hk e2 => by cases hk; simp at e2; omega)) (fun c hc => ?_)
    unfold updM
    rw [if_neg (fun h => e h.1)]
theorem Tb.lt {base : Nat} {W : World} {g N : Nat} {F : Mat} (h : Tb base W g N F) : g < W.heap.size ∧ ∀ i, i < N → g + 1 + i < W.heap.size :=
  ⟨(h.top.blk g rfl).2, fun i hi => ((h.rows i hi).blk _ rfl).2⟩
/-- What a function of tables tells. -/
def Tt (w : World) (N : Nat) (F : Mat) (e : Ending) (w' : World) : Prop := ∃ g, e = .returned (tv g N) ∧ Hid (Tb w.heap.size w' g N F) ∧ Hid (Qt w w')

/-- While a table is made. -/
structure Tp (w wr : World) (N i : Nat) : Prop where
  top : Own wr w.heap.size 71 (tv w.heap.size N) N (fun r => if r < i then tv (w.heap.size + 1 + r) N else .slice none 0 0)
  rows : ∀ r, r < i → Own wr w.heap.size 4 (tv (w.heap.size + 1 + r) N) N (fun j => .bool false)
  sz : wr.heap.size = w.heap.size + 1 + i
  qt : Qt w wr
theorem Tp.start (w : World) (N : Nat) (hN : N < 1000) : (Instr.makeSlice 72 (.int .i64 N) (.int .i64 N)).run Tryd.prog w = .ok (tv w.heap.size N) (w.alloc (.cells (madeCells #[.slice none 0 0] N) 71)) ∧ Hid (Tp w (w.alloc (.cells (madeCells #[.slice none 0 0] N) 71)) N 0) := by
  obtain ⟨h1, h2⟩ := made 72 71 Tryd.t71 (.slice none 0 0) 24 Tryd.underlying72 info68' zero68 size68 bytes68 rfl (by decide) N (by omega) w w.heap.size (Nat.le_refl _)
  exact ⟨h1, h2.congr (fun i _ => by simp), fun r hr => by omega, by simp, Mv.alloc _ _ _⟩
theorem Tp.next {w wr : World} {N i : Nat} (h : Tp w wr N i) (hi : i < N) (hN : N < 1000) : (Instr.makeSlice 71 (.int .i64 N) (.int .i64 N)).run Tryd.prog wr = .ok (tv wr.heap.size N) (wr.alloc (.cells (madeCells #[.bool false] N) 4)) ∧
    (wr.alloc (.cells (madeCells #[.bool false] N) 4)).cell? ⟨w.heap.size, i, none⟩ = some (.slice none 0 0) ∧ (wr.alloc (.cells (madeCells #[.bool false] N) 4)).frozen? ⟨w.heap.size, i, none⟩ = false ∧
    Hid (Tp w ((wr.alloc (.cells (madeCells #[.bool false] N) 4)).setCell ⟨w.heap.size, i, none⟩ (tv wr.heap.size N)) N (i + 1)) := by
  obtain ⟨h1, h2⟩ := made 71 4 Tryd.t4 (.bool false) 1 Tryd.underlying71 info4' zero4 size4 bytes4 rfl (by decide) N (by omega) wr w.heap.size h.qt.size
  have ma := Mv.alloc (fun _ => False) wr (.cells (madeCells #[.bool false] N) 4)
  have ms := Mv.setCell (wr.alloc (.cells (madeCells #[.bool false] N) 4)) ⟨w.heap.size, i, none⟩ (tv wr.heap.size N)
  have ht := h.top.mv ma (fun _ _ h => h)
  have hc := ht.at hi
  have hs := h.sz
  refine ⟨h1, by rw [hc.1, if_neg (by omega)], hc.2, ?_, ?_, ?_, Mv.trans h.qt (Mv.trans (S := fun k => k = w.heap.size) (Mv.alloc _ wr _) ms (fun j hj e => e)) (fun j hj e => ?_)⟩
  · have h3 := (World.ownsRow.stored ht i (tv wr.heap.size N)).1
    rw [row_set] at h3
    refine Own.congr h3 (fun r hr => ?_)
    by_cases e : r = i
    · rw [if_pos e, if_pos (by omega), e, hs]
    · rw [if_neg e]
      by_cases h4 : r < i
      · rw [if_pos h4, if_pos (by omega)]
      · rw [if_neg h4, if_neg (by omega)]
  · intro r hr
    by_cases e : r = i
    · subst e
      rw [← hs]
      exact h2.mv ms (fun k hk e => by cases hk; simp at e; omega)
    · exact ((h.rows r (by omega)).mv ma (fun _ _ h => h)).mv ms (fun k hk e => by cases hk; simp at e; omega)
  · simp [World.setCell, hs]; omega
  · exact Nat.lt_irrefl _ (e ▸ hj)
theorem Tp.done {w wr : World} {N : Nat} (h : Tp w wr N N) : Tt w N (fun _ _ => false) (.returned (tv w.heap.size N)) wr :=
  ⟨w.heap.size, rfl, ⟨Nat.le_refl _, h.top.congr (fun i hi => by rw [if_pos hi]), h.rows⟩, h.qt⟩

set_option maxHeartbeats 2000000 in
theorem rtable_any (N : Nat) (w : World) (hN : N < 1000) : Calls Tryd.prog 42 #[.int .i64 N] w fun e w' => Tt w N (fun _ _ => false) e w' := by
  obtain ⟨hmk, B0⟩ := Tp.start w N hN
  have HN : Hid (N < 1000) := hN
  have hNi : (N : Int) < 1000 := by omega
  clear hN
  go_enter Tryd.func42, Tryd.ntmps42
  go_wp2_with fail
  obtain ⟨g, hg⟩ : ∃ g, g = w.heap.size := ⟨_, rfl⟩
  rw [← hg]
  have HG : Hid (g = w.heap.size) := hg
  clear hg hmk
  generalize w.alloc (.cells (madeCells #[.slice none 0 0] N) 71) = W0 at *
  go_loopw [4] (fun s4 wr => ∃ i : Nat, i ≤ N ∧ s4 = .int .i64 i ∧ Hid (Tp w wr N i)) (fun s4 _ => N - (intOf s4).toNat)
  case atStart => exact ⟨0, by omega, rfl, B0⟩
  case round =>
    obtain ⟨i, hi, rfl, B⟩ := hrel
    by_cases hlt : i < N
    · obtain ⟨hm, k1, k2, BN⟩ := B.out.next hlt HN.out
      rw [← HG.out] at k1 k2 BN
      go_wp2_with fail
      refine ⟨⟨i + 1, by omega, by go_num, BN⟩, by simp [intOf]; omega⟩
    · obtain rfl : i = N := by omega
      go_wp2_with fail
      go_ret
      rw [HG.out]
      exact B.out.done

/-- While the places themselves are put in. -/
structure Tq (w wr : World) (g N : Nat) (F : Mat) : Prop where
  tb : Tb w.heap.size wr g N F
  qt : Qt w wr
theorem Tq.put {w wr : World} {g N : Nat} {F G : Mat} (h : Tq w wr g N F) {i j : Nat} (hi : i < N) (b : Bool) (e : ∀ r c, r < N → c < N → updM F i j b r c = G r c) : Tq w (wr.setCell ⟨g + 1 + i, j, none⟩ (.bool b)) g N G :=
  ⟨(h.tb.set hi b).congr e, Mv.trans h.qt (Mv.setCell wr _ _) (fun k hk e => by have := h.tb.lo; simp at e; omega)⟩
theorem Tq.congr {w wr : World} {g N : Nat} {F G : Mat} (h : Tq w wr g N F) (e : ∀ r c, r < N → c < N → F r c = G r c) : Tq w wr g N G := ⟨h.tb.congr e, h.qt⟩
theorem Tq.drew {w wr : World} {g N : Nat} {F : Mat} (h : Tq w wr g N F) (k : Nat) : Tq w (wr.drewN k) g N F := ⟨h.tb.mv (Mv.drewN (fun _ => False) wr k) (fun _ h => h.elim), Mv.trans h.qt (Mv.drewN (fun _ => False) wr k) (fun _ _ h => h)⟩
theorem Tq.tell {w wr : World} {g N : Nat} {F : Mat} (h : Tq w wr g N F) : Tt w N F (.returned (tv g N)) wr := ⟨g, rfl, h.tb, h.qt⟩

set_option maxHeartbeats 2000000 in
theorem rsame_any (N : Nat) (w : World) (hN : N < 1000) : Calls Tryd.prog 43 #[.int .i64 N] w fun e w' => Tt w N idM e w' := by
  have ht := rtable_any N w hN
  have hNi : (N : Int) < 1000 := by omega
  clear hN
  go_enter Tryd.func43, Tryd.ntmps43
  go_wp2_with fail
  refine ht.mono ?_
  rintro e1 w1 ⟨g, rfl, T1, q1⟩
  have B0 : Hid (Tq w w1 g N (pdM (fun _ _ => false) 0)) := ⟨T1.out.congr (fun r c _ _ => by rw [pdM_start]), q1.out⟩
  clear ht T1 q1
  go_wp2_with fail
  go_loopw [4] (fun s4 wr => ∃ i : Nat, i ≤ N ∧ s4 = .int .i64 i ∧ Hid (Tq w wr g N (pdM (fun _ _ => false) i))) (fun s4 _ => N - (intOf s4).toNat)
  case atStart => exact ⟨0, by omega, rfl, B0⟩
  case round =>
    obtain ⟨i, hi, rfl, B⟩ := hrel
    by_cases hlt : i < N
    · obtain ⟨k0, k1, k2⟩ := B.out.tb.at hlt hlt
      have BN : Hid (Tq w _ g N (pdM (fun _ _ => false) (i + 1))) := B.out.put hlt true (fun r c _ _ => pdM_put _ i r c)
      go_wp2_with fail
      refine ⟨⟨i + 1, by omega, by go_num, BN⟩, by simp [intOf]; omega⟩
    · obtain rfl : i = N := by omega
      have BN : Hid (Tq w wr g i idM) := B.out.congr (fun r c hr _ => by rw [pdM_done hr]; rfl)
      go_wp2_with fail
      go_ret
      exact BN.out.tell

end Go.Proofs.YtojbakkbmfgoaaaDoor

namespace Go.Proofs.YtojbakkbmfgoaaaDoor
open Go.RowKit
set_option linter.unusedVariables false

set_option maxRecDepth 20000 in
set_option maxHeartbeats 8000000 in
theorem rbehind_any (N : Nat) (a b : Mat) (ga gb base : Nat) (w : World) (hN : N < 1000) (ha : Fwd N a) (hb : Fwd N b) (TA : Hid (Tb base w ga N a)) (TB : Hid (Tb base w gb N b)) : Calls Tryd.prog 44 #[tv ga N, tv gb N] w fun e w' => Tt w N (thenM N a b) e w' := by
  have ht := rtable_any N w hN
  have hNi : (N : Int) < 1000 := by omega
  have HA : Hid (Fwd N a) := ha
  have HB : Hid (Fwd N b) := hb
  clear hN ha hb
  go_enter Tryd.func44, Tryd.ntmps44
  go_wp2_with fail
  refine ht.mono ?_
  rintro e1 w1 ⟨g, rfl, T1, q1⟩
  have B0 : Hid (Tq w w1 g N (pbM N a b 0 0 0)) := ⟨T1.out.congr (fun r c _ _ => by rw [pbM_start]), q1.out⟩
  clear ht T1 q1
  go_wp2_with fail
  go_loopw [6, 7, 8] (fun s6 s7 s8 wr => ∃ i : Nat, i ≤ N ∧ s6 = .int .i64 i ∧ Hid (Tq w wr g N (pbM N a b i i i))) (fun s6 _ _ _ => N - (intOf s6).toNat)
  case atStart => exact ⟨0, by omega, rfl, B0⟩
  case round =>
    clear B0
    obtain ⟨i, hi, rfl, B⟩ := hrel
    by_cases hlt : i < N
    · have HI : Hid (i < N) := hlt
      go_wp2_with fail
      go_loopw [7, 8] (fun s7 s8 wr => ∃ j : Nat, i ≤ j ∧ j ≤ N ∧ s7 = .int .i64 j ∧ Hid (Tq w wr g N (pbM N a b i j j))) (fun s7 _ _ => N - (intOf s7).toNat)
      case atStart => exact ⟨i, by omega, by omega, rfl, B⟩
      case round =>
        clear B
        obtain ⟨j, hij, hj, rfl, B⟩ := hrel
        by_cases hjl : j < N
        · go_wp2_with fail
          go_loopw [8] (fun s8 wr => ∃ k : Nat, j ≤ k ∧ k ≤ N ∧ s8 = .int .i64 k ∧ Hid (Tq w wr g N (pbM N a b i j k))) (fun s8 _ => N - (intOf s8).toNat)
          case atStart => exact ⟨j, by omega, by omega, rfl, B⟩
          case round =>
            clear B
            obtain ⟨k, hjk, hk, rfl, B⟩ := hrel
            by_cases hkl : k < N
            · obtain ⟨a0, a1, _⟩ := (TA.out.mv B.out.qt (fun _ h => h.elim)).at hlt hjl
              cases hab : a i j with
              | true =>
                rw [hab] at a1
                obtain ⟨b0, b1, _⟩ := (TB.out.mv B.out.qt (fun _ h => h.elim)).at hjl hkl
                obtain ⟨t0, t1, t2⟩ := B.out.tb.at hlt hkl
                have BN : Hid (Tq w _ g N (pbM N a b i j (k + 1))) := B.out.put hlt (pbM N a b i j k i k || b j k) (fun r c _ _ => pbM_put N a b i j k r c hab)
                generalize b j k = y at *
                cases hz : pbM N a b i j k i k with
                | true =>
                  rw [hz] at t1 BN
                  rw [Bool.true_or] at BN
                  clear hz hab
                  go_wp2_with fail
                  go_region
                  go_wp2_with fail
                  exact ⟨⟨k + 1, by omega, by omega, by go_num, BN.out.drew 1⟩, by simp [intOf]; omega⟩
                | false =>
                  rw [hz] at t1 BN
                  rw [Bool.false_or] at BN
                  clear hz hab
                  go_wp2_with fail
                  go_region
                  go_wp2_with fail
                  exact ⟨⟨k + 1, by omega, by omega, by go_num, BN.out.drew 1⟩, by simp [intOf]; omega⟩
              | false =>
                rw [hab] at a1
                have BN : Hid (Tq w wr g N (pbM N a b i (j + 1) (j + 1))) := B.out.congr (fun r c _ hc => pbM_next HB.out (.inr hab) hc)
                clear hab
                go_wp2_with fail
                go_roundw
                case rel => exact ⟨j + 1, by omega, by omega, by go_num, BN⟩
                case measure => simp [intOf]; omega
            · obtain rfl : k = N := by omega
              have BN : Hid (Tq w wr g k (pbM k a b i (j + 1) (j + 1))) := B.out.congr (fun r c _ hc => pbM_next HB.out (.inl (Nat.le_refl _)) hc)
              have hkf : decide ((k : Int) < (k : Int)) = false := by simp
              go_wp2_with fail
              go_roundw
              case rel => exact ⟨j + 1, by omega, by omega, by go_num, BN⟩
              case measure => simp [intOf]; omega
        · obtain rfl : j = N := by omega
          have BN : Hid (Tq w wr g j (pbM j a b (i + 1) (i + 1) (i + 1))) := B.out.congr (fun r c _ hc => pbM_row (k := 0) HA.out HB.out HI.out)
          go_wp2_with fail
          go_roundw
          case rel => exact ⟨i + 1, by omega, by go_num, BN⟩
          case measure => simp [intOf]; omega
    · obtain rfl : i = N := by omega
      have BN : Hid (Tq w wr g i (thenM i a b)) := B.out.congr (fun r c hr _ => pbM_done hr)
      go_wp2_with fail
      go_ret
      exact BN.out.tell

end Go.Proofs.YtojbakkbmfgoaaaDoor

namespace Go.Proofs.YtojbakkbmfgoaaaDoor
open Go.RowKit
set_option linter.unusedVariables false

theorem Tt.up {w W w' : World} {N : Nat} {F : Mat} {e : Ending} (h : Tt W N F e w') (q : Qt w W) : Tt w N F e w' := by
  obtain ⟨g, h1, h2, h3⟩ := h
  exact ⟨g, h1, h2.out.base q.size, q.comp h3.out⟩
theorem Tq.qt2 {w wr w' : World} {g N : Nat} {F : Mat} (h : Hid (Tq w wr g N F)) (q : Hid (Qt wr w')) : Hid (Tq w w' g N F) := ⟨h.out.tb.mv q.out (fun _ h => h.elim), h.out.qt.comp q.out⟩
/-- What spans tells of x. -/
def SpR (bt : Nat → Nat) (n : Nat) (x : RX) : Prop := ∀ (K : Nat → Prop) (a wa : Option Addr) (c wc : Nat) (w : World), Parts x.args K w a c → Hid (Sl w wa n (Bn bt)) → x.formed = true → Calls Tryd.prog 28 #[.agg #[.int .i64 x.kind, .int .u64 (limb x.set 0), .int .u64 (limb x.set 1), .int .u64 (limb x.set 2), .int .u64 (limb x.set 3), .slice a x.args.length c], .slice wa n wc] w fun e w' => Tt w (n + 1) (x.mt bt n) e w'

set_option maxRecDepth 20000 in
set_option maxHeartbeats 4000000 in
theorem rspans_set (bt : Nat → Nat) (n : Nat) (hn : n ≤ 60) (hb : ∀ i, i < n → bt i < 256) (p : Nat → Bool) (a wa : Option Addr) (m c wc : Nat) (w : World) (hw : Hid (Sl w wa n (Bn bt))) :
    Calls Tryd.prog 28 #[.agg #[.int .i64 1, .int .u64 (limb p 0), .int .u64 (limb p 1), .int .u64 (limb p 2), .int .u64 (limb p 3), .slice a m c], .slice wa n wc] w fun e w' => Tt w (n + 1) (setM p bt n) e w' := by
  have PB : Hid (B6 w.heap.size (.int .i64 1) (.int .u64 (limb p 0)) (.int .u64 (limb p 1)) (.int .u64 (limb p 2)) (.int .u64 (limb p 3)) (.slice a m c) (w.alloc (.cells #[.int .i64 1, .int .u64 (limb p 0), .int .u64 (limb p 1), .int .u64 (limb p 2), .int .u64 (limb p 3), .slice a m c] 29))) := heap_alloc_new w _
  have QA : Hid (Qt w (w.alloc (.cells #[.int .i64 1, .int .u64 (limb p 0), .int .u64 (limb p 1), .int .u64 (limb p 2), .int .u64 (limb p 3), .slice a m c] 29))) := Mv.alloc _ _ _
  have ht := rtable_any (n + 1) (w.alloc (.cells #[.int .i64 1, .int .u64 (limb p 0), .int .u64 (limb p 1), .int .u64 (limb p 2), .int .u64 (limb p 3), .slice a m c] 29)) (by omega)
  rw [show ((n + 1 : Nat) : Int) = (n : Int) + 1 from by omega] at ht
  have HB : Hid (∀ i, i < n → bt i < 256) := hb
  have hni : (n : Int) ≤ 60 := by omega
  clear hn hb
  go_enter Tryd.func28, Tryd.ntmps28
  go_wp2_with fail
  generalize w.alloc (.cells #[.int .i64 1, .int .u64 (limb p 0), .int .u64 (limb p 1), .int .u64 (limb p 2), .int .u64 (limb p 3), .slice a m c] 29) = W1 at *
  refine ht.mono ?_
  rintro e2 w2 ⟨g, rfl, T2, q2⟩
  have B0 : Hid (Tq W1 w2 g (n + 1) (pcM p bt 0)) := ⟨T2.out.congr (fun r c _ _ => by rw [pcM_start]), q2.out⟩
  have PB2 := B6.mv PB.out q2.out (fun h => h)
  obtain ⟨b0, b1, b2, b3, b4, b5, _⟩ := B6.facts PB2
  clear ht T2 q2
  go_wp2_with fail
  clear b0 b1 b2 b3 b4 b5 PB2
  go_loopw [7] (fun s7 wr => ∃ i : Nat, i ≤ n ∧ s7 = .int .i64 i ∧ Hid (Tq W1 wr g (n + 1) (pcM p bt i))) (fun s7 _ => n - (intOf s7).toNat)
  case atStart => exact ⟨0, by omega, rfl, B0⟩
  case round =>
    clear B0
    obtain ⟨i, hi, rfl, B⟩ := hrel
    by_cases hlt : i < n
    · have HI : Hid (i < n) := hlt
      obtain ⟨b0, b1, b2, b3, b4, b5, _⟩ := B6.facts (B6.mv PB.out B.out.qt (fun h => h))
      obtain ⟨wb, wo, hwa, _, hc⟩ := (hw.out.mv (QA.out.comp B.out.qt) (fun _ _ h => h)) i hlt
      subst hwa
      obtain ⟨k0, k1, k2⟩ := B.out.tb.at (i := i) (j := i + 1) (by omega) (by omega)
      have hhas := fun W => rhas_any p (bt i) (HB.out i hlt) W
      rw [show (Bn bt i) = .int .u8 (bt i : Int) from rfl] at hc
      have BN : Hid (∀ W, Hid (Tq W1 W g (n + 1) (pcM p bt i)) → Hid (Tq W1 (W.setCell ⟨g + 1 + i, i + 1, none⟩ (.bool (p (bt i)))) g (n + 1) (pcM p bt (i + 1)))) := fun W h => h.out.put (by have := HI.out; omega) (p (bt i)) (fun r c _ _ => pcM_put p bt i r c)
      have h2 : (i : Int) + 1 < (n : Int) + 1 := by omega
      generalize bt i = bi at *
      go_wp2_with fail
      go_region_with ((first
        | (go_at_call 13; refine (hhas _).mono ?_; rintro e8 w8 ⟨rfl, q8⟩; have B8 := Tq.qt2 (Tq.qt2 B (show Hid (Qt wr wr.drew) from Mv.drewN _ wr 1)) q8; obtain ⟨m0, m1, m2⟩ := B8.out.tb.at (i := i) (j := i + 1) (by omega) (by omega))))
      all_goals go_wp2_with fail
      all_goals exact ⟨⟨i + 1, by omega, by go_num, BN.out _ B8⟩, by simp [intOf]; omega⟩
    · obtain rfl : i = n := by omega
      have h2 : ¬ (i : Int) + 1 < (i : Int) + 1 := by omega
      go_wp2_with fail
      go_ret
      exact B.out.tell.up QA.out

end Go.Proofs.YtojbakkbmfgoaaaDoor

namespace Go.Proofs.YtojbakkbmfgoaaaDoor
open Go.RowKit
set_option linter.unusedVariables false

/-- So many of a row, one behind the other. -/
def ctM (bt : Nat → Nat) (n : Nat) (l : List RX) (i : Nat) : Mat := ((l.take i).map (RX.mt bt n)).foldl (thenM (n + 1)) idM
theorem ctM_next {bt : Nat → Nat} {n : Nat} {l : List RX} {i : Nat} {y : RX} (h : l[i]? = some y) : thenM (n + 1) (ctM bt n l i) (y.mt bt n) = ctM bt n l (i + 1) := by
  unfold ctM
  rw [List.take_add_one, h]
  simp
theorem ctM_fwd (bt : Nat → Nat) (n : Nat) (l : List RX) (i : Nat) : Fwd (n + 1) (ctM bt n l i) := by
  unfold ctM
  refine foldl_fwd (fun a b ha hb => thenM_fwd ha hb) _ _ (idM_fwd _) (fun m hm => ?_)
  obtain ⟨y, _, rfl⟩ := List.mem_map.1 hm
  exact mt_fwd bt n y
theorem ctM_done (bt : Nat → Nat) (n : Nat) (x : RX) (l : List RX) {r c : Nat} (hr : r < n + 1) (hc : c < n + 1) : ctM bt n (x :: l) (x :: l).length r c = mtK (n + 1) 2 ((x :: l).map (RX.mt bt n)) r c := by
  unfold ctM
  rw [List.take_length, List.map_cons, List.foldl_cons, mtK, if_pos rfl]
  exact foldl_then _ _ _ (fun r c hr _ => idM_then hr) r c hr hc

set_option maxRecDepth 20000 in
set_option maxHeartbeats 4000000 in
theorem rspans_cat (bt : Nat → Nat) (n : Nat) (hn : n ≤ 60) (p : Nat → Bool) (l : List RX) (hl : l.length < 100000) (hx : ∀ y ∈ l, SpR bt n y ∧ y.formed = true) (K : Nat → Prop) (a wa : Option Addr) (c wc : Nat) (w : World) (hp : Parts l K w a c) (hw : Hid (Sl w wa n (Bn bt))) :
    Calls Tryd.prog 28 #[.agg #[.int .i64 2, .int .u64 (limb p 0), .int .u64 (limb p 1), .int .u64 (limb p 2), .int .u64 (limb p 3), .slice a l.length c], .slice wa n wc] w fun e w' => Tt w (n + 1) (ctM bt n l l.length) e w' := by
  have PB : Hid (B6 w.heap.size (.int .i64 2) (.int .u64 (limb p 0)) (.int .u64 (limb p 1)) (.int .u64 (limb p 2)) (.int .u64 (limb p 3)) (.slice a l.length c) (w.alloc (.cells #[.int .i64 2, .int .u64 (limb p 0), .int .u64 (limb p 1), .int .u64 (limb p 2), .int .u64 (limb p 3), .slice a l.length c] 29))) := heap_alloc_new w _
  have QA : Hid (Qt w (w.alloc (.cells #[.int .i64 2, .int .u64 (limb p 0), .int .u64 (limb p 1), .int .u64 (limb p 2), .int .u64 (limb p 3), .slice a l.length c] 29))) := Mv.alloc _ _ _
  have HP : Hid (Parts l K (w.alloc (.cells #[.int .i64 2, .int .u64 (limb p 0), .int .u64 (limb p 1), .int .u64 (limb p 2), .int .u64 (limb p 3), .slice a l.length c] 29)) a c) := hp.mv (Mv.alloc (fun _ => False) _ _) (fun _ _ h => h)
  have HWA : Hid (Sl (w.alloc (.cells #[.int .i64 2, .int .u64 (limb p 0), .int .u64 (limb p 1), .int .u64 (limb p 2), .int .u64 (limb p 3), .slice a l.length c] 29)) wa n (Bn bt)) := hw.out.mv QA.out (fun _ _ h => h)
  have ht := rtable_any (n + 1) (w.alloc (.cells #[.int .i64 2, .int .u64 (limb p 0), .int .u64 (limb p 1), .int .u64 (limb p 2), .int .u64 (limb p 3), .slice a l.length c] 29)) (by omega)
  rw [show ((n + 1 : Nat) : Int) = (n : Int) + 1 from by omega] at ht
  have hs : ∀ W, Calls Tryd.prog 43 #[.int .i64 ((n : Int) + 1)] W fun e w' => Tt W (n + 1) idM e w' := fun W => by
    have h := rsame_any (n + 1) W (by omega)
    rwa [show ((n + 1 : Nat) : Int) = (n : Int) + 1 from by omega] at h
  have HX : Hid (∀ y ∈ l, SpR bt n y ∧ y.formed = true) := hx
  have HN : Hid (n ≤ 60) := hn
  have hni : (n : Int) ≤ 60 := by omega
  have hlen : l.length < 100000 := hl
  clear hn hp hx hl
  generalize limb p 0 = y0 at *
  generalize limb p 1 = y1 at *
  generalize limb p 2 = y2 at *
  generalize limb p 3 = y3 at *
  go_enter Tryd.func28, Tryd.ntmps28
  go_wp2_with fail
  generalize w.alloc (.cells #[.int .i64 2, .int .u64 y0, .int .u64 y1, .int .u64 y2, .int .u64 y3, .slice a l.length c] 29) = W1 at *
  refine ht.mono ?_
  rintro e2 w2 ⟨g0, rfl, T2, q2⟩
  have PB2 := B6.mv PB.out q2.out (fun h => h)
  obtain ⟨b0, b1, b2, b3, b4, b5, _⟩ := B6.facts PB2
  clear ht T2
  go_wp2_with fail
  refine (hs _).mono ?_
  rintro e3 w3 ⟨g, rfl, T3, q3⟩
  have B0 : Hid (Tq W1 w3 g (n + 1) (ctM bt n l 0)) := ⟨(T3.out.base q2.out.size), q2.out.comp q3.out⟩
  clear hs T3 b0 b1 b2 b3 b4 b5
  go_wp2_with fail
  go_loopw [6, 12] (fun s6 s12 wr => ∃ (i g : Nat), i ≤ l.length ∧ s12 = .int .i64 i ∧ s6 = tv g (n + 1) ∧ Hid (Tq W1 wr g (n + 1) (ctM bt n l i))) (fun _ s12 _ => l.length - (intOf s12).toNat)
  case atStart => exact ⟨0, g, by omega, rfl, rfl, B0⟩
  case round =>
    clear B0
    obtain ⟨i, g4, hi, rfl, hs6, B⟩ := hrel
    subst hs6
    obtain ⟨b0, b1, b2, b3, b4, b5, _⟩ := B6.facts (B6.mv PB.out B.out.qt (fun h => h))
    by_cases hlt : i < l.length
    · obtain ⟨y, hy⟩ : ∃ y, l[i]? = some y := ⟨_, List.getElem?_eq_getElem hlt⟩
      have hmem : y ∈ l := List.mem_of_getElem? hy
      obtain ⟨b', o', a2, c2, hab, hp2, r0, r1, r2, r3, r4, r5⟩ := (HP.out.mv B.out.qt (fun _ _ h => h)).at (i := i) (x := y) hy
      subst hab
      have hsp := (HX.out y hmem).1 K a2 wa c2 wc _ hp2 (show Hid _ from HWA.out.mv B.out.qt (fun _ _ h => h)) (HX.out y hmem).2
      have HS : Hid _ := ctM_next (bt := bt) (n := n) hy
      clear hy hp2 hmem
      go_wp2_with fail
      refine hsp.mono ?_
      rintro e5 w5 ⟨g5, rfl, T5, q5⟩
      have hbe := rbehind_any (n + 1) (ctM bt n l i) (y.mt bt n) g4 g5 W1.heap.size w5 (by have := HN.out; omega) (ctM_fwd bt n l i) (mt_fwd bt n y) (show Hid _ from B.out.tb.mv q5.out (fun _ h => h.elim)) (show Hid _ from T5.out.base B.out.qt.size)
      rw [HS.out] at hbe
      clear hsp T5 b0 b1 b2 b3 b4 b5 r0 r1 r2 r3 r4 r5
      go_wp2_with fail
      refine hbe.mono ?_
      rintro e6 w6 ⟨g6, rfl, T6, q6⟩
      have BN : Hid (Tq W1 w6 g6 (n + 1) (ctM bt n l (i + 1))) := ⟨T6.out.base (B.out.qt.comp q5.out).size, (B.out.qt.comp q5.out).comp q6.out⟩
      clear hbe T6
      go_wp2_with fail
      exact ⟨⟨i + 1, g6, by omega, by go_num, rfl, BN⟩, by simp [intOf]; omega⟩
    · have HE : Hid (i = l.length) := (by omega : i = l.length)
      have h2 : ¬ (i : Int) < (l.length : Int) := by omega
      have BN : Hid (Tq W1 wr g4 (n + 1) (ctM bt n l l.length)) := by rw [← HE.out]; exact B
      clear B
      go_wp2_with fail
      go_ret
      exact BN.out.tell.up QA.out

end Go.Proofs.YtojbakkbmfgoaaaDoor

namespace Go.Proofs.YtojbakkbmfgoaaaDoor
open Go.RowKit
set_option linter.unusedVariables false

/-- Two tables: one is turned, the other is read. -/
structure Two (W wr : World) (gt N : Nat) (F : Mat) (gx : Nat) (X : Mat) : Prop where
  t : Tq W wr gt N F
  x : Tb W.heap.size wr gx N X
  ap : gt + N < gx ∨ gx + N < gt
theorem Two.put {W wr : World} {gt N gx : Nat} {F G X : Mat} (h : Two W wr gt N F gx X) {i j : Nat} (hi : i < N) (b : Bool) (e : ∀ r c, r < N → c < N → updM F i j b r c = G r c) : Two W (wr.setCell ⟨gt + 1 + i, j, none⟩ (.bool b)) gt N G gx X :=
  ⟨h.t.put hi b e, h.x.mv (Mv.setCell wr ⟨gt + 1 + i, j, none⟩ (.bool b)) (fun k hk => by have := h.ap; simp at hk; omega), h.ap⟩
theorem Two.congr {W wr : World} {gt N gx : Nat} {F G X : Mat} (h : Two W wr gt N F gx X) (e : ∀ r c, r < N → c < N → F r c = G r c) : Two W wr gt N G gx X := ⟨h.t.congr e, h.x, h.ap⟩
theorem Two.drew {W wr : World} {gt N gx : Nat} {F X : Mat} (h : Two W wr gt N F gx X) (k : Nat) : Two W (wr.drewN k) gt N F gx X := ⟨h.t.drew k, h.x.mv (Mv.drewN (fun _ => False) wr k) (fun _ h => h.elim), h.ap⟩

set_option maxRecDepth 20000 in
set_option maxHeartbeats 8000000 in
theorem rspans_sign (bt : Nat → Nat) (n : Nat) (hn : n ≤ 60) (k : Int) (hk : k = 4 ∨ k = 5 ∨ k = 6) (p : Nat → Bool) (x : RX) (hx : SpR bt n x) (hxf : x.formed = true) (K : Nat → Prop) (a wa : Option Addr) (c wc : Nat) (w : World) (hp : Parts [x] K w a c) (hw : Hid (Sl w wa n (Bn bt))) :
    Calls Tryd.prog 28 #[.agg #[.int .i64 k, .int .u64 (limb p 0), .int .u64 (limb p 1), .int .u64 (limb p 2), .int .u64 (limb p 3), .slice a 1 c], .slice wa n wc] w fun e w' => Tt w (n + 1) (mtK (n + 1) k [x.mt bt n]) e w' := by
  have PB : Hid (B6 w.heap.size (.int .i64 k) (.int .u64 (limb p 0)) (.int .u64 (limb p 1)) (.int .u64 (limb p 2)) (.int .u64 (limb p 3)) (.slice a 1 c) (w.alloc (.cells #[.int .i64 k, .int .u64 (limb p 0), .int .u64 (limb p 1), .int .u64 (limb p 2), .int .u64 (limb p 3), .slice a 1 c] 29))) := heap_alloc_new w _
  have QA : Hid (Qt w (w.alloc (.cells #[.int .i64 k, .int .u64 (limb p 0), .int .u64 (limb p 1), .int .u64 (limb p 2), .int .u64 (limb p 3), .slice a 1 c] 29))) := Mv.alloc _ _ _
  have HP : Hid (Parts [x] K (w.alloc (.cells #[.int .i64 k, .int .u64 (limb p 0), .int .u64 (limb p 1), .int .u64 (limb p 2), .int .u64 (limb p 3), .slice a 1 c] 29)) a c) := hp.mv (Mv.alloc (fun _ => False) _ _) (fun _ _ h => h)
  have HWA : Hid (Sl (w.alloc (.cells #[.int .i64 k, .int .u64 (limb p 0), .int .u64 (limb p 1), .int .u64 (limb p 2), .int .u64 (limb p 3), .slice a 1 c] 29)) wa n (Bn bt)) := hw.out.mv QA.out (fun _ _ h => h)
  have ht := rtable_any (n + 1) (w.alloc (.cells #[.int .i64 k, .int .u64 (limb p 0), .int .u64 (limb p 1), .int .u64 (limb p 2), .int .u64 (limb p 3), .slice a 1 c] 29)) (by omega)
  rw [show ((n + 1 : Nat) : Int) = (n : Int) + 1 from by omega] at ht
  have hs : ∀ W, Calls Tryd.prog 43 #[.int .i64 ((n : Int) + 1)] W fun e w' => Tt W (n + 1) idM e w' := fun W => by
    have h := rsame_any (n + 1) W (by omega)
    rwa [show ((n + 1 : Nat) : Int) = (n : Int) + 1 from by omega] at h
  have HX : Hid (SpR bt n x ∧ x.formed = true) := ⟨hx, hxf⟩
  have HN : Hid (n ≤ 60) := hn
  have HF : Hid (Fwd (n + 1) (x.mt bt n)) := mt_fwd bt n x
  have HM : Hid (∀ e w', Tt (w.alloc (.cells #[.int .i64 k, .int .u64 (limb p 0), .int .u64 (limb p 1), .int .u64 (limb p 2), .int .u64 (limb p 3), .slice a 1 c] 29)) (n + 1) (mtK (n + 1) k [x.mt bt n]) e w' → Tt w (n + 1) (mtK (n + 1) k [x.mt bt n]) e w') := fun e w' h => h.up QA.out
  have hni : (n : Int) ≤ 60 := by omega
  have hsp := fun W (q : Hid (Qt (w.alloc (.cells #[.int .i64 k, .int .u64 (limb p 0), .int .u64 (limb p 1), .int .u64 (limb p 2), .int .u64 (limb p 3), .slice a 1 c] 29)) W)) => (show ∃ b o a' c', a = some ⟨b, o, none⟩ ∧ _ from (HP.out.mv q.out (fun _ _ h => h)).first)
  clear hn hp hx hxf
  generalize limb p 0 = y0 at *
  generalize limb p 1 = y1 at *
  generalize limb p 2 = y2 at *
  generalize limb p 3 = y3 at *
  have HK : Hid (k = 4 ∨ k = 5 ∨ k = 6) := hk
  have g1 : (k == 1) = false := by rcases hk with rfl | rfl | rfl <;> rfl
  have g2 : (k == 2) = false := by rcases hk with rfl | rfl | rfl <;> rfl
  have g3 : (k == 3) = false := by rcases hk with rfl | rfl | rfl <;> rfl
  clear hk
  obtain ⟨X, hX⟩ : ∃ X, X = x.mt bt n := ⟨_, rfl⟩
  rw [← hX]
  rw [← hX] at HF HM
  have HXX : Hid (x.mt bt n = X) := hX.symm
  clear hX
  go_enter Tryd.func28, Tryd.ntmps28
  go_wp2_with fail
  generalize w.alloc (.cells #[.int .i64 k, .int .u64 y0, .int .u64 y1, .int .u64 y2, .int .u64 y3, .slice a 1 c] 29) = W1 at *
  refine ht.mono ?_
  rintro e2 w2 ⟨g0, rfl, T2, q2⟩
  have PB2 := B6.mv PB.out q2.out (fun h => h)
  obtain ⟨b0, b1, b2, b3, b4, b5, _⟩ := B6.facts PB2
  obtain ⟨b', o', a2, c2, hab, hp2, r0, r1, r2, r3, r4, r5⟩ := hsp _ q2
  subst hab
  have hsp2 := HX.out.1 K a2 wa c2 wc _ hp2 (show Hid _ from HWA.out.mv q2.out (fun _ _ h => h)) HX.out.2
  clear ht T2 hsp hp2
  rw [HXX.out] at hsp2
  go_wp2_with fail
  refine hsp2.mono ?_
  rintro e3 w3 ⟨gx, rfl, T3, q3⟩
  have Q3 : Hid (Qt W1 w3) := q2.out.comp q3.out
  have X3 : Hid (Tb W1.heap.size w3 gx (n + 1) X) := T3.out.base q2.out.size
  clear b0 b1 b2 b3 b4 b5 r0 r1 r2 r3 r4 r5 hsp2 T3
  obtain ⟨b0, b1, b2, b3, b4, b5, _⟩ := B6.facts (B6.mv PB.out Q3.out (fun h => h))
  by_cases h6 : k = 6
  · subst h6
    have B0 : Hid (Tq W1 w3 gx (n + 1) (pdM X 0)) := ⟨X3.out.congr (fun r c _ _ => by rw [pdM_start]), Q3.out⟩
    clear hs
    go_wp2_with fail
    clear b0 b1 b2 b3 b4 b5
    go_loopw [14] (fun s14 wr => ∃ i : Nat, i ≤ n + 1 ∧ s14 = .int .i64 i ∧ Hid (Tq W1 wr gx (n + 1) (pdM X i))) (fun s14 _ => n + 1 - (intOf s14).toNat)
    case atStart => exact ⟨0, by omega, rfl, B0⟩
    case round =>
      clear B0
      obtain ⟨i, hi, rfl, B⟩ := hrel
      by_cases hlt : i < n + 1
      · have h2 : (i : Int) < (n : Int) + 1 := by omega
        obtain ⟨k0, k1, k2⟩ := B.out.tb.at hlt hlt
        have BN : Hid (Tq W1 _ gx (n + 1) (pdM X (i + 1))) := B.out.put hlt true (fun r c _ _ => pdM_put _ i r c)
        go_wp2_with fail
        refine ⟨⟨i + 1, by omega, by go_num, BN⟩, by simp [intOf]; omega⟩
      · have h2 : ¬ (i : Int) < (n : Int) + 1 := by omega
        have HE : Hid (i = n + 1) := (by omega : i = n + 1)
        have BN : Hid (Tq W1 wr gx (n + 1) (mtK (n + 1) 6 [X])) := B.out.congr (fun r c hr _ => by rw [HE.out, pdM_done hr]; rfl)
        clear B
        go_wp2_with fail
        go_ret
        exact HM.out _ _ BN.out.tell
  · have h6b : (k == 6) = false := beq_false_of_ne h6
    have HK2 : Hid (k = 4 ∨ k = 5) := by have := HK.out; show _ ∨ _; omega
    go_wp2_with fail
    refine (hs _).mono ?_
    rintro e4 w4 ⟨gt, rfl, T4, q4⟩
    have PB4 := B6.mv PB.out (Q3.out.comp q4.out) (fun h => h)
    have B0 : Hid (Two W1 w4 gt (n + 1) (psM (n + 1) X 0 0 1) gx X) := by
      refine ⟨⟨(T4.out.base Q3.out.size).congr (fun r c _ _ => by rw [psM_start]), Q3.out.comp q4.out⟩, X3.out.mv q4.out (fun _ h => h.elim), .inr ?_⟩
      have h1 := X3.out.lt.2 n (by omega)
      have h2 := T4.out.lo
      omega
    clear hs T4 b0 b1 b2 b3 b4 b5
    go_wp2_with fail
    go_loopw [15, 16, 17] (fun s15 s16 s17 wr => ∃ i : Nat, i ≤ n + 1 ∧ s15 = .int .i64 i ∧ Hid (Two W1 wr gt (n + 1) (psM (n + 1) X i i (i + 1)) gx X)) (fun s15 _ _ _ => n + 1 - (intOf s15).toNat)
    case atStart => exact ⟨0, by omega, rfl, B0⟩
    case round =>
      clear B0
      obtain ⟨i, hi, rfl, B⟩ := hrel
      by_cases hlt : i < n + 1
      · have HI : Hid (i < n + 1) := hlt
        have h2 : (i : Int) < (n : Int) + 1 := by omega
        go_wp2_with fail
        go_loopw [16, 17] (fun s16 s17 wr => ∃ j : Nat, i ≤ j ∧ j ≤ n + 1 ∧ s16 = .int .i64 j ∧ Hid (Two W1 wr gt (n + 1) (psM (n + 1) X i j (j + 1)) gx X)) (fun s16 _ _ => n + 1 - (intOf s16).toNat)
        case atStart => exact ⟨i, by omega, by omega, rfl, B⟩
        case round =>
          clear B
          obtain ⟨j, hij, hj, rfl, B⟩ := hrel
          by_cases hjl : j < n + 1
          · have h3 : (j : Int) < (n : Int) + 1 := by omega
            go_wp2_with fail
            go_loopw [17] (fun s17 wr => ∃ m : Nat, j < m ∧ m ≤ n + 2 ∧ s17 = .int .i64 m ∧ Hid (Two W1 wr gt (n + 1) (psM (n + 1) X i j m) gx X)) (fun s17 _ => n + 2 - (intOf s17).toNat)
            case atStart => exact ⟨j + 1, by omega, by omega, by go_num, B⟩
            case round =>
              clear B
              obtain ⟨m, hjm, hm, rfl, B⟩ := hrel
              by_cases hml : m < n + 1
              · have h4 : (m : Int) < (n : Int) + 1 := by omega
                obtain ⟨a0, a1, _⟩ := B.out.t.tb.at hlt hjl
                rw [psM_at HF.out hlt] at a1
                cases hab : starM (n + 1) X i j with
                | true =>
                  rw [hab] at a1
                  obtain ⟨d0, d1, _⟩ := B.out.x.at hjl hml
                  obtain ⟨t0, t1, t2⟩ := B.out.t.tb.at hlt hml
                  have BN : Hid (Two W1 _ gt (n + 1) (psM (n + 1) X i j (m + 1)) gx X) := B.out.put hlt (psM (n + 1) X i j m i m || X j m) (fun r c _ _ => psM_put hjm hab)
                  generalize X j m = y at *
                  cases hz : psM (n + 1) X i j m i m with
                  | true =>
                    rw [hz] at t1 BN
                    rw [Bool.true_or] at BN
                    clear hz hab
                    go_wp2_with fail
                    go_region
                    go_wp2_with fail
                    exact ⟨⟨m + 1, by omega, by omega, by go_num, BN.out.drew 1⟩, by simp [intOf]; omega⟩
                  | false =>
                    rw [hz] at t1 BN
                    rw [Bool.false_or] at BN
                    clear hz hab
                    go_wp2_with fail
                    go_region
                    go_wp2_with fail
                    exact ⟨⟨m + 1, by omega, by omega, by go_num, BN.out.drew 1⟩, by simp [intOf]; omega⟩
                | false =>
                  rw [hab] at a1
                  have BN : Hid (Two W1 wr gt (n + 1) (psM (n + 1) X i (j + 1) (j + 1 + 1)) gx X) := B.out.congr (fun r c _ hc => psM_next (.inr hab) hc)
                  clear hab
                  go_wp2_with fail
                  go_roundw
                  case rel => exact ⟨j + 1, by omega, by omega, by go_num, BN⟩
                  case measure => simp [intOf]; omega
              · have BN : Hid (Two W1 wr gt (n + 1) (psM (n + 1) X i (j + 1) (j + 1 + 1)) gx X) := B.out.congr (fun r c _ hc => psM_next (.inl (by omega)) hc)
                have h4 : decide ((m : Int) < (n : Int) + 1) = false := by simp; omega
                clear B
                go_wp2_with fail
                go_roundw
                case rel => exact ⟨j + 1, by omega, by omega, by go_num, BN⟩
                case measure => simp [intOf]; omega
          · have h3 : ¬ (j : Int) < (n : Int) + 1 := by omega
            have HE : Hid (j = n + 1) := (by omega : j = n + 1)
            have BN : Hid (Two W1 wr gt (n + 1) (psM (n + 1) X (i + 1) (i + 1) (i + 1 + 1)) gx X) := B.out.congr (fun r c _ hc => by rw [HE.out]; exact psM_row HF.out HI.out hc)
            clear B
            go_wp2_with fail
            go_roundw
            case rel => exact ⟨i + 1, by omega, by go_num, BN⟩
            case measure => simp [intOf]; omega
      · have h2 : ¬ (i : Int) < (n : Int) + 1 := by omega
        have HE : Hid (i = n + 1) := (by omega : i = n + 1)
        have BN : Hid (Two W1 wr gt (n + 1) (starM (n + 1) X) gx X) := B.out.congr (fun r c hr _ => by rw [HE.out, psM_done hr])
        clear B
        obtain ⟨b0, b1, b2, b3, b4, b5, _⟩ := B6.facts (B6.mv PB.out BN.out.t.qt (fun h => h))
        rcases HK2.out with rfl | rfl
        · go_wp2_with fail
          go_ret
          exact HM.out _ _ BN.out.t.tell
        · have hbe := rbehind_any (n + 1) X (starM (n + 1) X) gx gt W1.heap.size wr (by have := HN.out; omega) HF.out (starM_fwd HF.out) BN.out.x BN.out.t.tb
          go_wp2_with fail
          refine hbe.mono ?_
          rintro e7 w7 ⟨g7, rfl, T7, q7⟩
          clear hbe b0 b1 b2 b3 b4 b5
          go_wp2_with fail
          go_ret
          exact HM.out _ _ ⟨g7, rfl, T7.out.base BN.out.t.qt.size, BN.out.t.qt.comp q7.out⟩

end Go.Proofs.YtojbakkbmfgoaaaDoor

namespace Go.Proofs.YtojbakkbmfgoaaaDoor
open Go.RowKit
set_option linter.unusedVariables false

/-- So many of a row, one or the other. -/
def otM (bt : Nat → Nat) (n : Nat) (l : List RX) (i : Nat) : Mat := ((l.take i).map (RX.mt bt n)).foldl orM (fun _ _ => false)
theorem otM_next {bt : Nat → Nat} {n : Nat} {l : List RX} {i : Nat} {y : RX} (h : l[i]? = some y) : orM (otM bt n l i) (y.mt bt n) = otM bt n l (i + 1) := by
  unfold otM
  rw [List.take_add_one, h]
  simp
theorem otM_done (bt : Nat → Nat) (n : Nat) (x : RX) (l : List RX) (r c : Nat) : otM bt n (x :: l) (x :: l).length r c = mtK (n + 1) 3 ((x :: l).map (RX.mt bt n)) r c := by
  unfold otM
  rw [List.take_length, List.map_cons, List.foldl_cons, mtK, if_neg (by decide), if_pos rfl]
  exact foldl_or _ _ _ (fun r c => by unfold orM; rw [Bool.false_or]) r c

set_option maxRecDepth 20000 in
set_option maxHeartbeats 8000000 in
theorem rspans_alt (bt : Nat → Nat) (n : Nat) (hn : n ≤ 60) (p : Nat → Bool) (l : List RX) (hl : l.length < 100000) (hx : ∀ y ∈ l, SpR bt n y ∧ y.formed = true) (K : Nat → Prop) (a wa : Option Addr) (c wc : Nat) (w : World) (hp : Parts l K w a c) (hw : Hid (Sl w wa n (Bn bt))) :
    Calls Tryd.prog 28 #[.agg #[.int .i64 3, .int .u64 (limb p 0), .int .u64 (limb p 1), .int .u64 (limb p 2), .int .u64 (limb p 3), .slice a l.length c], .slice wa n wc] w fun e w' => Tt w (n + 1) (otM bt n l l.length) e w' := by
  have PB : Hid (B6 w.heap.size (.int .i64 3) (.int .u64 (limb p 0)) (.int .u64 (limb p 1)) (.int .u64 (limb p 2)) (.int .u64 (limb p 3)) (.slice a l.length c) (w.alloc (.cells #[.int .i64 3, .int .u64 (limb p 0), .int .u64 (limb p 1), .int .u64 (limb p 2), .int .u64 (limb p 3), .slice a l.length c] 29))) := heap_alloc_new w _
  have QA : Hid (Qt w (w.alloc (.cells #[.int .i64 3, .int .u64 (limb p 0), .int .u64 (limb p 1), .int .u64 (limb p 2), .int .u64 (limb p 3), .slice a l.length c] 29))) := Mv.alloc _ _ _
  have HP : Hid (Parts l K (w.alloc (.cells #[.int .i64 3, .int .u64 (limb p 0), .int .u64 (limb p 1), .int .u64 (limb p 2), .int .u64 (limb p 3), .slice a l.length c] 29)) a c) := hp.mv (Mv.alloc (fun _ => False) _ _) (fun _ _ h => h)
  have HWA : Hid (Sl (w.alloc (.cells #[.int .i64 3, .int .u64 (limb p 0), .int .u64 (limb p 1), .int .u64 (limb p 2), .int .u64 (limb p 3), .slice a l.length c] 29)) wa n (Bn bt)) := hw.out.mv QA.out (fun _ _ h => h)
  have ht := rtable_any (n + 1) (w.alloc (.cells #[.int .i64 3, .int .u64 (limb p 0), .int .u64 (limb p 1), .int .u64 (limb p 2), .int .u64 (limb p 3), .slice a l.length c] 29)) (by omega)
  rw [show ((n + 1 : Nat) : Int) = (n : Int) + 1 from by omega] at ht
  have HX : Hid (∀ y ∈ l, SpR bt n y ∧ y.formed = true) := hx
  have HN : Hid (n ≤ 60) := hn
  have hni : (n : Int) ≤ 60 := by omega
  have hlen : l.length < 100000 := hl
  clear hn hp hx hl
  generalize limb p 0 = y0 at *
  generalize limb p 1 = y1 at *
  generalize limb p 2 = y2 at *
  generalize limb p 3 = y3 at *
  go_enter Tryd.func28, Tryd.ntmps28
  go_wp2_with fail
  generalize w.alloc (.cells #[.int .i64 3, .int .u64 y0, .int .u64 y1, .int .u64 y2, .int .u64 y3, .slice a l.length c] 29) = W1 at *
  refine ht.mono ?_
  rintro e2 w2 ⟨gt, rfl, T2, q2⟩
  have PB2 := B6.mv PB.out q2.out (fun h => h)
  obtain ⟨b0, b1, b2, b3, b4, b5, _⟩ := B6.facts PB2
  have B0 : Hid (Tq W1 w2 gt (n + 1) (otM bt n l 0)) := ⟨T2.out, q2.out⟩
  clear ht T2
  go_wp2_with fail
  clear b0 b1 b2 b3 b4 b5
  go_loopw [8, 9, 10, 11] (fun s8 s9 s10 s11 wr => ∃ i : Nat, i ≤ l.length ∧ s8 = .int .i64 i ∧ Hid (Tq W1 wr gt (n + 1) (otM bt n l i))) (fun s8 _ _ _ _ => l.length - (intOf s8).toNat)
  case atStart => exact ⟨0, by omega, rfl, B0⟩
  case round =>
    clear B0
    obtain ⟨k, hi, rfl, B⟩ := hrel
    obtain ⟨b0, b1, b2, b3, b4, b5, _⟩ := B6.facts (B6.mv PB.out B.out.qt (fun h => h))
    by_cases hlt : k < l.length
    · obtain ⟨y, hy⟩ : ∃ y, l[k]? = some y := ⟨_, List.getElem?_eq_getElem hlt⟩
      have hmem : y ∈ l := List.mem_of_getElem? hy
      obtain ⟨b', o', a2, c2, hab, hp2, r0, r1, r2, r3, r4, r5⟩ := (HP.out.mv B.out.qt (fun _ _ h => h)).at (i := k) (x := y) hy
      subst hab
      have hsp := (HX.out y hmem).1 K a2 wa c2 wc _ hp2 (show Hid _ from HWA.out.mv B.out.qt (fun _ _ h => h)) (HX.out y hmem).2
      have HF : Hid (Fwd (n + 1) (y.mt bt n)) := mt_fwd bt n y
      have HS : Hid _ := otM_next (bt := bt) (n := n) hy
      have HKL : Hid (k < l.length) := hlt
      clear hy hp2 hmem
      generalize otM bt n l k = T at *
      generalize y.mt bt n = X at *
      go_wp2_with fail
      refine hsp.mono ?_
      rintro e5 w5 ⟨gx, rfl, T5, q5⟩
      have B5 : Hid (Two W1 w5 gt (n + 1) (poM T X 0 0) gx X) := by
        refine ⟨⟨(B.out.tb.mv q5.out (fun _ h => h.elim)).congr (fun r c _ _ => by rw [poM_start]), B.out.qt.comp q5.out⟩, T5.out.base B.out.qt.size, .inl ?_⟩
        have h1 := B.out.tb.lt.2 n (by omega)
        have h2 := T5.out.lo
        omega
      clear hsp T5 b0 b1 b2 b3 b4 b5 r0 r1 r2 r3 r4 r5
      go_wp2_with fail
      go_loopw [10, 11] (fun s10 s11 wr => ∃ i : Nat, i ≤ n + 1 ∧ s10 = .int .i64 i ∧ Hid (Two W1 wr gt (n + 1) (poM T X i i) gx X)) (fun s10 _ _ => n + 1 - (intOf s10).toNat)
      case atStart => exact ⟨0, by omega, rfl, B5⟩
      case round =>
        clear B B5
        obtain ⟨i, hi, rfl, B⟩ := hrel
        by_cases hlt : i < n + 1
        · have HI : Hid (i < n + 1) := hlt
          have h2 : (i : Int) < (n : Int) + 1 := by omega
          go_wp2_with fail
          go_loopw [11] (fun s11 wr => ∃ j : Nat, i ≤ j ∧ j ≤ n + 1 ∧ s11 = .int .i64 j ∧ Hid (Two W1 wr gt (n + 1) (poM T X i j) gx X)) (fun s11 _ => n + 1 - (intOf s11).toNat)
          case atStart => exact ⟨i, by omega, by omega, rfl, B⟩
          case round =>
            clear B
            obtain ⟨j, hij, hj, rfl, B⟩ := hrel
            by_cases hjl : j < n + 1
            · have h3 : (j : Int) < (n : Int) + 1 := by omega
              obtain ⟨d0, d1, _⟩ := B.out.x.at hlt hjl
              obtain ⟨t0, t1, t2⟩ := B.out.t.tb.at hlt hjl
              have BN : Hid (Two W1 _ gt (n + 1) (poM T X i (j + 1)) gx X) := B.out.put hlt (poM T X i j i j || X i j) (fun r c _ _ => poM_put T X i j r c)
              generalize X i j = z at *
              cases hz : poM T X i j i j with
              | true =>
                rw [hz] at t1 BN
                rw [Bool.true_or] at BN
                clear hz
                go_wp2_with fail
                go_region
                go_wp2_with fail
                exact ⟨⟨j + 1, by omega, by omega, by go_num, BN.out.drew 1⟩, by simp [intOf]; omega⟩
              | false =>
                rw [hz] at t1 BN
                rw [Bool.false_or] at BN
                clear hz
                go_wp2_with fail
                go_region
                go_wp2_with fail
                exact ⟨⟨j + 1, by omega, by omega, by go_num, BN.out.drew 1⟩, by simp [intOf]; omega⟩
            · have h3 : ¬ (j : Int) < (n : Int) + 1 := by omega
              have HE : Hid (j = n + 1) := (by omega : j = n + 1)
              have BN : Hid (Two W1 wr gt (n + 1) (poM T X (i + 1) (i + 1)) gx X) := B.out.congr (fun r c _ hc => by rw [HE.out]; exact poM_row HF.out hc)
              clear B
              go_wp2_with fail
              go_roundw
              case rel => exact ⟨i + 1, by omega, by go_num, BN⟩
              case measure => simp [intOf]; omega
        · have h2 : ¬ (i : Int) < (n : Int) + 1 := by omega
          have HE : Hid (i = n + 1) := (by omega : i = n + 1)
          have BN : Hid (Tq W1 wr gt (n + 1) (otM bt n l (k + 1))) := B.out.t.congr (fun r c hr _ => by rw [HE.out, poM_done hr, HS.out])
          clear B
          go_wp2_with fail
          go_roundw
          case rel => exact ⟨k + 1, by omega, by go_num, BN⟩
          case measure => simp [intOf]; omega
    · have HE : Hid (k = l.length) := (by omega : k = l.length)
      have h2 : ¬ (k : Int) < (l.length : Int) := by omega
      have BN : Hid (Tq W1 wr gt (n + 1) (otM bt n l l.length)) := by rw [← HE.out]; exact B
      clear B
      go_wp2_with fail
      go_ret
      exact BN.out.tell.up QA.out

theorem Tt.congr {w w' : World} {N : Nat} {F G : Mat} {e : Ending} (h : Tt w N F e w') (k : ∀ r c, r < N → c < N → F r c = G r c) : Tt w N G e w' := by
  obtain ⟨g, h1, h2, h3⟩ := h
  exact ⟨g, h1, h2.out.congr k, h3⟩
theorem rspans_any (bt : Nat → Nat) (n : Nat) (hn : n ≤ 60) (hb : ∀ i, i < n → bt i < 256) : ∀ x : RX, x.nodes ≤ 40 → SpR bt n x := by
  refine RX.ind ?_
  intro k p l ih hnd K a wa c wc w hp hw hf
  have hfk := formed_kind hf
  have hnn := hf
  rw [formed_at, Bool.and_eq_true] at hnn
  have hnode := hnn.1
  unfold RX.node node at hnode
  have h1 := nodes_at (⟨k, p, l⟩ : RX)
  have hall : ∀ y ∈ l, SpR bt n y ∧ y.formed = true := by
    intro y hy
    have h2 := mem_le_sum (x := y) (l := l) hy
    exact ⟨ih y hy (by simp only at h1; omega), (formed_part hf (show y ∈ (⟨k, p, l⟩ : RX).args from hy)).1⟩
  have hlen : l.length ≤ 40 := by have h2 := len_le_sum l; simp only at h1; omega
  rw [mt_eq]
  simp only at hfk hnode ⊢
  by_cases h1k : k = 1
  · subst h1k
    rw [if_pos rfl]
    exact rspans_set bt n hn hb p a wa _ c wc w hw
  · rw [if_neg h1k]
    by_cases hk2 : k = 2 ∨ k = 3
    · rw [if_pos hk2.symm] at hnode
      cases l with
      | nil => simp at hnode
      | cons x l =>
        rcases hk2 with rfl | rfl
        · exact (rspans_cat bt n hn p (x :: l) (by omega) hall K a wa c wc w hp hw).mono fun e w' h => h.congr (fun r c hr hc => ctM_done bt n x l hr hc)
        · exact (rspans_alt bt n hn p (x :: l) (by omega) hall K a wa c wc w hp hw).mono fun e w' h => h.congr (fun r c _ _ => otM_done bt n x l r c)
    · have hk4 : k = 4 ∨ k = 5 ∨ k = 6 := by omega
      rw [if_neg (fun e => hk2 e.symm), if_pos hk4] at hnode
      have hone : l.length = 1 := by simp at hnode; exact hnode.2
      match l, hone, hall, hp with
      | [x], _, hall, hp => exact rspans_sign bt n hn k hk4 p x (hall x (by simp)).1 (hall x (by simp)).2 K a wa c wc w hp hw

end Go.Proofs.YtojbakkbmfgoaaaDoor

namespace Go.Proofs.YtojbakkbmfgoaaaDoor
open Go.RowKit
set_option linter.unusedVariables false

set_option maxHeartbeats 4000000 in
theorem rin_any (bt : Nat → Nat) (n : Nat) (hn : n ≤ 60) (hb : ∀ i, i < n → bt i < 256) (x : RX) (K : Nat → Prop) (a wa : Option Addr) (c wc : Nat) (w : World) (hX : Parts x.args K w a c) (hf : x.formed = true) (hnd : x.nodes ≤ 40) (hw : Hid (Sl w wa n (Bn bt))) :
    Calls Tryd.prog 15 #[.agg #[.int .i64 x.kind, .int .u64 (limb x.set 0), .int .u64 (limb x.set 1), .int .u64 (limb x.set 2), .int .u64 (limb x.set 3), .slice a x.args.length c], .slice wa n wc] w fun e w' => e = .returned (.bool (x.mt bt n 0 n)) ∧ Hid (Qt w w') := by
  have QA : Hid (Qt w (w.alloc (.cells #[.int .i64 x.kind, .int .u64 (limb x.set 0), .int .u64 (limb x.set 1), .int .u64 (limb x.set 2), .int .u64 (limb x.set 3), .slice a x.args.length c] 29))) := Mv.alloc _ _ _
  have PB : Hid (B6 w.heap.size (.int .i64 x.kind) (.int .u64 (limb x.set 0)) (.int .u64 (limb x.set 1)) (.int .u64 (limb x.set 2)) (.int .u64 (limb x.set 3)) (.slice a x.args.length c) (w.alloc (.cells #[.int .i64 x.kind, .int .u64 (limb x.set 0), .int .u64 (limb x.set 1), .int .u64 (limb x.set 2), .int .u64 (limb x.set 3), .slice a x.args.length c] 29))) := heap_alloc_new w _
  obtain ⟨b0, b1, b2, b3, b4, b5, _⟩ := B6.facts PB
  have hsp := rspans_any bt n hn hb x hnd K a wa c wc (w.alloc (.cells #[.int .i64 x.kind, .int .u64 (limb x.set 0), .int .u64 (limb x.set 1), .int .u64 (limb x.set 2), .int .u64 (limb x.set 3), .slice a x.args.length c] 29)) (hX.mv QA.out (fun _ _ h => h)) (show Hid _ from hw.out.mv QA.out (fun _ _ h => h)) hf
  have hni : (n : Int) ≤ 60 := by omega
  clear hn hb hX hf hnd
  obtain ⟨z, hz⟩ : ∃ z, z = x.mt bt n 0 n := ⟨_, rfl⟩
  rw [← hz]
  have HZ : Hid (x.mt bt n 0 n = z) := hz.symm
  clear hz
  go_enter Tryd.func15, Tryd.ntmps15
  go_wp2_with fail
  refine hsp.mono ?_
  rintro e2 w2 ⟨g, rfl, T2, q2⟩
  obtain ⟨k0, k1, k2⟩ := T2.out.at (i := 0) (j := n) (by omega) (by omega)
  rw [Nat.add_zero] at k0 k1 k2
  have h4 : (n : Int) < ((n + 1 : Nat) : Int) := by omega
  have h5 : (0 : Int) < ((n + 1 : Nat) : Int) := by omega
  rw [HZ.out] at k1
  clear hsp T2 b0 b1 b2 b3 b4 b5
  go_wp2_with fail
  go_ret
  exact ⟨rfl, QA.out.comp q2.out⟩

set_option maxHeartbeats 4000000 in
theorem rnull_any (bt : Nat → Nat) (x : RX) (K : Nat → Prop) (a : Option Addr) (c : Nat) (w : World) (hX : Parts x.args K w a c) (hf : x.formed = true) (hnd : x.nodes ≤ 40) :
    Calls Tryd.prog 18 #[.agg #[.int .i64 x.kind, .int .u64 (limb x.set 0), .int .u64 (limb x.set 1), .int .u64 (limb x.set 2), .int .u64 (limb x.set 3), .slice a x.args.length c]] w fun e w' => e = .returned (.bool (x.mt bt 0 0 0)) ∧ Hid (Qt w w') := by
  have QA : Hid (Qt w (w.alloc (.cells #[.int .i64 x.kind, .int .u64 (limb x.set 0), .int .u64 (limb x.set 1), .int .u64 (limb x.set 2), .int .u64 (limb x.set 3), .slice a x.args.length c] 29))) := Mv.alloc _ _ _
  have PB : Hid (B6 w.heap.size (.int .i64 x.kind) (.int .u64 (limb x.set 0)) (.int .u64 (limb x.set 1)) (.int .u64 (limb x.set 2)) (.int .u64 (limb x.set 3)) (.slice a x.args.length c) (w.alloc (.cells #[.int .i64 x.kind, .int .u64 (limb x.set 0), .int .u64 (limb x.set 1), .int .u64 (limb x.set 2), .int .u64 (limb x.set 3), .slice a x.args.length c] 29))) := heap_alloc_new w _
  obtain ⟨b0, b1, b2, b3, b4, b5, _⟩ := B6.facts PB
  have hin := rin_any bt 0 (by omega) (fun i hi => by omega) x K a none c 0 (w.alloc (.cells #[.int .i64 x.kind, .int .u64 (limb x.set 0), .int .u64 (limb x.set 1), .int .u64 (limb x.set 2), .int .u64 (limb x.set 3), .slice a x.args.length c] 29)) (hX.mv QA.out (fun _ _ h => h)) hf hnd (show Hid (Sl _ none 0 (Bn bt)) from fun i hi => by omega)
  clear hX hf hnd
  go_enter Tryd.func18, Tryd.ntmps18
  go_wp2_with fail
  refine hin.mono ?_
  rintro e2 w2 ⟨rfl, q2⟩
  go_wp2_with fail
  go_ret
  exact ⟨rfl, QA.out.comp q2.out⟩

end Go.Proofs.YtojbakkbmfgoaaaDoor

namespace Go.Proofs.YtojbakkbmfgoaaaDoor
open Go.RowKit
set_option linter.unusedVariables false

def zi (l : List Nat) : List Value := l.map fun (c : Nat) => Value.int .i64 (c : Int)
theorem zi_append (l m : List Nat) : zi (l ++ m) = zi l ++ zi m := List.map_append
theorem zi_length (l : List Nat) : (zi l).length = l.length := List.length_map _
theorem zi_one (l : List Nat) : ∀ u ∈ zi l, u.oneCell' = true := by
  intro u hu
  obtain ⟨c, _, rfl⟩ := List.mem_map.1 hu
  rfl
theorem zi_at {l : List Nat} {i c : Nat} (h : l[i]? = some c) : (zi l)[i]? = some (.int .i64 (c : Int)) := by unfold zi; rw [List.getElem?_map, h]; rfl
theorem info3 : Tryd.prog.info? 3 = some Tryd.t3 := by kernel_rfl
theorem zero3 : Tryd.t3.zero = some (.int .i64 0) := by kernel_rfl
theorem size3 : Tryd.t3.size = 1 := by kernel_rfl
theorem bytes3 : Tryd.t3.bytes = 8 := by kernel_rfl

/-- A row of ints of one's own. -/
def Oi (w : World) (base : Nat) (v : Value) (l : List Nat) : Prop := w.ownsRow base 3 1 v l.length (zi l)
/-- A slice of ints. -/
def Is (w : World) (v : Value) (l : List Nat) : Prop := ∃ a c, v = .slice a l.length c ∧ Ls w a (zi l) ∧ l.length ≤ c ∧ (a = none → l.length = 0 ∧ c = 0) ∧ ∀ p, a = some p → ∃ cs, w.heap[p.block]? = some (.cells cs 3 (0, 0))
theorem Is.mv {S : Nat → Prop} {w w' : World} {v : Value} {l : List Nat} (h : Is w v l) (k : Mv S w w') (hs : ∀ j cs, w.heap[j]? = some (.cells cs 3 (0, 0)) → ¬ S j) : Is w' v l := by
  obtain ⟨a, c, e, h1, h2, h3, h4⟩ := h
  refine ⟨a, c, e, h1.mv k (fun p hp => ?_), h2, h3, fun p hp => ?_⟩
  · obtain ⟨cs, hc⟩ := h4 p hp
    exact hs _ _ hc
  · obtain ⟨cs, hc⟩ := h4 p hp
    exact ⟨cs, (k.block _ (Array.getElem?_eq_some_iff.1 hc).1 (hs _ _ hc)).trans hc⟩
theorem Is.qt {w w' : World} {v : Value} {l : List Nat} (h : Is w v l) (k : Qt w w') : Is w' v l := h.mv k (fun _ _ _ h => h)
theorem Oi.mv {S : Nat → Prop} {w w' : World} {base : Nat} {v : Value} {l : List Nat} (h : Oi w base v l) (k : Mv S w w') (hs : ∀ j, v.ownBlock = some j → ¬ S j) : Oi w' base v l := k.owns h hs
theorem Oi.qt {w w' : World} {base : Nat} {v : Value} {l : List Nat} (h : Oi w base v l) (k : Qt w w') : Oi w' base v l := k.owns h (fun _ _ h => h)
theorem Oi.nil (w : World) (base : Nat) : Oi w base (.slice none 0 0) [] := ow_nil _ _ _ _
theorem Oi.less {w : World} {base base' : Nat} {v : Value} {l : List Nat} (h : Oi w base v l) (hb : base' ≤ base) : Oi w base' v l :=
  ⟨h.1, h.2.elim .inl (fun ⟨g, cap, cur, h1, h2, h3⟩ => .inr ⟨g, cap, cur, h1, Nat.le_trans hb h2, h3⟩)⟩
theorem Oi.is {w : World} {base : Nat} {v : Value} {l : List Nat} (h : Oi w base v l) : Is w v l := by
  obtain ⟨a, c, e, h1, h2, h3, h4⟩ := ow_ls h
  refine ⟨a, c, e, h1, h2, h3, fun p hp => ?_⟩
  rcases h.2 with ⟨rfl, _⟩ | ⟨g, cap, cur, hv, _, hg, _⟩
  · have := (Value.slice.inj e).1
    rw [hp] at this; cases this
  · have := h4 p hp
    rw [hv] at this
    have e2 : g = p.block := Option.some.inj this
    exact ⟨cur, by rw [← e2]; exact hg⟩
theorem Is.nil (w : World) : Is w (.slice none 0 0) [] := (Oi.nil w 0).is
theorem Is.at {w : World} {v : Value} {l : List Nat} (h : Is w v l) {i c : Nat} (hi : l[i]? = some c) : ∃ b o cap, v = .slice (some ⟨b, o, none⟩) l.length cap ∧ b < w.heap.size ∧ w.cell? ⟨b, o + i, none⟩ = some (.int .i64 (c : Int)) := by
  obtain ⟨a, cap, e, h1, h2, h3, h4⟩ := h
  obtain ⟨b, o, e1, e2, e3⟩ := h1 i _ (zi_at hi)
  exact ⟨b, o, cap, by rw [e, e1], e2, e3⟩
theorem Oi.new (w : World) (base c : Nat) (hb : base ≤ w.heap.size) : Oi (w.alloc (.cells #[.int .i64 (c : Int)] 3)) base (.slice (some ⟨w.heap.size, 0, none⟩) 1 1) [c] := ow_new w base 1 3 _ 1 hb (by omega) rfl
theorem Oi.empty (w : World) (base : Nat) (hb : base ≤ w.heap.size) : Oi (w.alloc (.cells #[] 3)) base (.slice (some ⟨w.heap.size, 0, none⟩) 0 0) [] := ow_new w base 1 3 #[] 0 hb (by omega) rfl
/-- Another row behind one's own. -/
theorem Oi.app {w : World} {base : Nat} {v s : Value} {l m : List Nat} (h : Oi w base v l) (hs : Is w s m) (hl : l.length + m.length < 100000) (hb : base ≤ w.heap.size) :
    ∃ v' W, (Builtin.append_ #[34, 34] 34 #[v, s]).run Tryd.prog w = .ok v' W ∧ Oi W base v' (l ++ m) ∧ Mv (fun j => v.ownBlock = some j) w W ∧ (v'.ownBlock = v.ownBlock ∨ ∃ g, v'.ownBlock = some g ∧ w.heap.size ≤ g) := by
  obtain ⟨a, c, rfl, h1, h2, h3, h4⟩ := hs
  obtain ⟨v', W, hr, hown, hgr, hnb⟩ := append_ow 34 34 3 Tryd.t3 (.int .i64 0) 1 8 Tryd.underlying34 info3 zero3 size3 bytes3 (by rfl) (by omega) (by omega) w base v l.length m.length c (zi l) (zi m) a h h1 (by rw [zi_length]; omega) (zi_one m) hl h3 hb
  refine ⟨v', W, hr, ?_, Mv.of_grown hgr, hnb⟩
  show W.ownsRow _ _ _ _ _ _
  rw [zi_append, List.length_append]; exact hown
/-- One more. -/
theorem Oi.push {w : World} {base : Nat} {v : Value} {l : List Nat} (h : Oi w base v l) (hl : l.length < 90000) (hb : base ≤ w.heap.size) (c : Nat) :
    ∃ v' W, (Builtin.append_ #[34, 34] 34 #[v, .slice (some ⟨w.heap.size, 0, none⟩) 1 1]).run Tryd.prog (w.alloc (.cells #[.int .i64 (c : Int)] 3)) = .ok v' W ∧ Oi W base v' (l ++ [c]) ∧ Mv (fun j => v.ownBlock = some j) w W ∧ (v'.ownBlock = v.ownBlock ∨ ∃ g, v'.ownBlock = some g ∧ w.heap.size ≤ g) := by
  have q : Qt w (w.alloc (.cells #[.int .i64 (c : Int)] 3)) := (Qt.refl w).alloc _
  obtain ⟨v', W, h1, h2, h3, h4⟩ := (h.qt q).app (Oi.new w 0 c (Nat.zero_le _)).is (by simp; omega) (Nat.le_trans hb q.size)
  refine ⟨v', W, h1, h2, Mv.trans (q.mono (fun _ _ h => h.elim)) h3 (fun _ _ h => h), ?_⟩
  rcases h4 with h4 | ⟨g, e, h4⟩
  · exact .inl h4
  · exact .inr ⟨g, e, Nat.le_trans q.size h4⟩

/-- What a walk over an object turns: its block g, and blocks of the types ts from base on. -/
def Tn (base g : Nat) (ts : List Nat) (w : World) (j : Nat) : Prop := base ≤ j ∧ (j = g ∨ ∃ cs t m, w.heap[j]? = some (.cells cs t m) ∧ t ∈ ts)
def Fr (base g : Nat) (ts : List Nat) (w w' : World) : Prop := Mv (Tn base g ts w) w w'
theorem Fr.refl (base g : Nat) (ts : List Nat) (w : World) : Fr base g ts w w := Mv.refl _ w
theorem Fr.trans {base g : Nat} {ts : List Nat} {a b c : World} (h : Fr base g ts a b) (k : Fr base g ts b c) : Fr base g ts a c := by
  refine Mv.trans h k (fun j hj e => ?_)
  obtain ⟨e1, e2⟩ := e
  refine ⟨e1, ?_⟩
  rcases e2 with e2 | ⟨cs, t, m, e2, e3⟩
  · exact .inl e2
  · by_cases hn : Tn base g ts a j
    · exact hn.2
    · exact .inr ⟨cs, t, m, by rw [← Mv.block h j hj hn]; exact e2, e3⟩
theorem Fr.of_qt {base g : Nat} {ts : List Nat} {w w' : World} (h : Qt w w') : Fr base g ts w w' := Mv.mono h (fun _ _ h => h.elim)
theorem Fr.qt {base g : Nat} {ts : List Nat} {a b c : World} (h : Fr base g ts a b) (k : Qt b c) : Fr base g ts a c := h.trans (Fr.of_qt k)
theorem Fr.size {base g : Nat} {ts : List Nat} {w w' : World} (h : Fr base g ts w w') : w.heap.size ≤ w'.heap.size := Mv.size h
/-- Blocks of other types stay. -/
theorem Fr.keep {base g : Nat} {ts : List Nat} {w w' : World} (h : Fr base g ts w w') {j t : Nat} {cs : Array Value} {m : Nat × Nat} (hj : w.heap[j]? = some (.cells cs t m)) (hg : j ≠ g) (ht : t ∉ ts) : w'.heap[j]? = some (.cells cs t m) := by
  refine (Mv.block h j (Array.getElem?_eq_some_iff.1 hj).1 ?_).trans hj
  rintro ⟨_, e | ⟨cs', t', m', e, e2⟩⟩
  · exact hg e
  · rw [hj] at e
    injection e with e
    injection e with e3 e4 e5
    exact ht (e4 ▸ e2)
theorem Fr.is {base g : Nat} {ts : List Nat} {w w' : World} (h : Fr base g ts w w') {v : Value} {l : List Nat} (hv : Is w v l) {cg : Array Value} {tg : Nat} {mg : Nat × Nat} (hg : w.heap[g]? = some (.cells cg tg mg)) (hn : tg ≠ 3) (ht : 3 ∉ ts) : Is w' v l := by
  refine hv.mv h (fun j cs hj => ?_)
  rintro ⟨_, e | ⟨cs', t', m', e, e2⟩⟩
  · subst e
    rw [hg] at hj
    injection hj with e
    injection e with e3 e4 e5
    exact hn e4
  · rw [hj] at e
    injection e with e
    injection e with e3 e4 e5
    exact ht (e4 ▸ e2)
/-- Nothing below base has turned. -/
theorem Fr.low {base g : Nat} {ts : List Nat} {w w' : World} (h : Fr base g ts w w') {W : World} (q : Qt W w) (hb : W.heap.size ≤ base) : Qt W w' :=
  Mv.trans q h (fun j hj e => by have := e.1; omega)
theorem Fr.parts {base g : Nat} {ts : List Nat} {w w' : World} (h : Fr base g ts w w') {l : List RX} {K : Nat → Prop} {a : Option Addr} {c : Nat} (hp : Parts l K w a c) (hK : ∀ j, K j → j < base) : Parts l K w' a c :=
  hp.mv h (fun j hj e => by have := e.1; have := hK j hj; omega)

end Go.Proofs.YtojbakkbmfgoaaaDoor

namespace Go.Proofs.YtojbakkbmfgoaaaDoor
open Go.RowKit
set_option linter.unusedVariables false

/-- The numbers below n that p has, rising. -/
def asc (n : Nat) (p : Nat → Bool) : List Nat := (List.range n).filter p
theorem asc_succ (n : Nat) (p : Nat → Bool) : asc (n + 1) p = asc n p ++ (if p n then [n] else []) := by
  unfold asc
  rw [List.range_succ, List.filter_append]
  cases h : p n <;> simp [h]
theorem asc_skip (n k : Nat) (p : Nat → Bool) (h : ∀ j, n ≤ j → j < k → p j = false) (hk : n ≤ k) : asc k p = asc n p := by
  obtain ⟨d, rfl⟩ : ∃ d, k = n + d := ⟨k - n, by omega⟩
  induction d with
  | zero => rfl
  | succ d ih =>
    rw [← Nat.add_assoc, asc_succ, h _ (by omega) (by omega)]
    simp
    exact ih (fun j h1 h2 => h j h1 (by omega)) (by omega)
theorem asc_next (n k : Nat) (p : Nat → Bool) (h : ∀ j, n ≤ j → j < k → p j = false) (hk : n ≤ k) (hp : p k = true) : asc (k + 1) p = asc n p ++ [k] := by
  rw [asc_succ, hp, asc_skip n k p h hk]; rfl
theorem asc_length (n : Nat) (p : Nat → Bool) : (asc n p).length ≤ n := by
  unfold asc
  exact Nat.le_trans (List.length_filter_le _ _) (by simp)
theorem asc_mem {n : Nat} {p : Nat → Bool} {i : Nat} : i ∈ asc n p ↔ i < n ∧ p i = true := by
  unfold asc; rw [List.mem_filter, List.mem_range]
/-- What is left of p from m on. -/
def from' (m : Nat) (p : Nat → Bool) : Nat → Bool := fun b => decide (m ≤ b) && p b
theorem low_form {x k : Nat} (hk : x.testBit k = true) (hl : ∀ j, j < k → x.testBit j = false) : ∃ y, x = 2 ^ k * (2 * y + 1) := by
  have h0 : x % 2 ^ k = 0 := by
    apply Nat.eq_of_testBit_eq
    intro j
    rw [Nat.testBit_mod_two_pow, Nat.zero_testBit]
    by_cases h : j < k
    · rw [hl j h]; simp
    · simp [h]
  rw [Nat.testBit_eq_decide_div_mod_eq] at hk
  have h1 : x / 2 ^ k % 2 = 1 := by simpa using hk
  refine ⟨x / 2 ^ k / 2, ?_⟩
  have h2 := Nat.div_add_mod x (2 ^ k)
  rw [h0] at h2
  rw [show 2 * (x / 2 ^ k / 2) + 1 = x / 2 ^ k from by omega]
  omega
theorem low_clear {x k : Nat} (hk : x.testBit k = true) (hl : ∀ j, j < k → x.testBit j = false) (j : Nat) : (x &&& (x - 1)).testBit j = (x.testBit j && decide (k < j)) := by
  obtain ⟨y, hy⟩ := low_form hk hl
  have hp : 0 < 2 ^ k := Nat.two_pow_pos k
  have e1 : x - 1 = 2 ^ k * (2 * y) + (2 ^ k - 1) := by
    rw [hy, Nat.mul_add, Nat.mul_one]; omega
  have e2 : x = 2 ^ k * (2 * y + 1) + 0 := by omega
  rw [Nat.testBit_and]
  rcases Nat.lt_trichotomy j k with h | h | h
  · rw [hl j h]; simp
  · subst h
    rw [e1, Nat.testBit_two_pow_mul_add _ (by omega)]
    simp
  · have : ¬ j < k := by omega
    rw [e1, Nat.testBit_two_pow_mul_add _ (by omega), if_neg this]
    rw [show x.testBit j = (2 * y + 1).testBit (j - k) from by rw [e2, Nat.testBit_two_pow_mul_add _ hp, if_neg this]]
    obtain ⟨d, hd⟩ : ∃ d, j - k = d + 1 := ⟨j - k - 1, by omega⟩
    rw [hd, Nat.testBit_succ, Nat.testBit_succ, show (2 * y + 1) / 2 = y from by omega, show 2 * y / 2 = y from by omega]
    simp [h]
theorem from_step {p : Nat → Bool} {m k : Nat} (hk : (limb (from' m p) 0).testBit k = true) (hk2 : k < 64) (hl : ∀ j, j < k → (limb (from' m p) 0).testBit j = false) :
    m ≤ k ∧ p k = true ∧ (∀ j, m ≤ j → j < k → p j = false) ∧ limb (from' m p) 0 &&& (limb (from' m p) 0 - 1) = limb (from' (k + 1) p) 0 := by
  have h1 := hk
  rw [limb_bit _ _ hk2] at h1
  rw [show 64 * 0 + k = k from by omega] at h1
  have h2 : m ≤ k ∧ p k = true := by simpa [from'] using h1
  have h3 : ∀ j, m ≤ j → j < k → p j = false := by
    intro j hj hjk
    have h4 := hl j hjk
    rw [limb_bit _ _ (by omega), show 64 * 0 + j = j from by omega] at h4
    simpa [from', hj] using h4
  refine ⟨h2.1, h2.2, h3, ?_⟩
  refine (limb_eq (Nat.lt_of_le_of_lt Nat.and_le_left (limb_lt _ _)) (fun j hj => ?_)).symm
  rw [low_clear hk hl, limb_bit _ _ hj, show 64 * 0 + j = j from by omega]
  unfold from'
  by_cases h : k < j
  · have a1 : m ≤ j := by omega
    have a2 : k + 1 ≤ j := by omega
    simp [h, a1, a2]
  · have a2 : ¬ k + 1 ≤ j := by omega
    simp [h, a2]
theorem from_zero (p : Nat → Bool) : from' 0 p = p := by funext b; simp [from']
theorem from_done {p : Nat → Bool} {m : Nat} (h : limb (from' m p) 0 = 0) (hm : m ≤ 64) : asc 64 p = asc m p := by
  refine asc_skip m 64 p (fun j h1 h2 => ?_) hm
  have h3 := limb_bit (from' m p) 0 (k := j) h2
  rw [h, Nat.zero_testBit, show 64 * 0 + j = j from by omega] at h3
  have : (decide (m ≤ j) && p j) = false := h3.symm
  simpa [h1] using this

set_option maxRecDepth 20000 in
set_option maxHeartbeats 4000000 in
theorem list_any (p : Nat → Bool) (w : World) (hT : Hid (Tab w)) :
    Calls Tryd.prog 23 #[.int .u64 (limb p 0)] w fun e w' => ∃ v, e = .returned v ∧ Hid (Oi w' w.heap.size v (asc 64 p)) ∧ Hid (Qt w w') := by
  obtain ⟨X, hX⟩ : ∃ X, X = limb p 0 := ⟨_, rfl⟩
  have HX : Hid (X = limb (from' 0 p) 0) := by show _ = _; rw [from_zero, hX]
  rw [← hX]
  clear hX
  go_enter Tryd.func23, Tryd.ntmps23
  go_wp2_with fail
  go_loopw [0, 3] (fun s0 s3 wr => ∃ (m x : Nat) (va : Option Addr) (vn vc : Nat), m ≤ 64 ∧ x < 18446744073709551616 ∧ s0 = .int .u64 (x : Nat) ∧ s3 = .slice va vn vc ∧ Hid (x = limb (from' m p) 0) ∧ Hid (Oi wr w.heap.size (.slice va vn vc) (asc m p)) ∧ Hid (Qt w wr)) (fun s0 _ _ => (intOf s0).toNat)
  case atStart => exact ⟨0, X, none, 0, 0, by omega, by rw [HX.out]; exact limb_lt _ _, rfl, rfl, HX, Oi.nil _ _, Qt.refl w⟩
  case round =>
    obtain ⟨m, x, va, vn, vc, hm, hx, rfl, rfl, hxx, B, Q⟩ := hrel
    by_cases hz : x = 0
    · have hzb : (((x : Nat) : Int) != 0) = false := by rw [hz]; rfl
      have HF : Hid (asc 64 p = asc m p) := from_done (by rw [← hxx.out]; exact hz) hm
      subst hz
      go_wp2_with fail
      go_ret
      exact ⟨_, rfl, by rw [HF.out]; exact B, Q⟩
    · obtain ⟨k, hk, hkb, hkl, htz⟩ := tz_any x hx hz wr (hT.out.qt Q.out)
      rw [hxx.out] at hkb hkl
      obtain ⟨f1, f2, f3, f4⟩ := from_step hkb hk hkl
      rw [← hxx.out] at f4
      have hzb : (((x : Nat) : Int) != 0) = true := by
        have : ((x : Nat) : Int) ≠ 0 := by omega
        exact bne_iff_ne.2 this
      have hsub : IntKind.u64.wrap (((x : Nat) : Int) - 1) = ((x - 1 : Nat) : Int) := by
        rw [show ((x : Nat) : Int) - 1 = ((x - 1 : Nat) : Int) from by omega]
        rw [IntKind.wrap_u64]; omega
      have hand := bits_and_u64_nat x (x - 1) hx (by omega)
      have hlt : x &&& (x - 1) < x := Nat.lt_of_le_of_lt Nat.and_le_right (by omega)
      have HL : Hid ((asc m p).length ≤ 64) := Nat.le_trans (asc_length m p) hm
      obtain ⟨v', W, hr, hO, hM, hB⟩ := Oi.push B.out (by have := HL.out; omega) Q.out.size k
      have hv' : ∃ a c, v' = .slice a ((asc m p).length + 1) c := by
        obtain ⟨a, c, e, _⟩ := hO.is
        exact ⟨a, c, by rw [e]; simp⟩
      obtain ⟨a', c', rfl⟩ := hv'
      have HO : Hid (Oi W w.heap.size (.slice a' ((asc m p).length + 1) c') (asc (k + 1) p)) := by
        show Oi _ _ _ _
        rw [asc_next m k p f3 f1 f2]; exact hO
      have HQ : Hid (Qt w W) := Mv.trans Q.out hM (fun j hj e => by have := (ow_blk B.out j e).1; omega)
      have HF : Hid (x &&& (x - 1) = limb (from' (k + 1) p) 0) := f4
      generalize (asc m p).length = n1 at *
      clear hO hM hB f4 f3 f2 f1 hkb hkl
      go_wp2_with (first | (go_at_call 37; refine htz.mono ?_; rintro e w1 ⟨rfl, rfl⟩) | (at_builtin; refine wpList_append_given rfl _ _ 34 rfl _ _ _ W rfl rfl hr ?_))
      exact ⟨⟨k + 1, x &&& (x - 1), a', n1 + 1, c', by omega, by omega, rfl, rfl, HF, HO, HQ⟩, by simp only [intOf, Int.toNat_natCast]; exact hlt⟩

end Go.Proofs.YtojbakkbmfgoaaaDoor

namespace Go.Proofs.YtojbakkbmfgoaaaDoor
open Go.RowKit
set_option linter.unusedVariables false

theorem info34 : Tryd.prog.info? 34 = some Tryd.t34 := by kernel_rfl
theorem zero34 : Tryd.t34.zero = some (.slice none 0 0) := by kernel_rfl
theorem size34 : Tryd.t34.size = 1 := by kernel_rfl
theorem bytes34 : Tryd.t34.bytes = 24 := by kernel_rfl
/-- A row of one's own, of slices of ints. -/
def Ov (w : World) (base : Nat) (v : Value) (n : Nat) (G : Nat → List Nat) : Prop := ∃ vs, Own w base 34 v n vs ∧ ∀ i, i < n → Is w (vs i) (G i)
/-- A slice of slices of ints. -/
def Vs (w : World) (v : Value) (n : Nat) (G : Nat → List Nat) : Prop := ∃ a c vs, v = .slice a n c ∧ Sl w a n vs ∧ ∀ i, i < n → Is w (vs i) (G i)
theorem Own.typed {w : World} {base n : Nat} {e : TypeId} {v : Value} {V : Nat → Value} (h : Own w base e v n V) {j : Nat} (hj : v.ownBlock = some j) : ∃ cs, w.heap[j]? = some (.cells cs e (0, 0)) := by
  rcases h.2 with ⟨rfl, _⟩ | ⟨g, cap, cur, rfl, _, hg, _⟩
  · cases hj
  · have e2 : g = j := Option.some.inj hj
    exact ⟨cur, by rw [← e2]; exact hg⟩
theorem not_typed {w : World} {j s t : Nat} {cs ds : Array Value} {m k : Nat × Nat} (h : w.heap[j]? = some (.cells cs s m)) (g : w.heap[j]? = some (.cells ds t k)) : s = t := by
  rw [h] at g
  injection g with e
  injection e
theorem Ov.vs {w : World} {base : Nat} {v : Value} {n : Nat} {G : Nat → List Nat} (h : Ov w base v n G) : Vs w v n G := by
  obtain ⟨vs, h1, h2⟩ := h
  obtain ⟨a, c, e, h3, _⟩ := h1.sl
  exact ⟨a, c, vs, e, h3, h2⟩
theorem Vs.qt {w w' : World} {v : Value} {n : Nat} {G : Nat → List Nat} (h : Vs w v n G) (q : Qt w w') : Vs w' v n G := by
  obtain ⟨a, c, vs, e, h1, h2⟩ := h
  exact ⟨a, c, vs, e, h1.mv q (fun _ _ h => h), fun i hi => (h2 i hi).qt q⟩
theorem Ov.qt {w w' : World} {base : Nat} {v : Value} {n : Nat} {G : Nat → List Nat} (h : Ov w base v n G) (q : Qt w w') : Ov w' base v n G := by
  obtain ⟨vs, h1, h2⟩ := h
  exact ⟨vs, h1.mv q (fun _ _ h => h), fun i hi => (h2 i hi).qt q⟩
theorem Ov.nil (w : World) (base : Nat) (G : Nat → List Nat) : Ov w base (.slice none 0 0) 0 G := ⟨fun _ => .slice none 0 0, World.ownsRow_nil _ _ _ _, fun i hi => by omega⟩
theorem Ov.congr {w : World} {base : Nat} {v : Value} {n : Nat} {G H : Nat → List Nat} (h : Ov w base v n G) (e : ∀ i, i < n → G i = H i) : Ov w base v n H := by
  obtain ⟨vs, h1, h2⟩ := h
  exact ⟨vs, h1, fun i hi => by rw [← e i hi]; exact h2 i hi⟩
theorem Vs.congr {w : World} {v : Value} {n : Nat} {G H : Nat → List Nat} (h : Vs w v n G) (e : ∀ i, i < n → G i = H i) : Vs w v n H := by
  obtain ⟨a, c, vs, e1, h1, h2⟩ := h
  exact ⟨a, c, vs, e1, h1, fun i hi => by rw [← e i hi]; exact h2 i hi⟩
theorem Is.one {w : World} {v : Value} {l : List Nat} (h : Is w v l) : v.oneCell' = true := by
  obtain ⟨a, c, rfl, _⟩ := h; rfl
/-- One row more. -/
theorem Ov.push {w : World} {base : Nat} {v s : Value} {n : Nat} {G : Nat → List Nat} {l : List Nat} (h : Ov w base v n G) (hs : Is w s l) (hn : n < 90000) (hb : base ≤ w.heap.size) :
    ∃ v' W, (Builtin.append_ #[35, 35] 35 #[v, .slice (some ⟨w.heap.size, 0, none⟩) 1 1]).run Tryd.prog (w.alloc (.cells #[s] 34)) = .ok v' W ∧ Ov W base v' (n + 1) (fun i => if i < n then G i else l) ∧ Mv (fun j => v.ownBlock = some j) w W ∧ (v'.ownBlock = v.ownBlock ∨ ∃ g, v'.ownBlock = some g ∧ w.heap.size ≤ g) := by
  have q : Qt w (w.alloc (.cells #[s] 34)) := (Qt.refl w).alloc _
  obtain ⟨vs, h1, h2⟩ := h
  have hsl : Sl (w.alloc (.cells #[s] 34)) (some ⟨w.heap.size, 0, none⟩) 1 (fun _ => s) := by
    intro i hi
    refine ⟨_, _, rfl, by simp, ?_⟩
    obtain rfl : i = 0 := by omega
    simp
  obtain ⟨v', W, hr, hown, hgr, hnb⟩ := append_own 35 35 34 Tryd.t34 (.slice none 0 0) 24 Tryd.underlying35 info34 zero34 size34 bytes34 (by rfl) (by omega) (w.alloc (.cells #[s] 34)) base v n 1 1 vs (fun _ => s) (some ⟨w.heap.size, 0, none⟩) (h1.mv q (fun _ _ h => h)) hsl (fun _ => hs.one) (by omega) (fun e => by cases e) (Nat.le_trans hb q.size)
  have hmv : Mv (fun j => v.ownBlock = some j) w W := Mv.trans (q.mono (fun _ _ h => h.elim)) (Mv.of_grown hgr) (fun _ _ h => h)
  have hkeep : ∀ j cs, w.heap[j]? = some (.cells cs 3 (0, 0)) → ¬ v.ownBlock = some j := by
    intro j cs hj e
    obtain ⟨ds, hd⟩ := h1.typed e
    have := not_typed hj hd
    omega
  refine ⟨v', W, hr, ⟨cat vs n (fun _ => s), hown, fun i hi => ?_⟩, hmv, ?_⟩
  · unfold cat
    by_cases hin : i < n
    · simp only [if_pos hin]; exact (h2 i hin).mv hmv hkeep
    · simp only [if_neg hin]; exact hs.mv hmv hkeep
  · rcases hnb with h4 | ⟨g, e, h4⟩
    · exact .inl h4
    · exact .inr ⟨g, e, Nat.le_trans q.size h4⟩

set_option maxRecDepth 20000 in
set_option maxHeartbeats 4000000 in
theorem lists_any (P : Nat → Nat → Bool) (n : Nat) (hn : n < 1000) (a : Option Addr) (c : Nat) (w : World) (hs : Hid (Sl w a n (fun i => .int .u64 (limb (P i) 0)))) (hT : Hid (Tab w)) :
    Calls Tryd.prog 24 #[.slice a n c] w fun e w' => ∃ v, e = .returned v ∧ Hid (Ov w' w.heap.size v n (fun i => asc 64 (P i))) ∧ Hid (Qt w w') := by
  go_enter Tryd.func24, Tryd.ntmps24
  go_wp2_with fail
  go_loopw [3, 8] (fun s3 s8 wr => ∃ (i : Nat) (va : Option Addr) (vc : Nat), i ≤ n ∧ s8 = .int .i64 i ∧ s3 = .slice va i vc ∧ Hid (Ov wr w.heap.size (.slice va i vc) i (fun i => asc 64 (P i))) ∧ Hid (Qt w wr)) (fun _ s8 _ => n - (intOf s8).toNat)
  case atStart => exact ⟨0, none, 0, by omega, rfl, rfl, Ov.nil _ _ _, Qt.refl w⟩
  case round =>
    obtain ⟨i, va, vc, hi, rfl, rfl, B, Q⟩ := hrel
    by_cases hlt : i < n
    · obtain ⟨b, off, rfl, hbl, hc⟩ := hs.out i hlt
      have hc2 : wr.cell? ⟨b, off + i, none⟩ = some (.int .u64 (limb (P i) 0)) := Q.out.cell (p := ⟨b, off + i, none⟩) hc (fun h => h)
      have hl := list_any (P i) wr (hT.out.qt Q.out)
      clear hc hbl
      go_wp2_with fail
      refine hl.mono ?_
      rintro e w1 ⟨v, rfl, O1, q1⟩
      obtain ⟨av, nv, cv, rfl⟩ : ∃ av nv cv, v = .slice av nv cv := by
        obtain ⟨av, cv, e, _⟩ := O1.out.is
        exact ⟨av, _, cv, e⟩
      obtain ⟨v', W, hr, hO, hM, hB⟩ := Ov.push (B.out.qt q1.out) (O1.out.is) (by omega) (Nat.le_trans Q.out.size q1.out.size)
      have hv' : ∃ a c, v' = .slice a (i + 1) c := by
        obtain ⟨a, c, _, e, _⟩ := hO.vs
        exact ⟨a, c, e⟩
      obtain ⟨a', c', rfl⟩ := hv'
      have HO : Hid (Ov W w.heap.size (.slice a' (i + 1) c') (i + 1) (fun i => asc 64 (P i))) := hO.congr (fun j hj => by
        by_cases hji : j < i
        · simp only [if_pos hji]
        · obtain rfl : j = i := by omega
          simp only [if_neg hji])
      have HQ : Hid (Qt w W) := Mv.trans (Q.out.comp q1.out) hM (fun j hj e => by
        obtain ⟨vs, h1, _⟩ := B.out
        have := (h1.blk j e).1; omega)
      clear hO hM hB hl
      go_wp2_with (at_builtin; refine wpList_append_given rfl _ _ 35 rfl _ _ _ W rfl rfl hr ?_)
      exact ⟨⟨i + 1, a', c', by omega, by go_num, rfl, HO, HQ⟩, by simp [intOf]; omega⟩
    · obtain rfl : i = n := by omega
      go_wp2_with fail
      go_ret
      exact ⟨_, rfl, B, Q⟩

end Go.Proofs.YtojbakkbmfgoaaaDoor
