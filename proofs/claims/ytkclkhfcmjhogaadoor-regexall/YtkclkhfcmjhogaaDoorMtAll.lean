/- RegexAll. -/
import Derived.Test.YtkclkhfcmjhogaaDoorMgW4
import Derived.Test.YtkclkhfcmjhogaaDoorMgY
import Derived.Test.YtkclkhfcmjhogaaDoorMgD
import Derived.Test.YtkclkhfcmjhogaaDoorMgF
import Derived.Test.YtkclkhfcmjhogaaDoorMgV
import Derived.Test.YtkclkhfcmjhogaaDoorMgN
namespace Go.Proofs.YtkclkhfcmjhogaaDoor
open Go.RowKit
set_option linter.unusedVariables false

/-- A region that draws, whose operations and callees leave a world of a class: one walk. -/
theorem wp_region_quietC {P : Program} {C : World → Prop} {id : Nat} {Q : Exit → Act → World → Prop} {a : Act} {w : World} {l : List Oper} (hm : P.follows .mixedOrders = true) (hB : Region.lexB .any l.toArray = true) (hC : C { w with drawn := w.drawn + 1 })
    (h : wpQuiet P l.toArray C (fun a' => ∀ w', C w' → Q .normal a' w') l a) : (Code.region id l.toArray true).wp P Q a w :=
  wp_region_quiet (C := C) hm hB hC (by simpa using h)

set_option maxRecDepth 20000 in
set_option maxHeartbeats 4000000 in
theorem all_early (a0 a1 : Option Addr) (n0 n1 c0 c1 : Nat) (w : World) (hT : Hid (Tab w)) (hl : 30 < n0 ∨ (n0 ≤ 30 ∧ 12 < n1)) : Calls Tryd.prog 5 #[.slice a0 n0 c0, .slice a1 n1 c1] w fun e w' => e = .returned (.bool true) ∧ Hid (Qt w w') := by
  have hb := begun_true w hT
  rcases hl with l0 | ⟨l0, l1⟩
  · have g0 : (30 : Int) < (n0 : Int) := by omega
    clear l0
    go_enter Tryd.func5, Tryd.ntmps5
    go_wp2_with fail
    refine hb.mono ?_
    rintro e1 w1 ⟨rfl, q1⟩
    go_wp2_with fail
    go_ret
    exact ⟨rfl, q1.out⟩
  · have g0 : (n0 : Int) ≤ 30 := by omega
    have g1 : (12 : Int) < (n1 : Int) := by omega
    clear l0 l1
    go_enter Tryd.func5, Tryd.ntmps5
    go_wp2_with fail
    refine hb.mono ?_
    rintro e1 w1 ⟨rfl, q1⟩
    go_wp2_with fail
    go_ret
    exact ⟨rfl, q1.out⟩
set_option maxRecDepth 20000 in
set_option maxHeartbeats 8000000 in
theorem all_main (a0 a1 : Option Addr) (n0 n1 c0 c1 : Nat) (f0 f1 : Nat → Nat) (w : World) (s0 : Hid (Sl w a0 n0 (Bn f0))) (s1 : Hid (Sl w a1 n1 (Bn f1))) (o0 : Hid (∀ j, f0 j < 256)) (o1 : Hid (∀ j, f1 j < 256)) (h0 : Hid (∀ q, a0 = some q → q.block < w.heap.size)) (hT : Hid (Tab w)) (l0 : n0 ≤ 30) (l1 : n1 ≤ 12) : Calls Tryd.prog 5 #[.slice a0 n0 c0, .slice a1 n1 c1] w fun e w' => e = .returned (.bool true) ∧ Hid (Qt w w') := by
  have hb := begun_true w hT
  obtain ⟨g, hg⟩ := gd_ex
  have HG : Hid (Gd g) := hg
  have g0 : (n0 : Int) ≤ 30 := by omega
  have g1 : (n1 : Int) ≤ 12 := by omega
  have L0 : Hid (n0 < 1000000) := (by omega : n0 < 1000000)
  have L1 : Hid (n1 ≤ 12) := l1
  clear l0 l1 hg
  have hrx : ∀ g n W, Hid (Pk W g a0 n0 c0 f0 n) → Calls Tryd.prog 21 #[.pointer (some ⟨g, 0, none⟩), .int .i64 3] W fun e w' => RxP 3 W g a0 n0 c0 f0 e w' := fun g n W h => rx_any 3 (by decide) g a0 n0 c0 f0 n W h
  go_enter Tryd.func5, Tryd.ntmps5
  go_wp2_with fail
  refine hb.mono ?_
  rintro e1 w1 ⟨rfl, q1⟩
  go_wp2_with fail
  refine (made_any a0 n0 c0 f0 w1 (show Hid _ from s0.out.mv q1.out (fun _ _ h => h)) L0.out (fun j _ => o0.out j) (fun q hq => Nat.lt_of_lt_of_le (h0.out q hq) q1.out.size)).mono ?_
  rintro e2 w2 ⟨rfl, p2, q2⟩
  go_wp2_with fail
  refine (hrx _ _ _ p2).mono ?_
  intro e3 w3 h3
  obtain ⟨x, pa, pc, m3', rfl, plx, px, p3, m3⟩ := h3
  have Q3 : Hid (Qt w w3) := Mv.trans (q1.out.comp q2.out) m3.out (fun j hj e => by have := q1.out.size; omega)
  have XT : Hid (Tr x pa pc w3.heap.size (w3.alloc (.cells #[.int .i64 x.kind, .int .u64 (limb x.set 0), .int .u64 (limb x.set 1), .int .u64 (limb x.set 2), .int .u64 (limb x.set 3), .slice pa x.args.length pc] 28))) := Tr.new px.out (hT.out.qt Q3.out)
  have QX : Hid (Qt w (w3.alloc (.cells #[.int .i64 x.kind, .int .u64 (limb x.set 0), .int .u64 (limb x.set 1), .int .u64 (limb x.set 2), .int .u64 (limb x.set 3), .slice pa x.args.length pc] 28))) := Q3.out.alloc _
  obtain ⟨b0, b1, b2, b3, b4, b5, _⟩ := B6.facts (Tr.b XT)
  have HM : Hid (may x = 0) := plx.out.may (by decide)
  have HS := may_small HM.out
  have HFM : Hid (x.formed = true) := HS.1
  have HND : Hid (x.nodes ≤ 40) := HS.2.1
  have HTL : Hid (x.tall < 90000) := (by have := tall_nodes x; have := HS.2.1; omega : x.tall < 90000)
  clear hrx hb p3 px m3 p2 q2 q1 Q3 HS plx
  go_wp2_with fail
  generalize w3.alloc (.cells #[.int .i64 x.kind, .int .u64 (limb x.set 0), .int .u64 (limb x.set 1), .int .u64 (limb x.set 2), .int .u64 (limb x.set 3), .slice pa x.args.length pc] 28) = W3 at *
  refine (tr_may HM.out XT).mono ?_
  rintro e4 w4 ⟨rfl, q4⟩
  have X4 := Tr.qt XT q4
  have Q4 : Hid (Qt w w4) := QX.out.comp q4.out
  clear b0 b1 b2 b3 b4 b5 XT QX q4
  obtain ⟨b0, b1, b2, b3, b4, b5, _⟩ := B6.facts (Tr.b X4)
  obtain ⟨S, hS⟩ : ∃ S, S = str (x.sh g) := ⟨_, rfl⟩
  obtain ⟨z1, hz1⟩ : ∃ z, z = x.mt f1 0 0 0 := ⟨_, rfl⟩
  obtain ⟨z2, hz2⟩ : ∃ z, z = x.mt f1 n1 0 n1 := ⟨_, rfl⟩
  have e1' : inX f1 0 x = z1 := by unfold inX; rw [hz1, HM.out]; simp
  have e2' : inX f1 n1 x = z2 := by unfold inX; rw [hz2, HM.out]; have := L1.out; simp; omega
  have hshow : ∀ W, Hid (Qt w4 W) → Calls Tryd.prog 22 #[.agg #[.int .i64 x.kind, .int .u64 (limb x.set 0), .int .u64 (limb x.set 1), .int .u64 (limb x.set 2), .int .u64 (limb x.set 3), .slice pa x.args.length pc]] W fun e w' => e = .returned (.string S) ∧ Hid (Qt w4 w') := fun W q => (showX_any g HG.out x _ pa pc W (fun j hj => hj) (Tr.qt X4 q).out.parts (Tr.qt X4 q).out.tab HM.out).mono fun e w' h => ⟨by rw [hS]; exact h.1, q.out.comp h.2.out⟩
  have hrsh : ∀ W, Hid (Qt w4 W) → Calls Tryd.prog 23 #[.agg #[.int .i64 x.kind, .int .u64 (limb x.set 0), .int .u64 (limb x.set 1), .int .u64 (limb x.set 2), .int .u64 (limb x.set 3), .slice pa x.args.length pc]] W fun e w' => e = .returned (.string S) ∧ Hid (Qt w4 w') := fun W q => (rsh_any HG.out x _ pa pc W (show Hid _ from (Tr.qt X4 q).out.parts) HFM.out (by have := HND.out; omega)).mono fun e w' h => ⟨by rw [hS]; exact h.1, q.out.comp h.2.out⟩
  have hnull : ∀ W, Hid (Qt w4 W) → Calls Tryd.prog 24 #[.agg #[.int .i64 x.kind, .int .u64 (limb x.set 0), .int .u64 (limb x.set 1), .int .u64 (limb x.set 2), .int .u64 (limb x.set 3), .slice pa x.args.length pc]] W fun e w' => e = .returned (.bool z1) ∧ Hid (Qt w4 w') := fun W q => (tr_null HTL.out f1 (Tr.qt X4 q)).mono fun e w' h => ⟨by rw [← e1']; exact h.1, q.out.comp h.2.out⟩
  have hrnull : ∀ W, Hid (Qt w4 W) → Calls Tryd.prog 25 #[.agg #[.int .i64 x.kind, .int .u64 (limb x.set 0), .int .u64 (limb x.set 1), .int .u64 (limb x.set 2), .int .u64 (limb x.set 3), .slice pa x.args.length pc]] W fun e w' => e = .returned (.bool z1) ∧ Hid (Qt w4 w') := fun W q => (rnull_any f1 x _ pa pc W (Tr.qt X4 q).out.parts HFM.out HND.out).mono fun e w' h => ⟨by rw [hz1]; exact h.1, q.out.comp h.2.out⟩
  have hin : ∀ W, Hid (Qt w4 W) → Calls Tryd.prog 26 #[.agg #[.int .i64 x.kind, .int .u64 (limb x.set 0), .int .u64 (limb x.set 1), .int .u64 (limb x.set 2), .int .u64 (limb x.set 3), .slice pa x.args.length pc], .slice a1 n1 c1] W fun e w' => e = .returned (.bool z2) ∧ Hid (Qt w4 w') := fun W q => (tr_in HTL.out f1 n1 (fun i _ => o1.out i) (Tr.qt X4 q) (show Hid _ from s1.out.mv (Q4.out.comp q.out) (fun _ _ h => h))).mono fun e w' h => ⟨by rw [← e2']; exact h.1, q.out.comp h.2.out⟩
  have hrin : ∀ W, Hid (Qt w4 W) → Calls Tryd.prog 27 #[.agg #[.int .i64 x.kind, .int .u64 (limb x.set 0), .int .u64 (limb x.set 1), .int .u64 (limb x.set 2), .int .u64 (limb x.set 3), .slice pa x.args.length pc], .slice a1 n1 c1] W fun e w' => e = .returned (.bool z2) ∧ Hid (Qt w4 w') := fun W q => (rin_any f1 n1 (by have := L1.out; omega) (fun i _ => o1.out i) x _ pa a1 pc c1 W (Tr.qt X4 q).out.parts HFM.out HND.out (show Hid _ from s1.out.mv (Q4.out.comp q.out) (fun _ _ h => h))).mono fun e w' h => ⟨by rw [hz2]; exact h.1, q.out.comp h.2.out⟩
  clear hS hz1 hz2 e1' e2'
  go_wp2_with fail
  refine wp_region_quietC (C := fun W => Hid (Qt w4 W)) (by kernel_rfl) (by kernel_rfl) (show Hid (Qt w4 w4.drew) from Mv.drewN _ w4 1) ?_
  go_big_quiet_want
  go_big_quiet_op
  refine ⟨.agg #[.int .i64 x.kind, .int .u64 (limb x.set 0), .int .u64 (limb x.set 1), .int .u64 (limb x.set 2), .int .u64 (limb x.set 3), .slice pa x.args.length pc], fun W hW => ?_, ?_⟩
  · have d0 := Qt.keep hW.out b0
    have d1 := Qt.keep hW.out b1
    have d2 := Qt.keep hW.out b2
    have d3 := Qt.keep hW.out b3
    have d4 := Qt.keep hW.out b4
    have d5 := Qt.keep hW.out b5
    go_simp
  go_big_quiet_on
  go_big_quiet_want
  go_big_quiet_op
  refine ⟨.string S, fun W hW => ?_, ?_⟩
  · exact hshow W hW
  go_big_quiet_on
  go_big_quiet_want
  go_big_quiet_op
  refine ⟨.agg #[.int .i64 x.kind, .int .u64 (limb x.set 0), .int .u64 (limb x.set 1), .int .u64 (limb x.set 2), .int .u64 (limb x.set 3), .slice pa x.args.length pc], fun W hW => ?_, ?_⟩
  · have d0 := Qt.keep hW.out b0
    have d1 := Qt.keep hW.out b1
    have d2 := Qt.keep hW.out b2
    have d3 := Qt.keep hW.out b3
    have d4 := Qt.keep hW.out b4
    have d5 := Qt.keep hW.out b5
    go_simp
  go_big_quiet_on
  go_big_quiet_want
  go_big_quiet_op
  refine ⟨.string S, fun W hW => ?_, ?_⟩
  · exact hrsh W hW
  go_big_quiet_on
  go_big_quiet_want
  go_big_quiet_op
  first
    | go_big_quiet_on
    | (refine ⟨.bool true, fun W _ => ?_, ?_⟩
       · first
           | rfl
           | simp
       go_big_quiet_on)
  go_big_quiet_want
  go_big_quiet_op
  first
    | go_big_quiet_on
    | (refine ⟨.bool true, fun W _ => ?_, ?_⟩
       · first
           | rfl
           | simp
       go_big_quiet_on)
  go_big_quiet_want
  go_big_quiet_op
  refine ⟨.agg #[.int .i64 x.kind, .int .u64 (limb x.set 0), .int .u64 (limb x.set 1), .int .u64 (limb x.set 2), .int .u64 (limb x.set 3), .slice pa x.args.length pc], fun W hW => ?_, ?_⟩
  · have d0 := Qt.keep hW.out b0
    have d1 := Qt.keep hW.out b1
    have d2 := Qt.keep hW.out b2
    have d3 := Qt.keep hW.out b3
    have d4 := Qt.keep hW.out b4
    have d5 := Qt.keep hW.out b5
    go_simp
  go_big_quiet_on
  go_big_quiet_want
  go_big_quiet_op
  refine ⟨.bool z1, fun W hW => ?_, ?_⟩
  · exact hnull W hW
  go_big_quiet_on
  go_big_quiet_want
  go_big_quiet_op
  refine ⟨.agg #[.int .i64 x.kind, .int .u64 (limb x.set 0), .int .u64 (limb x.set 1), .int .u64 (limb x.set 2), .int .u64 (limb x.set 3), .slice pa x.args.length pc], fun W hW => ?_, ?_⟩
  · have d0 := Qt.keep hW.out b0
    have d1 := Qt.keep hW.out b1
    have d2 := Qt.keep hW.out b2
    have d3 := Qt.keep hW.out b3
    have d4 := Qt.keep hW.out b4
    have d5 := Qt.keep hW.out b5
    go_simp
  go_big_quiet_on
  go_big_quiet_want
  go_big_quiet_op
  refine ⟨.bool z1, fun W hW => ?_, ?_⟩
  · exact hrnull W hW
  go_big_quiet_on
  go_big_quiet_want
  go_big_quiet_op
  first
    | go_big_quiet_on
    | (refine ⟨.bool true, fun W _ => ?_, ?_⟩
       · first
           | rfl
           | simp
       go_big_quiet_on)
  go_big_quiet_want
  go_big_quiet_op
  first
    | go_big_quiet_on
    | (refine ⟨.bool true, fun W _ => ?_, ?_⟩
       · first
           | rfl
           | simp
       go_big_quiet_on)
  go_big_quiet_want
  go_big_quiet_op
  first
    | go_big_quiet_on
    | (refine ⟨.bool true, fun W _ => ?_, ?_⟩
       · first
           | rfl
           | simp
       go_big_quiet_on)
  go_big_quiet_want
  go_big_quiet_op
  refine ⟨.agg #[.int .i64 x.kind, .int .u64 (limb x.set 0), .int .u64 (limb x.set 1), .int .u64 (limb x.set 2), .int .u64 (limb x.set 3), .slice pa x.args.length pc], fun W hW => ?_, ?_⟩
  · have d0 := Qt.keep hW.out b0
    have d1 := Qt.keep hW.out b1
    have d2 := Qt.keep hW.out b2
    have d3 := Qt.keep hW.out b3
    have d4 := Qt.keep hW.out b4
    have d5 := Qt.keep hW.out b5
    go_simp
  go_big_quiet_on
  go_big_quiet_want
  go_big_quiet_op
  first
    | go_big_quiet_on
    | (refine ⟨.slice a1 n1 c1, fun W _ => ?_, ?_⟩
       · first
           | rfl
           | simp
       go_big_quiet_on)
  go_big_quiet_want
  go_big_quiet_op
  refine ⟨.bool z2, fun W hW => ?_, ?_⟩
  · exact hin W hW
  go_big_quiet_on
  go_big_quiet_want
  go_big_quiet_op
  refine ⟨.agg #[.int .i64 x.kind, .int .u64 (limb x.set 0), .int .u64 (limb x.set 1), .int .u64 (limb x.set 2), .int .u64 (limb x.set 3), .slice pa x.args.length pc], fun W hW => ?_, ?_⟩
  · have d0 := Qt.keep hW.out b0
    have d1 := Qt.keep hW.out b1
    have d2 := Qt.keep hW.out b2
    have d3 := Qt.keep hW.out b3
    have d4 := Qt.keep hW.out b4
    have d5 := Qt.keep hW.out b5
    go_simp
  go_big_quiet_on
  go_big_quiet_want
  go_big_quiet_op
  first
    | go_big_quiet_on
    | (refine ⟨.slice a1 n1 c1, fun W _ => ?_, ?_⟩
       · first
           | rfl
           | simp
       go_big_quiet_on)
  go_big_quiet_want
  go_big_quiet_op
  refine ⟨.bool z2, fun W hW => ?_, ?_⟩
  · exact hrin W hW
  go_big_quiet_on
  go_big_quiet_want
  go_big_quiet_op
  first
    | go_big_quiet_on
    | (refine ⟨.bool true, fun W _ => ?_, ?_⟩
       · first
           | rfl
           | simp
       go_big_quiet_on)
  go_big_quiet_want
  go_big_quiet_op
  first
    | go_big_quiet_on
    | (refine ⟨.bool true, fun W _ => ?_, ?_⟩
       · first
           | rfl
           | simp
       go_big_quiet_on)
  go_big_quiet_want
  go_big_quiet_op
  first
    | go_big_quiet_on
    | (refine ⟨.bool true, fun W _ => ?_, ?_⟩
       · first
           | rfl
           | simp
       go_big_quiet_on)
  refine wpQuiet_nil ?_
  intro w5 q5
  go_wp2_with fail
  go_ret
  exact ⟨rfl, Q4.out.comp q5.out⟩

theorem regexAll_row (a0 : Option Addr) (n0 c0 : Nat) (f0 : Nat → Int) (a1 : Option Addr) (n1 c1 : Nat) (f1 : Nat → Int) (w : World) (s0 : Sl w a0 n0 (fun i => .int .u8 (f0 i))) (o0 : ∀ i, (Lit.int .u8 (f0 i)).wf = true) (h0 : ∀ q, a0 = some q → q.block < w.heap.size) (s1 : Sl w a1 n1 (fun i => .int .u8 (f1 i))) (o1 : ∀ i, (Lit.int .u8 (f1 i)).wf = true) (h1 : ∀ q, a1 = some q → q.block < w.heap.size) (hT : Tab w) : Calls Tryd.prog 5 #[.slice a0 n0 c0, .slice a1 n1 c1] w fun e w' => e = .returned (.bool true) ∧ Below w.heap.size w w' := by
  obtain ⟨g0, p0, b0⟩ := bytes_of s0 o0
  obtain ⟨g1, p1, b1⟩ := bytes_of s1 o1
  by_cases hl : n0 ≤ 30 ∧ n1 ≤ 12
  · exact (all_main a0 a1 n0 n1 c0 c1 g0 g1 w p0 p1 b0 b1 h0 hT hl.1 hl.2).mono fun e w' ⟨he, hq⟩ => ⟨he, hq.out.below (Nat.le_refl _) (fun _ _ h => h)⟩
  · exact (all_early a0 a1 n0 n1 c0 c1 w hT (by omega)).mono fun e w' ⟨he, hq⟩ => ⟨he, hq.out.below (Nat.le_refl _) (fun _ _ h => h)⟩

end Go.Proofs.YtkclkhfcmjhogaaDoor
