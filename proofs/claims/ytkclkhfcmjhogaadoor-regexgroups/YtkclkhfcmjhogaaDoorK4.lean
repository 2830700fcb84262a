/- isNew: a row is noted. -/
import Derived.Test.YtkclkhfcmjhogaaDoorK3
import Derived.Maps.OwnOps
namespace Go.Proofs.YtkclkhfcmjhogaaDoor
open Go.RowKit Go.Maps
set_option linter.unusedVariables false

theorem wp_lookup_run {P : Program} (w : World) {ops : Array Oper} {rest : List Oper} {o : Oper} {a : Act} {Q : Exit → Act → World → Prop}
    (hg : o.guard = none) (m x : Operand) (t : TypeId) (hop : o.op = Op.lookup t m x true) (mv xv v : Value) (hm : a.eval m = mv) (hx : a.eval x = xv)
    (hrun : (Instr.lookup t mv xv true).run P w = .ok v w) (hK : wpList P ops Q rest (a.put o.dst v) w) : wpList P ops Q (o :: rest) a w := by
  refine wpList_plain hg fun K' hK' => ?_
  unfold Oper.wp
  simp [execOp, hop, hm, hx, hrun, Result.andThen]
  exact hK' _ _ hK
theorem wp_update_run {P : Program} (w w' : World) {ops : Array Oper} {rest : List Oper} {o : Oper} {a : Act} {Q : Exit → Act → World → Prop}
    (hg : o.guard = none) (m x v : Operand) (t : TypeId) (hop : o.op = Op.mapUpdate t m x v) (mv xv vv : Value) (hm : a.eval m = mv) (hx : a.eval x = xv) (hv : a.eval v = vv)
    (hrun : (Instr.mapUpdate t mv xv vv).run P w = .ok () w') (hK : wpList P ops Q rest (a.put o.dst undef) w') : wpList P ops Q (o :: rest) a w := by
  refine wpList_plain hg fun K' hK' => ?_
  unfold Oper.wp
  simp [execOp, hop, hm, hx, hv, hrun, Result.andThen]
  exact hK' _ _ hK

/-- What is noted behind. -/
def noted (L : List (Int × Addr × Nat)) (r : Int × Addr × Nat) : List (Int × Addr × Nat) := if L.contains r then L else L ++ [r]

set_option maxHeartbeats 1000000 in
theorem isNew_none (m : Nat) (k : Int) (p : Nat → Bool) (a : Option Addr) (c : Nat) (w : World) : Calls Tryd.prog 52 #[.map (some m), xv k p a 0 c] w fun e w' => e = .returned (.bool false) ∧ Hid (Qt w w') := by
  unfold xv
  generalize limb p 0 = x0 at *
  generalize limb p 1 = x1 at *
  generalize limb p 2 = x2 at *
  generalize limb p 3 = x3 at *
  go_enter Tryd.func52, Tryd.ntmps52
  go_wp2_with fail
  go_ret
  exact ⟨rfl, (Qt.refl w).alloc _⟩

set_option maxHeartbeats 1000000 in
theorem isNew_some (m : Nat) (k : Int) (p : Nat → Bool) (b o n c : Nat) (L : List (Int × Addr × Nat)) (w : World) (hn : 0 < n) (hL : Hid (Mk m L w)) (hf : Hid (Flat w ⟨b, o, none⟩)) (hm : Hid (b ≠ m ∧ ∀ s ∈ L, s.2.1.block ≠ m)) (bb : Bool) (hbb : Hid (L.contains (k, ⟨b, o, none⟩, n) = bb)) :
    Calls Tryd.prog 52 #[.map (some m), xv k p (some ⟨b, o, none⟩) n c] w fun e w' => e = .returned (.bool (!bb)) ∧ Hid (Mv (fun j => j = m) w w' ∧ Mk m (noted L (k, ⟨b, o, none⟩, n)) w') := by
  unfold xv
  generalize limb p 0 = x0 at *
  generalize limb p 1 = x1 at *
  generalize limb p 2 = x2 at *
  generalize limb p 3 = x3 at *
  have hz : ((n : Int) == 0) = false := by simp; omega
  have hz1 : (0 : Int) < (n : Int) := by omega
  go_enter Tryd.func52, Tryd.ntmps52
  go_wp2_with fail
  go_region
  obtain ⟨W, hW⟩ : ∃ W, W = ((w.alloc (.cells #[.int .i64 k, .int .u64 x0, .int .u64 x1, .int .u64 x2, .int .u64 x3, .slice (some ⟨b, o, none⟩) n c] 28)).alloc (.cells #[.int .i64 k, .pointer (some ⟨b, o, none⟩), .int .i64 n] 93)).drew := ⟨_, rfl⟩
  have hq : Qt w W := by rw [hW]; exact (((Qt.refl w).alloc _).alloc _).drew
  have hh : W.heap[w.heap.size + 1]? = some (.cells #[.int .i64 k, .pointer (some ⟨b, o, none⟩), .int .i64 n] 93 (0, 0)) := by rw [hW]; exact heap_alloc2_new _ _ _
  rw [← hW]
  clear hW
  have c0 : W.cell? ⟨w.heap.size + 1, 0, none⟩ = some (.int .i64 k) := by simp [World.cell?, hh]
  have c1 : W.cell? ⟨w.heap.size + 1, 1, none⟩ = some (.pointer (some ⟨b, o, none⟩)) := by simp [World.cell?, hh]
  have c2 : W.cell? ⟨w.heap.size + 1, 2, none⟩ = some (.int .i64 n) := by simp [World.cell?, hh]
  have HL : Hid (Mk m L W) := hL.out.mv hq (fun h => h) (fun _ _ h => h)
  have HF : Hid (Flat W ⟨b, o, none⟩) := hf.out.mv hq (fun h => h)
  have HQ : Hid (Qt w W) := hq
  have LK : (Instr.lookup 73 (.map (some m)) (.agg #[.int .i64 k, .pointer (some ⟨b, o, none⟩), .int .i64 n]) true).run Tryd.prog W = .ok (.tuple #[.agg #[], .bool bb]) W := by rw [← hbb.out]; exact HL.out.look (k, ⟨b, o, none⟩, n) HF.out
  clear hh hq
  have HB := hbb
  clear hbb
  cases bb with
  | true =>
    have HC : Hid (noted L (k, ⟨b, o, none⟩, n) = L) := by show _ = _; unfold noted; rw [if_pos HB.out]
    have LH : Hid _ := LK
    clear LK
    go_wp2_with (at_lookup; refine wp_lookup_run _ rfl _ _ 73 rfl _ _ _ rfl rfl LH.out ?_)
    go_ret
    refine ⟨rfl, ?_, ?_⟩
    · exact ((HQ.out.alloc _).mono (fun _ _ h => h.elim))
    · rw [HC.out]; exact HL.out.mv (Mv.alloc (fun _ => False) W _) (fun h => h) (fun _ _ h => h)
  | false =>
    have HC : Hid (noted L (k, ⟨b, o, none⟩, n) = L ++ [(k, ⟨b, o, none⟩, n)]) := by show _ = _; unfold noted; rw [if_neg (by rw [HB.out]; decide)]
    have QA : Qt W (W.alloc (.cells #[] 94)) := Mv.alloc _ _ _
    obtain ⟨W2, U1, U2, U3⟩ := (HL.out.mv QA (fun h => h) (fun _ _ h => h)).put (k, ⟨b, o, none⟩, n) (HF.out.mv QA (fun h => h)) HB.out
    have d0 := Qt.keep (w := W) (w' := W.alloc (.cells #[] 94)) QA c0
    have d1 := Qt.keep (w := W) (w' := W.alloc (.cells #[] 94)) QA c1
    have d2 := Qt.keep (w := W) (w' := W.alloc (.cells #[] 94)) QA c2
    clear QA
    have LH : Hid _ := LK
    have UH : Hid ((Instr.mapUpdate 73 (.map (some m)) (.agg #[.int .i64 k, .pointer (some ⟨b, o, none⟩), .int .i64 n]) (.agg #[])).run Tryd.prog (W.alloc (.cells #[] 94)) = .ok () W2) := U1
    have V2 : Hid _ := U2
    have V3 : Hid _ := U3
    clear LK U1 U2 U3
    go_wp2_with (first | (at_lookup; refine wp_lookup_run _ rfl _ _ 73 rfl _ _ _ rfl rfl LH.out ?_) | (at_mapUpdate; refine wp_update_run _ _ rfl _ _ _ 73 rfl _ _ _ rfl rfl rfl UH.out ?_))
    go_ret
    refine ⟨rfl, ?_, ?_⟩
    · exact Mv.trans ((HQ.out.alloc _).mono (fun _ _ h => h.elim)) V2.out (fun _ _ h => h)
    · rw [HC.out]; exact V3.out hm.out.1 hm.out.2

end Go.Proofs.YtkclkhfcmjhogaaDoor
