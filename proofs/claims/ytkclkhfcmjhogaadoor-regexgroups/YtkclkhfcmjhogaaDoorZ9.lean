/- In, Null. -/
import Derived.Test.YtkclkhfcmjhogaaDoorZ8
namespace Go.Proofs.YtkclkhfcmjhogaaDoor
open Go.RowKit
set_option linter.unusedVariables false

/-- Does it match? -/
def inX (bt : Nat → Nat) (n : Nat) (x : RX) : Bool := decide (n ≤ 60) && (decide (may x = 0) && x.mt bt n 0 n)
theorem may_small {x : RX} (h : may x = 0) : x.formed = true ∧ x.nodes ≤ 40 ∧ x.depth ≤ 12 := by
  unfold may at h
  split at h
  · cases h
  · split at h
    · next h1 h2 => exact ⟨by simpa using h1, h2⟩
    · cases h

set_option maxHeartbeats 4000000 in
theorem in_any (bt : Nat → Nat) (n : Nat) (hb : ∀ i, i < n → bt i < 256) (X : RX) (K : Nat → Prop) (a wa : Option Addr) (c wc : Nat) (w : World) (hK : ∀ j, K j → j < w.heap.size) (hX : Parts X.args K w a c) (ht : X.tall < 90000) (hw : Hid (Sl w wa n (Bn bt))) (hT : Hid (Tab w)) :
    Calls Tryd.prog 26 #[.agg #[.int .i64 X.kind, .int .u64 (limb X.set 0), .int .u64 (limb X.set 1), .int .u64 (limb X.set 2), .int .u64 (limb X.set 3), .slice a X.args.length c], .slice wa n wc] w fun e w' => e = .returned (.bool (inX bt n X)) ∧ Hid (Qt w w') := by
  by_cases hn : n ≤ 60
  · have q0 := Mv.alloc (fun _ => False) w (.cells #[.int .i64 X.kind, .int .u64 (limb X.set 0), .int .u64 (limb X.set 1), .int .u64 (limb X.set 2), .int .u64 (limb X.set 3), .slice a X.args.length c] 28)
    have hm := may_any X K a c _ (fun j hj => Nat.lt_of_lt_of_le (hK j hj) q0.size) (hX.mv q0 (fun _ _ h => h)) ht
    have hni : (n : Int) ≤ 60 := by omega
    have hsp := fun (hmay : may X = 0) W (q : Hid (Qt w W)) => spans_any bt n hn hb X (may_small hmay).2.1 K a wa c wc W (hX.mv q.out (fun _ _ h => h)) (show Hid _ from hw.out.mv q.out (fun _ _ h => h)) (hT.out.qt q.out) (may_small hmay).1
    have HI : Hid (inX bt n X = (decide (may X = 0) && X.mt bt n 0 n)) := by show _ = _; unfold inX; rw [decide_eq_true hn, Bool.true_and]
    have HN : Hid (n ≤ 60) := hn
    clear hX hK ht q0 hb hn
    unfold xv at *
    generalize inX bt n X = I at *
    generalize hF : X.mt bt n = F at *
    by_cases hz : may X = 0
    · have hsp2 := hsp hz
      rw [hz] at hm HI
      have HE : Hid (I = F 0 n) := by show _ = _; rw [HI.out]; simp
      clear hsp hz HI hF
      go_enter Tryd.func26, Tryd.ntmps26
      go_wp2_with fail
      refine hm.mono ?_
      rintro e1 w1 ⟨rfl, q1⟩
      obtain ⟨b0, b1, b2, b3, b4, b5⟩ := box6 q1
      have Q1 : Hid (Qt w w1) := ((Qt.refl w).alloc _).comp q1.out
      go_wp2_with fail
      refine (hsp2 _ Q1).mono ?_
      intro e2 w2 h2
      obtain ⟨g, rfl, h3, h4⟩ := h2
      have hhas := spansHas F (n + 1) n g w2 (by omega) HN.out h3
      clear b0 b1 b2 b3 b4 b5
      go_wp2_with fail
      refine hhas.mono ?_
      rintro e3 w3 ⟨rfl, q3⟩
      go_wp2_with fail
      go_ret
      exact ⟨by rw [HE.out]; rfl, (Q1.out.comp h4.out).comp q3.out⟩
    · have HE : Hid (I = false) := by show _ = _; rw [HI.out, decide_eq_false hz]; rfl
      generalize may X = m at *
      have hzb : (m == 0) = false := beq_false_of_ne hz
      have hzc : (m != 0) = true := bne_iff_ne.2 hz
      clear hsp HI hF
      go_enter Tryd.func26, Tryd.ntmps26
      go_wp2_with fail
      refine hm.mono ?_
      rintro e1 w1 ⟨rfl, q1⟩
      have Q1 : Hid (Qt w w1) := ((Qt.refl w).alloc _).comp q1.out
      go_wp2_with fail
      go_ret
      exact ⟨by rw [HE.out]; rfl, Q1.out⟩
  · have hni : (n : Int) > 60 := by omega
    have HE : Hid (inX bt n X = false) := by show _ = _; unfold inX; rw [decide_eq_false hn]; rfl
    generalize inX bt n X = I at *
    clear hX hK ht hb hn hw
    go_enter Tryd.func26, Tryd.ntmps26
    go_wp2_with fail
    go_ret
    exact ⟨by rw [HE.out]; rfl, (Qt.refl w).alloc _⟩

end Go.Proofs.YtkclkhfcmjhogaaDoor
