/- isSmall, May. -/
import Derived.Test.YtkclkhfcmjhogaaDoorK7
namespace Go.Proofs.YtkclkhfcmjhogaaDoor
open Go.RowKit
set_option linter.unusedVariables false

set_option maxHeartbeats 1000000 in
theorem isSmall_any (X : RX) (K : Nat → Prop) (a : Option Addr) (c : Nat) (w : World) (hK : ∀ j, K j → j < w.heap.size) (hX : Parts X.args K w a c) :
    Calls Tryd.prog 36 #[xv X.kind X.set a X.args.length c] w fun e w' => e = .returned (.bool (fits X 12 40)) ∧ Hid (Qt w w') := by
  have HX : Hid (Parts X.args K w a c) := hX
  have HK : Hid _ := hK
  clear hX hK
  unfold xv
  have ht : Hid _ := takes_any (w.heap.size + 1) X K (cells6 X.kind X.set a X.args.length c) 12 40 ((w.alloc (.cells #[.int .i64 X.kind, .int .u64 (limb X.set 0), .int .u64 (limb X.set 1), .int .u64 (limb X.set 2), .int .u64 (limb X.set 3), .slice a X.args.length c] 28)).alloc (.cells #[.int .i64 40] 3)) (lies_of ((HX.out.mv (Mv.alloc (fun _ => False) w _) (fun _ _ h => h)).mv (Mv.alloc (fun _ => False) _ _) (fun _ _ h => h))) (fun j hj => by have := HK.out j hj; omega) (by have h := heap_alloc2_new w (.cells #[.int .i64 X.kind, .int .u64 (limb X.set 0), .int .u64 (limb X.set 1), .int .u64 (limb X.set 2), .int .u64 (limb X.set 3), .slice a X.args.length c] 28) (.cells #[.int .i64 40] 3); simp only [World.cell?, h]; rfl) (by have h := heap_alloc2_new w (.cells #[.int .i64 X.kind, .int .u64 (limb X.set 0), .int .u64 (limb X.set 1), .int .u64 (limb X.set 2), .int .u64 (limb X.set 3), .slice a X.args.length c] 28) (.cells #[.int .i64 40] 3); simp only [World.frozen?, h]; rfl) (by decide) (by decide)
  obtain ⟨b0, b1, b2, b3, b4, b5⟩ := box6 (w := w) (w1 := w.alloc (.cells #[.int .i64 X.kind, .int .u64 (limb X.set 0), .int .u64 (limb X.set 1), .int .u64 (limb X.set 2), .int .u64 (limb X.set 3), .slice a X.args.length c] 28)) (Qt.refl _)
  go_enter Tryd.func36, Tryd.ntmps36
  go_wp2_with fail
  refine Calls.mono ht.out ?_
  rintro e1 w1 ⟨rfl, m1, t1⟩
  go_wp2_with fail
  go_ret
  exact ⟨rfl, Mv.trans (((Qt.refl w).alloc _).alloc _) m1.out (fun j hj e => by omega)⟩

theorem may_at (X : RX) : may X = if X.formed = false then 2 else if fits X 12 40 = true then 0 else 6 := by
  unfold may fits
  simp only [decide_eq_true_eq]
set_option maxHeartbeats 1000000 in
theorem may_any (X : RX) (K : Nat → Prop) (a : Option Addr) (c : Nat) (w : World) (hK : ∀ j, K j → j < w.heap.size) (hX : Parts X.args K w a c) (ht : X.tall < 90000) :
    Calls Tryd.prog 18 #[xv X.kind X.set a X.args.length c] w fun e w' => e = .returned (.int .i64 (may X)) ∧ Hid (Qt w w') := by
  have q0 := Mv.alloc (fun _ => False) w (.cells #[.int .i64 X.kind, .int .u64 (limb X.set 0), .int .u64 (limb X.set 1), .int .u64 (limb X.set 2), .int .u64 (limb X.set 3), .slice a X.args.length c] 28)
  have hf := isFormed_any X K a c _ (fun j hj => Nat.lt_of_lt_of_le (hK j hj) q0.size) (hX.mv q0 (fun _ _ h => h)) ht
  have hs := fun W (q : Hid (Qt w W)) => isSmall_any X K a c W (fun j hj => Nat.lt_of_lt_of_le (hK j hj) q.out.size) (hX.mv q.out (fun _ _ h => h))
  rw [may_at]
  clear hX hK ht q0
  unfold xv at *
  cases hff : X.formed with
  | false =>
    rw [hff] at hf
    clear hff hs
    go_enter Tryd.func18, Tryd.ntmps18
    go_wp2_with fail
    refine hf.mono ?_
    rintro e1 w1 ⟨rfl, q1⟩
    go_wp2_with fail
    go_ret
    exact ⟨rfl, ((Qt.refl w).alloc _).comp q1.out⟩
  | true =>
    rw [hff] at hf
    clear hff
    cases hss : fits X 12 40 with
    | true =>
      rw [hss] at hs
      clear hss
      go_enter Tryd.func18, Tryd.ntmps18
      go_wp2_with fail
      refine hf.mono ?_
      rintro e1 w1 ⟨rfl, q1⟩
      obtain ⟨b0, b1, b2, b3, b4, b5⟩ := box6 q1
      have Q1 : Hid (Qt w w1) := ((Qt.refl w).alloc _).comp q1.out
      go_wp2_with fail
      refine (hs _ Q1).mono ?_
      rintro e2 w2 ⟨rfl, q2⟩
      go_wp2_with fail
      go_ret
      exact ⟨rfl, Q1.out.comp q2.out⟩
    | false =>
      rw [hss] at hs
      clear hss
      go_enter Tryd.func18, Tryd.ntmps18
      go_wp2_with fail
      refine hf.mono ?_
      rintro e1 w1 ⟨rfl, q1⟩
      obtain ⟨b0, b1, b2, b3, b4, b5⟩ := box6 q1
      have Q1 : Hid (Qt w w1) := ((Qt.refl w).alloc _).comp q1.out
      go_wp2_with fail
      refine (hs _ Q1).mono ?_
      rintro e2 w2 ⟨rfl, q2⟩
      go_wp2_with fail
      go_ret
      exact ⟨rfl, Q1.out.comp q2.out⟩

end Go.Proofs.YtkclkhfcmjhogaaDoor
