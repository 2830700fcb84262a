/- The reference's reader: rep. -/
import Derived.Test.YtkclkhfcmjhogaaDoorMgU2
import Derived.Test.YtkclkhfcmjhogaaDoorMgH3
import Derived.Deep.RegionHeld3
import Derived.Test.YtkclkhfcmjhogaaDoorMgI
import Derived.Test.YtkclkhfcmjhogaaDoorMgH4
namespace Go.Proofs.YtkclkhfcmjhogaaDoor
open Go.RowKit
set_option linter.unusedVariables false

/-- While the signs are tried. -/
structure Rq (w : World) (q : Nat) (gx : Nat) (x : RX) (a : Option Addr) (c : Nat) (W : World) : Prop where
  bx : B6 gx (.int .i64 x.kind) (.int .u64 (limb x.set 0)) (.int .u64 (limb x.set 1)) (.int .u64 (limb x.set 2)) (.int .u64 (limb x.set 3)) (.slice a x.args.length c) W
  z : B6 w.heap.size (.int .i64 0) (.int .u64 0) (.int .u64 0) (.int .u64 0) (.int .u64 0) (.slice none 0 0) W
  pa : Parts x.args (fun j => w.heap.size + 1 ≤ j ∧ j < gx) W a c
  mv : Mv (fun k => k = q) w W
  h0 : q < w.heap.size
  h1 : w.heap.size < gx
theorem Rq.next {w W W' : World} {q gx c : Nat} {x : RX} {a : Option Addr} (h : Hid (Rq w q gx x a c W)) (m : Mv (fun k => k = q) W W') : Hid (Rq w q gx x a c W') := by
  have h := h.out
  have h0 := h.h0; have h1 := h.h1
  exact ⟨(B6.mv h.bx m (by omega)).out, (B6.mv h.z m (by omega)).out, h.pa.mv m (fun j hj e => by omega), h.mv.trans m (fun j hj e => by omega), h0, h1⟩
theorem Rq.nextQ {w W W' : World} {q gx c : Nat} {x : RX} {a : Option Addr} (h : Hid (Rq w q gx x a c W)) (m : Hid (Qt W W')) : Hid (Rq w q gx x a c W') := Rq.next h (m.out.mono (fun _ _ h => h.elim))
theorem Rq.tell {w W : World} {q n gx c : Nat} {S : ByteArray} {x : RX} {a : Option Addr} {t : List Nat} (h : Hid (Rq w q gx x a c W)) (O : Hid (Ok4 q S t n W)) {b : Nat} (hb : W.heap.size = b) (k : Int) (v0 v1 v2 v3 v4 v5 : Value) :
    Rr4 q S n w (.ok (⟨k, eset, [x]⟩, t)) (.returned (.agg #[.int .i64 k, .int .u64 0, .int .u64 0, .int .u64 0, .int .u64 0, .slice (some ⟨b, 0, none⟩) 1 1])) (put6 (W.alloc (.cells #[.int .i64 x.kind, .int .u64 (limb x.set 0), .int .u64 (limb x.set 1), .int .u64 (limb x.set 2), .int .u64 (limb x.set 3), .slice a x.args.length c] 28)) w.heap.size v0 v1 v2 v3 v4 v5) := by
  subst hb
  have h := h.out
  have h0 := h.h0
  have h1 := h.bx.lt
  have hs := h.mv.size
  have hz := h.z.lt
  have qa := Mv.alloc (fun _ => False) W (.cells #[.int .i64 x.kind, .int .u64 (limb x.set 0), .int .u64 (limb x.set 1), .int .u64 (limb x.set 2), .int .u64 (limb x.set 3), .slice a x.args.length c] 28)
  have mp := put6_mv (W.alloc (.cells #[.int .i64 x.kind, .int .u64 (limb x.set 0), .int .u64 (limb x.set 1), .int .u64 (limb x.set 2), .int .u64 (limb x.set 3), .slice a x.args.length c] 28)) w.heap.size v0 v1 v2 v3 v4 v5
  have e : (Value.agg #[.int .i64 k, .int .u64 0, .int .u64 0, .int .u64 0, .int .u64 0, .slice (some ⟨W.heap.size, 0, none⟩) 1 1]) = .agg #[.int .i64 k, .int .u64 (limb eset 0), .int .u64 (limb eset 1), .int .u64 (limb eset 2), .int .u64 (limb eset 3), .slice (some ⟨W.heap.size, 0, none⟩) 1 1] := by
    rw [show limb eset 0 = 0 from limb_none 0, show limb eset 1 = 0 from limb_none 1, show limb eset 2 = 0 from limb_none 2, show limb eset 3 = 0 from limb_none 3]; rfl
  rw [e]
  exact ⟨⟨k, eset, [x]⟩, _, _, rfl, (((parts_one h.pa (fun j hj => by omega)).mono (fun j hj => by omega)).mv (K := fun j => w.heap.size < j) mp (fun j hj e => by omega)).mono (fun j hj => by omega), (h.mv.trans qa (fun _ _ h => h.elim)).trans mp (fun j hj e => by omega), rfl, Ok4.mv (Ok4.mv O qa (fun h => h)) mp (by omega)⟩
theorem Rq.none {w W : World} {q n gx c : Nat} {S : ByteArray} {x : RX} {a : Option Addr} {t : List Nat} (h : Hid (Rq w q gx x a c W)) (O : Hid (Ok4 q S t n W)) (v0 v1 v2 v3 v4 v5 : Value) :
    Rr4 q S n w (.ok (x, t)) (.returned (.agg #[.int .i64 x.kind, .int .u64 (limb x.set 0), .int .u64 (limb x.set 1), .int .u64 (limb x.set 2), .int .u64 (limb x.set 3), .slice a x.args.length c])) (put6 W w.heap.size v0 v1 v2 v3 v4 v5) := by
  have h := h.out
  have h0 := h.h0
  have mp := put6_mv W w.heap.size v0 v1 v2 v3 v4 v5
  exact ⟨x, a, c, rfl, (h.pa.mv mp (fun j hj e => by omega)).mono (fun j hj => by omega), h.mv.trans mp (fun j hj e => by omega), rfl, Ok4.mv O mp (by omega)⟩
theorem Rq.bad {w W : World} {q n gx c : Nat} {S : ByteArray} {x : RX} {a : Option Addr} {e : Int} (h : Hid (Rq w q gx x a c W)) (O : Hid (Er4 q S e n W)) (hx : x.args.length < 1000) (v0 v1 v2 v3 v4 v5 : Value) :
    Rr4 q S n w (.error e) (.returned (.agg #[.int .i64 x.kind, .int .u64 (limb x.set 0), .int .u64 (limb x.set 1), .int .u64 (limb x.set 2), .int .u64 (limb x.set 3), .slice a x.args.length c])) (put6 W w.heap.size v0 v1 v2 v3 v4 v5) := by
  have h := h.out
  have h0 := h.h0
  have mp := put6_mv W w.heap.size v0 v1 v2 v3 v4 v5
  exact ⟨x, a, c, rfl, (h.pa.mv mp (fun j hj e => by omega)).mono (fun j hj => by omega), h.mv.trans mp (fun j hj e => by omega), Er4.mv O mp (by omega), hx⟩
theorem Ok4.step {q n d : Nat} {S : ByteArray} {t : List Nat} {w : World} (h : Hid (Ok4 q S (d :: t) n w)) {k : Nat} (hk : k = S.size - (d :: t).length) : Hid (Ok4 q S t n (w.setCell ⟨q, 1, none⟩ (.int .i64 ((k : Int) + 1)))) := by
  have hle := h.out.le
  simp only [List.length_cons] at hle hk
  refine ⟨?_, h.out.sf.sfx (List.suffix_cons _ _), by omega, h.out.room, h.out.deep⟩
  rw [show ((S.size - t.length : Nat) : Int) = (k : Int) + 1 from by omega]
  exact h.out.at_.at _

theorem hdc_yes {b : Nat} {l : List Nat} (h : hdc l b = true) : ∃ t, l = b :: t := by
  cases l with
  | nil => cases h
  | cons c t =>
    have : c = b := by simpa [hdc] using h
    exact ⟨t, by rw [this]⟩
theorem signS_nod {x : RX} {t : List Nat} (h0 : hdc t 42 = false) (h1 : hdc t 43 = false) (h2 : hdc t 63 = false) : signS x t = (x, t) := by
  cases t with
  | nil => rfl
  | cons d v =>
    have e0 : ¬ d = 42 := by simpa [hdc] using h0
    have e1 : ¬ d = 43 := by simpa [hdc] using h1
    have e2 : ¬ d = 63 := by simpa [hdc] using h2
    simp [signS, signK, e0, e1, e2]

set_option maxRecDepth 20000 in
set_option maxHeartbeats 8000000 in
theorem rrep_any (n : Nat) (hA : ∀ m, n = m + 1 → RAlt m) {q : Nat} {S : ByteArray} {l : List Nat} {w : World} (h : Hid (Ok4 q S l n w)) : Calls Tryd.prog 73 #[.pointer (some ⟨q, 0, none⟩)] w fun e w' => Rr4 q S n w (repS (inn n) l) e w' := by
  have h1 : Hid (Ok4 q S l n (w.alloc zeros6)) := Ok4.mv h (Mv.alloc (fun _ => False) w zeros6) (fun h => h)
  have ha := ratom_any n hA h1
  have HQ : Hid (q < w.heap.size) := Ok4.lt h
  obtain ⟨s, hs⟩ : ∃ s, s = repS (inn n) l := ⟨_, rfl⟩
  rw [← hs]
  have HS0 : Hid (s = repS (inn n) l) := hs
  obtain ⟨r, hr⟩ : ∃ r, r = atomS (inn n) l := ⟨_, rfl⟩
  rw [← hr] at ha
  have HR0 : Hid (atomS (inn n) l = r) := hr.symm
  have E0 : ∀ W, (Instr.index 9 (.string ⟨#[42, 43, 63]⟩) (.int .i64 0)).run Tryd.prog W = .ok (.int .u8 42) W := index_run ⟨#[42, 43, 63]⟩ [] [43, 63] 42 rfl
  have E1 : ∀ W, (Instr.index 9 (.string ⟨#[42, 43, 63]⟩) (.int .i64 1)).run Tryd.prog W = .ok (.int .u8 43) W := index_run ⟨#[42, 43, 63]⟩ [42] [63] 43 rfl
  have E2 : ∀ W, (Instr.index 9 (.string ⟨#[42, 43, 63]⟩) (.int .i64 2)).run Tryd.prog W = .ok (.int .u8 63) W := index_run ⟨#[42, 43, 63]⟩ [42, 43] [] 63 rfl
  clear hs hr hA h h1
  go_enter Tryd.func73, Tryd.ntmps73
  go_wp2_with fail
  refine ha.mono ?_
  rintro e1 w1 ⟨x, a, c, rfl, P1, M1, hR⟩
  have HRO : Hid _ := hR
  clear hR ha
  have HW : Hid (w.heap.size + 1 ≤ w1.heap.size) := by have := M1.out.size; simp at this; exact this
  have Q0 : Hid (Rq w q w1.heap.size x a c (w1.alloc (.cells #[.int .i64 x.kind, .int .u64 (limb x.set 0), .int .u64 (limb x.set 1), .int .u64 (limb x.set 2), .int .u64 (limb x.set 3), .slice a x.args.length c] 28))) := by
    have qa := Mv.alloc (fun _ => False) w1 (.cells #[.int .i64 x.kind, .int .u64 (limb x.set 0), .int .u64 (limb x.set 1), .int .u64 (limb x.set 2), .int .u64 (limb x.set 3), .slice a x.args.length c] 28)
    have hw := HW.out
    have hq := HQ.out
    have P2 : Parts x.args (fun j => w.heap.size + 1 ≤ j ∧ j < w1.heap.size) w1 a c := P1.out.lt.mono (fun j hj => ⟨by have := hj.1; simp at this; omega, hj.2⟩)
    exact ⟨heap_alloc_new w1 _, (B6.mv (B6.mv (show B6 w.heap.size (.int .i64 0) (.int .u64 0) (.int .u64 0) (.int .u64 0) (.int .u64 0) (.slice none 0 0) (w.alloc zeros6) from heap_alloc_new w zeros6) M1.out (by omega)).out qa (fun h => h)).out, P2.mv qa (fun _ _ h => h), (Mv.trans (Mv.alloc _ w zeros6) M1.out (fun _ _ h => h)).trans qa (fun _ _ h => h.elim), hq, by omega⟩
  cases r with
  | error er =>
    obtain ⟨hE, hx⟩ := HRO.out
    have HX : Hid (x.args.length < 1000) := hx
    have E2' : Hid (Er4 q S er n (w1.alloc (.cells #[.int .i64 x.kind, .int .u64 (limb x.set 0), .int .u64 (limb x.set 1), .int .u64 (limb x.set 2), .int .u64 (limb x.set 3), .slice a x.args.length c] 28))) := Er4.mv hE (Mv.alloc (fun _ => False) w1 _) (fun h => h)
    have HB : Hid (s = .error er) := by show _ = _; rw [HS0.out]; exact repS_error HR0.out
    obtain ⟨k5, d5, hB5, _, _⟩ := E2'.out.at_
    obtain ⟨k0, k1, k2, k3, f1, f2, f3⟩ := B4.facts (show Hid _ from hB5)
    have hne : (er == 0) = false := beq_false_of_ne E2'.out.ne
    obtain ⟨x0, x1, x2, x3, x4, x5, _, _, _, _, _, _⟩ := B6.facts (show Hid _ from Q0.out.bx)
    obtain ⟨z0, z1, z2, z3, z4, z5, f0', f1', f2', f3', f4', f5'⟩ := B6.facts (show Hid _ from Q0.out.z)
    clear hB5 HRO hE hx
    go_wp2_with fail
    refine wp_loop_rounds 5 ?_
    iterate 4
      rw [rounds_succ]
      go_wp2_with fail
    refine bodyPost_ret (results_cell_row (p := 2) (ty := 28) rfl _ _ w.heap.size 28 _ (0, 0) _ rfl (put6_heap Q0.out.z _ _ _ _ _ _) Tryd.underlying28 rfl (by kernel_rfl)) rfl ?_
    rw [HB.out]
    exact Rq.bad Q0 E2' HX.out _ _ _ _ _ _
  | ok r =>
    obtain ⟨y, t⟩ := r
    obtain ⟨hxy, hO⟩ := HRO.out
    obtain rfl : x = y := hxy
    have HE : Hid (s = .ok (signS x t)) := by show _ = _; rw [HS0.out]; exact repS_ok HR0.out
    have O0 : Hid (Ok4 q S t n (w1.alloc (.cells #[.int .i64 x.kind, .int .u64 (limb x.set 0), .int .u64 (limb x.set 1), .int .u64 (limb x.set 2), .int .u64 (limb x.set 3), .slice a x.args.length c] 28))) := Ok4.mv hO (Mv.alloc (fun _ => False) w1 _) (fun h => h)
    clear HRO hO
    obtain ⟨W0, hW0⟩ : ∃ W0, W0 = w1.alloc (.cells #[.int .i64 x.kind, .int .u64 (limb x.set 0), .int .u64 (limb x.set 1), .int .u64 (limb x.set 2), .int .u64 (limb x.set 3), .slice a x.args.length c] 28) := ⟨_, rfl⟩
    rw [← hW0] at O0 Q0
    obtain ⟨k, hk⟩ : ∃ k, k = S.size - t.length := ⟨_, rfl⟩
    have HK : Hid (k = S.size - t.length) := hk
    have hk6 : k ≤ 120 := by have := O0.out.room; omega
    clear hk
    go_wp2_with fail
    rw [← hW0]
    clear hW0
    generalize w1.heap.size = gx at *
    refine wp_loop_rounds 5 ?_
    obtain ⟨_, _, _, c0, _, _, _⟩ := B4.facts (show Hid _ from O0.out.at_)
    have hk0 := ris_ok O0 42
    cases hh : hdc t 42 with
    | true =>
      obtain ⟨u, rfl⟩ := hdc_yes hh
      rw [hh] at hk0
      clear hh
      rw [rounds_succ]
      go_wp2_with fail
      refine hk0.mono ?_
      rintro e2 U ⟨rfl, q2⟩
      have O := Ok4.mv O0 q2.out (fun h => h)
      have Q := Rq.nextQ Q0 q2
      have OS := Ok4.step O HK.out
      have QS := Rq.next Q (Mv.setCell U ⟨q, 1, none⟩ (.int .i64 ((k : Int) + 1)))
      obtain ⟨_, k1, _, _, f1, _, _⟩ := B4.facts (show Hid _ from O.out.at_)
      rw [← HK.out] at k1
      obtain ⟨p0, p1, p2, p3, p4, p5, _, _, _, _, _, _⟩ := B6.facts (show Hid _ from QS.out.bx)
      have HZ : Hid _ := B6.mv QS.out.z (Mv.alloc (fun _ => False) (U.setCell ⟨q, 1, none⟩ (.int .i64 ((k : Int) + 1))) (.cells #[.int .i64 x.kind, .int .u64 (limb x.set 0), .int .u64 (limb x.set 1), .int .u64 (limb x.set 2), .int .u64 (limb x.set 3), .slice a x.args.length c] 28)) (fun h => h)
      obtain ⟨z0, z1, z2, z3, z4, z5, g0, g1, g2, g3, g4, g5⟩ := B6.facts HZ
      clear hk0 c0
      go_wp2_with fail
      refine bodyPost_ret (results_cell_row (p := 2) (ty := 28) rfl _ _ w.heap.size 28 _ (0, 0) _ rfl (put6_heap HZ.out _ _ _ _ _ _) Tryd.underlying28 rfl (by kernel_rfl)) rfl ?_
      rw [HE.out, signS_at (k := 4) rfl]
      exact Rq.tell QS OS (b := U.heap.size) (by simp) 4 _ _ _ _ _ _
    | false =>
      have HN0 : Hid (hdc t 42 = false) := hh
      rw [hh] at hk0
      clear hh
      rw [rounds_succ]
      go_wp2_with fail
      refine hk0.mono ?_
      rintro e2 W1 ⟨rfl, q2⟩
      have O1 := Ok4.mv O0 q2.out (fun h => h)
      have Q1 := Rq.nextQ Q0 q2
      clear hk0 c0 q2 O0 Q0
      go_wp2_with fail
      obtain ⟨_, _, _, c1, _, _, _⟩ := B4.facts (show Hid _ from O1.out.at_)
      have hk1 := ris_ok O1 43
      cases hh : hdc t 43 with
      | true =>
        obtain ⟨u, rfl⟩ := hdc_yes hh
        rw [hh] at hk1
        clear hh
        rw [rounds_succ]
        go_wp2_with fail
        refine hk1.mono ?_
        rintro e2 U ⟨rfl, q2⟩
        have O := Ok4.mv O1 q2.out (fun h => h)
        have Q := Rq.nextQ Q1 q2
        have OS := Ok4.step O HK.out
        have QS := Rq.next Q (Mv.setCell U ⟨q, 1, none⟩ (.int .i64 ((k : Int) + 1)))
        obtain ⟨_, k1, _, _, f1, _, _⟩ := B4.facts (show Hid _ from O.out.at_)
        rw [← HK.out] at k1
        obtain ⟨p0, p1, p2, p3, p4, p5, _, _, _, _, _, _⟩ := B6.facts (show Hid _ from QS.out.bx)
        have HZ : Hid _ := B6.mv QS.out.z (Mv.alloc (fun _ => False) (U.setCell ⟨q, 1, none⟩ (.int .i64 ((k : Int) + 1))) (.cells #[.int .i64 x.kind, .int .u64 (limb x.set 0), .int .u64 (limb x.set 1), .int .u64 (limb x.set 2), .int .u64 (limb x.set 3), .slice a x.args.length c] 28)) (fun h => h)
        obtain ⟨z0, z1, z2, z3, z4, z5, g0, g1, g2, g3, g4, g5⟩ := B6.facts HZ
        clear hk1 c1
        go_wp2_with fail
        refine bodyPost_ret (results_cell_row (p := 2) (ty := 28) rfl _ _ w.heap.size 28 _ (0, 0) _ rfl (put6_heap HZ.out _ _ _ _ _ _) Tryd.underlying28 rfl (by kernel_rfl)) rfl ?_
        rw [HE.out, signS_at (k := 5) rfl]
        exact Rq.tell QS OS (b := U.heap.size) (by simp) 5 _ _ _ _ _ _
      | false =>
        have HN1 : Hid (hdc t 43 = false) := hh
        rw [hh] at hk1
        clear hh
        rw [rounds_succ]
        go_wp2_with fail
        refine hk1.mono ?_
        rintro e2 W2 ⟨rfl, q2⟩
        have O2 := Ok4.mv O1 q2.out (fun h => h)
        have Q2 := Rq.nextQ Q1 q2
        clear hk1 c1 q2 O1 Q1
        go_wp2_with fail
        obtain ⟨_, _, _, c2, _, _, _⟩ := B4.facts (show Hid _ from O2.out.at_)
        have hk2 := ris_ok O2 63
        cases hh : hdc t 63 with
        | true =>
          obtain ⟨u, rfl⟩ := hdc_yes hh
          rw [hh] at hk2
          clear hh
          rw [rounds_succ]
          go_wp2_with fail
          refine hk2.mono ?_
          rintro e2 U ⟨rfl, q2⟩
          have O := Ok4.mv O2 q2.out (fun h => h)
          have Q := Rq.nextQ Q2 q2
          have OS := Ok4.step O HK.out
          have QS := Rq.next Q (Mv.setCell U ⟨q, 1, none⟩ (.int .i64 ((k : Int) + 1)))
          obtain ⟨_, k1, _, _, f1, _, _⟩ := B4.facts (show Hid _ from O.out.at_)
          rw [← HK.out] at k1
          obtain ⟨p0, p1, p2, p3, p4, p5, _, _, _, _, _, _⟩ := B6.facts (show Hid _ from QS.out.bx)
          have HZ : Hid _ := B6.mv QS.out.z (Mv.alloc (fun _ => False) (U.setCell ⟨q, 1, none⟩ (.int .i64 ((k : Int) + 1))) (.cells #[.int .i64 x.kind, .int .u64 (limb x.set 0), .int .u64 (limb x.set 1), .int .u64 (limb x.set 2), .int .u64 (limb x.set 3), .slice a x.args.length c] 28)) (fun h => h)
          obtain ⟨z0, z1, z2, z3, z4, z5, g0, g1, g2, g3, g4, g5⟩ := B6.facts HZ
          clear hk2 c2
          go_wp2_with fail
          refine bodyPost_ret (results_cell_row (p := 2) (ty := 28) rfl _ _ w.heap.size 28 _ (0, 0) _ rfl (put6_heap HZ.out _ _ _ _ _ _) Tryd.underlying28 rfl (by kernel_rfl)) rfl ?_
          rw [HE.out, signS_at (k := 6) rfl]
          exact Rq.tell QS OS (b := U.heap.size) (by simp) 6 _ _ _ _ _ _
        | false =>
          have HN2 : Hid (hdc t 63 = false) := hh
          rw [hh] at hk2
          clear hh
          rw [rounds_succ]
          go_wp2_with fail
          refine hk2.mono ?_
          rintro e2 W3 ⟨rfl, q2⟩
          have O3 := Ok4.mv O2 q2.out (fun h => h)
          have Q3 := Rq.nextQ Q2 q2
          clear hk2 c2 q2 O2 Q2
          go_wp2_with fail
          obtain ⟨p0, p1, p2, p3, p4, p5, _, _, _, _, _, _⟩ := B6.facts (show Hid _ from Q3.out.bx)
          obtain ⟨z0, z1, z2, z3, z4, z5, g0, g1, g2, g3, g4, g5⟩ := B6.facts (show Hid _ from Q3.out.z)
          rw [rounds_succ]
          go_wp2_with fail
          refine bodyPost_ret (results_cell_row (p := 2) (ty := 28) rfl _ _ w.heap.size 28 _ (0, 0) _ rfl (put6_heap Q3.out.z _ _ _ _ _ _) Tryd.underlying28 rfl (by kernel_rfl)) rfl ?_
          rw [HE.out, signS_nod HN0.out HN1.out HN2.out]
          exact Rq.none Q3 O3 _ _ _ _ _ _

end Go.Proofs.YtkclkhfcmjhogaaDoor

namespace Go.Proofs.YtkclkhfcmjhogaaDoor
open Go.RowKit
set_option linter.unusedVariables false

/-- How the reader stands: so much is left, or this went wrong. -/
def St4 (q n : Nat) (S : ByteArray) (Rr : List RX → List Nat → Resl) (R : Resl) (acc : List RX) (st : Except Int (List Nat)) (W : World) : Prop := match st with
  | .ok t => Ok4 q S t n W ∧ Rr acc t = R ∧ acc.length + t.length ≤ 121
  | .error e => Er4 q S e n W ∧ R = .error e ∧ acc.length ≤ 122
theorem St4.mv {X : Nat → Prop} {q n : Nat} {S : ByteArray} {Rr : List RX → List Nat → Resl} {R : Resl} {acc : List RX} {st : Except Int (List Nat)} {W W' : World} (h : St4 q n S Rr R acc st W) (m : Mv X W W') (hx : ¬ X q) : St4 q n S Rr R acc st W' := by
  cases st with
  | ok t => exact ⟨(Ok4.mv h.1 m hx).out, h.2⟩
  | error e => exact ⟨(Er4.mv h.1 m hx).out, h.2⟩
theorem St4.few {q n : Nat} {S : ByteArray} {Rr : List RX → List Nat → Resl} {R : Resl} {acc : List RX} {st : Except Int (List Nat)} {W : World} (h : St4 q n S Rr R acc st W) : acc.length ≤ 122 := by
  cases st with
  | ok t => have := h.2.2; omega
  | error e => exact h.2.2
/-- While a row of trees is read. -/
structure Cl4 (w : World) (q n : Nat) (S : ByteArray) (Rr : List RX → List Nat → Resl) (R : Resl) (wr : World) (v : Value) (acc : List RX) (st : Except Int (List Nat)) : Prop where
  ro : Ro (w.heap.size + 1) (Kv w wr v) wr v acc
  z : B6 w.heap.size (.int .i64 0) (.int .u64 0) (.int .u64 0) (.int .u64 0) (.int .u64 0) (.slice none 0 0) wr
  mv : Mv (fun k => k = q) w wr
  st : St4 q n S Rr R acc st wr
  ne : acc ≠ []
  low : ∀ y ∈ acc, y.args.length < 1000
  hq : q < w.heap.size
theorem Cl4.start {w w1 : World} {q n c : Nat} {S : ByteArray} {Rr : List RX → List Nat → Resl} {R : Resl} {x : RX} {st : Except Int (List Nat)} {a : Option Addr} (hq : q < w.heap.size) (hz : B6 w.heap.size (.int .i64 0) (.int .u64 0) (.int .u64 0) (.int .u64 0) (.int .u64 0) (.slice none 0 0) w1) (hp : Parts x.args (fun j => w.heap.size + 1 ≤ j) w1 a c) (M : Mv (fun k => k = q) w w1) (hs : St4 q n S Rr R [x] st w1) (hx : x.args.length < 1000) :
    Cl4 w q n S Rr R (w1.alloc (.cells #[.int .i64 x.kind, .int .u64 (limb x.set 0), .int .u64 (limb x.set 1), .int .u64 (limb x.set 2), .int .u64 (limb x.set 3), .slice a x.args.length c] 28)) (.slice (some ⟨w1.heap.size, 0, none⟩) 1 1) [x] st := by
  have hw := B6.lt hz
  have qa := Mv.alloc (fun _ => False) w1 (.cells #[.int .i64 x.kind, .int .u64 (limb x.set 0), .int .u64 (limb x.set 1), .int .u64 (limb x.set 2), .int .u64 (limb x.set 3), .slice a x.args.length c] 28)
  have hr := (Ro.new (base := w.heap.size + 1) hw (fun j hj => hj.2) hp.lt).out
  refine ⟨hr.mono (fun j hj => ⟨hj.1, Nat.lt_of_lt_of_le hj.2 qa.size, fun e => ?_⟩) (fun j hj => hj.2.2), (B6.mv hz qa (fun h => h)).out, M.trans qa (fun _ _ h => h.elim), hs.mv qa (fun h => h), by simp, fun y hy => by rw [List.mem_singleton.1 hy]; exact hx, hq⟩
  have := Option.some.inj e
  have := hj.2
  simp at *
  omega
/-- One more is read and appended. -/
theorem Cl4.step {w wr w2 : World} {q n c : Nat} {S : ByteArray} {Rr : List RX → List Nat → Resl} {R : Resl} {v : Value} {acc : List RX} {st st' : Except Int (List Nat)} {x : RX} {a : Option Addr} (h : Cl4 w q n S Rr R wr v acc st) (hp : Parts x.args (fun j => wr.heap.size ≤ j) w2 a c) (M : Mv (fun k => k = q) wr w2) (hs : St4 q n S Rr R (acc ++ [x]) st' w2) (hx : x.args.length < 1000) :
    ∃ v' W, (Builtin.append_ #[26, 26] 26 #[v, .slice (some ⟨w2.heap.size, 0, none⟩) 1 1]).run Tryd.prog (w2.alloc (.cells #[.int .i64 x.kind, .int .u64 (limb x.set 0), .int .u64 (limb x.set 1), .int .u64 (limb x.set 2), .int .u64 (limb x.set 3), .slice a x.args.length c] 28)) = .ok v' W ∧ Hid (Cl4 w q n S Rr R W v' (acc ++ [x]) st') := by
  have hq := h.hq
  have hw1 := h.mv.size
  have hw2 := M.size
  have hz := h.z.lt
  have hfew := h.st.few
  have hblk : ∀ j, v.ownBlock = some j → w.heap.size + 1 ≤ j ∧ j < wr.heap.size := by
    obtain ⟨ys, h1, _⟩ := h.ro.ow
    exact ow_blk h1
  have hro2 : Ro (w.heap.size + 1) (Kv w w2 v) w2 v acc :=
    (h.ro.mv M (fun j hj e => by have := hj.1; omega) (fun j hj e => by have := hblk j hj; omega)).mono (fun j hj => ⟨hj.1, by have := hj.2.1; omega, hj.2.2⟩) (fun j hj => hj.2.2)
  have hp2 : Parts x.args (Kv w w2 v) w2 a c := hp.lt.mono (fun j hj => ⟨by have := hj.1; omega, hj.2, fun e => by have := hblk j e; have := hj.1; omega⟩)
  obtain ⟨v', W, hr, ro', m2, nb⟩ := hro2.push (by omega) (by omega) (fun j hj => hj.2.1) hp2
  have hW := m2.out.size
  refine ⟨v', W, hr, ⟨ro'.out.mono (fun j hj => ⟨hj.1, by have := hj.2.1; omega, ro'.out.off j hj⟩) (fun j hj => hj.2.2), (B6.mv (B6.mv h.z M (by omega)).out m2.out (fun e => by have := hblk _ e; omega)).out, (h.mv.trans M (fun _ _ h => h)).trans m2.out (fun j hj e => by have := hblk j e; omega), hs.mv m2.out (fun e => by have := hblk q e; omega), by simp, fun y hy => ?_, hq⟩⟩
  rcases List.mem_append.1 hy with hy | hy
  · exact h.low y hy
  · rw [List.mem_singleton.1 hy]; exact hx
/-- What the row is made of, in the end. -/
theorem Cl4.tell {w wr w2 : World} {q n c : Nat} {S : ByteArray} {Rr : List RX → List Nat → Resl} {R : Resl} {v : Value} {acc : List RX} {st : Except Int (List Nat)} {y : RX} {a : Option Addr} (k : Int) (h : Cl4 w q n S Rr R wr v acc st) (hy : y = one k acc) (hp : Parts y.args (fun j => w.heap.size + 1 ≤ j) w2 a c) (q2 : Qt wr w2) (hR : ∀ t, st = .ok t → R = .ok (acc, t)) (v0 v1 v2 v3 v4 v5 : Value) :
    Rr4 q S n w (oneR k R) (.returned (.agg #[.int .i64 y.kind, .int .u64 (limb y.set 0), .int .u64 (limb y.set 1), .int .u64 (limb y.set 2), .int .u64 (limb y.set 3), .slice a y.args.length c])) (put6 w2 w.heap.size v0 v1 v2 v3 v4 v5) := by
  have hq := h.hq
  have mp := put6_mv w2 w.heap.size v0 v1 v2 v3 v4 v5
  have hst := (h.st.mv q2 (fun h => h)).mv mp (by omega)
  have hlow : y.args.length < 1000 := by
    rw [hy]
    unfold one
    split
    · exact h.low _ (by simp)
    · have := h.st.few
      show acc.length < 1000
      omega
  refine ⟨y, a, c, rfl, (hp.mv mp (fun j hj e => by omega)).mono (fun j hj => by omega), (h.mv.trans q2 (fun _ _ h => h.elim)).trans mp (fun j hj e => by omega), ?_⟩
  cases st with
  | ok t =>
    rw [hR t rfl]
    exact ⟨hy, hst.1⟩
  | error e =>
    rw [hst.2.1]
    exact ⟨hst.1, hlow⟩

end Go.Proofs.YtkclkhfcmjhogaaDoor

namespace Go.Proofs.YtkclkhfcmjhogaaDoor
open Go.RowKit
set_option linter.unusedVariables false

set_option maxRecDepth 20000 in
set_option maxHeartbeats 2000000 in
theorem ris_endD (q : Nat) (S : ByteArray) (k d e : Int) (c : Nat) (w : World) (h : Hid (B4 q S k d e w)) (hk : (S.size : Int) ≤ k) (hs : S.size ≤ 120) : Calls Tryd.prog 49 #[.pointer (some ⟨q, 0, none⟩), .int .u8 c] w fun e w' => e = .returned (.bool false) ∧ ∃ m, w' = w.drewN m := by
  obtain ⟨k0, k1, k2, k3, _⟩ := B4.facts h
  have hk2 : decide (k < (S.size : Int)) = false := by simp; omega
  go_enter Tryd.func49, Tryd.ntmps49
  go_wp2_with fail
  go_quiet (fail)
  go_wp2_with fail
  go_ret
  exact ⟨rfl, _, rfl⟩
set_option maxRecDepth 20000 in
set_option maxHeartbeats 2000000 in
theorem ris_atD (q : Nat) (S : ByteArray) (k : Nat) (d e : Int) (c x : Nat) (w : World) (h : Hid (B4 q S k d e w)) (hi : ∀ w, (Instr.index 9 (.string S) (.int .i64 (k : Int))).run Tryd.prog w = .ok (.int .u8 (x : Int)) w) (hk : k < S.size) (hs : S.size ≤ 120) (b : Bool) (hb : ((x : Int) == (c : Int)) = b) : Calls Tryd.prog 49 #[.pointer (some ⟨q, 0, none⟩), .int .u8 c] w fun e w' => e = .returned (.bool b) ∧ ∃ m, w' = w.drewN m := by
  obtain ⟨k0, k1, k2, k3, _⟩ := B4.facts h
  have hk2 : decide (k < S.size) = true := by simp; omega
  have hk3 : decide ((k : Int) < (S.size : Int)) = true := by simp; omega
  have hk4 : (k : Int) < (S.size : Int) := by omega
  have hk5 : (0 : Int) ≤ (k : Int) := by omega
  go_enter Tryd.func49, Tryd.ntmps49
  go_wp2_with fail
  go_quiet (fail)
  go_wp2_with fail
  go_ret
  exact ⟨rfl, _, rfl⟩
theorem ris_okD {q : Nat} {S : ByteArray} {l : List Nat} {n : Nat} {w : World} (h : Hid (Ok4 q S l n w)) (c : Nat) : Calls Tryd.prog 49 #[.pointer (some ⟨q, 0, none⟩), .int .u8 c] w fun e w' => e = .returned (.bool (hdc l c)) ∧ ∃ m, w' = w.drewN m := by
  cases l with
  | nil => exact ris_endD q S _ _ _ c w (show Hid _ from h.out.at_) (by simp) h.out.room
  | cons x t =>
    have hs := h.out.sf.size
    have hl := h.out.le
    simp only [List.length_cons] at hs hl
    have hr := h.out.room
    exact ris_atD q S (S.size - (x :: t).length) _ _ c x w (show Hid _ from h.out.at_) (h.out.sf.at).1 (by simp; omega) hr _ (by
      show ((x : Int) == (c : Int)) = (x == c)
      exact Bool.eq_iff_iff.2 (by simp; omega))
/-- In a region that draws. -/
theorem ris_nq {q : Nat} {S : ByteArray} {l : List Nat} {n : Nat} {w : World} (h : Hid (Ok4 q S l n w)) (c : Nat) {b : Bool} (hb : hdc l c = b) (k : Nat) : Calls Tryd.prog 49 #[.pointer (some ⟨q, 0, none⟩), .int .u8 c] (w.drewN k) fun e w' => e = .returned (.bool b) ∧ ∃ m, w' = w.drewN m := by
  subst hb
  exact Calls.quiet_of (ris_okD (Ok4.mv h (Mv.drewN (fun _ => False) w k) (fun h => h)) c)

end Go.Proofs.YtkclkhfcmjhogaaDoor

namespace Go.Proofs.YtkclkhfcmjhogaaDoor
open Go.RowKit
set_option linter.unusedVariables false

/-- So much is left to be read. -/
def stl : Except Int (List Nat) → Nat
  | .ok t => t.length + 1
  | .error _ => 0

theorem hold3y {W w' : World} {b0 i0 b1 i1 b3 i3 : Nat} {u0 u1 u3 : Value} (c0 : Hid (W.cell? ⟨b0, i0, none⟩ = some u0)) (c1 : Hid (W.cell? ⟨b1, i1, none⟩ = some u1)) (c3 : Hid (W.cell? ⟨b3, i3, none⟩ = some u3)) (q : Hid (Qt W w')) : w'.cell? ⟨b0, i0, none⟩ = some u0 ∧ w'.cell? ⟨b1, i1, none⟩ = some u1 ∧ w'.cell? ⟨b3, i3, none⟩ = some u3 ∧ Hid (Qt W w') := ⟨Qt.keep q c0.out, Qt.keep q c1.out, Qt.keep q c3.out, q⟩
theorem ends_no {t : List Nat} (h : endsC t = false) : ∃ d u, t = d :: u ∧ hdc (d :: u) 124 = false ∧ hdc (d :: u) 41 = false := by
  cases t with
  | nil => cases h
  | cons d u =>
    simp only [endsC, Bool.or_eq_false_iff] at h
    exact ⟨d, u, rfl, h.1, h.2⟩
theorem few_inn : ∀ n, Few (inn n)
  | 0 => fun _ _ _ h => by cases h
  | n + 1 => few_alt n

set_option maxRecDepth 20000 in
set_option maxHeartbeats 8000000 in
theorem rcat_any (n : Nat) (hA : ∀ m, n = m + 1 → RAlt m) {q : Nat} {S : ByteArray} {l : List Nat} {w : World} (h : Hid (Ok4 q S l n w)) : Calls Tryd.prog 48 #[.pointer (some ⟨q, 0, none⟩)] w fun e w' => Rr4 q S n w (catS (inn n) l) e w' := by
  have h1 : Hid (Ok4 q S l n (w.alloc zeros6)) := Ok4.mv h (Mv.alloc (fun _ => False) w zeros6) (fun h => h)
  have ha := rrep_any n hA h1
  have HA : Hid (∀ (l : List Nat) (w : World), Hid (Ok4 q S l n w) → Calls Tryd.prog 73 #[.pointer (some ⟨q, 0, none⟩)] w fun e w' => Rr4 q S n w (repS (inn n) l) e w') := fun l w h => rrep_any n hA h
  have HQ : Hid (q < w.heap.size) := Ok4.lt h
  have HF : Hid (Goes (inn n)) := inn_goes n
  have HFE : Hid (Few (inn n)) := few_inn n
  have HL : Hid (l.length ≤ 120) := by have := h.out.le; have := h.out.room; show _ ≤ _; omega
  obtain ⟨s, hs⟩ : ∃ s, s = catS (inn n) l := ⟨_, rfl⟩
  rw [← hs]
  have HS0 : Hid (s = catS (inn n) l) := hs
  obtain ⟨r, hr⟩ : ∃ r, r = repS (inn n) l := ⟨_, rfl⟩
  rw [← hr] at ha
  have HR0 : Hid (repS (inn n) l = r) := hr.symm
  clear hs hr hA h h1
  generalize inn n = f at *
  go_enter Tryd.func48, Tryd.ntmps48
  go_wp2_with fail
  refine ha.mono ?_
  rintro e1 w1 ⟨x, a, c, rfl, P1, M1, hR⟩
  have HRO : Hid _ := hR
  clear hR ha
  have HW : Hid (w.heap.size + 1 ≤ w1.heap.size) := by have := M1.out.size; simp at this; exact this
  have B0 : Hid (∃ R st, s = oneR 2 R ∧ Cl4 w q n S (catR f) R (w1.alloc (.cells #[.int .i64 x.kind, .int .u64 (limb x.set 0), .int .u64 (limb x.set 1), .int .u64 (limb x.set 2), .int .u64 (limb x.set 3), .slice a x.args.length c] 28)) (.slice (some ⟨w1.heap.size, 0, none⟩) 1 1) [x] st) := by
    have hw := HW.out
    have hq := HQ.out
    have hz : B6 w.heap.size (.int .i64 0) (.int .u64 0) (.int .u64 0) (.int .u64 0) (.int .u64 0) (.slice none 0 0) w1 := (B6.mv (show B6 w.heap.size (.int .i64 0) (.int .u64 0) (.int .u64 0) (.int .u64 0) (.int .u64 0) (.slice none 0 0) (w.alloc zeros6) from heap_alloc_new w zeros6) M1.out (by omega)).out
    have hm : Mv (fun k => k = q) w w1 := Mv.trans (Mv.alloc _ w zeros6) M1.out (fun _ _ h => h)
    have hp : Parts x.args (fun j => w.heap.size + 1 ≤ j) w1 a c := P1.out.mono (fun j hj => by simp at hj; omega)
    cases r with
    | error er =>
      obtain ⟨hE, hx⟩ := HRO.out
      exact ⟨.error er, .error er, by rw [HS0.out, catS_error HR0.out]; rfl, Cl4.start hq hz hp hm ⟨hE, rfl, by simp⟩ hx⟩
    | ok r =>
      obtain ⟨y, t⟩ := r
      obtain ⟨hxy, hO⟩ := HRO.out
      obtain rfl : x = y := hxy
      have hl := (repS_goes HF.out _ _ _ HR0.out).len
      have hf := few_rep HFE.out HF.out _ _ _ HR0.out
      have hl2 := HL.out
      exact ⟨catR f [x] t, .ok t, by rw [HS0.out, catS_ok HR0.out], Cl4.start hq hz hp hm ⟨hO, rfl, by simp; omega⟩ (by omega)⟩
  clear HRO P1 M1
  obtain ⟨R, st0, HE, hB⟩ := B0.out
  have BB : Hid (Cl4 w q n S (catR f) R (w1.alloc (.cells #[.int .i64 x.kind, .int .u64 (limb x.set 0), .int .u64 (limb x.set 1), .int .u64 (limb x.set 2), .int .u64 (limb x.set 3), .slice a x.args.length c] 28)) (.slice (some ⟨w1.heap.size, 0, none⟩) 1 1) [x] st0) := hB
  have HE : Hid (s = oneR 2 R) := HE
  clear hB B0
  go_wp2_with fail
  generalize w1.alloc (.cells #[.int .i64 x.kind, .int .u64 (limb x.set 0), .int .u64 (limb x.set 1), .int .u64 (limb x.set 2), .int .u64 (limb x.set 3), .slice a x.args.length c] 28) = W0 at *
  go_loopg [3] (stl st0) (fun gk s3 wr => ∃ acc st, stl st = gk ∧ Hid (Cl4 w q n S (catR f) R wr s3 acc st))
  case atStart => exact ⟨[x], st0, rfl, BB⟩
  case round =>
    obtain ⟨acc, st, hu, B⟩ := hrel
    obtain ⟨v, hv⟩ : ∃ v, v = u3 := ⟨_, rfl⟩
    subst hv
    have HU : Hid (stl st = gk) := hu
    clear hu
    cases st with
    | error er =>
      obtain ⟨k5, d5, hB5, _, _⟩ := B.out.st.1.at_
      obtain ⟨k0, k1, k2, k3, f1, f2, f3⟩ := B4.facts (show Hid _ from hB5)
      have hne : (er == 0) = false := beq_false_of_ne B.out.st.1.ne
      clear hB5
      go_wp2_with fail
      go_quiet (fail)
      have QW : Hid (Qt wr (wr.drewN nq)) := Mv.drewN _ _ _
      have HN : Hid (∀ t, (Except.error er : Except Int (List Nat)) = .ok t → R = .ok (acc, t)) := fun t h => by cases h
      clear k0 k1 k2 k3 f1 f2 f3 hne
      obtain ⟨a2, c2, hv2, hp2, hnn⟩ := B.out.ro.sl (by have := B.out.st.few; omega)
      have HP2 : Hid (Parts acc _ wr a2 c2) := hp2
      have HBK : Hid (∀ j, v.ownBlock = some j → w.heap.size + 1 ≤ j) := by
        obtain ⟨ys, h1, _⟩ := B.out.ro.ow
        exact fun j hj => (ow_blk h1 j hj).1
      have HNN : Hid _ := hnn
      clear hp2 hnn
      subst hv2
      have ZW : Hid (B6 w.heap.size (.int .i64 0) (.int .u64 0) (.int .u64 0) (.int .u64 0) (.int .u64 0) (.slice none 0 0) (wr.drewN nq)) := B6.mv B.out.z QW.out (fun h => h)
      obtain ⟨z0, z1, z2, z3, z4, z5, g0, g1, g2, g3, g4, g5⟩ := B6.facts ZW
      rcases acc with _ | ⟨y, _ | ⟨y2, m⟩⟩
      · exact absurd rfl B.out.ne
      · obtain ⟨b2, a', c', hb, hbb, hpt, q0, q1, q2, q3, q4, q5⟩ := B.out.ro.at (i := 0) (x := y) rfl
        cases hb
        simp only [Nat.zero_mul, Nat.zero_add] at q0 q1 q2 q3 q4 q5
        have r0 := Qt.keep QW.out q0
        have r1 := Qt.keep QW.out q1
        have r2 := Qt.keep QW.out q2
        have r3 := Qt.keep QW.out q3
        have r4 := Qt.keep QW.out q4
        have r5 := Qt.keep QW.out q5
        have HPT : Hid (Parts y.args (Kv w wr _) wr a' c') := hpt
        clear hpt hbb q0 q1 q2 q3 q4 q5
        simp only [List.length_cons, List.length_nil, Nat.zero_add]
        go_wp2_with fail
        refine bodyPost_ret (results_cell_row (p := 2) (ty := 28) rfl _ _ w.heap.size 28 _ (0, 0) _ rfl (put6_heap ZW.out _ _ _ _ _ _) Tryd.underlying28 rfl (by kernel_rfl)) rfl ?_
        rw [HE.out]
        exact Cl4.tell 2 B.out rfl ((HPT.out.mv QW.out (fun _ _ h => h)).mono (fun j hj => hj.1)) QW.out HN.out _ _ _ _ _ _
      · have hz : (((y :: y2 :: m).length : Int) == 1) = false := by simp; omega
        have hz' : (((y :: y2 :: m).length : Int) = 1) = False := by simp; omega
        have hz2 : ((y :: y2 :: m).length = 1) = False := by simp
        obtain ⟨L, hL⟩ : ∃ L, L = (y :: y2 :: m).length := ⟨_, rfl⟩
        rw [← hL] at hz hz' hz2
        rw [← hL]
        have HLL : Hid (L = (y :: y2 :: m).length) := hL
        clear hL
        go_wp2_with fail
        refine bodyPost_ret (results_cell_row (p := 2) (ty := 28) rfl _ _ w.heap.size 28 _ (0, 0) _ rfl (put6_heap ZW.out _ _ _ _ _ _) Tryd.underlying28 rfl (by kernel_rfl)) rfl ?_
        rw [HE.out, HLL.out]
        have hl0 := fun i => limb_none i
        have ht := Cl4.tell (y := ⟨2, eset, y :: y2 :: m⟩) 2 B.out rfl ((HP2.out.mv QW.out (fun _ _ h => h)).mono (fun j hj => hj.elim (fun h => h.1) (fun h => HBK.out j h))) QW.out HN.out (.int .i64 2) (.int .u64 0) (.int .u64 0) (.int .u64 0) (.int .u64 0) (.slice a2 (y :: y2 :: m).length c2)
        rw [show limb (RX.mk 2 eset (y :: y2 :: m)).set 0 = 0 from limb_none 0, show limb (RX.mk 2 eset (y :: y2 :: m)).set 1 = 0 from limb_none 1, show limb (RX.mk 2 eset (y :: y2 :: m)).set 2 = 0 from limb_none 2, show limb (RX.mk 2 eset (y :: y2 :: m)).set 3 = 0 from limb_none 3] at ht
        exact ht
    | ok t =>
      have O : Hid (Ok4 q S t n wr) := B.out.st.1
      have HSP : Hid (catR f acc t = R) := B.out.st.2.1
      obtain ⟨k0, k1, k2, k3, f1, f2, f3⟩ := B4.facts (show Hid _ from O.out.at_)
      obtain ⟨k, hk⟩ : ∃ k, k = S.size - t.length := ⟨_, rfl⟩
      rw [← hk] at k1
      have h124 : ∀ b, hdc t 124 = b → ∀ k, Calls Tryd.prog 49 #[.pointer (some ⟨q, 0, none⟩), .int .u8 124] (wr.drewN k) fun e w' => e = .returned (.bool b) ∧ ∃ m, w' = wr.drewN m := fun b hb k => ris_nq O 124 hb k
      have h41 : ∀ b, hdc t 41 = b → ∀ k, Calls Tryd.prog 49 #[.pointer (some ⟨q, 0, none⟩), .int .u8 41] (wr.drewN k) fun e w' => e = .returned (.bool b) ∧ ∃ m, w' = wr.drewN m := fun b hb k => ris_nq O 41 hb k
      have hle := O.out.le
      cases hends : endsC t with
      | true =>
        have HN : Hid (∀ u, (Except.ok t : Except Int (List Nat)) = .ok u → R = .ok (acc, u)) := by
          intro u h
          cases h
          rw [← HSP.out]
          exact catR_ends hends
        rcases t with _ | ⟨d, u⟩
        · obtain rfl : k = S.size := by simpa using hk
          have hk4 : ¬ (S.size : Int) < (S.size : Int) := by omega
          clear hk hle hends h124 h41
          go_wp2_with fail
          go_quiet (fail)
          have QW : Hid (Qt wr (wr.drewN nq)) := Mv.drewN _ _ _
          clear k0 k1 k2 k3 f1 f2 f3
          obtain ⟨a2, c2, hv2, hp2, hnn⟩ := B.out.ro.sl (by have := B.out.st.few; omega)
          have HP2 : Hid (Parts acc _ wr a2 c2) := hp2
          have HBK : Hid (∀ j, v.ownBlock = some j → w.heap.size + 1 ≤ j) := by
            obtain ⟨ys, h1, _⟩ := B.out.ro.ow
            exact fun j hj => (ow_blk h1 j hj).1
          have HNN : Hid _ := hnn
          clear hp2 hnn
          subst hv2
          have ZW : Hid (B6 w.heap.size (.int .i64 0) (.int .u64 0) (.int .u64 0) (.int .u64 0) (.int .u64 0) (.slice none 0 0) (wr.drewN nq)) := B6.mv B.out.z QW.out (fun h => h)
          obtain ⟨z0, z1, z2, z3, z4, z5, g0, g1, g2, g3, g4, g5⟩ := B6.facts ZW
          rcases acc with _ | ⟨y, _ | ⟨y2, m⟩⟩
          · exact absurd rfl B.out.ne
          · obtain ⟨b2, a', c', hb, hbb, hpt, q0, q1, q2, q3, q4, q5⟩ := B.out.ro.at (i := 0) (x := y) rfl
            cases hb
            simp only [Nat.zero_mul, Nat.zero_add] at q0 q1 q2 q3 q4 q5
            have r0 := Qt.keep QW.out q0
            have r1 := Qt.keep QW.out q1
            have r2 := Qt.keep QW.out q2
            have r3 := Qt.keep QW.out q3
            have r4 := Qt.keep QW.out q4
            have r5 := Qt.keep QW.out q5
            have HPT : Hid (Parts y.args (Kv w wr _) wr a' c') := hpt
            clear hpt hbb q0 q1 q2 q3 q4 q5
            simp only [List.length_cons, List.length_nil, Nat.zero_add]
            go_wp2_with fail
            refine bodyPost_ret (results_cell_row (p := 2) (ty := 28) rfl _ _ w.heap.size 28 _ (0, 0) _ rfl (put6_heap ZW.out _ _ _ _ _ _) Tryd.underlying28 rfl (by kernel_rfl)) rfl ?_
            rw [HE.out]
            exact Cl4.tell 2 B.out rfl ((HPT.out.mv QW.out (fun _ _ h => h)).mono (fun j hj => hj.1)) QW.out HN.out _ _ _ _ _ _
          · have hz : (((y :: y2 :: m).length : Int) == 1) = false := by simp; omega
            have hz' : (((y :: y2 :: m).length : Int) = 1) = False := by simp; omega
            have hz2 : ((y :: y2 :: m).length = 1) = False := by simp
            obtain ⟨L, hL⟩ : ∃ L, L = (y :: y2 :: m).length := ⟨_, rfl⟩
            rw [← hL] at hz hz' hz2
            rw [← hL]
            have HLL : Hid (L = (y :: y2 :: m).length) := hL
            clear hL
            go_wp2_with fail
            refine bodyPost_ret (results_cell_row (p := 2) (ty := 28) rfl _ _ w.heap.size 28 _ (0, 0) _ rfl (put6_heap ZW.out _ _ _ _ _ _) Tryd.underlying28 rfl (by kernel_rfl)) rfl ?_
            rw [HE.out, HLL.out]
            have hl0 := fun i => limb_none i
            have ht := Cl4.tell (y := ⟨2, eset, y :: y2 :: m⟩) 2 B.out rfl ((HP2.out.mv QW.out (fun _ _ h => h)).mono (fun j hj => hj.elim (fun h => h.1) (fun h => HBK.out j h))) QW.out HN.out (.int .i64 2) (.int .u64 0) (.int .u64 0) (.int .u64 0) (.int .u64 0) (.slice a2 (y :: y2 :: m).length c2)
            rw [show limb (RX.mk 2 eset (y :: y2 :: m)).set 0 = 0 from limb_none 0, show limb (RX.mk 2 eset (y :: y2 :: m)).set 1 = 0 from limb_none 1, show limb (RX.mk 2 eset (y :: y2 :: m)).set 2 = 0 from limb_none 2, show limb (RX.mk 2 eset (y :: y2 :: m)).set 3 = 0 from limb_none 3] at ht
            exact ht
        · simp only [List.length_cons] at hk hle
          have hk2 : decide ((k : Int) < (S.size : Int)) = true := by simp; omega
          have hk3 : decide (k < S.size) = true := by simp; omega
          have hk4 : (k : Int) < (S.size : Int) := by omega
          cases h1 : hdc (d :: u) 124 with
          | true =>
            have h124 := h124 _ h1
            clear hk hle hends h41 h1
            go_wp2_with fail
            go_quiet ((go_at_call 49; exact h124 _))
            have QW : Hid (Qt wr (wr.drewN nq)) := Mv.drewN _ _ _
            clear k0 k1 k2 k3 f1 f2 f3 h124
            obtain ⟨a2, c2, hv2, hp2, hnn⟩ := B.out.ro.sl (by have := B.out.st.few; omega)
            have HP2 : Hid (Parts acc _ wr a2 c2) := hp2
            have HBK : Hid (∀ j, v.ownBlock = some j → w.heap.size + 1 ≤ j) := by
              obtain ⟨ys, h1, _⟩ := B.out.ro.ow
              exact fun j hj => (ow_blk h1 j hj).1
            have HNN : Hid _ := hnn
            clear hp2 hnn
            subst hv2
            have ZW : Hid (B6 w.heap.size (.int .i64 0) (.int .u64 0) (.int .u64 0) (.int .u64 0) (.int .u64 0) (.slice none 0 0) (wr.drewN nq)) := B6.mv B.out.z QW.out (fun h => h)
            obtain ⟨z0, z1, z2, z3, z4, z5, g0, g1, g2, g3, g4, g5⟩ := B6.facts ZW
            rcases acc with _ | ⟨y, _ | ⟨y2, m⟩⟩
            · exact absurd rfl B.out.ne
            · obtain ⟨b2, a', c', hb, hbb, hpt, q0, q1, q2, q3, q4, q5⟩ := B.out.ro.at (i := 0) (x := y) rfl
              cases hb
              simp only [Nat.zero_mul, Nat.zero_add] at q0 q1 q2 q3 q4 q5
              have r0 := Qt.keep QW.out q0
              have r1 := Qt.keep QW.out q1
              have r2 := Qt.keep QW.out q2
              have r3 := Qt.keep QW.out q3
              have r4 := Qt.keep QW.out q4
              have r5 := Qt.keep QW.out q5
              have HPT : Hid (Parts y.args (Kv w wr _) wr a' c') := hpt
              clear hpt hbb q0 q1 q2 q3 q4 q5
              simp only [List.length_cons, List.length_nil, Nat.zero_add]
              go_wp2_with fail
              refine bodyPost_ret (results_cell_row (p := 2) (ty := 28) rfl _ _ w.heap.size 28 _ (0, 0) _ rfl (put6_heap ZW.out _ _ _ _ _ _) Tryd.underlying28 rfl (by kernel_rfl)) rfl ?_
              rw [HE.out]
              exact Cl4.tell 2 B.out rfl ((HPT.out.mv QW.out (fun _ _ h => h)).mono (fun j hj => hj.1)) QW.out HN.out _ _ _ _ _ _
            · have hz : (((y :: y2 :: m).length : Int) == 1) = false := by simp; omega
              have hz' : (((y :: y2 :: m).length : Int) = 1) = False := by simp; omega
              have hz2 : ((y :: y2 :: m).length = 1) = False := by simp
              obtain ⟨L, hL⟩ : ∃ L, L = (y :: y2 :: m).length := ⟨_, rfl⟩
              rw [← hL] at hz hz' hz2
              rw [← hL]
              have HLL : Hid (L = (y :: y2 :: m).length) := hL
              clear hL
              go_wp2_with fail
              refine bodyPost_ret (results_cell_row (p := 2) (ty := 28) rfl _ _ w.heap.size 28 _ (0, 0) _ rfl (put6_heap ZW.out _ _ _ _ _ _) Tryd.underlying28 rfl (by kernel_rfl)) rfl ?_
              rw [HE.out, HLL.out]
              have hl0 := fun i => limb_none i
              have ht := Cl4.tell (y := ⟨2, eset, y :: y2 :: m⟩) 2 B.out rfl ((HP2.out.mv QW.out (fun _ _ h => h)).mono (fun j hj => hj.elim (fun h => h.1) (fun h => HBK.out j h))) QW.out HN.out (.int .i64 2) (.int .u64 0) (.int .u64 0) (.int .u64 0) (.int .u64 0) (.slice a2 (y :: y2 :: m).length c2)
              rw [show limb (RX.mk 2 eset (y :: y2 :: m)).set 0 = 0 from limb_none 0, show limb (RX.mk 2 eset (y :: y2 :: m)).set 1 = 0 from limb_none 1, show limb (RX.mk 2 eset (y :: y2 :: m)).set 2 = 0 from limb_none 2, show limb (RX.mk 2 eset (y :: y2 :: m)).set 3 = 0 from limb_none 3] at ht
              exact ht
          | false =>
            have h2 : hdc (d :: u) 41 = true := by
              simp only [endsC, hdc] at hends h1 ⊢
              simpa [h1] using hends
            have HD1 := h124 _ h1
            have HD2 := h41 _ h2
            clear hk hle hends h1 h2 h124 h41
            go_wp2_with fail
            go_quiet ((go_at_call 49; first | with_reducible exact HD1 _ | with_reducible exact HD2 _))
            have QW : Hid (Qt wr (wr.drewN nq)) := Mv.drewN _ _ _
            clear k0 k1 k2 k3 f1 f2 f3 HD1 HD2
            obtain ⟨a2, c2, hv2, hp2, hnn⟩ := B.out.ro.sl (by have := B.out.st.few; omega)
            have HP2 : Hid (Parts acc _ wr a2 c2) := hp2
            have HBK : Hid (∀ j, v.ownBlock = some j → w.heap.size + 1 ≤ j) := by
              obtain ⟨ys, h1, _⟩ := B.out.ro.ow
              exact fun j hj => (ow_blk h1 j hj).1
            have HNN : Hid _ := hnn
            clear hp2 hnn
            subst hv2
            have ZW : Hid (B6 w.heap.size (.int .i64 0) (.int .u64 0) (.int .u64 0) (.int .u64 0) (.int .u64 0) (.slice none 0 0) (wr.drewN nq)) := B6.mv B.out.z QW.out (fun h => h)
            obtain ⟨z0, z1, z2, z3, z4, z5, g0, g1, g2, g3, g4, g5⟩ := B6.facts ZW
            rcases acc with _ | ⟨y, _ | ⟨y2, m⟩⟩
            · exact absurd rfl B.out.ne
            · obtain ⟨b2, a', c', hb, hbb, hpt, q0, q1, q2, q3, q4, q5⟩ := B.out.ro.at (i := 0) (x := y) rfl
              cases hb
              simp only [Nat.zero_mul, Nat.zero_add] at q0 q1 q2 q3 q4 q5
              have r0 := Qt.keep QW.out q0
              have r1 := Qt.keep QW.out q1
              have r2 := Qt.keep QW.out q2
              have r3 := Qt.keep QW.out q3
              have r4 := Qt.keep QW.out q4
              have r5 := Qt.keep QW.out q5
              have HPT : Hid (Parts y.args (Kv w wr _) wr a' c') := hpt
              clear hpt hbb q0 q1 q2 q3 q4 q5
              simp only [List.length_cons, List.length_nil, Nat.zero_add]
              go_wp2_with fail
              refine bodyPost_ret (results_cell_row (p := 2) (ty := 28) rfl _ _ w.heap.size 28 _ (0, 0) _ rfl (put6_heap ZW.out _ _ _ _ _ _) Tryd.underlying28 rfl (by kernel_rfl)) rfl ?_
              rw [HE.out]
              exact Cl4.tell 2 B.out rfl ((HPT.out.mv QW.out (fun _ _ h => h)).mono (fun j hj => hj.1)) QW.out HN.out _ _ _ _ _ _
            · have hz : (((y :: y2 :: m).length : Int) == 1) = false := by simp; omega
              have hz' : (((y :: y2 :: m).length : Int) = 1) = False := by simp; omega
              have hz2 : ((y :: y2 :: m).length = 1) = False := by simp
              obtain ⟨L, hL⟩ : ∃ L, L = (y :: y2 :: m).length := ⟨_, rfl⟩
              rw [← hL] at hz hz' hz2
              rw [← hL]
              have HLL : Hid (L = (y :: y2 :: m).length) := hL
              clear hL
              go_wp2_with fail
              refine bodyPost_ret (results_cell_row (p := 2) (ty := 28) rfl _ _ w.heap.size 28 _ (0, 0) _ rfl (put6_heap ZW.out _ _ _ _ _ _) Tryd.underlying28 rfl (by kernel_rfl)) rfl ?_
              rw [HE.out, HLL.out]
              have hl0 := fun i => limb_none i
              have ht := Cl4.tell (y := ⟨2, eset, y :: y2 :: m⟩) 2 B.out rfl ((HP2.out.mv QW.out (fun _ _ h => h)).mono (fun j hj => hj.elim (fun h => h.1) (fun h => HBK.out j h))) QW.out HN.out (.int .i64 2) (.int .u64 0) (.int .u64 0) (.int .u64 0) (.int .u64 0) (.slice a2 (y :: y2 :: m).length c2)
              rw [show limb (RX.mk 2 eset (y :: y2 :: m)).set 0 = 0 from limb_none 0, show limb (RX.mk 2 eset (y :: y2 :: m)).set 1 = 0 from limb_none 1, show limb (RX.mk 2 eset (y :: y2 :: m)).set 2 = 0 from limb_none 2, show limb (RX.mk 2 eset (y :: y2 :: m)).set 3 = 0 from limb_none 3] at ht
              exact ht
      | false =>
        obtain ⟨d, u, rfl, h1, h2⟩ := ends_no hends
        have HC : Hid _ := catR_step HF.out (acc := acc) hends
        simp only [List.length_cons] at hk hle
        have hk2 : decide ((k : Int) < (S.size : Int)) = true := by simp; omega
        have hk3 : decide (k < S.size) = true := by simp; omega
        have hk4 : (k : Int) < (S.size : Int) := by omega
        have HD1 := h124 _ h1
        have HD2 := h41 _ h2
        clear hk hle hends h1 h2 h124 h41
        go_wp2_with fail
        go_quiet ((go_at_call 49; first | with_reducible exact HD1 _ | with_reducible exact HD2 _))
        have QW : Hid (Qt wr (wr.drewN nq)) := Mv.drewN _ _ _
        have O9 : Hid (Ok4 q S (d :: u) n (wr.drewN nq)) := Ok4.mv O QW.out (fun h => h)
        have hrep := HA.out (d :: u) (wr.drewN nq) O9
        obtain ⟨r2, hr2⟩ : ∃ r2, r2 = repS f (d :: u) := ⟨_, rfl⟩
        rw [← hr2] at hrep HC
        have HG : Hid (repS f (d :: u) = r2) := hr2.symm
        clear hr2
        go_wp2_with fail
        refine hrep.mono ?_
        rintro e3 w3 ⟨y, a3, c3, rfl, P3, M3, hR3⟩
        have HR3 : Hid _ := hR3
        have HPP : Hid (Parts y.args (fun j => wr.heap.size ≤ j) w3 a3 c3) := P3.out.mono (fun j hj => by have := QW.out.size; omega)
        have HMM : Hid (Mv (fun k => k = q) wr w3) := Mv.trans (QW.out.mono (fun _ _ h => h.elim)) M3.out (fun _ _ h => h)
        clear hR3 hrep
        have HST : Hid (∃ st', stl st' < gk ∧ St4 q n S (catR f) R (acc ++ [y]) st' w3 ∧ y.args.length < 1000) := by
          have hlen := B.out.st.2.2
          simp only [List.length_cons] at hlen
          have hgk := HU.out
          simp only [stl, List.length_cons] at hgk
          cases r2 with
          | error n3 =>
            obtain ⟨hE, hx⟩ := HR3.out
            exact ⟨.error n3, by simp only [stl]; omega, ⟨hE, by rw [← HSP.out, HC.out], by simp; omega⟩, hx⟩
          | ok r2 =>
            obtain ⟨y', u2⟩ := r2
            obtain ⟨hxy, hO⟩ := HR3.out
            obtain rfl : y = y' := hxy
            have hl := (repS_goes HF.out _ _ _ HG.out).len
            have hf := few_rep HFE.out HF.out _ _ _ HG.out
            simp only [List.length_cons] at hl hf
            exact ⟨.ok u2, by simp only [stl]; omega, ⟨hO, by rw [← HSP.out, HC.out], by simp; omega⟩, by omega⟩
        obtain ⟨st', hs1, hs2, hs3⟩ := HST.out
        obtain ⟨v', W, hr, B'⟩ := B.out.step HPP.out HMM.out hs2 hs3
        have HL2 : Hid (stl st' < gk) := hs1
        clear hs1 hs2 hs3 HST HD1 HD2 k0 k1 k2 k3 f1 f2 f3
        go_wp2_with (at_builtin; first | (refine wpList_append_given rfl _ _ 26 rfl _ _ _ W rfl rfl hr ?_))
        go_roundg (stl st')
        case measure => exact HL2.out
        case rel => exact ⟨acc ++ [y], st', rfl, B'⟩

end Go.Proofs.YtkclkhfcmjhogaaDoor

namespace Go.Proofs.YtkclkhfcmjhogaaDoor
open Go.RowKit
set_option linter.unusedVariables false

theorem altR_no {f : List Nat → Res} {acc : List RX} {t : List Nat} (h : hdc t 124 = false) : altR f acc t = .ok (acc, t) := by
  cases t with
  | nil => exact altR_nil
  | cons c u => exact altR_ends (by simpa [hdc] using h)
set_option maxRecDepth 20000 in
set_option maxHeartbeats 8000000 in
theorem ralt_any (n : Nat) (hA : ∀ m, n = m + 1 → RAlt m) {q : Nat} {S : ByteArray} {l : List Nat} {w : World} (h : Hid (Ok4 q S l n w)) : Calls Tryd.prog 33 #[.pointer (some ⟨q, 0, none⟩)] w fun e w' => Rr4 q S n w (altN n l) e w' := by
  rw [altN_inn]
  have h1 : Hid (Ok4 q S l n (w.alloc zeros6)) := Ok4.mv h (Mv.alloc (fun _ => False) w zeros6) (fun h => h)
  have ha := rcat_any n hA h1
  have HA : Hid (∀ (l : List Nat) (w : World), Hid (Ok4 q S l n w) → Calls Tryd.prog 48 #[.pointer (some ⟨q, 0, none⟩)] w fun e w' => Rr4 q S n w (catS (inn n) l) e w') := fun l w h => rcat_any n hA h
  have HQ : Hid (q < w.heap.size) := Ok4.lt h
  have HF : Hid (Goes (inn n)) := inn_goes n
  have HFE : Hid (Few (inn n)) := few_inn n
  have HL : Hid (l.length ≤ 120) := by have := h.out.le; have := h.out.room; show _ ≤ _; omega
  obtain ⟨s, hs⟩ : ∃ s, s = altS (inn n) l := ⟨_, rfl⟩
  rw [← hs]
  have HS0 : Hid (s = altS (inn n) l) := hs
  obtain ⟨r, hr⟩ : ∃ r, r = catS (inn n) l := ⟨_, rfl⟩
  rw [← hr] at ha
  have HR0 : Hid (catS (inn n) l = r) := hr.symm
  clear hs hr hA h h1
  generalize inn n = f at *
  go_enter Tryd.func33, Tryd.ntmps33
  go_wp2_with fail
  refine ha.mono ?_
  rintro e1 w1 ⟨x, a, c, rfl, P1, M1, hR⟩
  have HRO : Hid _ := hR
  clear hR ha
  have HW : Hid (w.heap.size + 1 ≤ w1.heap.size) := by have := M1.out.size; simp at this; exact this
  have B0 : Hid (∃ R st, s = oneR 3 R ∧ Cl4 w q n S (altR f) R (w1.alloc (.cells #[.int .i64 x.kind, .int .u64 (limb x.set 0), .int .u64 (limb x.set 1), .int .u64 (limb x.set 2), .int .u64 (limb x.set 3), .slice a x.args.length c] 28)) (.slice (some ⟨w1.heap.size, 0, none⟩) 1 1) [x] st) := by
    have hw := HW.out
    have hq := HQ.out
    have hz : B6 w.heap.size (.int .i64 0) (.int .u64 0) (.int .u64 0) (.int .u64 0) (.int .u64 0) (.slice none 0 0) w1 := (B6.mv (show B6 w.heap.size (.int .i64 0) (.int .u64 0) (.int .u64 0) (.int .u64 0) (.int .u64 0) (.slice none 0 0) (w.alloc zeros6) from heap_alloc_new w zeros6) M1.out (by omega)).out
    have hm : Mv (fun k => k = q) w w1 := Mv.trans (Mv.alloc _ w zeros6) M1.out (fun _ _ h => h)
    have hp : Parts x.args (fun j => w.heap.size + 1 ≤ j) w1 a c := P1.out.mono (fun j hj => by simp at hj; omega)
    cases r with
    | error er =>
      obtain ⟨hE, hx⟩ := HRO.out
      exact ⟨.error er, .error er, by rw [HS0.out, altS_error HR0.out]; rfl, Cl4.start hq hz hp hm ⟨hE, rfl, by simp⟩ hx⟩
    | ok r =>
      obtain ⟨y, t⟩ := r
      obtain ⟨hxy, hO⟩ := HRO.out
      obtain rfl : x = y := hxy
      have hl := (catS_goes HF.out _ _ _ HR0.out).len
      have hf := few_cat HFE.out HF.out _ _ _ HR0.out
      have hl2 := HL.out
      exact ⟨altR f [x] t, .ok t, by rw [HS0.out, altS_ok HR0.out], Cl4.start hq hz hp hm ⟨hO, rfl, by simp; omega⟩ (by omega)⟩
  clear HRO P1 M1
  obtain ⟨R, st0, HE, hB⟩ := B0.out
  have BB : Hid (Cl4 w q n S (altR f) R (w1.alloc (.cells #[.int .i64 x.kind, .int .u64 (limb x.set 0), .int .u64 (limb x.set 1), .int .u64 (limb x.set 2), .int .u64 (limb x.set 3), .slice a x.args.length c] 28)) (.slice (some ⟨w1.heap.size, 0, none⟩) 1 1) [x] st0) := hB
  have HE : Hid (s = oneR 3 R) := HE
  clear hB B0
  go_wp2_with fail
  generalize w1.alloc (.cells #[.int .i64 x.kind, .int .u64 (limb x.set 0), .int .u64 (limb x.set 1), .int .u64 (limb x.set 2), .int .u64 (limb x.set 3), .slice a x.args.length c] 28) = W0 at *
  go_loopg [3] (stl st0) (fun gk s3 wr => ∃ acc st, stl st = gk ∧ Hid (Cl4 w q n S (altR f) R wr s3 acc st))
  case atStart => exact ⟨[x], st0, rfl, BB⟩
  case round =>
    obtain ⟨acc, st, hu, B⟩ := hrel
    obtain ⟨v, hv⟩ : ∃ v, v = u3 := ⟨_, rfl⟩
    subst hv
    have HU : Hid (stl st = gk) := hu
    clear hu
    cases st with
    | error er =>
      obtain ⟨k5, d5, hB5, _, _⟩ := B.out.st.1.at_
      obtain ⟨k0, k1, k2, k3, f1, f2, f3⟩ := B4.facts (show Hid _ from hB5)
      have hne : (er == 0) = false := beq_false_of_ne B.out.st.1.ne
      clear hB5
      have QW : Hid (Qt wr wr) := Mv.refl _ _
      have HN : Hid (∀ t, (Except.error er : Except Int (List Nat)) = .ok t → R = .ok (acc, t)) := fun t h => by cases h
      obtain ⟨a2, c2, hv2, hp2, hnn⟩ := B.out.ro.sl (by have := B.out.st.few; omega)
      have HP2 : Hid (Parts acc _ wr a2 c2) := hp2
      have HBK : Hid (∀ j, v.ownBlock = some j → w.heap.size + 1 ≤ j) := by
        obtain ⟨ys, h1, _⟩ := B.out.ro.ow
        exact fun j hj => (ow_blk h1 j hj).1
      have HNN : Hid _ := hnn
      clear hp2 hnn
      subst hv2
      have ZW : Hid (B6 w.heap.size (.int .i64 0) (.int .u64 0) (.int .u64 0) (.int .u64 0) (.int .u64 0) (.slice none 0 0) (wr)) := B6.mv B.out.z QW.out (fun h => h)
      obtain ⟨z0, z1, z2, z3, z4, z5, g0, g1, g2, g3, g4, g5⟩ := B6.facts ZW
      rcases acc with _ | ⟨y, _ | ⟨y2, m⟩⟩
      · exact absurd rfl B.out.ne
      · obtain ⟨b2, a', c', hb, hbb, hpt, q0, q1, q2, q3, q4, q5⟩ := B.out.ro.at (i := 0) (x := y) rfl
        cases hb
        simp only [Nat.zero_mul, Nat.zero_add] at q0 q1 q2 q3 q4 q5
        have r0 := Qt.keep QW.out q0
        have r1 := Qt.keep QW.out q1
        have r2 := Qt.keep QW.out q2
        have r3 := Qt.keep QW.out q3
        have r4 := Qt.keep QW.out q4
        have r5 := Qt.keep QW.out q5
        have HPT : Hid (Parts y.args (Kv w wr _) wr a' c') := hpt
        clear hpt hbb q0 q1 q2 q3 q4 q5
        simp only [List.length_cons, List.length_nil, Nat.zero_add]
        go_wp2_with fail
        refine bodyPost_ret (results_cell_row (p := 2) (ty := 28) rfl _ _ w.heap.size 28 _ (0, 0) _ rfl (put6_heap ZW.out _ _ _ _ _ _) Tryd.underlying28 rfl (by kernel_rfl)) rfl ?_
        rw [HE.out]
        exact Cl4.tell 3 B.out rfl ((HPT.out.mv QW.out (fun _ _ h => h)).mono (fun j hj => hj.1)) QW.out HN.out _ _ _ _ _ _
      · have hz : (((y :: y2 :: m).length : Int) == 1) = false := by simp; omega
        have hz' : (((y :: y2 :: m).length : Int) = 1) = False := by simp; omega
        have hz2 : ((y :: y2 :: m).length = 1) = False := by simp
        obtain ⟨L, hL⟩ : ∃ L, L = (y :: y2 :: m).length := ⟨_, rfl⟩
        rw [← hL] at hz hz' hz2
        rw [← hL]
        have HLL : Hid (L = (y :: y2 :: m).length) := hL
        clear hL
        go_wp2_with fail
        refine bodyPost_ret (results_cell_row (p := 2) (ty := 28) rfl _ _ w.heap.size 28 _ (0, 0) _ rfl (put6_heap ZW.out _ _ _ _ _ _) Tryd.underlying28 rfl (by kernel_rfl)) rfl ?_
        rw [HE.out, HLL.out]
        have hl0 := fun i => limb_none i
        have ht := Cl4.tell (y := ⟨3, eset, y :: y2 :: m⟩) 3 B.out rfl ((HP2.out.mv QW.out (fun _ _ h => h)).mono (fun j hj => hj.elim (fun h => h.1) (fun h => HBK.out j h))) QW.out HN.out (.int .i64 3) (.int .u64 0) (.int .u64 0) (.int .u64 0) (.int .u64 0) (.slice a2 (y :: y2 :: m).length c2)
        rw [show limb (RX.mk 3 eset (y :: y2 :: m)).set 0 = 0 from limb_none 0, show limb (RX.mk 3 eset (y :: y2 :: m)).set 1 = 0 from limb_none 1, show limb (RX.mk 3 eset (y :: y2 :: m)).set 2 = 0 from limb_none 2, show limb (RX.mk 3 eset (y :: y2 :: m)).set 3 = 0 from limb_none 3] at ht
        exact ht
    | ok t =>
      have O : Hid (Ok4 q S t n wr) := B.out.st.1
      have HSP : Hid (altR f acc t = R) := B.out.st.2.1
      obtain ⟨k0, k1, k2, k3, f1, f2, f3⟩ := B4.facts (show Hid _ from O.out.at_)
      obtain ⟨k, hk⟩ : ∃ k, k = S.size - t.length := ⟨_, rfl⟩
      rw [← hk] at k1
      have h124 : ∀ b, hdc t 124 = b → Calls Tryd.prog 49 #[.pointer (some ⟨q, 0, none⟩), .int .u8 124] wr fun e w' => e = .returned (.bool b) ∧ ∃ m, w' = wr.drewN m := fun b hb => by rw [← hb]; exact ris_okD O 124
      have hle := O.out.le
      have hro := O.out.room
      cases hd : hdc t 124 with
      | false =>
        have HN : Hid (∀ u, (Except.ok t : Except Int (List Nat)) = .ok u → R = .ok (acc, u)) := by
          intro u h
          cases h
          rw [← HSP.out]
          exact altR_no hd
        have h124 := h124 _ hd
        clear hk hle hro hd
        go_wp2_with fail
        refine h124.mono ?_
        rintro e8 w8 ⟨rfl, nq, rfl⟩
        have QW : Hid (Qt wr (wr.drewN nq)) := Mv.drewN _ _ _
        clear k0 k1 k2 k3 f1 f2 f3 h124
        obtain ⟨a2, c2, hv2, hp2, hnn⟩ := B.out.ro.sl (by have := B.out.st.few; omega)
        have HP2 : Hid (Parts acc _ wr a2 c2) := hp2
        have HBK : Hid (∀ j, v.ownBlock = some j → w.heap.size + 1 ≤ j) := by
          obtain ⟨ys, h1, _⟩ := B.out.ro.ow
          exact fun j hj => (ow_blk h1 j hj).1
        have HNN : Hid _ := hnn
        clear hp2 hnn
        subst hv2
        have ZW : Hid (B6 w.heap.size (.int .i64 0) (.int .u64 0) (.int .u64 0) (.int .u64 0) (.int .u64 0) (.slice none 0 0) (wr.drewN nq)) := B6.mv B.out.z QW.out (fun h => h)
        obtain ⟨z0, z1, z2, z3, z4, z5, g0, g1, g2, g3, g4, g5⟩ := B6.facts ZW
        rcases acc with _ | ⟨y, _ | ⟨y2, m⟩⟩
        · exact absurd rfl B.out.ne
        · obtain ⟨b2, a', c', hb, hbb, hpt, q0, q1, q2, q3, q4, q5⟩ := B.out.ro.at (i := 0) (x := y) rfl
          cases hb
          simp only [Nat.zero_mul, Nat.zero_add] at q0 q1 q2 q3 q4 q5
          have r0 := Qt.keep QW.out q0
          have r1 := Qt.keep QW.out q1
          have r2 := Qt.keep QW.out q2
          have r3 := Qt.keep QW.out q3
          have r4 := Qt.keep QW.out q4
          have r5 := Qt.keep QW.out q5
          have HPT : Hid (Parts y.args (Kv w wr _) wr a' c') := hpt
          clear hpt hbb q0 q1 q2 q3 q4 q5
          simp only [List.length_cons, List.length_nil, Nat.zero_add]
          go_wp2_with fail
          refine bodyPost_ret (results_cell_row (p := 2) (ty := 28) rfl _ _ w.heap.size 28 _ (0, 0) _ rfl (put6_heap ZW.out _ _ _ _ _ _) Tryd.underlying28 rfl (by kernel_rfl)) rfl ?_
          rw [HE.out]
          exact Cl4.tell 3 B.out rfl ((HPT.out.mv QW.out (fun _ _ h => h)).mono (fun j hj => hj.1)) QW.out HN.out _ _ _ _ _ _
        · have hz : (((y :: y2 :: m).length : Int) == 1) = false := by simp; omega
          have hz' : (((y :: y2 :: m).length : Int) = 1) = False := by simp; omega
          have hz2 : ((y :: y2 :: m).length = 1) = False := by simp
          obtain ⟨L, hL⟩ : ∃ L, L = (y :: y2 :: m).length := ⟨_, rfl⟩
          rw [← hL] at hz hz' hz2
          rw [← hL]
          have HLL : Hid (L = (y :: y2 :: m).length) := hL
          clear hL
          go_wp2_with fail
          refine bodyPost_ret (results_cell_row (p := 2) (ty := 28) rfl _ _ w.heap.size 28 _ (0, 0) _ rfl (put6_heap ZW.out _ _ _ _ _ _) Tryd.underlying28 rfl (by kernel_rfl)) rfl ?_
          rw [HE.out, HLL.out]
          have hl0 := fun i => limb_none i
          have ht := Cl4.tell (y := ⟨3, eset, y :: y2 :: m⟩) 3 B.out rfl ((HP2.out.mv QW.out (fun _ _ h => h)).mono (fun j hj => hj.elim (fun h => h.1) (fun h => HBK.out j h))) QW.out HN.out (.int .i64 3) (.int .u64 0) (.int .u64 0) (.int .u64 0) (.int .u64 0) (.slice a2 (y :: y2 :: m).length c2)
          rw [show limb (RX.mk 3 eset (y :: y2 :: m)).set 0 = 0 from limb_none 0, show limb (RX.mk 3 eset (y :: y2 :: m)).set 1 = 0 from limb_none 1, show limb (RX.mk 3 eset (y :: y2 :: m)).set 2 = 0 from limb_none 2, show limb (RX.mk 3 eset (y :: y2 :: m)).set 3 = 0 from limb_none 3] at ht
          exact ht
      | true =>
        have h7 := h124 _ hd
        clear h124
        obtain ⟨u, rfl⟩ := hdc_yes hd
        have HC : Hid _ := altR_step HF.out (acc := acc) (l := u)
        have HK : Hid (k = S.size - (124 :: u).length) := hk
        have hk5 : (k : Int) < 1000 := by omega
        have hk6 : (0 : Int) ≤ k := by omega
        clear hk hle hro hd
        go_wp2_with fail
        refine h7.mono ?_
        rintro e8 w8 ⟨rfl, nq, rfl⟩
        have QW : Hid (Qt wr (wr.drewN nq)) := Mv.drewN _ _ _
        have O8 : Hid (Ok4 q S (124 :: u) n (wr.drewN nq)) := Ok4.mv O QW.out (fun h => h)
        have O9 : Hid _ := Ok4.step O8 HK.out
        have MW : Hid (Mv (fun k => k = q) wr ((wr.drewN nq).setCell ⟨q, 1, none⟩ (.int .i64 ((k : Int) + 1)))) := (QW.out.mono (fun _ _ h => h.elim)).trans (Mv.setCell _ _ _) (fun _ _ h => h)
        have hcat := HA.out u _ O9
        obtain ⟨r2, hr2⟩ : ∃ r2, r2 = catS f u := ⟨_, rfl⟩
        rw [← hr2] at hcat HC
        have HG : Hid (catS f u = r2) := hr2.symm
        clear hr2
        go_wp2_with fail
        refine hcat.mono ?_
        rintro e3 w3 ⟨y, a3, c3, rfl, P3, M3, hR3⟩
        have HR3 : Hid _ := hR3
        have HPP : Hid (Parts y.args (fun j => wr.heap.size ≤ j) w3 a3 c3) := P3.out.mono (fun j hj => by have := MW.out.size; omega)
        have HMM : Hid (Mv (fun k => k = q) wr w3) := Mv.trans MW.out M3.out (fun _ _ h => h)
        clear hR3 hcat
        have HST : Hid (∃ st', stl st' < gk ∧ St4 q n S (altR f) R (acc ++ [y]) st' w3 ∧ y.args.length < 1000) := by
          have hlen := B.out.st.2.2
          simp only [List.length_cons] at hlen
          have hgk := HU.out
          simp only [stl, List.length_cons] at hgk
          cases r2 with
          | error n3 =>
            obtain ⟨hE, hx⟩ := HR3.out
            exact ⟨.error n3, by simp only [stl]; omega, ⟨hE, by rw [← HSP.out, HC.out], by simp; omega⟩, hx⟩
          | ok r2 =>
            obtain ⟨y', u2⟩ := r2
            obtain ⟨hxy, hO⟩ := HR3.out
            obtain rfl : y = y' := hxy
            have hl := (catS_goes HF.out _ _ _ HG.out).len
            have hf := few_cat HFE.out HF.out _ _ _ HG.out
            exact ⟨.ok u2, by simp only [stl]; omega, ⟨hO, by rw [← HSP.out, HC.out], by simp; omega⟩, by omega⟩
        obtain ⟨st', hs1, hs2, hs3⟩ := HST.out
        obtain ⟨v', W, hr, B'⟩ := B.out.step HPP.out HMM.out hs2 hs3
        have HL2 : Hid (stl st' < gk) := hs1
        clear hs1 hs2 hs3 HST h7 k0 k1 k2 k3 f1 f2 f3
        go_wp2_with (at_builtin; first | (refine wpList_append_given rfl _ _ 26 rfl _ _ _ W rfl rfl hr ?_))
        go_roundg (stl st')
        case measure => exact HL2.out
        case rel => exact ⟨acc ++ [y], st', rfl, B'⟩

theorem ralt_all : ∀ n, RAlt n
  | 0 => fun q S l w h => ralt_any 0 (fun m h => by omega) h
  | n + 1 => fun q S l w h => ralt_any (n + 1) (fun m h => Nat.succ.inj h ▸ ralt_all n) h

end Go.Proofs.YtkclkhfcmjhogaaDoor

namespace Go.Proofs.YtkclkhfcmjhogaaDoor
open Go.RowKit
set_option linter.unusedVariables false

theorem res15 (tmps : Array Value) (w : World) (g : Nat) (v0 v1 v2 v3 v4 v5 y : Value) (h0 : tmps.getD 2 undef = .pointer (some ⟨g, 0, none⟩)) (h1 : tmps.getD 3 undef = y)
    (hg : w.heap[g]? = some (.cells #[v0, v1, v2, v3, v4, v5] 28 (0, 0))) :
    (results Tryd.f15 tmps).run Tryd.prog w = .ok (.tuple #[.agg #[v0, v1, v2, v3, v4, v5], y]) w := by
  have h0' : tmps[2]?.getD undef = .pointer (some ⟨g, 0, none⟩) := by simpa using h0
  have h1' : tmps[3]?.getD undef = y := by simpa using h1
  have e0 : w.cell? ⟨g, 0, none⟩ = some v0 := by simp [World.cell?, hg]
  have e1 : w.cell? ⟨g, 1, none⟩ = some v1 := by simp [World.cell?, hg]
  have e2 : w.cell? ⟨g, 2, none⟩ = some v2 := by simp [World.cell?, hg]
  have e3 : w.cell? ⟨g, 3, none⟩ = some v3 := by simp [World.cell?, hg]
  have e4 : w.cell? ⟨g, 4, none⟩ = some v4 := by simp [World.cell?, hg]
  have e5 : w.cell? ⟨g, 5, none⟩ = some v5 := by simp [World.cell?, hg]
  simp [results, Tryd.results15, h0', h1', asAddr, go_sem, e0, e1, e2, e3, e4, e5]

theorem put6_heapD {g : Nat} {u0 u1 u2 u3 u4 u5 : Value} {w : World} (h : B6 g u0 u1 u2 u3 u4 u5 w) (v0 v1 v2 v3 v4 v5 : Value) : (put6 w g v0 v1 v2 v3 v4 v5).drew.heap[g]? = some (.cells #[v0, v1, v2, v3, v4, v5] 28 (0, 0)) := by
  have e := put6_heap h v0 v1 v2 v3 v4 v5
  generalize put6 w g v0 v1 v2 v3 v4 v5 = W at *
  exact e
/-- While what is read lies in its box. -/
structure P6 (w W : World) (x : RX) (a : Option Addr) (c gx : Nat) : Prop where
  z : B6 w.heap.size (.int .i64 0) (.int .u64 0) (.int .u64 0) (.int .u64 0) (.int .u64 0) (.slice none 0 0) W
  bx : B6 gx (.int .i64 x.kind) (.int .u64 (limb x.set 0)) (.int .u64 (limb x.set 1)) (.int .u64 (limb x.set 2)) (.int .u64 (limb x.set 3)) (.slice a x.args.length c) W
  pa : Parts x.args (fun j => w.heap.size + 2 ≤ j ∧ j < gx) W a c
  qt : Qt w W
  hg : w.heap.size + 2 ≤ gx
theorem P6.mv {X : Nat → Prop} {w W W' : World} {x : RX} {a : Option Addr} {c gx : Nat} (h : Hid (P6 w W x a c gx)) (m : Mv X W W') (hX : ∀ j, X j → j = w.heap.size + 1) : Hid (P6 w W' x a c gx) := by
  have hg := h.out.hg
  exact ⟨(B6.mv h.out.z m (fun e => by have := hX _ e; omega)).out, (B6.mv h.out.bx m (fun e => by have := hX _ e; omega)).out, h.out.pa.mv m (fun j hj e => by have := hX _ e; omega), Mv.trans h.out.qt m (fun j hj e => by have := hX _ e; omega), hg⟩
/-- An error is told. -/
theorem P6.bad {w W : World} {x : RX} {a : Option Addr} {c gx : Nat} (h : Hid (P6 w W x a c gx)) (n : Int) (v0 v1 v2 v3 v4 v5 : Value) : Pt w (.error n) (.returned (.tuple #[.agg #[.int .i64 0, .int .u64 0, .int .u64 0, .int .u64 0, .int .u64 0, .slice none 0 0], .int .i64 n])) (put6 W w.heap.size v0 v1 v2 v3 v4 v5).drew :=
  ⟨rfl, Mv.trans (Mv.trans h.out.qt (put6_mv W w.heap.size v0 v1 v2 v3 v4 v5) (fun j hj e => by omega)) (Mv.drewN (fun _ => False) _ 1) (fun _ _ h => h)⟩
theorem P6.good {w W : World} {x : RX} {a : Option Addr} {c gx : Nat} (h : Hid (P6 w W x a c gx)) (v0 v1 v2 v3 v4 v5 : Value) : Pt w (.ok x) (.returned (.tuple #[.agg #[.int .i64 x.kind, .int .u64 (limb x.set 0), .int .u64 (limb x.set 1), .int .u64 (limb x.set 2), .int .u64 (limb x.set 3), .slice a x.args.length c], .int .i64 0])) (put6 W w.heap.size v0 v1 v2 v3 v4 v5) :=
  ⟨a, c, rfl, (h.out.pa.mv (put6_mv W w.heap.size v0 v1 v2 v3 v4 v5) (fun j hj e => by omega)).mono (fun j hj => by omega), Mv.trans h.out.qt (put6_mv W w.heap.size v0 v1 v2 v3 v4 v5) (fun j hj e => by omega)⟩

theorem nodes13 {l t : List Nat} {x : RX} (h : altN 13 l = .ok (x, t)) (hl : l.length ≤ 120) : x.nodes < 1000000 := by
  have := altN_nb 13 _ _ _ h
  omega

set_option maxRecDepth 20000 in
set_option maxHeartbeats 8000000 in
theorem rparse_any (l : List Nat) (w : World) (hl : l.length ≤ 120) (hb : ∀ c ∈ l, c < 256) : Calls Tryd.prog 15 #[.string (str l)] w fun e w' => Pt w (prsX l) e w' := by
  have hsz := str_size l
  have O0 : Hid (Ok4 (w.heap.size + 1) (str l) l 13 ((w.alloc zeros6).alloc (.cells #[.string (str l), .int .i64 0, .int .i64 0, .int .i64 0] 57))) := by
    refine ⟨?_, ?_, by omega, by omega, by omega⟩
    · rw [hsz, Nat.sub_self]
      exact heap_alloc2_new w zeros6 _
    · rw [hsz, Nat.sub_self]
      have := Sf.zero (str l)
      rwa [bs_str l hb] at this
  have Z0 : Hid (B6 w.heap.size (.int .i64 0) (.int .u64 0) (.int .u64 0) (.int .u64 0) (.int .u64 0) (.slice none 0 0) ((w.alloc zeros6).alloc (.cells #[.string (str l), .int .i64 0, .int .i64 0, .int .i64 0] 57))) := B6.mv (show B6 w.heap.size (.int .i64 0) (.int .u64 0) (.int .u64 0) (.int .u64 0) (.int .u64 0) (.slice none 0 0) (w.alloc zeros6) from heap_alloc_new w zeros6) (Mv.alloc (fun _ => False) _ _) (fun h => h)
  have Q0 : Hid (Qt w ((w.alloc zeros6).alloc (.cells #[.string (str l), .int .i64 0, .int .i64 0, .int .i64 0] 57))) := ((Qt.refl w).alloc _).alloc _
  have ha := ralt_all 13 _ _ l _ O0
  obtain ⟨s, hs⟩ : ∃ s, s = prsX l := ⟨_, rfl⟩
  rw [← hs]
  have HS0 : Hid (s = prsX l) := hs
  obtain ⟨r, hr⟩ : ∃ r, r = altN 13 l := ⟨_, rfl⟩
  rw [← hr] at ha
  have HR0 : Hid (altN 13 l = r) := hr.symm
  have HL : Hid (l.length ≤ 120) := hl
  clear hs hr hb hl
  have HZ : Hid ((str l).size = l.length) := hsz
  clear hsz
  generalize str l = S at *
  go_enter Tryd.func15, Tryd.ntmps15
  go_wp2_with fail
  refine ha.mono ?_
  rintro e1 w1 ⟨x, a, c, rfl, P1, M1, hR⟩
  have HRO : Hid _ := hR
  clear hR ha
  have HP : Hid (P6 w (w1.alloc (.cells #[.int .i64 x.kind, .int .u64 (limb x.set 0), .int .u64 (limb x.set 1), .int .u64 (limb x.set 2), .int .u64 (limb x.set 3), .slice a x.args.length c] 28)) x a c w1.heap.size) := by
    have hw := M1.out.size
    simp only [World.alloc] at hw
    simp at hw
    have qa := Mv.alloc (fun _ => False) w1 (.cells #[.int .i64 x.kind, .int .u64 (limb x.set 0), .int .u64 (limb x.set 1), .int .u64 (limb x.set 2), .int .u64 (limb x.set 3), .slice a x.args.length c] 28)
    refine ⟨(B6.mv (B6.mv Z0.out M1.out (by omega)).out qa (fun h => h)).out, heap_alloc_new w1 _, ?_, Mv.trans (Mv.trans Q0.out M1.out (fun j hj e => by omega)) qa (fun _ _ h => h), by omega⟩
    exact (P1.out.lt.mono (fun j hj => ⟨by have := hj.1; simp at this; omega, hj.2⟩)).mv qa (fun _ _ h => h)
  obtain ⟨z0, z1, z2, z3, z4, z5, g0, g1, g2, g3, g4, g5⟩ := B6.facts (show Hid _ from HP.out.z)
  cases r with
  | error er =>
    obtain ⟨hE, hx⟩ := HRO.out
    have E2' : Hid (Er4 (w.heap.size + 1) S er 13 (w1.alloc (.cells #[.int .i64 x.kind, .int .u64 (limb x.set 0), .int .u64 (limb x.set 1), .int .u64 (limb x.set 2), .int .u64 (limb x.set 3), .slice a x.args.length c] 28))) := Er4.mv hE (Mv.alloc (fun _ => False) w1 _) (fun h => h)
    have HB : Hid (s = .error er) := by show _ = _; rw [HS0.out]; unfold prsX wholeS; rw [HR0.out]
    obtain ⟨k5, d5, hB5, _, _⟩ := E2'.out.at_
    obtain ⟨k0, k1, k2, k3, f1, f2, f3⟩ := B4.facts (show Hid _ from hB5)
    have hne : (er == 0) = false := beq_false_of_ne E2'.out.ne
    have hne2 : (er = 0) = False := eq_false E2'.out.ne
    clear hB5 HRO hE hx
    go_wp2_with fail
    go_region
    go_wp2_with fail
    refine bodyPost_ret (res15 _ _ w.heap.size _ _ _ _ _ _ _ rfl rfl (put6_heapD HP.out.z (.int .i64 0) (.int .u64 0) (.int .u64 0) (.int .u64 0) (.int .u64 0) (.slice none 0 0))) rfl ?_
    rw [HB.out]
    exact P6.bad HP er _ _ _ _ _ _
  | ok r =>
    obtain ⟨y, t⟩ := r
    obtain ⟨hxy, hO⟩ := HRO.out
    obtain rfl : x = y := hxy
    have O1 : Hid (Ok4 (w.heap.size + 1) S t 13 (w1.alloc (.cells #[.int .i64 x.kind, .int .u64 (limb x.set 0), .int .u64 (limb x.set 1), .int .u64 (limb x.set 2), .int .u64 (limb x.set 3), .slice a x.args.length c] 28))) := Ok4.mv hO (Mv.alloc (fun _ => False) w1 _) (fun h => h)
    clear hO HRO
    obtain ⟨x0, x1, x2, x3, x4, x5, _, _, _, _, _, _⟩ := B6.facts (show Hid _ from HP.out.bx)
    obtain ⟨k0, k1, k2, k3, f1, f2, f3⟩ := B4.facts (show Hid _ from O1.out.at_)
    cases t with
    | cons d v =>
      have HB : Hid (s = .error 2) := by show _ = _; rw [HS0.out]; unfold prsX wholeS; rw [HR0.out]
      obtain ⟨k, hk⟩ : ∃ k, k = S.size - (d :: v).length := ⟨_, rfl⟩
      rw [← hk] at k1
      have hle := O1.out.le
      simp only [List.length_cons] at hk hle
      have hk4 : (k : Int) < (S.size : Int) := by omega
      have hf := rfail_ok (w.heap.size + 1) S _ _ 2 _ (show Hid _ from O1.out.at_)
      have BE := O1.out.at_.err 2
      have HP2 := P6.mv HP (Mv.setCell _ ⟨w.heap.size + 1, 3, none⟩ (.int .i64 2)) (fun j hj => by simpa using hj)
      clear hk hle
      go_wp2_with fail
      refine hf.mono ?_
      rintro e2 w2 ⟨rfl, hw2⟩
      rw [← hw2] at BE HP2
      clear hf hw2 k0 k1 k2 k3 f1 f2 f3 z0 z1 z2 z3 z4 z5 g0 g1 g2 g3 g4 g5 x0 x1 x2 x3 x4 x5
      obtain ⟨k0, k1, k2, k3, f1, f2, f3⟩ := B4.facts (show Hid _ from BE)
      obtain ⟨z0, z1, z2, z3, z4, z5, g0, g1, g2, g3, g4, g5⟩ := B6.facts (show Hid _ from HP2.out.z)
      clear BE
      go_wp2_with fail
      go_region
      go_wp2_with fail
      refine bodyPost_ret (res15 _ _ w.heap.size _ _ _ _ _ _ _ rfl rfl (put6_heapD HP2.out.z (.int .i64 0) (.int .u64 0) (.int .u64 0) (.int .u64 0) (.int .u64 0) (.slice none 0 0))) rfl ?_
      rw [HB.out]
      exact P6.bad HP2 2 _ _ _ _ _ _
    | nil =>
      have HW : Hid (wholeS l = .ok x) := by show _ = _; unfold wholeS; rw [HR0.out]
      have HB : Hid (s = if may x = 0 then .ok x else .error (may x)) := by show _ = _; rw [HS0.out]; unfold prsX; rw [HW.out]
      rw [show (((S.size - ([] : List Nat).length : Nat)) : Int) = (S.size : Int) from by simp] at k1
      have hmay := rmayg x _ a c _ (show Hid _ from HP.out.pa) (altN_nod 13 _ _ _ HR0.out) (nodes13 HR0.out HL.out)
      have hk4 : decide ((S.size : Int) < (S.size : Int)) = false := by simp
      go_wp2_with fail
      refine hmay.mono ?_
      rintro e2 w2 ⟨rfl, q2⟩
      have O2 := Ok4.mv O1 q2.out (fun h => h)
      have HP1 := P6.mv HP q2.out (fun j hj => hj.elim)
      obtain ⟨m, hm⟩ : ∃ m, m = may x := ⟨_, rfl⟩
      rw [← hm] at HB
      rw [← hm]
      have hf := rfail_ok (w.heap.size + 1) S _ _ m _ (show Hid _ from O2.out.at_)
      have BE := O2.out.at_.err m
      have HP2 := P6.mv HP1 (Mv.setCell _ ⟨w.heap.size + 1, 3, none⟩ (.int .i64 m)) (fun j hj => by simpa using hj)
      clear hm hmay k0 k1 k2 k3 f1 f2 f3 z0 z1 z2 z3 z4 z5 g0 g1 g2 g3 g4 g5 x0 x1 x2 x3 x4 x5
      go_wp2_with fail
      refine hf.mono ?_
      rintro e3 w3 ⟨rfl, hw3⟩
      rw [← hw3] at BE HP2
      clear hf hw3
      obtain ⟨k0, k1, k2, k3, f1, f2, f3⟩ := B4.facts (show Hid _ from BE)
      obtain ⟨z0, z1, z2, z3, z4, z5, g0, g1, g2, g3, g4, g5⟩ := B6.facts (show Hid _ from HP2.out.z)
      obtain ⟨x0, x1, x2, x3, x4, x5, _, _, _, _, _, _⟩ := B6.facts (show Hid _ from HP2.out.bx)
      clear BE
      by_cases h0 : m = 0
      · subst h0
        rw [if_pos rfl] at HB
        go_wp2_with fail
        refine bodyPost_ret (res15 _ _ w.heap.size _ _ _ _ _ _ _ rfl rfl (put6_heap HP2.out.z _ _ _ _ _ _)) rfl ?_
        rw [HB.out]
        exact P6.good HP2 _ _ _ _ _ _
      · rw [if_neg h0] at HB
        have h0b : (m != 0) = true := by simpa using h0
        go_wp2_with fail
        go_region
        go_wp2_with fail
        refine bodyPost_ret (res15 _ _ w.heap.size _ _ _ _ _ _ _ rfl rfl (put6_heapD HP2.out.z (.int .i64 0) (.int .u64 0) (.int .u64 0) (.int .u64 0) (.int .u64 0) (.slice none 0 0))) rfl ?_
        rw [HB.out]
        exact P6.bad HP2 m _ _ _ _ _ _

end Go.Proofs.YtkclkhfcmjhogaaDoor
