/- The program's reader: rep. -/
import Derived.Test.YtkclkhfcmjhogaaDoorMgH1
import Derived.Laws.RangeString
namespace Go.Proofs.YtkclkhfcmjhogaaDoor
open Go.RowKit
set_option linter.unusedVariables false

theorem repS_error {f : List Nat → Res} {l : List Nat} {e : Int} (h : atomS f l = .error e) : repS f l = .error e := by unfold repS; rw [h]
theorem repS_ok {f : List Nat → Res} {l t : List Nat} {x : RX} (h : atomS f l = .ok (x, t)) : repS f l = .ok (signS x t) := by unfold repS; rw [h]
theorem signS_at {x : RX} {c : Nat} {k : Int} {u : List Nat} (h : signK c = some k) : signS x (c :: u) = (⟨k, eset, [x]⟩, u) := by unfold signS; simp [h]
theorem signS_no {x : RX} {t : List Nat} (h1 : hd1 42 t = false) (h2 : hd1 43 t = false) (h3 : hd1 63 t = false) : signS x t = (x, t) := by
  cases t with
  | nil => rfl
  | cons c u =>
    have e1 : c ≠ 42 := by intro e; rw [e] at h1; simp [hd1] at h1
    have e2 : c ≠ 43 := by intro e; rw [e] at h2; simp [hd1] at h2
    have e3 : c ≠ 63 := by intro e; rw [e] at h3; simp [hd1] at h3
    unfold signS signK
    simp [e1, e2, e3]
theorem tl1_no {b : Nat} {l : List Nat} (h : hd1 b l = false) : tl1 b l = l := by unfold tl1; rw [h]; rfl
theorem ext0 : (⟨#[42, 43, 63]⟩ : ByteArray).extract 0 1 = str [42] := by decide +kernel
theorem ext1 : (⟨#[42, 43, 63]⟩ : ByteArray).extract 1 2 = str [43] := by decide +kernel
theorem ext2 : (⟨#[42, 43, 63]⟩ : ByteArray).extract 2 3 = str [63] := by decide +kernel

abbrev sg3 : ByteArray := ⟨#[42, 43, 63]⟩
theorem next_at (W : World) (g : Nat) (s : ByteArray) (pos : Nat) (ty : TypeId) (hg : W.heap[g]? = some (.stringIter s pos)) (h : pos < s.size) (ha : (s[pos]'h).toNat < 128) :
    ∃ W', (Instr.next (.pointer (some ⟨g, 0, none⟩)) true ty).run Tryd.prog W = .ok (.tuple #[.bool true, .int .i64 pos, .int .i32 (s[pos]'h).toNat]) W' ∧ Mv (fun k => k = g) W W' ∧ W'.heap[g]? = some (.stringIter s (pos + 1)) := by
  refine ⟨{ W with heap := W.heap.setIfInBounds g (.stringIter s (pos + 1)) }, ?_, ⟨rfl, rfl, rfl, by simp, fun k hk hs => by simp [Ne.symm hs]⟩, ?_⟩
  · simp only [Instr.next, getObj, setObj, Sem.run_bind, Sem.run, hg, Result.andThen, h, if_true, decode_ascii s pos h ha]
    simp [goInt]
  · have := (Array.getElem?_eq_some_iff.1 hg).1
    simp [this]
theorem next_end_at (W : World) (g : Nat) (s : ByteArray) (pos : Nat) (ty : TypeId) (hg : W.heap[g]? = some (.stringIter s pos)) (h : ¬ pos < s.size) :
    (Instr.next (.pointer (some ⟨g, 0, none⟩)) true ty).run Tryd.prog W = .ok (.tuple #[.bool false]) W := by
  simp [Instr.next, getObj, Sem.run, hg, h]
theorem parts_one {x : RX} {K : Nat → Prop} {W : World} {a : Option Addr} {c : Nat} (h : Parts x.args K W a c) (hK : ∀ j, K j → j < W.heap.size) :
    Parts [x] (fun j => K j ∨ W.heap.size ≤ j) (W.alloc (.cells #[.int .i64 x.kind, .int .u64 (limb x.set 0), .int .u64 (limb x.set 1), .int .u64 (limb x.set 2), .int .u64 (limb x.set 3), .slice a x.args.length c] 28)) (some ⟨W.heap.size, 0, none⟩) 1 := by
  have hr := (Ro.new (base := W.heap.size) (Nat.le_refl _) hK h).out
  obtain ⟨a2, c2, hv, hp, _⟩ := hr.sl (by simp)
  obtain ⟨rfl, _, rfl⟩ := Value.slice.inj hv
  refine hp.mono (fun j hj => ?_)
  rcases hj with hj | hj
  · exact .inl hj
  · have := Option.some.inj hj
    exact .inr (Nat.le_of_eq this)
/-- While the signs are tried. -/
structure Rp (w : World) (q o gx g : Nat) (x : RX) (a : Option Addr) (c : Nat) (t : List Nat) (i : Nat) (W : World) : Prop where
  it : W.heap[g]? = some (.stringIter sg3 i)
  rd : Rx1 q t o W
  bx : B6 gx (.int .i64 x.kind) (.int .u64 (limb x.set 0)) (.int .u64 (limb x.set 1)) (.int .u64 (limb x.set 2)) (.int .u64 (limb x.set 3)) (.slice a x.args.length c) W
  z : B6 w.heap.size (.int .i64 0) (.int .u64 0) (.int .u64 0) (.int .u64 0) (.int .u64 0) (.slice none 0 0) W
  pa : Parts x.args (fun j => w.heap.size + 1 ≤ j ∧ j < gx) W a c
  mv : Mv (fun k => k = q) w W
  h0 : q < w.heap.size
  h1 : w.heap.size < gx
  h2 : gx < g
theorem Rp.next {w W W' : World} {q o gx g c i : Nat} {x : RX} {a : Option Addr} {t : List Nat} (h : Rp w q o gx g x a c t i W) (m : Mv (fun k => k = g) W W') (hi : W'.heap[g]? = some (.stringIter sg3 (i + 1))) : Rp w q o gx g x a c t (i + 1) W' := by
  have h0 := h.h0; have h1 := h.h1; have h2 := h.h2
  exact ⟨hi, h.rd.mv m (by omega), (B6.mv h.bx m (by omega)).out, (B6.mv h.z m (by omega)).out, h.pa.mv m (fun j hj e => by omega), h.mv.trans m (fun j hj e => by omega), h0, h1, h2⟩
theorem Rp.skip {w W W' : World} {q o gx g c i : Nat} {x : RX} {a : Option Addr} {t u : List Nat} (h : Rp w q o gx g x a c t i W) (G : Gx q u o W W') : Rp w q o gx g x a c u i W' := by
  have h0 := h.h0; have h1 := h.h1; have h2 := h.h2
  exact ⟨(G.mv.block g (Array.getElem?_eq_some_iff.1 h.it).1 (by omega)).trans h.it, G.rd, (B6.mv h.bx G.mv (by omega)).out, (B6.mv h.z G.mv (by omega)).out, h.pa.mv G.mv (fun j hj e => by omega), h.mv.trans G.mv (fun _ _ h => h), h0, h1, h2⟩
/-- The result that stands behind a sign. -/
theorem Rp.tell {w W : World} {q o gx g c i : Nat} {x : RX} {a : Option Addr} {t : List Nat} (h : Rp w q o gx g x a c t i W) (k : Int) (v0 v1 v2 v3 v4 v5 : Value) :
    Px q o w (.ok (⟨k, eset, [x]⟩, t)) (.returned (.agg #[.int .i64 k, .int .u64 0, .int .u64 0, .int .u64 0, .int .u64 0, .slice (some ⟨W.heap.size, 0, none⟩) 1 1])) (put6 (W.alloc (.cells #[.int .i64 x.kind, .int .u64 (limb x.set 0), .int .u64 (limb x.set 1), .int .u64 (limb x.set 2), .int .u64 (limb x.set 3), .slice a x.args.length c] 28)) w.heap.size v0 v1 v2 v3 v4 v5) := by
  have h1 := h.bx.lt
  have hs := h.mv.size
  have hz := h.z.lt
  have qa := Mv.alloc (fun _ => False) W (.cells #[.int .i64 x.kind, .int .u64 (limb x.set 0), .int .u64 (limb x.set 1), .int .u64 (limb x.set 2), .int .u64 (limb x.set 3), .slice a x.args.length c] 28)
  have e : (Value.agg #[.int .i64 k, .int .u64 0, .int .u64 0, .int .u64 0, .int .u64 0, .slice (some ⟨W.heap.size, 0, none⟩) 1 1]) = .agg #[.int .i64 k, .int .u64 (limb eset 0), .int .u64 (limb eset 1), .int .u64 (limb eset 2), .int .u64 (limb eset 3), .slice (some ⟨W.heap.size, 0, none⟩) 1 1] := by
    rw [show limb eset 0 = 0 from limb_none 0, show limb eset 1 = 0 from limb_none 1, show limb eset 2 = 0 from limb_none 2, show limb eset 3 = 0 from limb_none 3]; rfl
  rw [e]
  refine Px.ok (x := ⟨k, eset, [x]⟩) h.h0 ((parts_one h.pa (fun j hj => by omega)).mono (fun j hj => by omega)) ⟨h.rd.mv qa (fun h => h), h.mv.trans qa (fun _ _ h => h.elim)⟩ _ _ _ _ _ _
theorem Rp.none {w W : World} {q o gx g c i : Nat} {x : RX} {a : Option Addr} {t : List Nat} (h : Rp w q o gx g x a c t i W) (v0 v1 v2 v3 v4 v5 : Value) :
    Px q o w (.ok (x, t)) (.returned (.agg #[.int .i64 x.kind, .int .u64 (limb x.set 0), .int .u64 (limb x.set 1), .int .u64 (limb x.set 2), .int .u64 (limb x.set 3), .slice a x.args.length c])) (put6 W w.heap.size v0 v1 v2 v3 v4 v5) :=
  Px.ok h.h0 (h.pa.mono (fun j hj => hj.1)) ⟨h.rd, h.mv⟩ _ _ _ _ _ _

set_option maxHeartbeats 4000000 in
theorem rep_any (n : Nat) (hA : ∀ m, n = m + 1 → CAlt m) (q : Nat) (l : List Nat) (o : Nat) (w : World) (ho : o + n = 13) (R : Hid (Rx1 q l o w)) : Calls Tryd.prog 85 #[.pointer (some ⟨q, 0, none⟩)] w fun e w' => Px q o w (repS (inn n) l) e w' := by
  have R1 := Rx1.al R zeros6
  have HQ : Hid (q < w.heap.size) := R.out.lt
  have Z1 : Hid (B6 w.heap.size (.int .i64 0) (.int .u64 0) (.int .u64 0) (.int .u64 0) (.int .u64 0) (.slice none 0 0) (w.alloc zeros6)) := heap_alloc_new w zeros6
  have M1 : Hid (Mv (fun k => k = q) w (w.alloc zeros6)) := Mv.alloc _ _ _
  have ha := atom_any n hA q l o _ ho R1
  obtain ⟨s, hs⟩ : ∃ s, s = repS (inn n) l := ⟨_, rfl⟩
  rw [← hs]
  have HS0 : Hid (s = repS (inn n) l) := hs
  obtain ⟨r, hr⟩ : ∃ r, r = atomS (inn n) l := ⟨_, rfl⟩
  rw [← hr] at ha
  have HR0 : Hid (atomS (inn n) l = r) := hr.symm
  have E0 := ext0
  have E1 := ext1
  have E2 := ext2
  clear hs hr R hA ho R1
  go_enter Tryd.func85, Tryd.ntmps85
  go_wp2_with fail
  refine ha.mono ?_
  intro e1 w1 h1
  cases r with
  | error n2 =>
    obtain ⟨rfl, m2⟩ := h1
    refine ⟨rfl, ?_⟩
    rw [HS0.out, repS_error HR0.out]
    exact ⟨rfl, M1.out.trans m2.out (fun _ _ h => h)⟩
  | ok r =>
    obtain ⟨x, t⟩ := r
    obtain ⟨a, c, rfl, P1, G1⟩ := h1
    have HE : Hid (s = .ok (signS x t)) := by show _ = _; rw [HS0.out]; exact repS_ok HR0.out
    have Z2 : Hid _ := B6.mv Z1.out G1.out.mv (by have := HQ.out; omega)
    have HW : Hid (w.heap.size + 1 ≤ w1.heap.size) := Z2.out.lt
    have P2 : Hid (Parts x.args (fun j => w.heap.size + 1 ≤ j ∧ j < w1.heap.size) w1 a c) := P1.out.lt.mono (fun j hj => ⟨by have := hj.1; simp at this; omega, hj.2⟩)
    clear ha
    have PBX : Hid (B6 w1.heap.size (.int .i64 x.kind) (.int .u64 (limb x.set 0)) (.int .u64 (limb x.set 1)) (.int .u64 (limb x.set 2)) (.int .u64 (limb x.set 3)) (.slice a x.args.length c) (w1.alloc (.cells #[.int .i64 x.kind, .int .u64 (limb x.set 0), .int .u64 (limb x.set 1), .int .u64 (limb x.set 2), .int .u64 (limb x.set 3), .slice a x.args.length c] 28))) := heap_alloc_new w1 _
    have B0 : Hid (Rp w q o w1.heap.size (w1.heap.size + 1) x a c t 0 ((w1.alloc (.cells #[.int .i64 x.kind, .int .u64 (limb x.set 0), .int .u64 (limb x.set 1), .int .u64 (limb x.set 2), .int .u64 (limb x.set 3), .slice a x.args.length c] 28)).iter sg3 0)) := by
      have qa := Mv.alloc (fun _ => False) w1 (.cells #[.int .i64 x.kind, .int .u64 (limb x.set 0), .int .u64 (limb x.set 1), .int .u64 (limb x.set 2), .int .u64 (limb x.set 3), .slice a x.args.length c] 28)
      have qb := Mv.alloc (fun _ => False) (w1.alloc (.cells #[.int .i64 x.kind, .int .u64 (limb x.set 0), .int .u64 (limb x.set 1), .int .u64 (limb x.set 2), .int .u64 (limb x.set 3), .slice a x.args.length c] 28)) (.stringIter sg3 0)
      have hw := HW.out
      refine ⟨?_, (G1.out.rd.mv qa (fun h => h)).mv qb (fun h => h), (B6.mv PBX.out qb (fun h => h)).out, (B6.mv (B6.mv Z2.out qa (fun h => h)).out qb (fun h => h)).out, (P2.out.mv qa (fun _ _ h => h)).mv qb (fun _ _ h => h), ((M1.out.trans G1.out.mv (fun _ _ h => h)).trans qa (fun _ _ h => h.elim)).trans qb (fun _ _ h => h.elim), HQ.out, by omega, by omega⟩
      have := World.iter_heap (w1.alloc (.cells #[.int .i64 x.kind, .int .u64 (limb x.set 0), .int .u64 (limb x.set 1), .int .u64 (limb x.set 2), .int .u64 (limb x.set 3), .slice a x.args.length c] 28)) sg3 0
      simpa using this
    clear P2 PBX Z2 G1 M1 P1 Z1
    obtain ⟨W0, hW0⟩ : ∃ W0, W0 = (w1.alloc (.cells #[.int .i64 x.kind, .int .u64 (limb x.set 0), .int .u64 (limb x.set 1), .int .u64 (limb x.set 2), .int .u64 (limb x.set 3), .slice a x.args.length c] 28)).iter sg3 0 := ⟨_, rfl⟩
    rw [← hW0] at B0
    go_wp2_with fail
    rw [← hW0]
    clear hW0
    generalize w1.heap.size + 1 = g at *
    generalize w1.heap.size = gx at *
    refine wp_loop_rounds 5 ?_
    obtain ⟨V0, hx0, mx0, ix0⟩ := next_at W0 g sg3 0 0 B0.out.it (by decide) (by decide)
    have C0 : Hid _ := B0.out.next mx0 ix0
    have hk0 := rskip_any q 42 (by decide) t o V0 (show Hid _ from C0.out.rd)
    clear mx0 ix0
    cases hh : hd1 42 t with
    | true =>
      obtain ⟨u, rfl⟩ := hd1_yes hh
      rw [hh, show tl1 42 (42 :: u) = u from rfl] at hk0
      clear hh
      rw [rounds_succ]
      go_wp2_with fail
      refine hk0.mono ?_
      rintro e2 U ⟨rfl, G2⟩
      have D : Hid _ := C0.out.skip G2.out
      obtain ⟨p0, p1, p2, p3, p4, p5, _, _, _, _, _, _⟩ := B6.facts (show Hid _ from D.out.bx)
      have HZ : Hid _ := B6.mv D.out.z (Mv.alloc (fun _ => False) U (.cells #[.int .i64 x.kind, .int .u64 (limb x.set 0), .int .u64 (limb x.set 1), .int .u64 (limb x.set 2), .int .u64 (limb x.set 3), .slice a x.args.length c] 28)) (fun h => h)
      obtain ⟨z0, z1, z2, z3, z4, z5, f0, f1, f2, f3, f4, f5⟩ := B6.facts HZ
      go_wp2_with fail
      refine bodyPost_ret (results_cell_row (p := 2) (ty := 28) rfl _ _ w.heap.size 28 _ (0, 0) _ rfl (put6_heap HZ.out _ _ _ _ _ _) Tryd.underlying28 rfl (by kernel_rfl)) rfl ?_
      rw [HE.out, signS_at (k := 4) rfl]
      exact D.out.tell 4 _ _ _ _ _ _
    | false =>
      have HN0 : Hid (hd1 42 t = false) := hh
      rw [hh, tl1_no hh] at hk0
      clear hh
      rw [rounds_succ]
      go_wp2_with fail
      refine hk0.mono ?_
      rintro e2 U0 ⟨rfl, G2⟩
      have D0 : Hid _ := C0.out.skip G2.out
      clear hk0 hx0 C0 G2
      go_wp2_with fail
      obtain ⟨V1, hx1, mx1, ix1⟩ := next_at U0 g sg3 1 0 D0.out.it (by decide) (by decide)
      have C1 : Hid _ := D0.out.next mx1 ix1
      have hk1 := rskip_any q 43 (by decide) t o V1 (show Hid _ from C1.out.rd)
      clear mx1 ix1
      cases hh : hd1 43 t with
      | true =>
        obtain ⟨u, rfl⟩ := hd1_yes hh
        rw [hh, show tl1 43 (43 :: u) = u from rfl] at hk1
        clear hh
        rw [rounds_succ]
        go_wp2_with fail
        refine hk1.mono ?_
        rintro e2 U ⟨rfl, G2⟩
        have D : Hid _ := C1.out.skip G2.out
        obtain ⟨p0, p1, p2, p3, p4, p5, _, _, _, _, _, _⟩ := B6.facts (show Hid _ from D.out.bx)
        have HZ : Hid _ := B6.mv D.out.z (Mv.alloc (fun _ => False) U (.cells #[.int .i64 x.kind, .int .u64 (limb x.set 0), .int .u64 (limb x.set 1), .int .u64 (limb x.set 2), .int .u64 (limb x.set 3), .slice a x.args.length c] 28)) (fun h => h)
        obtain ⟨z0, z1, z2, z3, z4, z5, f0, f1, f2, f3, f4, f5⟩ := B6.facts HZ
        go_wp2_with fail
        refine bodyPost_ret (results_cell_row (p := 2) (ty := 28) rfl _ _ w.heap.size 28 _ (0, 0) _ rfl (put6_heap HZ.out _ _ _ _ _ _) Tryd.underlying28 rfl (by kernel_rfl)) rfl ?_
        rw [HE.out, signS_at (k := 5) rfl]
        exact D.out.tell 5 _ _ _ _ _ _
      | false =>
        have HN1 : Hid (hd1 43 t = false) := hh
        rw [hh, tl1_no hh] at hk1
        clear hh
        rw [rounds_succ]
        go_wp2_with fail
        refine hk1.mono ?_
        rintro e2 U1 ⟨rfl, G2⟩
        have D1 : Hid _ := C1.out.skip G2.out
        clear hk1 hx1 C1 G2
        go_wp2_with fail
        obtain ⟨V2, hx2, mx2, ix2⟩ := next_at U1 g sg3 2 0 D1.out.it (by decide) (by decide)
        have C2 : Hid _ := D1.out.next mx2 ix2
        have hk2 := rskip_any q 63 (by decide) t o V2 (show Hid _ from C2.out.rd)
        clear mx2 ix2
        cases hh : hd1 63 t with
        | true =>
          obtain ⟨u, rfl⟩ := hd1_yes hh
          rw [hh, show tl1 63 (63 :: u) = u from rfl] at hk2
          clear hh
          rw [rounds_succ]
          go_wp2_with fail
          refine hk2.mono ?_
          rintro e2 U ⟨rfl, G2⟩
          have D : Hid _ := C2.out.skip G2.out
          obtain ⟨p0, p1, p2, p3, p4, p5, _, _, _, _, _, _⟩ := B6.facts (show Hid _ from D.out.bx)
          have HZ : Hid _ := B6.mv D.out.z (Mv.alloc (fun _ => False) U (.cells #[.int .i64 x.kind, .int .u64 (limb x.set 0), .int .u64 (limb x.set 1), .int .u64 (limb x.set 2), .int .u64 (limb x.set 3), .slice a x.args.length c] 28)) (fun h => h)
          obtain ⟨z0, z1, z2, z3, z4, z5, f0, f1, f2, f3, f4, f5⟩ := B6.facts HZ
          go_wp2_with fail
          refine bodyPost_ret (results_cell_row (p := 2) (ty := 28) rfl _ _ w.heap.size 28 _ (0, 0) _ rfl (put6_heap HZ.out _ _ _ _ _ _) Tryd.underlying28 rfl (by kernel_rfl)) rfl ?_
          rw [HE.out, signS_at (k := 6) rfl]
          exact D.out.tell 6 _ _ _ _ _ _
        | false =>
          have HN2 : Hid (hd1 63 t = false) := hh
          rw [hh, tl1_no hh] at hk2
          clear hh
          rw [rounds_succ]
          go_wp2_with fail
          refine hk2.mono ?_
          rintro e2 U2 ⟨rfl, G2⟩
          have D2 : Hid _ := C2.out.skip G2.out
          clear hk2 hx2 C2 G2
          go_wp2_with fail
          have hx3 := next_end_at U2 g sg3 3 0 D2.out.it (by decide)
          obtain ⟨p0, p1, p2, p3, p4, p5, _, _, _, _, _, _⟩ := B6.facts (show Hid _ from D2.out.bx)
          obtain ⟨z0, z1, z2, z3, z4, z5, f0, f1, f2, f3, f4, f5⟩ := B6.facts (show Hid _ from D2.out.z)
          have HZ : Hid _ := D2.out.z
          rw [rounds_succ]
          go_wp2_with fail
          refine bodyPost_ret (results_cell_row (p := 2) (ty := 28) rfl _ _ w.heap.size 28 _ (0, 0) _ rfl (put6_heap HZ.out _ _ _ _ _ _) Tryd.underlying28 rfl (by kernel_rfl)) rfl ?_
          rw [HE.out, signS_no HN0.out HN1.out HN2.out]
          exact D2.out.none _ _ _ _ _ _

end Go.Proofs.YtkclkhfcmjhogaaDoor
