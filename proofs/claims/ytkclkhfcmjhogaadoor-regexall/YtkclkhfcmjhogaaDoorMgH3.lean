/- The program's reader: cat, alt. -/
import Derived.Test.YtkclkhfcmjhogaaDoorMgH2
import Derived.Deep.LoopGhost
namespace Go.Proofs.YtkclkhfcmjhogaaDoor
open Go.RowKit
set_option linter.unusedVariables false

/-- Blocks that are new since w, and not the row's own. -/
def Kv (w wr : World) (v : Value) : Nat → Prop := fun j => w.heap.size + 1 ≤ j ∧ j < wr.heap.size ∧ v.ownBlock ≠ some j
/-- While a row of trees is read. -/
structure Clr (w : World) (q o : Nat) (Rr : List RX → List Nat → Resl) (R : Resl) (wr : World) (v : Value) (acc : List RX) (t : List Nat) : Prop where
  ro : Ro (w.heap.size + 1) (Kv w wr v) wr v acc
  rd : Rx1 q t o wr
  z : B6 w.heap.size (.int .i64 0) (.int .u64 0) (.int .u64 0) (.int .u64 0) (.int .u64 0) (.slice none 0 0) wr
  mv : Mv (fun k => k = q) w wr
  spec : Rr acc t = R
  ne : acc ≠ []
  len : acc.length + t.length < 80001
  hq : q < w.heap.size
theorem Ro.mono {base : Nat} {K J : Nat → Prop} {w : World} {v : Value} {l : List RX} (h : Ro base K w v l) (hJ : ∀ j, K j → J j) (ho : ∀ j, J j → v.ownBlock ≠ some j) : Ro base J w v l := by
  obtain ⟨ys, h1, h2⟩ := h.ow
  exact ⟨⟨ys, h1, row_mono hJ h2⟩, ho⟩
theorem Clr.start {w w1 : World} {q o c : Nat} {Rr : List RX → List Nat → Resl} {x : RX} {t : List Nat} {a : Option Addr} (hq : q < w.heap.size) (hz : B6 w.heap.size (.int .i64 0) (.int .u64 0) (.int .u64 0) (.int .u64 0) (.int .u64 0) (.slice none 0 0) w1) (hp : Parts x.args (fun j => w.heap.size + 1 ≤ j) w1 a c) (G : Gx q t o w w1) :
    Clr w q o Rr (Rr [x] t) (w1.alloc (.cells #[.int .i64 x.kind, .int .u64 (limb x.set 0), .int .u64 (limb x.set 1), .int .u64 (limb x.set 2), .int .u64 (limb x.set 3), .slice a x.args.length c] 28)) (.slice (some ⟨w1.heap.size, 0, none⟩) 1 1) [x] t := by
  have hw := B6.lt hz
  have qa := Mv.alloc (fun _ => False) w1 (.cells #[.int .i64 x.kind, .int .u64 (limb x.set 0), .int .u64 (limb x.set 1), .int .u64 (limb x.set 2), .int .u64 (limb x.set 3), .slice a x.args.length c] 28)
  have hr := (Ro.new (base := w.heap.size + 1) hw (fun j hj => hj.2) hp.lt).out
  refine ⟨hr.mono (fun j hj => ⟨hj.1, Nat.lt_of_lt_of_le hj.2 qa.size, fun e => ?_⟩) (fun j hj => hj.2.2), G.rd.mv qa (fun h => h), (B6.mv hz qa (fun h => h)).out, G.mv.trans qa (fun _ _ h => h.elim), rfl, by simp, by have := G.rd.small; simp; omega, hq⟩
  have := Option.some.inj e
  have := hj.2
  simp at *
  omega
/-- One more is read and appended. -/
theorem Clr.step {w wr w2 : World} {q o c : Nat} {Rr : List RX → List Nat → Resl} {R : Resl} {v : Value} {acc : List RX} {t u : List Nat} {x : RX} {a : Option Addr} (h : Clr w q o Rr R wr v acc t) (hp : Parts x.args (fun j => wr.heap.size ≤ j) w2 a c) (G : Gx q u o wr w2) (hu : u.length < t.length) (hs : Rr acc t = Rr (acc ++ [x]) u) :
    ∃ v' W, (Builtin.append_ #[26, 26] 26 #[v, .slice (some ⟨w2.heap.size, 0, none⟩) 1 1]).run Tryd.prog (w2.alloc (.cells #[.int .i64 x.kind, .int .u64 (limb x.set 0), .int .u64 (limb x.set 1), .int .u64 (limb x.set 2), .int .u64 (limb x.set 3), .slice a x.args.length c] 28)) = .ok v' W ∧ Hid (Clr w q o Rr R W v' (acc ++ [x]) u) := by
  have hq := h.hq
  have hw1 := h.mv.size
  have hw2 := G.mv.size
  have hz := h.z.lt
  have hblk : ∀ j, v.ownBlock = some j → w.heap.size + 1 ≤ j ∧ j < wr.heap.size := by
    obtain ⟨ys, h1, _⟩ := h.ro.ow
    exact ow_blk h1
  have hro2 : Ro (w.heap.size + 1) (Kv w w2 v) w2 v acc :=
    (h.ro.mv G.mv (fun j hj e => by have := hj.1; omega) (fun j hj e => by have := hblk j hj; omega)).mono (fun j hj => ⟨hj.1, by have := hj.2.1; omega, hj.2.2⟩) (fun j hj => hj.2.2)
  have hp2 : Parts x.args (Kv w w2 v) w2 a c := hp.lt.mono (fun j hj => ⟨by have := hj.1; omega, hj.2, fun e => by have := hblk j e; have := hj.1; omega⟩)
  obtain ⟨v', W, hr, ro', m2, nb⟩ := hro2.push (by omega) (by have := h.len; omega) (fun j hj => hj.2.1) hp2
  have hW := m2.out.size
  refine ⟨v', W, hr, ⟨ro'.out.mono (fun j hj => ⟨hj.1, by have := hj.2.1; omega, ro'.out.off j hj⟩) (fun j hj => hj.2.2), G.rd.mv m2.out (fun e => by have := hblk q e; omega), (B6.mv (B6.mv h.z G.mv (by omega)).out m2.out (fun e => by have := hblk _ e; omega)).out, (h.mv.trans G.mv (fun _ _ h => h)).trans m2.out (fun j hj e => by have := hblk j e; omega), hs ▸ h.spec, by simp, by have := h.len; simp; omega, hq⟩⟩
/-- All were read. -/
theorem Clr.tell {w wr w2 : World} {q o c : Nat} {Rr : List RX → List Nat → Resl} {R : Resl} {v : Value} {acc : List RX} {t : List Nat} {y : RX} {a : Option Addr} (h : Clr w q o Rr R wr v acc t) (hp : Parts y.args (fun j => Kv w wr v j ∨ w.heap.size + 1 ≤ j) w2 a c) (q2 : Qt wr w2) (v0 v1 v2 v3 v4 v5 : Value) :
    Px q o w (.ok (y, t)) (.returned (.agg #[.int .i64 y.kind, .int .u64 (limb y.set 0), .int .u64 (limb y.set 1), .int .u64 (limb y.set 2), .int .u64 (limb y.set 3), .slice a y.args.length c])) (put6 w2 w.heap.size v0 v1 v2 v3 v4 v5) :=
  Px.ok h.hq (hp.mono (fun j hj => hj.elim (fun h => h.1) id)) ⟨h.rd.mv q2 (fun h => h), h.mv.trans q2 (fun _ _ h => h.elim)⟩ _ _ _ _ _ _

theorem catS_error {f : List Nat → Res} {l : List Nat} {e : Int} (h : repS f l = .error e) : catS f l = .error e := by unfold catS; rw [h]
theorem catS_ok {f : List Nat → Res} {l t : List Nat} {x : RX} (h : repS f l = .ok (x, t)) : catS f l = oneR 2 (catR f [x] t) := by unfold catS; rw [h]; rfl

set_option maxHeartbeats 4000000 in
theorem cat_any (n : Nat) (hA : ∀ m, n = m + 1 → CAlt m) (q : Nat) (l : List Nat) (o : Nat) (w : World) (ho : o + n = 13) (R : Hid (Rx1 q l o w)) : Calls Tryd.prog 70 #[.pointer (some ⟨q, 0, none⟩)] w fun e w' => Px q o w (catS (inn n) l) e w' := by
  have R1 := Rx1.al R zeros6
  have HQ : Hid (q < w.heap.size) := R.out.lt
  have Z1 : Hid (B6 w.heap.size (.int .i64 0) (.int .u64 0) (.int .u64 0) (.int .u64 0) (.int .u64 0) (.slice none 0 0) (w.alloc zeros6)) := heap_alloc_new w zeros6
  have M1 : Hid (Mv (fun k => k = q) w (w.alloc zeros6)) := Mv.alloc _ _ _
  have ha : ∀ l w, Hid (Rx1 q l o w) → Calls Tryd.prog 85 #[.pointer (some ⟨q, 0, none⟩)] w fun e w' => Px q o w (repS (inn n) l) e w' := fun l w R => rep_any n hA q l o w ho R
  have HF : Hid (Goes (inn n)) := inn_goes n
  have ha1 := ha l _ R1
  have HA : Hid _ := ha
  obtain ⟨s, hs⟩ : ∃ s, s = catS (inn n) l := ⟨_, rfl⟩
  rw [← hs]
  have HS0 : Hid (s = catS (inn n) l) := hs
  obtain ⟨r, hr⟩ : ∃ r, r = repS (inn n) l := ⟨_, rfl⟩
  rw [← hr] at ha1
  have HR0 : Hid (repS (inn n) l = r) := hr.symm
  clear hs hr R hA ho R1 ha
  generalize inn n = f at *
  go_enter Tryd.func70, Tryd.ntmps70
  go_wp2_with fail
  refine ha1.mono ?_
  intro e1 w1 h1
  cases r with
  | error n2 =>
    obtain ⟨rfl, m2⟩ := h1
    refine ⟨rfl, ?_⟩
    rw [HS0.out, catS_error HR0.out]
    exact ⟨rfl, M1.out.trans m2.out (fun _ _ h => h)⟩
  | ok r =>
    obtain ⟨x, t⟩ := r
    obtain ⟨a, c, rfl, P1, G1⟩ := h1
    have HE : Hid (s = oneR 2 (catR f [x] t)) := by show _ = _; rw [HS0.out]; exact catS_ok HR0.out
    have Z2 : B6 w.heap.size (.int .i64 0) (.int .u64 0) (.int .u64 0) (.int .u64 0) (.int .u64 0) (.slice none 0 0) w1 := (B6.mv Z1.out G1.out.mv (by have := HQ.out; omega)).out
    have B0 : Hid (Clr w q o (catR f) (catR f [x] t) (w1.alloc (.cells #[.int .i64 x.kind, .int .u64 (limb x.set 0), .int .u64 (limb x.set 1), .int .u64 (limb x.set 2), .int .u64 (limb x.set 3), .slice a x.args.length c] 28)) (.slice (some ⟨w1.heap.size, 0, none⟩) 1 1) [x] t) := Clr.start HQ.out Z2 (P1.out.mono (fun j hj => by simp at hj; omega)) ⟨G1.out.rd, M1.out.trans G1.out.mv (fun _ _ h => h)⟩
    clear ha1 Z2 Z1 M1 P1 G1 HS0 HR0
    go_wp2_with fail
    generalize w1.alloc (.cells #[.int .i64 x.kind, .int .u64 (limb x.set 0), .int .u64 (limb x.set 1), .int .u64 (limb x.set 2), .int .u64 (limb x.set 3), .slice a x.args.length c] 28) = W0 at *
    go_loopg [3] t.length (fun gk s3 wr => ∃ acc u, u.length = gk ∧ Hid (Clr w q o (catR f) (catR f [x] t) wr s3 acc u))
    case atStart => exact ⟨[x], t, rfl, B0⟩
    case round =>
      obtain ⟨acc, u, hu, B⟩ := hrel
      obtain ⟨v, hv⟩ : ∃ v, v = u3 := ⟨_, rfl⟩
      subst hv
      have he := endsCat_any q u o wr (show Hid _ from B.out.rd)
      have HU : Hid (u.length = gk) := hu
      cases hends : endsC u with
      | true =>
        rw [hends] at he
        have HN : Hid (catR f [x] t = .ok (acc, u)) := by show _ = _; rw [← B.out.spec]; exact catR_ends hends
        have hone := oneOrAll_any 2 acc (w.heap.size + 1) _ v wr B.out.ne (by have := B.out.len; omega) (show Hid _ from B.out.ro) (by obtain ⟨ys, h1, _⟩ := B.out.ro.ow; exact fun j hj => (ow_blk h1 j hj).1)
        clear hends hu
        go_wp2_with fail
        refine he.mono ?_
        rintro e2 w2 ⟨rfl, hw2⟩
        obtain rfl := hw2.symm
        go_wp2_with fail
        refine hone.mono ?_
        rintro e3 w3 ⟨a3, c3, rfl, P3, q3⟩
        have Z3 : Hid _ := B6.mv B.out.z q3.out (fun h => h)
        obtain ⟨z0, z1, z2, z3, z4, z5, f0, f1, f2, f3, f4, f5⟩ := B6.facts Z3
        clear he hone
        go_wp2_with fail
        refine bodyPost_ret (results_cell_row (p := 2) (ty := 28) rfl _ _ w.heap.size 28 _ (0, 0) _ rfl (put6_heap Z3.out _ _ _ _ _ _) Tryd.underlying28 rfl (by kernel_rfl)) rfl ?_
        rw [HE.out, HN.out]
        exact B.out.tell P3.out q3.out _ _ _ _ _ _
      | false =>
        rw [hends] at he
        have HN : Hid _ := catR_step HF.out (acc := acc) hends
        have hrep := HA.out u wr (show Hid _ from B.out.rd)
        clear hends hu
        obtain ⟨r2, hr2⟩ : ∃ r2, r2 = repS f u := ⟨_, rfl⟩
        rw [← hr2] at hrep HN
        have HG : Hid (repS f u = r2) := hr2.symm
        clear hr2
        go_wp2_with fail
        refine he.mono ?_
        rintro e2 w2 ⟨rfl, hw2⟩
        obtain rfl := hw2.symm
        go_wp2_with fail
        refine hrep.mono ?_
        intro e3 w3 h3
        cases r2 with
        | error n3 =>
          obtain ⟨rfl, m3⟩ := h3
          refine ⟨rfl, ?_⟩
          rw [HE.out, ← B.out.spec, HN.out]
          exact ⟨rfl, B.out.mv.trans m3.out (fun _ _ h => h)⟩
        | ok r2 =>
          obtain ⟨y, u2⟩ := r2
          obtain ⟨a3, c3, rfl, P3, G3⟩ := h3
          have hlen : u2.length < u.length := (repS_goes HF.out _ _ _ HG.out).len
          obtain ⟨v', W, hr, B'⟩ := B.out.step P3.out G3.out hlen HN.out
          have HL : Hid (u2.length < gk) := by show _ < _; rw [← HU.out]; exact hlen
          clear he hrep hlen
          go_wp2_with (at_builtin; first | (refine wpList_append_given rfl _ _ 26 rfl _ _ _ W rfl rfl hr ?_))
          go_roundg u2.length
          case measure => exact HL.out
          case rel => exact ⟨acc ++ [y], u2, rfl, B'⟩

end Go.Proofs.YtkclkhfcmjhogaaDoor

namespace Go.Proofs.YtkclkhfcmjhogaaDoor
open Go.RowKit
set_option linter.unusedVariables false

theorem altS_error {f : List Nat → Res} {l : List Nat} {e : Int} (h : catS f l = .error e) : altS f l = .error e := by unfold altS; rw [h]
theorem altS_ok {f : List Nat → Res} {l t : List Nat} {x : RX} (h : catS f l = .ok (x, t)) : altS f l = oneR 3 (altR f [x] t) := by unfold altS; rw [h]; rfl
theorem altR_stop {f : List Nat → Res} {acc : List RX} {l : List Nat} (h : hd1 124 l = false) : altR f acc l = .ok (acc, l) := by
  cases l with
  | nil => rfl
  | cons c t => exact altR_ends (by intro e; rw [e] at h; simp [hd1] at h)
theorem Clr.look {w wr w2 : World} {q o : Nat} {Rr : List RX → List Nat → Resl} {R : Resl} {v : Value} {acc : List RX} {t : List Nat} (h : Clr w q o Rr R wr v acc t) (G : Gx q t o wr w2) : Clr w q o Rr R w2 v acc t := by
  have hq := h.hq
  have hw2 := G.mv.size
  have hblk : ∀ j, v.ownBlock = some j → w.heap.size + 1 ≤ j ∧ j < wr.heap.size := by
    obtain ⟨ys, h1, _⟩ := h.ro.ow
    exact ow_blk h1
  exact ⟨(h.ro.mv G.mv (fun j hj e => by have := hj.1; omega) (fun j hj e => by have := hblk j hj; omega)).mono (fun j hj => ⟨hj.1, by have := hj.2.1; omega, hj.2.2⟩) (fun j hj => hj.2.2), G.rd, (B6.mv h.z G.mv (by omega)).out, h.mv.trans G.mv (fun _ _ h => h), h.spec, h.ne, h.len, hq⟩

set_option maxHeartbeats 4000000 in
theorem alt_any (n : Nat) (hA : ∀ m, n = m + 1 → CAlt m) (q : Nat) (l : List Nat) (o : Nat) (w : World) (ho : o + n = 13) (R : Hid (Rx1 q l o w)) : Calls Tryd.prog 47 #[.pointer (some ⟨q, 0, none⟩)] w fun e w' => Px q o w (altN n l) e w' := by
  rw [altN_inn]
  have R1 := Rx1.al R zeros6
  have HQ : Hid (q < w.heap.size) := R.out.lt
  have Z1 : Hid (B6 w.heap.size (.int .i64 0) (.int .u64 0) (.int .u64 0) (.int .u64 0) (.int .u64 0) (.slice none 0 0) (w.alloc zeros6)) := heap_alloc_new w zeros6
  have M1 : Hid (Mv (fun k => k = q) w (w.alloc zeros6)) := Mv.alloc _ _ _
  have ha : ∀ l w, Hid (Rx1 q l o w) → Calls Tryd.prog 70 #[.pointer (some ⟨q, 0, none⟩)] w fun e w' => Px q o w (catS (inn n) l) e w' := fun l w R => cat_any n hA q l o w ho R
  have HF : Hid (Goes (inn n)) := inn_goes n
  have ha1 := ha l _ R1
  have HA : Hid _ := ha
  obtain ⟨s, hs⟩ : ∃ s, s = altS (inn n) l := ⟨_, rfl⟩
  rw [← hs]
  have HS0 : Hid (s = altS (inn n) l) := hs
  obtain ⟨r, hr⟩ : ∃ r, r = catS (inn n) l := ⟨_, rfl⟩
  rw [← hr] at ha1
  have HR0 : Hid (catS (inn n) l = r) := hr.symm
  clear hs hr R hA ho R1 ha
  generalize inn n = f at *
  go_enter Tryd.func47, Tryd.ntmps47
  go_wp2_with fail
  refine ha1.mono ?_
  intro e1 w1 h1
  cases r with
  | error n2 =>
    obtain ⟨rfl, m2⟩ := h1
    refine ⟨rfl, ?_⟩
    rw [HS0.out, altS_error HR0.out]
    exact ⟨rfl, M1.out.trans m2.out (fun _ _ h => h)⟩
  | ok r =>
    obtain ⟨x, t⟩ := r
    obtain ⟨a, c, rfl, P1, G1⟩ := h1
    have HE : Hid (s = oneR 3 (altR f [x] t)) := by show _ = _; rw [HS0.out]; exact altS_ok HR0.out
    have Z2 : B6 w.heap.size (.int .i64 0) (.int .u64 0) (.int .u64 0) (.int .u64 0) (.int .u64 0) (.slice none 0 0) w1 := (B6.mv Z1.out G1.out.mv (by have := HQ.out; omega)).out
    have B0 : Hid (Clr w q o (altR f) (altR f [x] t) (w1.alloc (.cells #[.int .i64 x.kind, .int .u64 (limb x.set 0), .int .u64 (limb x.set 1), .int .u64 (limb x.set 2), .int .u64 (limb x.set 3), .slice a x.args.length c] 28)) (.slice (some ⟨w1.heap.size, 0, none⟩) 1 1) [x] t) := Clr.start HQ.out Z2 (P1.out.mono (fun j hj => by simp at hj; omega)) ⟨G1.out.rd, M1.out.trans G1.out.mv (fun _ _ h => h)⟩
    clear ha1 Z2 Z1 M1 P1 G1 HS0 HR0
    go_wp2_with fail
    generalize w1.alloc (.cells #[.int .i64 x.kind, .int .u64 (limb x.set 0), .int .u64 (limb x.set 1), .int .u64 (limb x.set 2), .int .u64 (limb x.set 3), .slice a x.args.length c] 28) = W0 at *
    go_loopg [3] t.length (fun gk s3 wr => ∃ acc u, u.length = gk ∧ Hid (Clr w q o (altR f) (altR f [x] t) wr s3 acc u))
    case atStart => exact ⟨[x], t, rfl, B0⟩
    case round =>
      obtain ⟨acc, u, hu, B⟩ := hrel
      obtain ⟨v, hv⟩ : ∃ v, v = u3 := ⟨_, rfl⟩
      subst hv
      have he := rskip_any q 124 (by decide) u o wr (show Hid _ from B.out.rd)
      have HU : Hid (u.length = gk) := hu
      cases hends : hd1 124 u with
      | false =>
        rw [hends, tl1_no hends] at he
        have HN : Hid (altR f [x] t = .ok (acc, u)) := by show _ = _; rw [← B.out.spec]; exact altR_stop hends
        clear hends hu
        go_wp2_with fail
        refine he.mono ?_
        rintro e2 w2 ⟨rfl, G2⟩
        have B2 : Hid _ := B.out.look G2.out
        have hone := oneOrAll_any 3 acc (w.heap.size + 1) _ v w2 B2.out.ne (by have := B2.out.len; omega) (show Hid _ from B2.out.ro) (by obtain ⟨ys, h1, _⟩ := B2.out.ro.ow; exact fun j hj => (ow_blk h1 j hj).1)
        go_wp2_with fail
        refine hone.mono ?_
        rintro e3 w3 ⟨a3, c3, rfl, P3, q3⟩
        have Z3 : Hid _ := B6.mv B2.out.z q3.out (fun h => h)
        obtain ⟨z0, z1, z2, z3, z4, z5, f0, f1, f2, f3, f4, f5⟩ := B6.facts Z3
        clear he hone
        go_wp2_with fail
        refine bodyPost_ret (results_cell_row (p := 2) (ty := 28) rfl _ _ w.heap.size 28 _ (0, 0) _ rfl (put6_heap Z3.out _ _ _ _ _ _) Tryd.underlying28 rfl (by kernel_rfl)) rfl ?_
        rw [HE.out, HN.out]
        exact B2.out.tell P3.out q3.out _ _ _ _ _ _
      | true =>
        obtain ⟨u', rfl⟩ := hd1_yes hends
        rw [hends, show tl1 124 (124 :: u') = u' from rfl] at he
        have HN : Hid _ := altR_step HF.out (acc := acc) (l := u')
        clear hends hu
        obtain ⟨r2, hr2⟩ : ∃ r2, r2 = catS f u' := ⟨_, rfl⟩
        rw [← hr2] at HN
        have HG : Hid (catS f u' = r2) := hr2.symm
        clear hr2
        go_wp2_with fail
        refine he.mono ?_
        rintro e2 w2 ⟨rfl, G2⟩
        have hcat := HA.out u' w2 (show Hid _ from G2.out.rd)
        rw [HG.out] at hcat
        go_wp2_with fail
        refine hcat.mono ?_
        intro e3 w3 h3
        cases r2 with
        | error n3 =>
          obtain ⟨rfl, m3⟩ := h3
          refine ⟨rfl, ?_⟩
          rw [HE.out, ← B.out.spec, HN.out]
          exact ⟨rfl, (B.out.mv.trans G2.out.mv (fun _ _ h => h)).trans m3.out (fun _ _ h => h)⟩
        | ok r2 =>
          obtain ⟨y, u2⟩ := r2
          obtain ⟨a3, c3, rfl, P3, G3⟩ := h3
          have hlen : u2.length < (124 :: u').length := by have := (catS_goes HF.out _ _ _ HG.out).len; simp; omega
          have hws := G2.out.mv.size
          obtain ⟨v', W, hr, B'⟩ := B.out.step (P3.out.mono (fun j hj => by omega)) (show Gx q u2 o wr w3 from ⟨G3.out.rd, G2.out.mv.trans G3.out.mv (fun _ _ h => h)⟩) hlen HN.out
          have HL : Hid (u2.length < gk) := by show _ < _; rw [← HU.out]; exact hlen
          clear he hcat hlen hws
          go_wp2_with (at_builtin; first | (refine wpList_append_given rfl _ _ 26 rfl _ _ _ W rfl rfl hr ?_))
          go_roundg u2.length
          case measure => exact HL.out
          case rel => exact ⟨acc ++ [y], u2, rfl, B'⟩

theorem alt_all : ∀ n, CAlt n
  | 0 => fun q l o w ho R => alt_any 0 (fun m h => by omega) q l o w ho R
  | n + 1 => fun q l o w ho R => alt_any (n + 1) (fun m h => Nat.succ.inj h ▸ alt_all n) q l o w ho R

/-- Behind the reading of the whole. -/
def Pw (q : Nat) (w : World) (r : Except Int RX) (e : Ending) (w' : World) : Prop :=
  match r with
  | .error n => e = .panicked (chainE n) ∧ Hid (Mv (fun k => k = q) w w')
  | .ok x => ∃ a c, e = .returned (.agg #[.int .i64 x.kind, .int .u64 (limb x.set 0), .int .u64 (limb x.set 1), .int .u64 (limb x.set 2), .int .u64 (limb x.set 3), .slice a x.args.length c]) ∧ Hid (Parts x.args (fun j => w.heap.size ≤ j) w' a c) ∧ Hid (Mv (fun k => k = q) w w')
set_option maxHeartbeats 2000000 in
theorem whole_any (q : Nat) (l : List Nat) (w : World) (R : Hid (Rx1 q l 0 w)) : Calls Tryd.prog 31 #[.pointer (some ⟨q, 0, none⟩)] w fun e w' => Pw q w (wholeS l) e w' := by
  have R1 := Rx1.al R zeros6
  have HQ : Hid (q < w.heap.size) := R.out.lt
  have Z1 : Hid (B6 w.heap.size (.int .i64 0) (.int .u64 0) (.int .u64 0) (.int .u64 0) (.int .u64 0) (.slice none 0 0) (w.alloc zeros6)) := heap_alloc_new w zeros6
  have M1 : Hid (Mv (fun k => k = q) w (w.alloc zeros6)) := Mv.alloc _ _ _
  have ha := alt_all 13 q l 0 _ (by omega) R1
  obtain ⟨s, hs⟩ : ∃ s, s = wholeS l := ⟨_, rfl⟩
  rw [← hs]
  have HS0 : Hid (s = wholeS l) := hs
  obtain ⟨r, hr⟩ : ∃ r, r = altN 13 l := ⟨_, rfl⟩
  rw [← hr] at ha
  have HR0 : Hid (altN 13 l = r) := hr.symm
  clear hs hr R R1
  go_enter Tryd.func31, Tryd.ntmps31
  go_wp2_with fail
  refine ha.mono ?_
  intro e1 w1 h1
  cases r with
  | error n2 =>
    obtain ⟨rfl, m2⟩ := h1
    have HE : Hid (s = .error n2) := by show _ = _; rw [HS0.out]; unfold wholeS; rw [HR0.out]
    refine ⟨rfl, ?_⟩
    rw [HE.out]
    exact ⟨rfl, M1.out.trans m2.out (fun _ _ h => h)⟩
  | ok r =>
    obtain ⟨x, t⟩ := r
    obtain ⟨a, c, rfl, P1, G1⟩ := h1
    have Z2 : Hid _ := B6.mv Z1.out G1.out.mv (by have := HQ.out; omega)
    have PB : Hid (B6 w1.heap.size (.int .i64 x.kind) (.int .u64 (limb x.set 0)) (.int .u64 (limb x.set 1)) (.int .u64 (limb x.set 2)) (.int .u64 (limb x.set 3)) (.slice a x.args.length c) (w1.alloc (.cells #[.int .i64 x.kind, .int .u64 (limb x.set 0), .int .u64 (limb x.set 1), .int .u64 (limb x.set 2), .int .u64 (limb x.set 3), .slice a x.args.length c] 28))) := heap_alloc_new w1 _
    have ZB : Hid _ := B6.mv Z2.out (Mv.alloc (fun _ => False) w1 (.cells #[.int .i64 x.kind, .int .u64 (limb x.set 0), .int .u64 (limb x.set 1), .int .u64 (limb x.set 2), .int .u64 (limb x.set 3), .slice a x.args.length c] 28)) (fun h => h)
    have htx := (G1.out.rd.mv (Mv.alloc (fun _ => False) w1 (.cells #[.int .i64 x.kind, .int .u64 (limb x.set 0), .int .u64 (limb x.set 1), .int .u64 (limb x.set 2), .int .u64 (limb x.set 3), .slice a x.args.length c] 28)) (fun h => h)).text
    have MW : Hid (Mv (fun k => k = q) w w1) := M1.out.trans G1.out.mv (fun _ _ h => h)
    have PW : Hid (Parts x.args (fun j => w.heap.size + 1 ≤ j ∧ j < w1.heap.size) w1 a c) := P1.out.lt.mono (fun j hj => ⟨by have := hj.1; simp at this; omega, hj.2⟩)
    clear ha
    cases t with
    | nil =>
      have HE : Hid (s = .ok x) := by show _ = _; rw [HS0.out]; unfold wholeS; rw [HR0.out]
      rw [show str [] = ⟨#[]⟩ from rfl] at htx
      obtain ⟨p0, p1, p2, p3, p4, p5, _, _, _, _, _, _⟩ := B6.facts PB
      obtain ⟨z0, z1, z2, z3, z4, z5, f0, f1, f2, f3, f4, f5⟩ := B6.facts ZB
      clear P1 G1 Z2 Z1 M1
      go_wp2_with fail
      refine bodyPost_ret (results_cell_row (p := 2) (ty := 28) rfl _ _ w.heap.size 28 _ (0, 0) _ rfl (put6_heap ZB.out _ _ _ _ _ _) Tryd.underlying28 rfl (by kernel_rfl)) rfl ?_
      rw [HE.out]
      refine ⟨a, c, rfl, ?_, ?_⟩
      · exact ((PW.out.mv (Mv.alloc (fun _ => False) w1 _) (fun _ _ h => h)).mv (put6_mv _ w.heap.size _ _ _ _ _ _) (fun j hj e => by omega)).mono (fun j hj => by omega)
      · exact (MW.out.trans (Mv.alloc (fun _ => False) w1 _) (fun _ _ h => h.elim)).trans (put6_mv _ w.heap.size _ _ _ _ _ _) (fun j hj e => by omega)
    | cons d t =>
      have HE : Hid (s = .error 2) := by show _ = _; rw [HS0.out]; unfold wholeS; rw [HR0.out]
      have hem : (str (d :: t)).toList.isEmpty = false := by rw [ByteArray.toList_eq]; simp [str]
      have hem2 : ((str (d :: t)).toList = []) = False := by rw [ByteArray.toList_eq]; simp [str]
      generalize str (d :: t) = T at *
      clear P1 G1 Z2 Z1 M1
      go_wp2_with fail
      refine ⟨rfl, ?_⟩
      rw [HE.out]
      exact ⟨rfl, MW.out.trans (Mv.alloc (fun _ => False) w1 _) (fun _ _ h => h.elim)⟩

end Go.Proofs.YtkclkhfcmjhogaaDoor
