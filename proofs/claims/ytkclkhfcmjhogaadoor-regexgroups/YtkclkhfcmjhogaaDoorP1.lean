/- Parse. -/
import Derived.Test.YtkclkhfcmjhogaaDoorL5
import Derived.Test.YtkclkhfcmjhogaaDoorE1
namespace Go.Proofs.YtkclkhfcmjhogaaDoor
open Go.RowKit
set_option linter.unusedVariables false

theorem make_fn (fn : Fn) (first cap : Array Value) (w : World) : (Instr.makeFunc fn first cap).run Tryd.prog w = .ok (.func fn first cap) w := rfl
set_option maxHeartbeats 400000 in
theorem catch_panicking (g : Nat) (w : World) (v0 v1 v2 v3 : Value) (x y : Value) (h0 : w.heap[g]? = some (.cells #[v0, v1, v2, v3] 25 (0, 0))) (h1 : w.cell? ⟨g + 1, 0, none⟩ = some x) (h2 : w.cell? ⟨g + 1 + 1, 0, none⟩ = some y) (f1 : w.frozen? ⟨g + 1, 0, none⟩ = false) (f2 : w.frozen? ⟨g + 1 + 1, 0, none⟩ = false) :
    CallsD Tryd.prog 109 #[.pointer (some ⟨g, 0, none⟩), .pointer (some ⟨g + 1, 0, none⟩), .pointer (some ⟨g + 1 + 1, 0, none⟩)] (.panicking badChain) w fun e u' w' =>
      e = .returned (.tuple #[]) ∧ u' = .panicking [{ v := .iface 29 (.int .i64 2), recovered := true }] ∧ w' = ((put4 w g (.int .u64 0) (.int .u64 0) (.int .u64 0) (.int .u64 0)).setCell ⟨g + 1, 0, none⟩ (.int .i64 0)).setCell ⟨g + 1 + 1, 0, none⟩ (.int .i64 2) := by
  have e0 : w.cell? ⟨g, 0, none⟩ = some v0 := by simp [World.cell?, h0]
  have e1 : w.cell? ⟨g, 1, none⟩ = some v1 := by simp [World.cell?, h0]
  have e2 : w.cell? ⟨g, 2, none⟩ = some v2 := by simp [World.cell?, h0]
  have e3 : w.cell? ⟨g, 3, none⟩ = some v3 := by simp [World.cell?, h0]
  have z0 : w.frozen? ⟨g, 0, none⟩ = false := by simp [World.frozen?, h0]
  have z1 : w.frozen? ⟨g, 1, none⟩ = false := by simp [World.frozen?, h0]
  have z2 : w.frozen? ⟨g, 2, none⟩ = false := by simp [World.frozen?, h0]
  have z3 : w.frozen? ⟨g, 3, none⟩ = false := by simp [World.frozen?, h0]
  refine callsD_of_wpS Tryd.func109 rfl fun c₀ cs hu => ?_
  unfold badChain at hu
  apply wpS_seq
  apply wpS_region
  simp [wpOpsS, go_sem, recoverD, hu, Tryd.ntmps109, Exit.thenS]
  refine wpS_cond (t := true) (by simp [Act.eval, Array.replicate]) ?_
  simp only [if_true]
  apply wpS_region
  simp [wpOpsS, go_sem, e0, e1, e2, e3, z0, z1, z2, z3, h1, h2, f1, f2, bodyPostS, results, Tryd.results109]

theorem catch_idle (p q r : Addr) (w : World) :
    CallsD Tryd.prog 109 #[.pointer (some p), .pointer (some q), .pointer (some r)] .returning w fun e u' w' => e = .returned (.tuple #[]) ∧ u' = .returning ∧ w' = w := by
  refine callsD_of_wpS Tryd.func109 rfl fun c₀ cs hu => ?_
  apply wpS_seq
  apply wpS_region
  simp [wpOpsS, go_sem, recoverD, hu, Tryd.ntmps109, Exit.thenS]
  refine wpS_cond (t := false) (by simp [Act.eval, Array.replicate]) ?_
  simp only [Bool.false_eq_true, if_false]
  refine wpS_of_wp (wp_skip ?_)
  cases c₀
  simp_all [bodyPostS, results, Tryd.results109]

theorem info3 : Tryd.prog.info? 3 = some Tryd.t3 := by kernel_rfl
theorem results3 (tmps : Array Value) (w : World) (g : Nat) (v0 v1 v2 v3 x y : Value) (h0 : tmps.getD 2 undef = .pointer (some ⟨g, 0, none⟩)) (h1 : tmps.getD 3 undef = .pointer (some ⟨g + 1, 0, none⟩)) (h2 : tmps.getD 4 undef = .pointer (some ⟨g + 1 + 1, 0, none⟩))
    (hg : w.heap[g]? = some (.cells #[v0, v1, v2, v3] 25 (0, 0))) (hx : w.cell? ⟨g + 1, 0, none⟩ = some x) (hy : w.cell? ⟨g + 1 + 1, 0, none⟩ = some y) :
    (results Tryd.f105 tmps).run Tryd.prog w = .ok (.tuple #[.agg #[v0, v1, v2, v3], x, y]) w := by
  have h0' : tmps[2]?.getD undef = .pointer (some ⟨g, 0, none⟩) := by simpa using h0
  have h1' : tmps[3]?.getD undef = .pointer (some ⟨g + 1, 0, none⟩) := by simpa using h1
  have h2' : tmps[4]?.getD undef = .pointer (some ⟨g + 1 + 1, 0, none⟩) := by simpa using h2
  have e0 : w.cell? ⟨g, 0, none⟩ = some v0 := by simp [World.cell?, hg]
  have e1 : w.cell? ⟨g, 1, none⟩ = some v1 := by simp [World.cell?, hg]
  have e2 : w.cell? ⟨g, 2, none⟩ = some v2 := by simp [World.cell?, hg]
  have e3 : w.cell? ⟨g, 3, none⟩ = some v3 := by simp [World.cell?, hg]
  simp [results, Tryd.results105, h0', h1', h2', asAddr, go_sem, hx, hy, e0, e1, e2, e3]

/-- The world in which a class is read. -/
abbrev w4 (S : ByteArray) (w : World) : World := (((w.alloc zeros).alloc (.cells #[.int .i64 0] 3)).alloc (.cells #[.int .i64 0] 29)).alloc (.cells #[.string S, .int .i64 0] 133)
structure P4 (w W : World) : Prop where
  qt : Qt w W
  zr : Zr w.heap.size W
  at1 : W.heap[w.heap.size + 1]? = some (.cells #[.int .i64 0] 3 (0, 0))
  at2 : W.heap[w.heap.size + 1 + 1]? = some (.cells #[.int .i64 0] 29 (0, 0))
theorem heap4 (w : World) (A B C D : Obj) : ((((w.alloc A).alloc B).alloc C).alloc D).heap[w.heap.size]? = some A ∧ ((((w.alloc A).alloc B).alloc C).alloc D).heap[w.heap.size + 1]? = some B ∧ ((((w.alloc A).alloc B).alloc C).alloc D).heap[w.heap.size + 1 + 1]? = some C ∧ ((((w.alloc A).alloc B).alloc C).alloc D).heap[w.heap.size + 3]? = some D := by
  refine ⟨?_, ?_, ?_, ?_⟩
  · show ((((w.heap.push A).push B).push C).push D)[w.heap.size]? = _
    rw [Array.getElem?_push, if_neg (by simp <;> omega), Array.getElem?_push, if_neg (by simp <;> omega), Array.getElem?_push, if_neg (by simp), Array.getElem?_push, if_pos (by simp)]
  · show ((((w.heap.push A).push B).push C).push D)[w.heap.size + 1]? = _
    rw [Array.getElem?_push, if_neg (by simp <;> omega), Array.getElem?_push, if_neg (by simp), Array.getElem?_push, if_pos (by simp)]
  · show ((((w.heap.push A).push B).push C).push D)[w.heap.size + 1 + 1]? = _
    rw [Array.getElem?_push, if_neg (by simp), Array.getElem?_push, if_pos (by simp)]
  · show ((((w.heap.push A).push B).push C).push D)[w.heap.size + 3]? = _
    rw [Array.getElem?_push, if_pos (by simp)]
theorem p4 (S : ByteArray) (w : World) : Hid (P4 w (w4 S w)) :=
  ⟨((((Qt.refl w).alloc _).alloc _).alloc _).alloc _, (heap4 w _ _ _ _).1, (heap4 w _ _ _ _).2.1, (heap4 w _ _ _ _).2.2.1⟩
theorem rd4 (S : ByteArray) (w : World) (hs : S.size < 1000000) : Hid (Rd (w.heap.size + 3) S (bs S) (w4 S w)) := by
  have h := (heap4 w zeros (.cells #[.int .i64 0] 3) (.cells #[.int .i64 0] 29) (.cells #[.string S, .int .i64 0] 133)).2.2.2
  have e : (w4 S w).heap[w.heap.size + 3]? = some (.cells #[.string S, .int .i64 0] 133 (0, 0)) := h
  refine ⟨by simp only [World.cell?, e]; rfl, ?_, by simp only [World.frozen?, e]; rfl, (Array.getElem?_eq_some_iff.1 e).1, ⟨[], rfl⟩, hs⟩
  rw [bs_length, Nat.sub_self]
  simp only [World.cell?, e]; rfl
theorem P4.mv {w W W' : World} (h : Hid (P4 w W)) (k : Hid (Mv (fun j => j = w.heap.size + 3) W W')) : Hid (P4 w W') := by
  refine ⟨Mv.trans h.out.qt k.out (fun j hj e => by omega), (Zr.mv h.out.zr k.out (by omega)).out, ?_, ?_⟩
  · rw [k.out.block _ (Array.getElem?_eq_some_iff.1 h.out.at1).1 (by omega)]; exact h.out.at1
  · rw [k.out.block _ (Array.getElem?_eq_some_iff.1 h.out.at2).1 (by omega)]; exact h.out.at2
theorem P4.cells {w W : World} (h : Hid (P4 w W)) : W.cell? ⟨w.heap.size + 1, 0, none⟩ = some (.int .i64 0) ∧ W.cell? ⟨w.heap.size + 1 + 1, 0, none⟩ = some (.int .i64 0) ∧ W.frozen? ⟨w.heap.size + 1, 0, none⟩ = false ∧ W.frozen? ⟨w.heap.size + 1 + 1, 0, none⟩ = false := by
  have e1 := h.out.at1
  have e2 := h.out.at2
  exact ⟨by simp [World.cell?, e1], by simp [World.cell?, e2], by simp [World.frozen?, e1], by simp [World.frozen?, e2]⟩

/-- What is left behind the results. -/
theorem out6 {w W : World} (h : Qt w W) (v0 v1 v2 v3 x y : Value) : Qt w (((put4 W w.heap.size v0 v1 v2 v3).setCell ⟨w.heap.size + 1, 0, none⟩ x).setCell ⟨w.heap.size + 1 + 1, 0, none⟩ y) := by
  refine Mv.trans (Mv.trans (Mv.trans h (put4_mv W w.heap.size v0 v1 v2 v3) (fun j hj e => by omega)) (Mv.setCell _ _ _) (fun j hj e => ?_)) (Mv.setCell _ _ _) (fun j hj e => ?_)
  · simp at e; omega
  · simp at e; omega
theorem cell6 {W : World} {g : Nat} {c0 c1 c2 c3 a b : Value} (hz : W.heap[g]? = some (.cells #[c0, c1, c2, c3] 25 (0, 0))) (h1 : W.cell? ⟨g + 1, 0, none⟩ = some a) (h2 : W.cell? ⟨g + 1 + 1, 0, none⟩ = some b) (v0 v1 v2 v3 x y : Value) :
    (((put4 W g v0 v1 v2 v3).setCell ⟨g + 1, 0, none⟩ x).setCell ⟨g + 1 + 1, 0, none⟩ y).heap[g]? = some (.cells #[v0, v1, v2, v3] 25 (0, 0)) ∧ (((put4 W g v0 v1 v2 v3).setCell ⟨g + 1, 0, none⟩ x).setCell ⟨g + 1 + 1, 0, none⟩ y).cell? ⟨g + 1, 0, none⟩ = some x ∧ (((put4 W g v0 v1 v2 v3).setCell ⟨g + 1, 0, none⟩ x).setCell ⟨g + 1 + 1, 0, none⟩ y).cell? ⟨g + 1 + 1, 0, none⟩ = some y := by
  have k1 : (put4 W g v0 v1 v2 v3).cell? ⟨g + 1, 0, none⟩ = some a := (put4_mv W g v0 v1 v2 v3).cell (p := ⟨g + 1, 0, none⟩) h1 (by simp)
  have k2 : (put4 W g v0 v1 v2 v3).cell? ⟨g + 1 + 1, 0, none⟩ = some b := (put4_mv W g v0 v1 v2 v3).cell (p := ⟨g + 1 + 1, 0, none⟩) h2 (by simp <;> omega)
  have hg := put4_heap hz v0 v1 v2 v3
  have hlt := (Array.getElem?_eq_some_iff.1 hg).1
  refine ⟨?_, ?_, ?_⟩
  · rw [(Mv.setCell _ ⟨g + 1 + 1, 0, none⟩ y).block g (Nat.lt_of_lt_of_le hlt (Mv.setCell _ ⟨g + 1, 0, none⟩ x).size) (by simp <;> omega), (Mv.setCell _ ⟨g + 1, 0, none⟩ x).block g hlt (by simp)]
    exact hg
  · rw [World.cell?_setCell_other _ _ _ _ (by simp)]
    exact World.cell?_setCell_same _ _ _ k1
  · refine World.cell?_setCell_same _ _ _ (u := b) ?_
    rw [World.cell?_setCell_other _ _ _ _ (by simp)]
    exact k2

set_option maxHeartbeats 1000000 in
theorem parse_panic (S : ByteArray) (w : World) (hs : S.size < 1000000) (hc : cls0 (bs S) = none) :
    Calls Tryd.prog 105 #[.string S] w fun e w' => e = .returned (.tuple #[sv (fun _ => false), .int .i64 0, .int .i64 2]) ∧ Hid (Qt w w') := by
  have hmf := make_fn
  have HR := class_any (w.heap.size + 3) S (bs S) (w4 S w) (rd4 S w hs)
  rw [hc] at HR
  clear hc hs
  rw [sv_none]
  go_enter_defers Tryd.func105, Tryd.ntmps105
  go_wp2_with fail
  refine HR.mono ?_
  rintro e W ⟨rfl, g1⟩
  have H4 := P4.mv (p4 S w) g1
  obtain ⟨k1, k2, f1, f2⟩ := P4.cells H4
  refine leaves_cons (f := 109) (args := #[.pointer (some ⟨w.heap.size, 0, none⟩), .pointer (some ⟨w.heap.size + 1, 0, none⟩), .pointer (some ⟨w.heap.size + 1 + 1, 0, none⟩)]) (by simp) (by simp [go_sem]) ?_
  refine (catch_panicking w.heap.size W _ _ _ _ _ _ H4.out.zr k1 k2 f1 f2).mono ?_
  rintro e u' w'' ⟨rfl, rfl, rfl⟩
  obtain ⟨c0, c1, c2⟩ := cell6 H4.out.zr k1 k2 (.int .u64 0) (.int .u64 0) (.int .u64 0) (.int .u64 0) (.int .i64 0) (.int .i64 2)
  exact ⟨_, results3 _ _ w.heap.size _ _ _ _ _ _ rfl rfl rfl c0 c1 c2, rfl, out6 H4.out.qt _ _ _ _ _ _⟩

theorem zr_put {w W : World} (h : Hid (P4 w W)) (v0 v1 v2 v3 : Value) : (put4 W w.heap.size v0 v1 v2 v3).cell? ⟨w.heap.size + 1, 0, none⟩ = some (.int .i64 0) ∧ (put4 W w.heap.size v0 v1 v2 v3).cell? ⟨w.heap.size + 1 + 1, 0, none⟩ = some (.int .i64 0) ∧ (put4 W w.heap.size v0 v1 v2 v3).frozen? ⟨w.heap.size + 1, 0, none⟩ = false ∧ (put4 W w.heap.size v0 v1 v2 v3).frozen? ⟨w.heap.size + 1 + 1, 0, none⟩ = false := by
  obtain ⟨k1, k2, f1, f2⟩ := P4.cells h
  have m := put4_mv W w.heap.size v0 v1 v2 v3
  refine ⟨m.cell (p := ⟨w.heap.size + 1, 0, none⟩) k1 (by simp), m.cell (p := ⟨w.heap.size + 1 + 1, 0, none⟩) k2 (by simp <;> omega), ?_, ?_⟩
  · rw [m.frozen (p := ⟨w.heap.size + 1, 0, none⟩) (World.block_lt_of_cell? W _ k1) (by simp)]; exact f1
  · rw [m.frozen (p := ⟨w.heap.size + 1 + 1, 0, none⟩) (World.block_lt_of_cell? W _ k2) (by simp <;> omega)]; exact f2

set_option maxHeartbeats 1000000 in
theorem parse_empty (S : ByteArray) (p : Nat → Bool) (t : List Nat) (w : World) (hs : S.size < 1000000) (hc : cls0 (bs S) = some (p, t)) (hp : any p = false) :
    Calls Tryd.prog 105 #[.string S] w fun e w' => e = .returned (.tuple #[sv (fun _ => false), .int .i64 0, .int .i64 2]) ∧ Hid (Qt w w') := by
  have hmf := make_fn
  have HR := class_any (w.heap.size + 3) S (bs S) (w4 S w) (rd4 S w hs)
  rw [hc] at HR
  have hne := fun W => neq_run p (fun _ => false) W
  rw [same_none, hp, sv_none, sv_cells] at hne
  clear hc hs hp
  rw [sv_none]
  go_enter_defers Tryd.func105, Tryd.ntmps105
  go_wp2_with fail
  refine HR.mono ?_
  rintro e W ⟨rfl, g1⟩
  rw [sv_cells]
  have H4 := P4.mv (p4 S w) g1.out.mv
  clear HR g1
  obtain ⟨k0, k1, k2, k3, l0, l1, l2, l3⟩ := Zr.facts H4.out.zr
  go_wp2_with fail
  refine (must_bad _).mono ?_
  rintro e w2 ⟨rfl, rfl⟩
  clear k0 k1 k2 k3 l0 l1 l2 l3
  have hz := put4_heap H4.out.zr (.int .u64 (limb p 0)) (.int .u64 (limb p 1)) (.int .u64 (limb p 2)) (.int .u64 (limb p 3))
  obtain ⟨k1, k2, f1, f2⟩ := zr_put H4 (.int .u64 (limb p 0)) (.int .u64 (limb p 1)) (.int .u64 (limb p 2)) (.int .u64 (limb p 3))
  refine leaves_cons (f := 109) (args := #[.pointer (some ⟨w.heap.size, 0, none⟩), .pointer (some ⟨w.heap.size + 1, 0, none⟩), .pointer (some ⟨w.heap.size + 1 + 1, 0, none⟩)]) (by simp) (by simp [go_sem]) ?_
  refine (catch_panicking w.heap.size _ _ _ _ _ _ _ hz k1 k2 f1 f2).mono ?_
  rintro e u' w'' ⟨rfl, rfl, rfl⟩
  obtain ⟨c0, c1, c2⟩ := cell6 hz k1 k2 (.int .u64 0) (.int .u64 0) (.int .u64 0) (.int .u64 0) (.int .i64 0) (.int .i64 2)
  exact ⟨_, results3 _ _ w.heap.size _ _ _ _ _ _ rfl rfl rfl c0 c1 c2, rfl, out6 (Mv.trans H4.out.qt (put4_mv W w.heap.size _ _ _ _) (fun j hj e => by omega)) _ _ _ _ _ _⟩

theorem drew_heap (X : World) : X.drew.heap = X.heap := rfl
theorem drew_cell (X : World) (a : Addr) : X.drew.cell? a = X.cell? a := rfl

set_option maxHeartbeats 1000000 in
theorem parse_ok (S : ByteArray) (p : Nat → Bool) (t : List Nat) (w : World) (hs : S.size < 1000000) (hc : cls0 (bs S) = some (p, t)) (hp : any p = true) :
    Calls Tryd.prog 105 #[.string S] w fun e w' => e = .returned (.tuple #[sv p, .int .i64 ((S.size - t.length : Nat) : Int), .int .i64 0]) ∧ Hid (Qt w w') := by
  have hmf := make_fn
  have HR := class_any (w.heap.size + 3) S (bs S) (w4 S w) (rd4 S w hs)
  rw [hc] at HR
  have hne := fun W => neq_run p (fun _ => false) W
  rw [same_none, hp, sv_none, sv_cells] at hne
  clear hc hs hp
  rw [sv_cells]
  obtain ⟨n, hn⟩ : ∃ n, n = S.size - t.length := ⟨_, rfl⟩
  rw [← hn]
  have HN : Hid (n = S.size - t.length) := hn
  clear hn
  go_enter_defers Tryd.func105, Tryd.ntmps105
  go_wp2_with fail
  refine HR.mono ?_
  rintro e W ⟨rfl, g1⟩
  rw [sv_cells]
  have H4 := P4.mv (p4 S w) g1.out.mv
  obtain ⟨k0, k1, k2, k3, l0, l1, l2, l3⟩ := Zr.facts H4.out.zr
  obtain ⟨i1, i2, f1, f2⟩ := P4.cells H4
  have ha := g1.out.rd.at_
  rw [← HN.out] at ha
  clear HR g1
  go_wp2_with fail
  refine (must_ok _).mono ?_
  rintro e w2 ⟨rfl, rfl⟩
  go_wp2_with fail
  go_region
  clear k0 k1 k2 k3 l0 l1 l2 l3 i1 i2 f1 f2 ha hne
  have hz := put4_heap H4.out.zr (.int .u64 (limb p 0)) (.int .u64 (limb p 1)) (.int .u64 (limb p 2)) (.int .u64 (limb p 3))
  obtain ⟨k1, k2, f1, f2⟩ := zr_put H4 (.int .u64 (limb p 0)) (.int .u64 (limb p 1)) (.int .u64 (limb p 2)) (.int .u64 (limb p 3))
  obtain ⟨c0, c1, c2⟩ := cell6 hz k1 k2 (.int .u64 (limb p 0)) (.int .u64 (limb p 1)) (.int .u64 (limb p 2)) (.int .u64 (limb p 3)) (.int .i64 n) (.int .i64 0)
  have hO : Hid _ := out6 (Mv.trans H4.out.qt (put4_mv W w.heap.size (.int .u64 (limb p 0)) (.int .u64 (limb p 1)) (.int .u64 (limb p 2)) (.int .u64 (limb p 3))) (fun j hj e => by omega)) (.int .u64 (limb p 0)) (.int .u64 (limb p 1)) (.int .u64 (limb p 2)) (.int .u64 (limb p 3)) (.int .i64 n) (.int .i64 0)
  have C0 : Hid _ := c0
  have C1 : Hid _ := c1
  have C2 : Hid _ := c2
  clear k1 k2 f1 f2 hz c0 c1 c2
  go_wp2_with fail
  refine leaves_cons (f := 109) (args := #[.pointer (some ⟨w.heap.size, 0, none⟩), .pointer (some ⟨w.heap.size + 1, 0, none⟩), .pointer (some ⟨w.heap.size + 1 + 1, 0, none⟩)]) (by simp) (by simp [go_sem]) ?_
  refine (catch_idle ⟨w.heap.size, 0, none⟩ ⟨w.heap.size + 1, 0, none⟩ ⟨w.heap.size + 1 + 1, 0, none⟩ _).mono ?_
  rintro e u' w'' ⟨rfl, rfl, hw⟩
  have D0 : w''.heap[w.heap.size]? = some (.cells #[.int .u64 (limb p 0), .int .u64 (limb p 1), .int .u64 (limb p 2), .int .u64 (limb p 3)] 25 (0, 0)) := by rw [hw, drew_heap]; exact C0.out
  have D1 : w''.cell? ⟨w.heap.size + 1, 0, none⟩ = some (.int .i64 n) := by rw [hw, drew_cell]; exact C1.out
  have D2 : w''.cell? ⟨w.heap.size + 1 + 1, 0, none⟩ = some (.int .i64 0) := by rw [hw, drew_cell]; exact C2.out
  have D3 : Qt w w'' := by rw [hw]; exact Qt.drew hO.out
  clear hw C0 C1 C2 hO
  exact ⟨_, results3 _ _ w.heap.size _ _ _ _ _ _ rfl rfl rfl D0 D1 D2, rfl, D3⟩

/-- What Parse tells. -/
def pset (S : ByteArray) : Nat → Bool := match cls (bs S) with | none => fun _ => false | some (p, _) => p
def plen (S : ByteArray) : Nat := match cls (bs S) with | none => 0 | some (_, t) => S.size - t.length
def perr (S : ByteArray) : Int := match cls (bs S) with | none => 2 | some _ => 0
theorem parse_any (S : ByteArray) (w : World) (hs : S.size < 1000000) :
    Calls Tryd.prog 105 #[.string S] w fun e w' => e = .returned (.tuple #[sv (pset S), .int .i64 (plen S : Int), .int .i64 (perr S)]) ∧ Hid (Qt w w') := by
  unfold pset plen perr cls
  cases h0 : cls0 (bs S) with
  | none => exact parse_panic S w hs h0
  | some r =>
    obtain ⟨p, t⟩ := r
    cases hp : any p with
    | false => simp only [hp]; exact parse_empty S p t w hs h0 hp
    | true => simp only [hp]; exact parse_ok S p t w hs h0 hp

end Go.Proofs.YtkclkhfcmjhogaaDoor
