/- The reference's May, of what is formed. -/
import Derived.Test.YtojbakkbmfgoaaaDoorMsRJ
import Derived.Test.YtojbakkbmfgoaaaDoorMg27
import Derived.Deep.QuietTactic
import Derived.BigQuiet
import Derived.Test.YtojbakkbmfgoaaaDoorMg13
namespace Go.Proofs.YtojbakkbmfgoaaaDoor
open Go.RowKit
set_option linter.unusedVariables false

set_option maxRecDepth 20000 in
set_option maxHeartbeats 4000000 in
/-- The reference's May, of what is too big. -/
theorem rmay_n (x : RX) (K : Nat → Prop) (a : Option Addr) (c : Nat) (w : World) (HX : Hid (Parts x.args K w a c)) (h1 : x.formed = true) (h4 : x.nodes < 1000000) (h5 : x.depth < 1000000) (hm : 40 < x.nodes) :
    Calls Tryd.prog 25 #[.agg #[.int .i64 x.kind, .int .u64 (limb x.set 0), .int .u64 (limb x.set 1), .int .u64 (limb x.set 2), .int .u64 (limb x.set 3), .slice a x.args.length c]] w fun e w' => e = .returned (.int .i64 6) ∧ Hid (Qt w w') := by
  have q0 := Mv.alloc (fun _ => False) w (.cells #[.int .i64 x.kind, .int .u64 (limb x.set 0), .int .u64 (limb x.set 1), .int .u64 (limb x.set 2), .int .u64 (limb x.set 3), .slice a x.args.length c] 29)
  have HX0 : Hid (Parts x.args K (w.alloc (.cells #[.int .i64 x.kind, .int .u64 (limb x.set 0), .int .u64 (limb x.set 1), .int .u64 (limb x.set 2), .int .u64 (limb x.set 3), .slice a x.args.length c] 29)) a c) := HX.out.mv q0 (fun _ _ h => h)
  have hf := form_any2 x K a c _ HX0 h1
  have hn := fun W (q : Hid (Qt (w.alloc (.cells #[.int .i64 x.kind, .int .u64 (limb x.set 0), .int .u64 (limb x.set 1), .int .u64 (limb x.set 2), .int .u64 (limb x.set 3), .slice a x.args.length c] 29)) W)) => nodes_any2 x K a c W (show Hid _ from HX0.out.mv q.out (fun _ _ h => h)) (by omega)
  have hd := fun W (q : Hid (Qt (w.alloc (.cells #[.int .i64 x.kind, .int .u64 (limb x.set 0), .int .u64 (limb x.set 1), .int .u64 (limb x.set 2), .int .u64 (limb x.set 3), .slice a x.args.length c] 29)) W)) => depth_any2 x K a c W (show Hid _ from HX0.out.mv q.out (fun _ _ h => h)) (by omega)
  have g1 : 40 < ((x.nodes : Nat) : Int) := by omega
  generalize ((x.nodes : Nat) : Int) = N at *
  generalize ((x.depth : Nat) : Int) = D at *
  have PX : Hid (B6 w.heap.size (.int .i64 x.kind) (.int .u64 (limb x.set 0)) (.int .u64 (limb x.set 1)) (.int .u64 (limb x.set 2)) (.int .u64 (limb x.set 3)) (.slice a x.args.length c) (w.alloc (.cells #[.int .i64 x.kind, .int .u64 (limb x.set 0), .int .u64 (limb x.set 1), .int .u64 (limb x.set 2), .int .u64 (limb x.set 3), .slice a x.args.length c] 29))) := heap_alloc_new w _
  obtain ⟨k0, k1, k2, k3, k4, k5, _⟩ := B6.facts PX
  have Q0 : Hid (Qt w (w.alloc (.cells #[.int .i64 x.kind, .int .u64 (limb x.set 0), .int .u64 (limb x.set 1), .int .u64 (limb x.set 2), .int .u64 (limb x.set 3), .slice a x.args.length c] 29))) := q0
  clear h1 h4 h5 hm HX HX0 q0
  go_enter Tryd.func25, Tryd.ntmps25
  go_wp2_with fail
  refine hf.mono ?_
  rintro e1 w1 ⟨rfl, q1⟩
  clear k0 k1 k2 k3 k4 k5
  obtain ⟨k0, k1, k2, k3, k4, k5, _⟩ := B6.facts (B6.mv PX.out q1.out (fun h => h))
  go_wp2_with fail
  refine (hn _ q1).mono ?_
  rintro e2 w2 ⟨rfl, q2⟩
  have Q2 := q1.out.comp q2.out
  clear k0 k1 k2 k3 k4 k5
  obtain ⟨k0, k1, k2, k3, k4, k5, _⟩ := B6.facts (B6.mv PX.out Q2 (fun h => h))
  go_wp2_with fail
  go_ret
  exact ⟨rfl, Q0.out.comp Q2⟩

set_option maxRecDepth 20000 in
set_option maxHeartbeats 4000000 in
/-- The reference's May, of what is too big. -/
theorem rmay_d (x : RX) (K : Nat → Prop) (a : Option Addr) (c : Nat) (w : World) (HX : Hid (Parts x.args K w a c)) (h1 : x.formed = true) (h4 : x.nodes < 1000000) (h5 : x.depth < 1000000) (hm : x.nodes ≤ 40 ∧ 12 < x.depth) :
    Calls Tryd.prog 25 #[.agg #[.int .i64 x.kind, .int .u64 (limb x.set 0), .int .u64 (limb x.set 1), .int .u64 (limb x.set 2), .int .u64 (limb x.set 3), .slice a x.args.length c]] w fun e w' => e = .returned (.int .i64 6) ∧ Hid (Qt w w') := by
  have q0 := Mv.alloc (fun _ => False) w (.cells #[.int .i64 x.kind, .int .u64 (limb x.set 0), .int .u64 (limb x.set 1), .int .u64 (limb x.set 2), .int .u64 (limb x.set 3), .slice a x.args.length c] 29)
  have HX0 : Hid (Parts x.args K (w.alloc (.cells #[.int .i64 x.kind, .int .u64 (limb x.set 0), .int .u64 (limb x.set 1), .int .u64 (limb x.set 2), .int .u64 (limb x.set 3), .slice a x.args.length c] 29)) a c) := HX.out.mv q0 (fun _ _ h => h)
  have hf := form_any2 x K a c _ HX0 h1
  have hn := fun W (q : Hid (Qt (w.alloc (.cells #[.int .i64 x.kind, .int .u64 (limb x.set 0), .int .u64 (limb x.set 1), .int .u64 (limb x.set 2), .int .u64 (limb x.set 3), .slice a x.args.length c] 29)) W)) => nodes_any2 x K a c W (show Hid _ from HX0.out.mv q.out (fun _ _ h => h)) (by omega)
  have hd := fun W (q : Hid (Qt (w.alloc (.cells #[.int .i64 x.kind, .int .u64 (limb x.set 0), .int .u64 (limb x.set 1), .int .u64 (limb x.set 2), .int .u64 (limb x.set 3), .slice a x.args.length c] 29)) W)) => depth_any2 x K a c W (show Hid _ from HX0.out.mv q.out (fun _ _ h => h)) (by omega)
  have g1 : ((x.nodes : Nat) : Int) ≤ 40 := by omega
  have g2 : 12 < ((x.depth : Nat) : Int) := by omega
  generalize ((x.nodes : Nat) : Int) = N at *
  generalize ((x.depth : Nat) : Int) = D at *
  have PX : Hid (B6 w.heap.size (.int .i64 x.kind) (.int .u64 (limb x.set 0)) (.int .u64 (limb x.set 1)) (.int .u64 (limb x.set 2)) (.int .u64 (limb x.set 3)) (.slice a x.args.length c) (w.alloc (.cells #[.int .i64 x.kind, .int .u64 (limb x.set 0), .int .u64 (limb x.set 1), .int .u64 (limb x.set 2), .int .u64 (limb x.set 3), .slice a x.args.length c] 29))) := heap_alloc_new w _
  obtain ⟨k0, k1, k2, k3, k4, k5, _⟩ := B6.facts PX
  have Q0 : Hid (Qt w (w.alloc (.cells #[.int .i64 x.kind, .int .u64 (limb x.set 0), .int .u64 (limb x.set 1), .int .u64 (limb x.set 2), .int .u64 (limb x.set 3), .slice a x.args.length c] 29))) := q0
  clear h1 h4 h5 hm HX HX0 q0
  go_enter Tryd.func25, Tryd.ntmps25
  go_wp2_with fail
  refine hf.mono ?_
  rintro e1 w1 ⟨rfl, q1⟩
  clear k0 k1 k2 k3 k4 k5
  obtain ⟨k0, k1, k2, k3, k4, k5, _⟩ := B6.facts (B6.mv PX.out q1.out (fun h => h))
  go_wp2_with fail
  refine (hn _ q1).mono ?_
  rintro e2 w2 ⟨rfl, q2⟩
  have Q2 := q1.out.comp q2.out
  clear k0 k1 k2 k3 k4 k5
  obtain ⟨k0, k1, k2, k3, k4, k5, _⟩ := B6.facts (B6.mv PX.out Q2 (fun h => h))
  go_wp2_with fail
  refine (hd _ Q2).mono ?_
  rintro e3 w3 ⟨rfl, q3⟩
  go_wp2_with fail
  go_ret
  exact ⟨rfl, (Q0.out.comp Q2).comp q3.out⟩


theorem rmay_any (x : RX) (K : Nat → Prop) (a : Option Addr) (c : Nat) (w : World) (HX : Hid (Parts x.args K w a c)) (h1 : x.formed = true) (h4 : x.nodes < 1000000) (h5 : x.depth < 1000000) :
    Calls Tryd.prog 25 #[.agg #[.int .i64 x.kind, .int .u64 (limb x.set 0), .int .u64 (limb x.set 1), .int .u64 (limb x.set 2), .int .u64 (limb x.set 3), .slice a x.args.length c]] w fun e w' => e = .returned (.int .i64 (may x)) ∧ Hid (Qt w w') := by
  by_cases h6 : x.nodes ≤ 40
  · by_cases h7 : x.depth ≤ 12
    · have e : may x = 0 := by unfold may; rw [h1, if_neg (by decide), if_pos ⟨h6, h7⟩]
      rw [e]
      exact rmay_ok x K a c w HX e
    · have e : may x = 6 := by unfold may; rw [h1, if_neg (by decide), if_neg (fun h => h7 h.2)]
      rw [e]
      exact rmay_d x K a c w HX h1 h4 h5 ⟨h6, by omega⟩
  · have e : may x = 6 := by unfold may; rw [h1, if_neg (by decide), if_neg (fun h => h6 h.1)]
    rw [e]
    exact rmay_n x K a c w HX h1 h4 h5 (by omega)

end Go.Proofs.YtojbakkbmfgoaaaDoor

namespace Go.Proofs.YtojbakkbmfgoaaaDoor
open Go.RowKit
set_option linter.unusedVariables false
set_option linter.unusedSimpArgs false

set_option maxRecDepth 20000 in
set_option maxHeartbeats 4000000 in
theorem pof_no (x : RX) (hm : may x ≠ 0) (hf : x.formed = true) (h4 : x.nodes < 1000000) (h5 : x.depth < 1000000) (K : Nat → Prop) (a : Option Addr) (c : Nat) (w : World) (hX : Parts x.args K w a c) :
    Calls Tryd.prog 11 #[.agg #[.int .i64 x.kind, .int .u64 (limb x.set 0), .int .u64 (limb x.set 1), .int .u64 (limb x.set 2), .int .u64 (limb x.set 3), .slice a x.args.length c]] w fun e w' => e = .returned (.tuple #[.agg #[.slice none 0 0, .slice none 0 0, .slice none 0 0, .slice none 0 0, .bool false], .int .i64 (may x)]) ∧ Hid (Qt w w') := by
  have Q0 : Hid (Qt w ((w.alloc (.cells #[.int .i64 x.kind, .int .u64 (limb x.set 0), .int .u64 (limb x.set 1), .int .u64 (limb x.set 2), .int .u64 (limb x.set 3), .slice a x.args.length c] 29)).alloc (zeros5 41))) := ((Qt.refl w).alloc _).alloc _
  have BR : Hid (B6 w.heap.size (.int .i64 x.kind) (.int .u64 (limb x.set 0)) (.int .u64 (limb x.set 1)) (.int .u64 (limb x.set 2)) (.int .u64 (limb x.set 3)) (.slice a x.args.length c) ((w.alloc (.cells #[.int .i64 x.kind, .int .u64 (limb x.set 0), .int .u64 (limb x.set 1), .int .u64 (limb x.set 2), .int .u64 (limb x.set 3), .slice a x.args.length c] 29)).alloc (zeros5 41))) := heap2a w _ _
  have BZ : Hid (B5p 41 (w.heap.size + 1) (.slice none 0 0) (.slice none 0 0) (.slice none 0 0) (.slice none 0 0) (.bool false) ((w.alloc (.cells #[.int .i64 x.kind, .int .u64 (limb x.set 0), .int .u64 (limb x.set 1), .int .u64 (limb x.set 2), .int .u64 (limb x.set 3), .slice a x.args.length c] 29)).alloc (zeros5 41))) := heap_alloc2_new w _ _
  have hmay := rmay_any x K a c _ (show Hid _ from hX.mv Q0.out (fun _ _ h => h)) hf h4 h5
  obtain ⟨k0, k1, k2, k3, k4, k5, _⟩ := B6.facts BR
  obtain ⟨m, hme⟩ : ∃ m, m = may x := ⟨_, rfl⟩
  rw [← hme] at hmay hm ⊢
  have hmb : (m != 0) = true := bne_iff_ne.2 hm
  clear hX hf h4 h5 hm hme
  go_enter Tryd.func11, Tryd.ntmps11
  go_wp2_with fail
  refine hmay.mono ?_
  rintro e1 w1 ⟨rfl, q1⟩
  have CZ := B5p.mv BZ.out q1.out (fun h => h)
  obtain ⟨z0, z1, z2, z3, z4, z5, z6, z7, z8, z9⟩ := B5p.facts CZ
  clear k0 k1 k2 k3 k4 k5 hmay
  go_wp2_with fail
  refine bodyPost_ret (results_cell_tmp (p := 2) (u := 3) (ty := 41) rfl _ _ (w.heap.size + 1) 41 _ (0, 0) _ _ rfl rfl (put5_heap CZ.out _ _ _ _ _) Tryd.underlying41 rfl (by kernel_rfl)) rfl ?_
  exact ⟨rfl, Mv.trans (Q0.out.comp q1.out) (put5_mv _ _ _ _ _ _ _) (fun j hj e => by omega)⟩

end Go.Proofs.YtojbakkbmfgoaaaDoor

namespace Go.Proofs.YtojbakkbmfgoaaaDoor
open Go.RowKit
set_option linter.unusedVariables false
set_option linter.unusedSimpArgs false

theorem k3 {S : Nat → Prop} {W W' : World} {a b c : Addr} {s t u : Value} (h : Hid (W.cell? a = some s ∧ W.cell? b = some t ∧ W.cell? c = some u)) (q : Mv S W W') (h1 : ¬ S a.block) (h2 : ¬ S b.block) (h3 : ¬ S c.block) : W'.cell? a = some s ∧ W'.cell? b = some t ∧ W'.cell? c = some u :=
  ⟨q.cell (p := a) h.out.1 h1, q.cell (p := b) h.out.2.1 h2, q.cell (p := c) h.out.2.2 h3⟩
theorem Ov.some {w : World} {b n c : Nat} {a : Option Addr} {G : Nat → List Nat} (h : Ov w b (.slice a n c) n G) (hn : 0 < n) : ∃ g, a = .some ⟨g, 0, none⟩ := by
  obtain ⟨vs, h1, _⟩ := h
  rcases h1.2 with ⟨e, _⟩ | ⟨g, cap, cur, e, _⟩
  · have := (Value.slice.inj e).2.1; omega
  · exact ⟨g, (Value.slice.inj e).1⟩
theorem Is.hq {W W' : World} {v : Value} {l : List Nat} (h : Hid (Is W v l)) (q : Qt W W') : Hid (Is W' v l) := h.out.qt q
theorem k8 {W W' : World} {a b c d : Addr} {s t u v : Value} (h : Hid (W.cell? a = some s ∧ W.cell? b = some t ∧ W.cell? c = some u ∧ W.cell? d = some v)) (q : Qt W W') : W'.cell? a = some s ∧ W'.cell? b = some t ∧ W'.cell? c = some u ∧ W'.cell? d = some v :=
  ⟨q.cell (p := a) h.out.1 (fun h => h), q.cell (p := b) h.out.2.1 (fun h => h), q.cell (p := c) h.out.2.2.1 (fun h => h), q.cell (p := d) h.out.2.2.2 (fun h => h)⟩
/-- What the walk has left. -/
structure Pg (w W : World) (gp : Nat) (v u : Value) (P : Pla) (H : Nat → List Nat) : Prop where
  qt : Qt w W
  pb : B5p 41 gp v (.slice none 0 0) (.slice none 0 0) u (.bool false) W
  zb : B5p 41 (w.heap.size + 1) (.slice none 0 0) (.slice none 0 0) (.slice none 0 0) (.slice none 0 0) (.bool false) W
  os : Os W gp v P.sets
  ov : Ov W gp u P.cnt H
  lo : w.heap.size + 1 < gp
theorem Pg.step {w W W' : World} {gp : Nat} {v u : Value} {P : Pla} {H : Nat → List Nat} (h : Hid (Pg w W gp v u P H)) (q : Qt W W') : Hid (Pg w W' gp v u P H) :=
  ⟨h.out.qt.comp q, (B5p.mv h.out.pb q (fun h => h)).out, (B5p.mv h.out.zb q (fun h => h)).out, q.owns h.out.os (fun _ _ h => h), h.out.ov.qt q, h.out.lo⟩
theorem Pg.box {w W W' : World} {gp g : Nat} {v u : Value} {P : Pla} {H : Nat → List Nat} (h : Hid (Pg w W gp v u P H)) {cs : Array Value} (hg : W.heap[g]? = some (.cells cs 41 (0, 0))) (hne : gp < g) (m : Mv (fun j => j = g) W W') : Hid (Pg w W' gp v u P H) := by
  have h' := h.out
  have hlo := h'.lo
  have htg : ∀ t, t ≠ 41 → ∀ j ds, W.heap[j]? = some (.cells ds t (0, 0)) → ¬ j = g := by
    intro t ht j ds hj e
    rw [e] at hj
    exact ht (not_typed hj hg)
  refine ⟨Mv.trans h'.qt m (fun j hj e => by omega), (B5p.mv h'.pb m (by omega)).out, (B5p.mv h'.zb m (by omega)).out, m.owns h'.os (fun j hj e => ?_), h'.ov.mv m (htg 34 (by decide)) (htg 3 (by decide)), hlo⟩
  obtain ⟨ds, hd⟩ := Os.typed h'.os hj
  exact htg 26 (by decide) j ds hd e
/-- What is told so far. -/
structure Pf (w V : World) (gp g : Nat) (v u f l : Value) (P : Pla) (H : Nat → List Nat) : Prop where
  pg : Pg w V gp v u P H
  ob : B5p 41 g v f l (.slice none 0 0) (.bool P.null) V
  i1 : Is V f (asc 64 (P.fst 0))
  i2 : Is V l (asc 64 (P.lst 0))
  lt : gp < g
theorem Pf.old {w W : World} {gp g : Nat} {v u f l : Value} {P : Pla} {H : Nat → List Nat} (h : Hid (Pg w W gp v u P H)) {z0 z1 z2 z3 z4 : Value} (hg : B5p 41 g z0 z1 z2 z3 z4 W) (hne : gp < g) (i1 : Is W f (asc 64 (P.fst 0))) (i2 : Is W l (asc 64 (P.lst 0))) : Hid (Pf w (put5 W g v f l (.slice none 0 0) (.bool P.null)) gp g v u f l P H) := by
  have m := put5_mv W g v f l (.slice none 0 0) (.bool P.null)
  have htg : ∀ j ds, W.heap[j]? = some (.cells ds 3 (0, 0)) → ¬ j = g := by
    intro j ds hj e
    rw [e] at hj
    have := not_typed hj hg; omega
  exact ⟨(Pg.box h hg hne m).out, put5_heap hg _ _ _ _ _, i1.mv m htg, i2.mv m htg, hne⟩
theorem Pf.new {w W : World} {gp : Nat} {v u f l : Value} {P : Pla} {H : Nat → List Nat} (h : Hid (Pg w W gp v u P H)) (i1 : Is W f (asc 64 (P.fst 0))) (i2 : Is W l (asc 64 (P.lst 0))) : Hid (Pf w (W.alloc (.cells #[v, f, l, .slice none 0 0, .bool P.null] 41)) gp W.heap.size v u f l P H) := by
  have q : Qt W (W.alloc (.cells #[v, f, l, .slice none 0 0, .bool P.null] 41)) := (Qt.refl W).alloc _
  exact ⟨(Pg.step h q).out, (B5p.new W _ _ _ _ _).out, i1.qt q, i2.qt q, h.out.pb.lt⟩
/-- In the loop. -/
structure Lf (V W : World) (g : Nat) (v f l fo : Value) (P : Pla) (i : Nat) : Prop where
  mv : Mv (fun j => j = g) V W
  ob : B5p 41 g v f l fo (.bool P.null) W
  os : Ov W V.heap.size fo i (fun i => asc 64 (P.fol 0 i))
theorem Lf.next {V W W4 W5 : World} {g : Nat} {v f l fo fo' : Value} {P : Pla} {i : Nat} {o : List Nat} (h : Hid (Lf V W g v f l fo P i)) (q : Qt W W4) (ho : Ov W5 V.heap.size fo' (i + 1) (fun k => if k < i then asc 64 (P.fol 0 k) else o)) (m : Mv (fun j => fo.ownBlock = some j) W4 W5) (e : o = asc 64 (P.fol 0 i)) (hg : g < V.heap.size) : Hid (Lf V (W5.setCell ⟨g, 3, none⟩ fo') g v f l fo' P (i + 1)) := by
  have h' := h.out
  have hn : ¬ fo.ownBlock = some g := fun e => by
    obtain ⟨vs, h1, _⟩ := h'.os
    have := (h1.blk g e).1; omega
  have o5 : B5p 41 g v f l fo (.bool P.null) W5 := (B5p.mv (B5p.mv h'.ob q (fun h => h)).out m hn).out
  have ms := Mv.setCell W5 ⟨g, 3, none⟩ fo'
  have htg : ∀ t, t ≠ 41 → ∀ j ds, W5.heap[j]? = some (.cells ds t (0, 0)) → ¬ j = g := by
    intro t ht j ds hj e
    rw [e] at hj
    exact ht (not_typed hj o5)
  refine ⟨Mv.trans (Mv.trans (Mv.trans h'.mv q (fun _ _ h => h.elim)) m (fun j hj e => ?_)) ms (fun _ _ h => h), heap_set o5, (ho.congr (fun k hk => ?_)).mv ms (htg 34 (by decide)) (htg 3 (by decide))⟩
  · exfalso
    obtain ⟨vs, h1, _⟩ := h'.os
    have := (h1.blk j e).1; omega
  · by_cases hki : k < i
    · simp only [if_pos hki]
    · obtain rfl : k = i := by omega
      simp only [if_neg hki]; exact e
/-- It is told. -/
theorem Lf.tell {w V W : World} {gp g : Nat} {v u f l fo : Value} {P : Pla} {H : Nat → List Nat} (p : Hid (Pf w V gp g v u f l P H)) (h : Hid (Lf V W g v f l fo P P.cnt)) (hP : P.sets.length = P.cnt) :
    Hid (Pv (put5 W (w.heap.size + 1) v f l fo (.bool P.null)) v f l fo P.sets P.cnt (asc 64 (P.fst 0)) (asc 64 (P.lst 0)) (fun i => asc 64 (P.fol 0 i))) ∧ Hid (Qt w (put5 W (w.heap.size + 1) v f l fo (.bool P.null))) ∧ B5p 41 (w.heap.size + 1) v f l fo (.bool P.null) (put5 W (w.heap.size + 1) v f l fo (.bool P.null)) := by
  have p' := p.out
  have h' := h.out
  have hlo := p'.pg.lo
  have hlt := p'.lt
  have hpg : Hid (Pg w W gp v u P H) := Pg.box p'.pg p'.ob p'.lt h'.mv
  have z := hpg.out.zb
  have m := put5_mv W (w.heap.size + 1) v f l fo (.bool P.null)
  have htg : ∀ t, t ≠ 41 → ∀ j ds, W.heap[j]? = some (.cells ds t (0, 0)) → ¬ j = w.heap.size + 1 := by
    intro t ht j ds hj e
    rw [e] at hj
    exact ht (not_typed hj z)
  have htv : ∀ j ds, V.heap[j]? = some (.cells ds 3 (0, 0)) → ¬ j = g := by
    intro j ds hj e
    rw [e] at hj
    have := not_typed hj p'.ob; omega
  refine ⟨⟨?_, (p'.i1.mv h'.mv htv).mv m (htg 3 (by decide)), (p'.i2.mv h'.mv htv).mv m (htg 3 (by decide)), (h'.os.mv m (htg 34 (by decide)) (htg 3 (by decide))).vs⟩, Mv.trans hpg.out.qt m (fun j hj e => by omega), put5_heap z _ _ _ _ _⟩
  refine Os.ss (m.owns hpg.out.os (fun j hj e => ?_))
  obtain ⟨ds, hd⟩ := Os.typed hpg.out.os hj
  exact htg 26 (by decide) j ds hd e

set_option maxRecDepth 20000 in
set_option maxHeartbeats 8000000 in
theorem pof_yes (x : RX) (hm : may x = 0) (K : Nat → Prop) (a : Option Addr) (c : Nat) (w : World) (hK : ∀ j, K j → j < w.heap.size) (hX : Parts x.args K w a c) :
    Calls Tryd.prog 11 #[.agg #[.int .i64 x.kind, .int .u64 (limb x.set 0), .int .u64 (limb x.set 1), .int .u64 (limb x.set 2), .int .u64 (limb x.set 3), .slice a x.args.length c]] w fun e w' => OfP w x e w' := by
  obtain ⟨m1, m2, m3⟩ := may_small hm
  have Q0 : Hid (Qt w ((w.alloc (.cells #[.int .i64 x.kind, .int .u64 (limb x.set 0), .int .u64 (limb x.set 1), .int .u64 (limb x.set 2), .int .u64 (limb x.set 3), .slice a x.args.length c] 29)).alloc (zeros5 41))) := ((Qt.refl w).alloc _).alloc _
  have BR : Hid (B6 w.heap.size (.int .i64 x.kind) (.int .u64 (limb x.set 0)) (.int .u64 (limb x.set 1)) (.int .u64 (limb x.set 2)) (.int .u64 (limb x.set 3)) (.slice a x.args.length c) ((w.alloc (.cells #[.int .i64 x.kind, .int .u64 (limb x.set 0), .int .u64 (limb x.set 1), .int .u64 (limb x.set 2), .int .u64 (limb x.set 3), .slice a x.args.length c] 29)).alloc (zeros5 41))) := heap2a w _ _
  have BZ : Hid (B5p 41 (w.heap.size + 1) (.slice none 0 0) (.slice none 0 0) (.slice none 0 0) (.slice none 0 0) (.bool false) ((w.alloc (.cells #[.int .i64 x.kind, .int .u64 (limb x.set 0), .int .u64 (limb x.set 1), .int .u64 (limb x.set 2), .int .u64 (limb x.set 3), .slice a x.args.length c] 29)).alloc (zeros5 41))) := heap_alloc2_new w _ _
  have hmay := rmay_any x K a c _ (show Hid _ from hX.mv Q0.out (fun _ _ h => h)) m1 (by omega) (by omega)
  rw [hm] at hmay
  have HTH := rw_any x (by omega) m1
  have HN : Hid (x.nodes ≤ 40) := m2
  have HC : Hid (x.pla.cnt ≤ 40) := Nat.le_trans (cnt_le x) m2
  have HF : Hid (x.pla.Fine) := pla_fine x
  have HFO : Hid (x.formed = true) := m1
  have HP : Hid (Parts x.args K w a c) := hX
  have HK : Hid (∀ j, K j → j < w.heap.size) := hK
  obtain ⟨k0, k1, k2, k3, k4, k5, _⟩ := B6.facts BR
  clear hX hK m1 m2 m3 hm
  go_enter Tryd.func11, Tryd.ntmps11
  go_wp2_with fail
  generalize ((w.alloc (.cells #[.int .i64 x.kind, .int .u64 (limb x.set 0), .int .u64 (limb x.set 1), .int .u64 (limb x.set 2), .int .u64 (limb x.set 3), .slice a x.args.length c] 29)).alloc (.cells #[.slice none 0 0, .slice none 0 0, .slice none 0 0, .slice none 0 0, .bool false] 41)) = W0 at *
  refine hmay.mono ?_
  rintro e1 w1 ⟨rfl, q1⟩
  have BR1 := B6.mv BR.out q1.out (fun h => h)
  have BZ1 := B5p.mv BZ.out q1.out (fun h => h)
  have Q1 : Hid (Qt w w1) := Q0.out.comp q1.out
  have hw1 : w.heap.size + 1 < w1.heap.size := BZ1.out.lt
  have QA : Hid (Qt w1 (w1.alloc (.cells #[.slice none 0 0, .slice none 0 0, .slice none 0 0, .slice none 0 0, .bool false] 41))) := Mv.alloc _ _ _
  have WP0 : Hid (Wp (fun _ => False) w1.heap.size (w1.alloc (.cells #[.slice none 0 0, .slice none 0 0, .slice none 0 0, .slice none 0 0, .bool false] 41)) (.slice none 0 0) (.slice none 0 0) [] ([] : List (Nat → Bool)).length (fun _ => [])) :=
    ⟨heap_alloc_new w1 _, ow_nil _ _ _ _, ⟨fun _ => .slice none 0 0, World.ownsRow_nil _ _ _ _, fun i hi => by cases hi⟩⟩
  have hth := HTH (fun _ => False) K w1.heap.size (.slice none 0 0) (.slice none 0 0) [] (fun _ => []) a c _ (HP.out.mv (Q1.out.comp QA.out) (fun _ _ h => h)) (fun j hj => Nat.lt_of_lt_of_le (HK.out j hj) Q1.out.size) WP0 (by have := HC.out; simp; omega) HFO.out (fun i => by have := HN.out; simp; omega) (fun _ _ => rfl) (fun j hj => hj.elim)
  clear k0 k1 k2 k3 k4 k5 hmay
  obtain ⟨k0, k1, k2, k3, k4, k5, _⟩ := B6.facts (B6.mv BR1.out QA.out (fun h => h))
  go_wp2_with fail
  refine hth.mono ?_
  rintro e2 w2 ⟨fx, lx, F, L, v, u, H, rfl, iF, iL, hfr, hFL, W2, hG, F2⟩
  obtain ⟨fa, fc, rfl⟩ := iF.out.form
  obtain ⟨la, lc, rfl⟩ := iL.out.form
  have hw2 : w1.heap.size < w2.heap.size := W2.out.lt
  have QB : Hid (Qt w2 (w2.alloc (.cells #[.slice none 0 0, .slice fa F.length fc, .slice la L.length lc, .slice none 0 0, .bool x.pla.null] 41))) := Mv.alloc _ _ _
  have G0 : Hid (Pg w w2 w1.heap.size v u x.pla H) := by
    have h1 := W2.out
    rw [List.nil_append, HF.out.len] at h1
    exact ⟨Fr.low F2.out (Q1.out.comp QA.out) (by omega), h1.at_, (B5p.fp (B5p.mv BZ1.out QA.out (fun h => h)).out F2.out (by omega)).out, h1.sets, h1.fol.ov, hw1⟩
  have G3 := Pg.step G0 QB.out
  have BX : Hid (B5p 41 w2.heap.size (.slice none 0 0) (.slice fa F.length fc) (.slice la L.length lc) (.slice none 0 0) (.bool x.pla.null) (w2.alloc (.cells #[.slice none 0 0, .slice fa F.length fc, .slice la L.length lc, .slice none 0 0, .bool x.pla.null] 41))) := B5p.new w2 _ _ _ _ _
  have iF3 : Hid (Is (w2.alloc (.cells #[.slice none 0 0, .slice fa F.length fc, .slice la L.length lc, .slice none 0 0, .bool x.pla.null] 41)) (.slice fa F.length fc) F) := iF.out.qt QB.out
  have iL3 : Hid (Is (w2.alloc (.cells #[.slice none 0 0, .slice fa F.length fc, .slice la L.length lc, .slice none 0 0, .bool x.pla.null] 41)) (.slice la L.length lc) L) := iL.out.qt QB.out
  obtain ⟨av, cv, hv⟩ := Os.form G3.out.os
  rw [HF.out.len] at hv
  obtain ⟨au, cu, _, hu, _⟩ := G3.out.ov.vs
  subst hv hu
  have hcnt : (x.pla.cnt : Int) ≤ 40 := by have := HC.out; omega
  have HFF : Hid ((∀ n, n ∈ F ↔ x.pla.fst 0 n = true) ∧ (∀ n, n ∈ L ↔ x.pla.lst 0 n = true) ∧ F.length ≤ x.pla.cnt ∧ L.length ≤ x.pla.cnt) := hFL
  have HHH : Hid (∀ i j, j ∈ H i ↔ x.pla.fol 0 i j = true) := fun i j => by
    have := hG.out.1 i j
    simpa using this
  have HHL : Hid (∀ i, (H i).length ≤ 64000) := fun i => by
    have h1 := hG.out.2 i
    have h2 := HN.out
    simp only [List.length_nil] at h1
    omega
  have hF64 : ∀ c ∈ F, c < 64 := fun c hc => by have := HF.out.fst _ _ ((HFF.out.1 c).1 hc); have := HC.out; omega
  have hL64 : ∀ c ∈ L, c < 64 := fun c hc => by have := HF.out.lst _ _ ((HFF.out.2.1 c).1 hc); have := HC.out; omega
  have hH64 : ∀ i, ∀ c ∈ H i, c < 64 := fun i c hc => by have := HF.out.fol _ _ _ ((HHH.out i c).1 hc); have := HC.out; omega
  have HR1 : Hid (∀ V, Hid (Is V (.slice fa F.length fc) F) → Calls Tryd.prog 27 #[.slice fa F.length fc] V fun e w' => ∃ o, e = .returned o ∧ Hid (Is w' o (rs F F.length)) ∧ Hid (Qt V w')) := fun V h => rise_any F (by have := HFF.out.2.2.1; have := HC.out; omega) hF64 _ V h
  have HR2 : Hid (∀ V, Hid (Is V (.slice la L.length lc) L) → Calls Tryd.prog 27 #[.slice la L.length lc] V fun e w' => ∃ o, e = .returned o ∧ Hid (Is w' o (rs L L.length)) ∧ Hid (Qt V w')) := fun V h => rise_any L (by have := HFF.out.2.2.2; have := HC.out; omega) hL64 _ V h
  have HR3 : Hid (∀ i s V, Hid (Is V s (H i)) → Calls Tryd.prog 27 #[s] V fun e w' => ∃ o, e = .returned o ∧ Hid (Is w' o (rs (H i) (H i).length)) ∧ Hid (Qt V w')) := fun i s V h => rise_any (H i) (by have := HHL.out i; omega) (hH64 i) _ V h
  have E1 : Hid (rs F F.length = asc 64 (x.pla.fst 0)) := rs_all F _ HFF.out.1
  have E2 : Hid (rs L L.length = asc 64 (x.pla.lst 0)) := rs_all L _ HFF.out.2.1
  have E3 : Hid (∀ i, rs (H i) (H i).length = asc 64 (x.pla.fol 0 i)) := fun i => rs_all (H i) _ (HHH.out i)
  clear hF64 hL64 hH64 hth HTH k0 k1 k2 k3 k4 k5 hfr hFL hG F2 W2 G0 iF iL
  obtain ⟨p0, p1, p2, p3, p4, p5, p6, p7, p8, p9⟩ := B5p.facts (show Hid _ from G3.out.pb)
  obtain ⟨x0, x1, x2, x3, x4, x5, x6, x7, x8, x9⟩ := B5p.facts BX
  go_wp2_with fail
  generalize w2.alloc (.cells #[.slice none 0 0, .slice fa F.length fc, .slice la L.length lc, .slice none 0 0, .bool x.pla.null] 41) = W3 at *
  generalize w2.heap.size = xg at *
  have C8 : Hid (W3.cell? ⟨w1.heap.size, 0, none⟩ = some (.slice av x.pla.cnt cv) ∧ W3.cell? ⟨xg, 1, none⟩ = some (.slice fa F.length fc) ∧ W3.cell? ⟨xg, 2, none⟩ = some (.slice la L.length lc) ∧ W3.cell? ⟨xg, 4, none⟩ = some (.bool x.pla.null)) := ⟨p0, x1, x2, x4⟩
  have QD : Hid (Qt W3 W3.drew) := Qt.drew (Qt.refl _)
  refine Rest.begin (S := (fun w' => w'.cell? ⟨w1.heap.size, 0, none⟩ = some (.slice av x.pla.cnt cv) ∧ w'.cell? ⟨xg, 1, none⟩ = some (.slice fa F.length fc) ∧ w'.cell? ⟨xg, 2, none⟩ = some (.slice la L.length lc) ∧ w'.cell? ⟨xg, 4, none⟩ = some (.bool x.pla.null))) (st := [14]) (by kernel_rfl) (k8 C8 (QD.out)) (fun hHeld => ?_)
  refine Rest.plain (i := 0) _ (some 27) ?_ rfl rfl (by kernel_rfl) (by kernel_rfl) (by kernel_rfl) (by kernel_rfl) (fun _ _ _ h => h) (Or.inl ⟨by rfl, ?_⟩) (by assumption) ?_
  rotate_left
  · (intro w _; go_simp; try with_reducible rfl)
  try simp only [Act.put, List.setIfInBounds_toArray, List.set_cons_zero, List.set_cons_succ]
  refine Rest.plain (i := 1) _ (some 28) ?_ rfl rfl (by kernel_rfl) (by kernel_rfl) (by kernel_rfl) (by kernel_rfl) (fun _ _ _ h => h) (Or.inl ⟨by rfl, ?_⟩) (by assumption) ?_
  rotate_left
  · (intro w _; go_simp; try with_reducible rfl)
  try simp only [Act.put, List.setIfInBounds_toArray, List.set_cons_zero, List.set_cons_succ]
  refine Rest.plain (i := 2) _ (some 29) ?_ rfl rfl (by kernel_rfl) (by kernel_rfl) (by kernel_rfl) (by kernel_rfl) (fun _ _ _ h => h) (Or.inl ⟨by rfl, ?_⟩) (by assumption) ?_
  rotate_left
  · (intro w _; go_simp; try with_reducible rfl)
  try simp only [Act.put, List.setIfInBounds_toArray, List.set_cons_zero, List.set_cons_succ]
  refine Rest.take (i := 3) _ (some 30) ?_ rfl rfl (by kernel_rfl) (by kernel_rfl) (by kernel_rfl) (by kernel_rfl) (fun _ _ _ h => h) (Or.inl ⟨by rfl, ?_⟩) (by assumption) ?_
  rotate_left
  · (intro w hSw; (try dsimp only at hSw); go_simp; try with_reducible rfl)
  try simp only [Act.put, List.setIfInBounds_toArray, List.set_cons_zero, List.set_cons_succ]
  refine Rest.plain (i := 4) _ (some 31) ?_ rfl rfl (by kernel_rfl) (by kernel_rfl) (by kernel_rfl) (by kernel_rfl) (fun _ _ _ h => h) (Or.inl ⟨by rfl, ?_⟩) (by assumption) ?_
  rotate_left
  · (intro w _; go_simp; try with_reducible rfl)
  try simp only [Act.put, List.setIfInBounds_toArray, List.set_cons_zero, List.set_cons_succ]
  refine Rest.take (i := 5) _ (some 32) ?_ rfl rfl (by kernel_rfl) (by kernel_rfl) (by kernel_rfl) (by kernel_rfl) (fun _ _ _ h => h) (Or.inl ⟨by rfl, ?_⟩) (by assumption) ?_
  rotate_left
  · (intro w hSw; (try dsimp only at hSw); go_simp; try with_reducible rfl)
  try simp only [Act.put, List.setIfInBounds_toArray, List.set_cons_zero, List.set_cons_succ]
  refine Rest.plain (i := 7) _ (some 34) ?_ rfl rfl (by kernel_rfl) (by kernel_rfl) (by kernel_rfl) (by kernel_rfl) (fun _ _ _ h => h) (Or.inl ⟨by rfl, ?_⟩) (by assumption) ?_
  rotate_left
  · (intro w _; go_simp; try with_reducible rfl)
  try simp only [Act.put, List.setIfInBounds_toArray, List.set_cons_zero, List.set_cons_succ]
  refine Rest.take (i := 8) _ (some 35) ?_ rfl rfl (by kernel_rfl) (by kernel_rfl) (by kernel_rfl) (by kernel_rfl) (fun _ _ _ h => h) (Or.inl ⟨by rfl, ?_⟩) (by assumption) ?_
  rotate_left
  · (intro w hSw; (try dsimp only at hSw); go_simp; try with_reducible rfl)
  try simp only [Act.put, List.setIfInBounds_toArray, List.set_cons_zero, List.set_cons_succ]
  refine Rest.plain (i := 10) _ (some 37) ?_ rfl rfl (by kernel_rfl) (by kernel_rfl) (by kernel_rfl) (by kernel_rfl) (fun _ _ _ h => h) (Or.inl ⟨by rfl, ?_⟩) (by assumption) ?_
  rotate_left
  · (intro w _; go_simp; try with_reducible rfl)
  try simp only [Act.put, List.setIfInBounds_toArray, List.set_cons_zero, List.set_cons_succ]
  refine Rest.take (i := 11) _ (some 38) ?_ rfl rfl (by kernel_rfl) (by kernel_rfl) (by kernel_rfl) (by kernel_rfl) (fun _ _ _ h => h) (Or.inl ⟨by rfl, ?_⟩) (by assumption) ?_
  rotate_left
  · (intro w hSw; (try dsimp only at hSw); go_simp; try with_reducible rfl)
  try simp only [Act.put, List.setIfInBounds_toArray, List.set_cons_zero, List.set_cons_succ]
  refine Rest.two (i := 6) (j := 13) (by kernel_rfl) rfl rfl (fun K hK => ?_) (fun K hK => ?_)
  · go_simp
    go_at_call 27
    with_reducible refine (HR1.out W3.drew (Is.hq iF3 (QD.out))).mono ?_
    rintro e1w4 w4 ⟨o1, rfl, j1, r1⟩
    rw [E1.out] at j1
    obtain ⟨oa1, oc1, rfl⟩ := j1.out.form
    have Qw4 : Hid (Qt W3 w4) := (QD.out).comp r1.out
    go_wp2_with fail
    refine hK.out _ _ (k8 C8 (Qw4.out)) (fun hHeld => ?_)
    try simp only [Act.put, List.setIfInBounds_toArray, List.set_cons_zero, List.set_cons_succ]
    clear hK K
    have Q4 := Qw4
    refine Rest.two (i := 9) (j := 13) (by kernel_rfl) rfl rfl (fun K hK => ?_) (fun K hK => ?_)
    · go_simp
      go_at_call 27
      with_reducible refine (HR2.out w4 (Is.hq iL3 (Q4.out))).mono ?_
      rintro e2w5 w5 ⟨o2, rfl, j2, r2⟩
      rw [E2.out] at j2
      obtain ⟨oa2, oc2, rfl⟩ := j2.out.form
      have Qw5 : Hid (Qt W3 w5) := (Q4.out).comp r2.out
      go_wp2_with fail
      refine hK.out _ _ (k8 C8 (Qw5.out)) (fun hHeld => ?_)
      try simp only [Act.put, List.setIfInBounds_toArray, List.set_cons_zero, List.set_cons_succ]
      clear hK K
      have Q5 := Qw5
      refine Rest.plain (i := 12) _ (some 39) ?_ rfl rfl (by kernel_rfl) (by kernel_rfl) (by kernel_rfl) (by kernel_rfl) (fun _ _ _ h => h) (Or.inl ⟨by rfl, ?_⟩) (by assumption) ?_
      rotate_left
      · (intro w _; go_simp; try with_reducible rfl)
      try simp only [Act.put, List.setIfInBounds_toArray, List.set_cons_zero, List.set_cons_succ]
      refine Rest.one (i := 13) (by kernel_rfl) rfl (fun K hK => ?_)
      go_simp
      refine hK.out _ _ (k8 C8 (Q5.out.alloc _)) (fun hHeld => ?_)
      try simp only [Act.put, List.setIfInBounds_toArray, List.set_cons_zero, List.set_cons_succ]
      clear hK K
      have PF := Pf.new (Pg.step G3 Q5.out) (j1.out.qt r2.out) j2.out
      have zz := B5p.facts (B5p.new w5 (.slice none 0 0) (.slice none 0 0) (.slice none 0 0) (.slice none 0 0) (.bool false))
      obtain ⟨z0, z1, z2, z3, z4, z5, z6, z7, z8, z9⟩ := zz
      refine Rest.last (i := 14) (by kernel_rfl) rfl (by kernel_rfl) (fun K hK => ?_)
      go_simp
      refine hK.out _ _ ?_
      try simp only [Act.put, List.setIfInBounds_toArray, List.set_cons_zero, List.set_cons_succ]
      clear hK K
      refine Rest.done (by kernel_rfl) ?_ _
      clear z0 z1 z2 z3 z4 z5 z6 z7 z8 z9 p0 p1 p2 p3 p4 p5 p6 p7 p8 p9 x0 x1 x2 x3 x4 x5 x6 x7 x8 x9
      have PF2 : Hid (Pf w (w5.alloc (.cells #[.slice av x.pla.cnt cv, .slice oa1 (asc 64 (x.pla.fst 0)).length oc1, .slice oa2 (asc 64 (x.pla.lst 0)).length oc2, .slice none 0 0, .bool x.pla.null] 41)) w1.heap.size w5.heap.size (.slice av x.pla.cnt cv) (.slice au x.pla.cnt cu) (.slice oa1 (asc 64 (x.pla.fst 0)).length oc1) (.slice oa2 (asc 64 (x.pla.lst 0)).length oc2) x.pla H) := PF
      clear PF C8 QD hHeld G3 iF3 iL3 BX HR1 HR2
      generalize (w5.alloc (.cells #[.slice av x.pla.cnt cv, .slice oa1 (asc 64 (x.pla.fst 0)).length oc1, .slice oa2 (asc 64 (x.pla.lst 0)).length oc2, .slice none 0 0, .bool x.pla.null] 41)) = V at *
      generalize w5.heap.size = g at *
      obtain ⟨x0, x1, x2, x3, x4, x5, x6, x7, x8, x9⟩ := B5p.facts (show Hid _ from PF2.out.ob)
      go_wp2_with fail
      go_loopw [8] (fun s8 wr => ∃ (i : Nat) (fa3 : Option Addr) (fc3 : Nat), i ≤ x.pla.cnt ∧ s8 = .int .i64 i ∧ Hid (Lf V wr g (.slice av x.pla.cnt cv) (.slice oa1 (asc 64 (x.pla.fst 0)).length oc1) (.slice oa2 (asc 64 (x.pla.lst 0)).length oc2) (.slice fa3 i fc3) x.pla i)) (fun s8 _ => x.pla.cnt - (intOf s8).toNat)
      case atStart => exact ⟨0, none, 0, by omega, rfl, ⟨Mv.refl _ V, PF2.out.ob, Ov.nil _ _ _⟩⟩
      case round =>
        obtain ⟨i, fa3, fc3, hi, rfl, B⟩ := hrel
        have PW := Pg.box PF2.out.pg PF2.out.ob PF2.out.lt B.out.mv
        clear x0 x1 x2 x3 x4 x5 x6 x7 x8 x9
        obtain ⟨x0, x1, x2, x3, x4, x5, x6, x7, x8, x9⟩ := B5p.facts (show Hid _ from B.out.ob)
        obtain ⟨p0, p1, p2, p3, p4, p5, p6, p7, p8, p9⟩ := B5p.facts (show Hid _ from PW.out.pb)
        by_cases hlt : i < x.pla.cnt
        · obtain ⟨ub, rfl⟩ := PW.out.ov.some (by omega)
          obtain ⟨s, hsc, hsf, IS⟩ := PW.out.ov.at hlt
          obtain ⟨sa, sc, rfl⟩ := IS.form
          have HIS : Hid (Is wr (.slice sa (H i).length sc) (H i)) := IS
          have HUB : Hid (ub < V.heap.size) := (Ov.blk PF2.out.pg.ov (j := ub) rfl).2
          have QD2 : Hid (Qt wr wr.drew) := Qt.drew (Qt.refl _)
          have C3 : Hid (wr.cell? ⟨g, 3, none⟩ = some (.slice fa3 i fc3) ∧ wr.cell? ⟨w1.heap.size, 3, none⟩ = some (.slice (some ⟨ub, 0, none⟩) x.pla.cnt cu) ∧ wr.cell? ⟨ub, i, none⟩ = some (.slice sa (H i).length sc)) := ⟨x3, p3, hsc⟩
          have hgV : g < V.heap.size := PF2.out.ob.lt
          have hgpV : w1.heap.size < V.heap.size := PF2.out.pg.pb.lt
          have hic : (i : Int) < (x.pla.cnt : Int) := by omega
          have hi100 : i < 100 := by have := HC.out; omega
          clear IS hsf
          go_wp2_with fail
          refine Rest.begin (S := (fun w' => w'.cell? ⟨g, 3, none⟩ = some (.slice fa3 i fc3) ∧ w'.cell? ⟨w1.heap.size, 3, none⟩ = some (.slice (some ⟨ub, 0, none⟩) x.pla.cnt cu) ∧ w'.cell? ⟨ub, i, none⟩ = some (.slice sa (H i).length sc))) (st := [13]) (by kernel_rfl) (k3 C3 (QD2.out) (fun h => h) (fun h => h) (fun h => h)) (fun hHeld => ?_)
          refine Rest.plain (i := 0) _ (some 49) ?_ rfl rfl (by kernel_rfl) (by kernel_rfl) (by kernel_rfl) (by kernel_rfl) (fun _ _ _ h => h) (Or.inl ⟨by rfl, ?_⟩) (by assumption) ?_
          rotate_left
          · (intro w _; go_simp; try with_reducible rfl)
          try simp only [Act.put, List.setIfInBounds_toArray, List.set_cons_zero, List.set_cons_succ]
          refine Rest.take (i := 1) _ (some 50) ?_ rfl rfl (by kernel_rfl) (by kernel_rfl) (by kernel_rfl) (by kernel_rfl) (fun _ _ _ h => h) (Or.inl ⟨by rfl, ?_⟩) (by assumption) ?_
          rotate_left
          · (intro w hSw; (try dsimp only at hSw); go_simp; try with_reducible rfl)
          try simp only [Act.put, List.setIfInBounds_toArray, List.set_cons_zero, List.set_cons_succ]
          refine Rest.plain (i := 2) _ (some 51) ?_ rfl rfl (by kernel_rfl) (by kernel_rfl) (by kernel_rfl) (by kernel_rfl) (fun _ _ _ h => h) (Or.inl ⟨by rfl, ?_⟩) (by assumption) ?_
          rotate_left
          · (intro w _; go_simp; try with_reducible rfl)
          try simp only [Act.put, List.setIfInBounds_toArray, List.set_cons_zero, List.set_cons_succ]
          refine Rest.plain (i := 3) _ (some 52) ?_ rfl rfl (by kernel_rfl) (by kernel_rfl) (by kernel_rfl) (by kernel_rfl) (fun _ _ _ h => h) (Or.inl ⟨by rfl, ?_⟩) (by assumption) ?_
          rotate_left
          · (intro w _; go_simp; try with_reducible rfl)
          try simp only [Act.put, List.setIfInBounds_toArray, List.set_cons_zero, List.set_cons_succ]
          refine Rest.plain (i := 4) _ (some 53) ?_ rfl rfl (by kernel_rfl) (by kernel_rfl) (by kernel_rfl) (by kernel_rfl) (fun _ _ _ h => h) (Or.inl ⟨by rfl, ?_⟩) (by assumption) ?_
          rotate_left
          · (intro w _; go_simp; try with_reducible rfl)
          try simp only [Act.put, List.setIfInBounds_toArray, List.set_cons_zero, List.set_cons_succ]
          refine Rest.take (i := 5) _ (some 54) ?_ rfl rfl (by kernel_rfl) (by kernel_rfl) (by kernel_rfl) (by kernel_rfl) (fun _ _ _ h => h) (Or.inl ⟨by rfl, ?_⟩) (by assumption) ?_
          rotate_left
          · (intro w hSw; (try dsimp only at hSw); go_simp; try with_reducible rfl)
          try simp only [Act.put, List.setIfInBounds_toArray, List.set_cons_zero, List.set_cons_succ]
          refine Rest.plain (i := 6) _ (some 55) ?_ rfl rfl (by kernel_rfl) (by kernel_rfl) (by kernel_rfl) (by kernel_rfl) (fun _ _ _ h => h) (Or.inl ⟨by rfl, ?_⟩) (by assumption) ?_
          rotate_left
          · (intro w _; go_simp; try with_reducible rfl)
          try simp only [Act.put, List.setIfInBounds_toArray, List.set_cons_zero, List.set_cons_succ]
          refine Rest.plain (i := 7) _ (some 56) ?_ rfl rfl (by kernel_rfl) (by kernel_rfl) (by kernel_rfl) (by kernel_rfl) (fun _ _ _ h => h) (Or.inl ⟨by rfl, ?_⟩) (by assumption) ?_
          rotate_left
          · (intro w _; go_simp; try with_reducible rfl)
          try simp only [Act.put, List.setIfInBounds_toArray, List.set_cons_zero, List.set_cons_succ]
          refine Rest.take (i := 8) _ (some 57) ?_ rfl rfl (by kernel_rfl) (by kernel_rfl) (by kernel_rfl) (by kernel_rfl) (fun _ _ _ h => h) (Or.inl ⟨by rfl, ?_⟩) (by assumption) ?_
          rotate_left
          · (intro w hSw; (try dsimp only at hSw); go_simp; try with_reducible rfl)
          try simp only [Act.put, List.setIfInBounds_toArray, List.set_cons_zero, List.set_cons_succ]
          refine Rest.one (i := 9) (by kernel_rfl) rfl (fun K hK => ?_)
          go_simp
          go_at_call 27
          with_reducible refine (HR3.out i _ wr.drew (Is.hq HIS QD2.out)).mono ?_
          rintro e6 w6 ⟨o6, rfl, j6, r6⟩
          rw [E3.out i] at j6
          obtain ⟨ta, tc, rfl⟩ := j6.out.form
          have Q6 : Hid (Qt wr w6) := QD2.out.comp r6.out
          obtain ⟨vv, W7, r7, O7, M7, _⟩ := Ov.push (B.out.os.qt Q6.out) j6.out (by omega) (Nat.le_trans B.out.mv.size Q6.out.size)
          obtain ⟨qa, qc, _, eq, _⟩ := O7.vs
          subst eq
          have HO7 : Hid _ := O7
          have HM7 : Hid _ := M7
          have hbl : ∀ j, (Value.slice fa3 i fc3).ownBlock = some j → V.heap.size ≤ j := fun j e => (Ov.blk B.out.os e).1
          have MV7 : Hid (Mv (fun j => V.heap.size ≤ j) wr W7) := Mv.trans (Q6.out.mono (fun _ _ h => h.elim)) (M7.mono (fun j hj e => hbl j e)) (fun _ _ h => h)
          have o7 : B5p 41 g (.slice av x.pla.cnt cv) (.slice oa1 (asc 64 (x.pla.fst 0)).length oc1) (.slice oa2 (asc 64 (x.pla.lst 0)).length oc2) (.slice fa3 i fc3) (.bool x.pla.null) W7 := (B5p.mv B.out.ob MV7.out (by omega)).out
          clear O7 M7 hbl
          go_wp2_with fail
          refine hK.out _ _ (k3 C3 (Q6.out) (fun h => h) (fun h => h) (fun h => h)) (fun hHeld => ?_)
          try simp only [Act.put, List.setIfInBounds_toArray, List.set_cons_zero, List.set_cons_succ]
          clear hK K
          refine Rest.one (i := 10) (by kernel_rfl) rfl (fun K hK => ?_)
          go_simp
          refine hK.out _ _ (k3 C3 (Q6.out.alloc _) (fun h => h) (fun h => h) (fun h => h)) (fun hHeld => ?_)
          try simp only [Act.put, List.setIfInBounds_toArray, List.set_cons_zero, List.set_cons_succ]
          clear hK K
          refine Rest.one (i := 11) (by kernel_rfl) rfl (fun K hK => ?_)
          refine step_given rfl (.tmp 50) (.tmp 59) 35 rfl _ _ _ rfl rfl W7 r7 ?_
          refine hK.out _ _ (k3 C3 MV7.out (by show ¬ V.heap.size ≤ g; omega) (by show ¬ V.heap.size ≤ w1.heap.size; omega) (by show ¬ V.heap.size ≤ ub; have := HUB.out; omega)) (fun hHeld => ?_)
          try simp only [Act.put, List.setIfInBounds_toArray, List.set_cons_zero, List.set_cons_succ]
          clear hK K
          refine Rest.plain (i := 12) _ (some 61) ?_ rfl rfl (by kernel_rfl) (by kernel_rfl) (by kernel_rfl) (by kernel_rfl) (fun _ _ _ h => h) (Or.inl ⟨by rfl, ?_⟩) (by assumption) ?_
          rotate_left
          · (intro w _; go_simp; try with_reducible rfl)
          try simp only [Act.put, List.setIfInBounds_toArray, List.set_cons_zero, List.set_cons_succ]
          obtain ⟨y0, y1, y2, y3, y4, y5, y6, y7, y8, y9⟩ := B5p.facts (show Hid _ from o7)
          refine Rest.last (i := 13) (by kernel_rfl) rfl (by kernel_rfl) (fun K hK => ?_)
          go_simp
          refine hK.out _ _ ?_
          try simp only [Act.put, List.setIfInBounds_toArray, List.set_cons_zero, List.set_cons_succ]
          clear hK K
          clear y0 y1 y2 y3 y4 y5 y6 y7 y8 y9
          refine Rest.done (by kernel_rfl) ?_ _
          go_wp2_with fail
          exact ⟨⟨i + 1, qa, qc, by omega, by go_num, Lf.next B Q6.out HO7.out HM7.out rfl hgV⟩, by simp [intOf]; omega⟩
        · obtain rfl : i = x.pla.cnt := by omega
          obtain ⟨z0, z1, z2, z3, z4, z5, z6, z7, z8, z9⟩ := B5p.facts (show Hid _ from PW.out.zb)
          have hgz : g ≠ w.heap.size + 1 := by have := PF2.out.lt; have := PF2.out.pg.lo; omega
          go_wp2_with fail
          obtain ⟨t1, t2, t3⟩ := Lf.tell PF2 B HF.out.len
          refine bodyPost_ret (results_cell_tmp (p := 2) (u := 3) (ty := 41) rfl _ _ (w.heap.size + 1) 41 _ (0, 0) _ _ rfl rfl t3 Tryd.underlying41 rfl (by kernel_rfl)) rfl ?_
          exact ⟨_, _, _, _, rfl, t1, t2⟩
    · go_simp
      refine hK.out _ _ (k8 C8 (Q4.out.alloc _)) (fun hHeld => ?_)
      try simp only [Act.put, List.setIfInBounds_toArray, List.set_cons_zero, List.set_cons_succ]
      clear hK K
      refine Rest.one (i := 9) (by kernel_rfl) rfl (fun K hK => ?_)
      go_simp
      go_at_call 27
      with_reducible refine (HR2.out (w4.alloc (zeros5 41)) (Is.hq iL3 (Q4.out.alloc _))).mono ?_
      rintro e2w5 w5 ⟨o2, rfl, j2, r2⟩
      rw [E2.out] at j2
      obtain ⟨oa2, oc2, rfl⟩ := j2.out.form
      have Qw5 : Hid (Qt W3 w5) := (Q4.out.alloc _).comp r2.out
      go_wp2_with fail
      refine hK.out _ _ (k8 C8 (Qw5.out)) (fun hHeld => ?_)
      try simp only [Act.put, List.setIfInBounds_toArray, List.set_cons_zero, List.set_cons_succ]
      clear hK K
      have Q5 := Qw5
      have ZB := (B5p.mv (B5p.new w4 (.slice none 0 0) (.slice none 0 0) (.slice none 0 0) (.slice none 0 0) (.bool false)).out r2.out (fun h => h)).out
      refine Rest.plain (i := 12) _ (some 39) ?_ rfl rfl (by kernel_rfl) (by kernel_rfl) (by kernel_rfl) (by kernel_rfl) (fun _ _ _ h => h) (Or.inl ⟨by rfl, ?_⟩) (by assumption) ?_
      rotate_left
      · (intro w _; go_simp; try with_reducible rfl)
      try simp only [Act.put, List.setIfInBounds_toArray, List.set_cons_zero, List.set_cons_succ]
      have PF := Pf.old (Pg.step G3 Q5.out) ZB (by have := G3.out.pb.lt; have := QD.out.size; have := Q4.out.size; omega) (j1.out.qt ((Qt.alloc (Qt.refl _) _).comp r2.out)) j2.out
      have zz := B5p.facts (show Hid _ from ZB)
      obtain ⟨z0, z1, z2, z3, z4, z5, z6, z7, z8, z9⟩ := zz
      refine Rest.last (i := 14) (by kernel_rfl) rfl (by kernel_rfl) (fun K hK => ?_)
      go_simp
      refine hK.out _ _ ?_
      try simp only [Act.put, List.setIfInBounds_toArray, List.set_cons_zero, List.set_cons_succ]
      clear hK K
      refine Rest.done (by kernel_rfl) ?_ _
      clear z0 z1 z2 z3 z4 z5 z6 z7 z8 z9 p0 p1 p2 p3 p4 p5 p6 p7 p8 p9 x0 x1 x2 x3 x4 x5 x6 x7 x8 x9
      have PF2 : Hid (Pf w (((((w5.setCell ⟨w4.heap.size, 0, none⟩ (.slice av x.pla.cnt cv)).setCell ⟨w4.heap.size, 1, none⟩ (.slice oa1 (asc 64 (x.pla.fst 0)).length oc1)).setCell ⟨w4.heap.size, 2, none⟩ (.slice oa2 (asc 64 (x.pla.lst 0)).length oc2)).setCell ⟨w4.heap.size, 3, none⟩ (.slice none 0 0)).setCell ⟨w4.heap.size, 4, none⟩ (.bool x.pla.null)) w1.heap.size w4.heap.size (.slice av x.pla.cnt cv) (.slice au x.pla.cnt cu) (.slice oa1 (asc 64 (x.pla.fst 0)).length oc1) (.slice oa2 (asc 64 (x.pla.lst 0)).length oc2) x.pla H) := PF
      clear PF C8 QD ZB hHeld G3 iF3 iL3 BX HR1 HR2
      generalize (((((w5.setCell ⟨w4.heap.size, 0, none⟩ (.slice av x.pla.cnt cv)).setCell ⟨w4.heap.size, 1, none⟩ (.slice oa1 (asc 64 (x.pla.fst 0)).length oc1)).setCell ⟨w4.heap.size, 2, none⟩ (.slice oa2 (asc 64 (x.pla.lst 0)).length oc2)).setCell ⟨w4.heap.size, 3, none⟩ (.slice none 0 0)).setCell ⟨w4.heap.size, 4, none⟩ (.bool x.pla.null)) = V at *
      generalize w4.heap.size = g at *
      obtain ⟨x0, x1, x2, x3, x4, x5, x6, x7, x8, x9⟩ := B5p.facts (show Hid _ from PF2.out.ob)
      go_wp2_with fail
      go_loopw [8] (fun s8 wr => ∃ (i : Nat) (fa3 : Option Addr) (fc3 : Nat), i ≤ x.pla.cnt ∧ s8 = .int .i64 i ∧ Hid (Lf V wr g (.slice av x.pla.cnt cv) (.slice oa1 (asc 64 (x.pla.fst 0)).length oc1) (.slice oa2 (asc 64 (x.pla.lst 0)).length oc2) (.slice fa3 i fc3) x.pla i)) (fun s8 _ => x.pla.cnt - (intOf s8).toNat)
      case atStart => exact ⟨0, none, 0, by omega, rfl, ⟨Mv.refl _ V, PF2.out.ob, Ov.nil _ _ _⟩⟩
      case round =>
        obtain ⟨i, fa3, fc3, hi, rfl, B⟩ := hrel
        have PW := Pg.box PF2.out.pg PF2.out.ob PF2.out.lt B.out.mv
        clear x0 x1 x2 x3 x4 x5 x6 x7 x8 x9
        obtain ⟨x0, x1, x2, x3, x4, x5, x6, x7, x8, x9⟩ := B5p.facts (show Hid _ from B.out.ob)
        obtain ⟨p0, p1, p2, p3, p4, p5, p6, p7, p8, p9⟩ := B5p.facts (show Hid _ from PW.out.pb)
        by_cases hlt : i < x.pla.cnt
        · obtain ⟨ub, rfl⟩ := PW.out.ov.some (by omega)
          obtain ⟨s, hsc, hsf, IS⟩ := PW.out.ov.at hlt
          obtain ⟨sa, sc, rfl⟩ := IS.form
          have HIS : Hid (Is wr (.slice sa (H i).length sc) (H i)) := IS
          have HUB : Hid (ub < V.heap.size) := (Ov.blk PF2.out.pg.ov (j := ub) rfl).2
          have QD2 : Hid (Qt wr wr.drew) := Qt.drew (Qt.refl _)
          have C3 : Hid (wr.cell? ⟨g, 3, none⟩ = some (.slice fa3 i fc3) ∧ wr.cell? ⟨w1.heap.size, 3, none⟩ = some (.slice (some ⟨ub, 0, none⟩) x.pla.cnt cu) ∧ wr.cell? ⟨ub, i, none⟩ = some (.slice sa (H i).length sc)) := ⟨x3, p3, hsc⟩
          have hgV : g < V.heap.size := PF2.out.ob.lt
          have hgpV : w1.heap.size < V.heap.size := PF2.out.pg.pb.lt
          have hic : (i : Int) < (x.pla.cnt : Int) := by omega
          have hi100 : i < 100 := by have := HC.out; omega
          clear IS hsf
          go_wp2_with fail
          refine Rest.begin (S := (fun w' => w'.cell? ⟨g, 3, none⟩ = some (.slice fa3 i fc3) ∧ w'.cell? ⟨w1.heap.size, 3, none⟩ = some (.slice (some ⟨ub, 0, none⟩) x.pla.cnt cu) ∧ w'.cell? ⟨ub, i, none⟩ = some (.slice sa (H i).length sc))) (st := [13]) (by kernel_rfl) (k3 C3 (QD2.out) (fun h => h) (fun h => h) (fun h => h)) (fun hHeld => ?_)
          refine Rest.plain (i := 0) _ (some 49) ?_ rfl rfl (by kernel_rfl) (by kernel_rfl) (by kernel_rfl) (by kernel_rfl) (fun _ _ _ h => h) (Or.inl ⟨by rfl, ?_⟩) (by assumption) ?_
          rotate_left
          · (intro w _; go_simp; try with_reducible rfl)
          try simp only [Act.put, List.setIfInBounds_toArray, List.set_cons_zero, List.set_cons_succ]
          refine Rest.take (i := 1) _ (some 50) ?_ rfl rfl (by kernel_rfl) (by kernel_rfl) (by kernel_rfl) (by kernel_rfl) (fun _ _ _ h => h) (Or.inl ⟨by rfl, ?_⟩) (by assumption) ?_
          rotate_left
          · (intro w hSw; (try dsimp only at hSw); go_simp; try with_reducible rfl)
          try simp only [Act.put, List.setIfInBounds_toArray, List.set_cons_zero, List.set_cons_succ]
          refine Rest.plain (i := 2) _ (some 51) ?_ rfl rfl (by kernel_rfl) (by kernel_rfl) (by kernel_rfl) (by kernel_rfl) (fun _ _ _ h => h) (Or.inl ⟨by rfl, ?_⟩) (by assumption) ?_
          rotate_left
          · (intro w _; go_simp; try with_reducible rfl)
          try simp only [Act.put, List.setIfInBounds_toArray, List.set_cons_zero, List.set_cons_succ]
          refine Rest.plain (i := 3) _ (some 52) ?_ rfl rfl (by kernel_rfl) (by kernel_rfl) (by kernel_rfl) (by kernel_rfl) (fun _ _ _ h => h) (Or.inl ⟨by rfl, ?_⟩) (by assumption) ?_
          rotate_left
          · (intro w _; go_simp; try with_reducible rfl)
          try simp only [Act.put, List.setIfInBounds_toArray, List.set_cons_zero, List.set_cons_succ]
          refine Rest.plain (i := 4) _ (some 53) ?_ rfl rfl (by kernel_rfl) (by kernel_rfl) (by kernel_rfl) (by kernel_rfl) (fun _ _ _ h => h) (Or.inl ⟨by rfl, ?_⟩) (by assumption) ?_
          rotate_left
          · (intro w _; go_simp; try with_reducible rfl)
          try simp only [Act.put, List.setIfInBounds_toArray, List.set_cons_zero, List.set_cons_succ]
          refine Rest.take (i := 5) _ (some 54) ?_ rfl rfl (by kernel_rfl) (by kernel_rfl) (by kernel_rfl) (by kernel_rfl) (fun _ _ _ h => h) (Or.inl ⟨by rfl, ?_⟩) (by assumption) ?_
          rotate_left
          · (intro w hSw; (try dsimp only at hSw); go_simp; try with_reducible rfl)
          try simp only [Act.put, List.setIfInBounds_toArray, List.set_cons_zero, List.set_cons_succ]
          refine Rest.plain (i := 6) _ (some 55) ?_ rfl rfl (by kernel_rfl) (by kernel_rfl) (by kernel_rfl) (by kernel_rfl) (fun _ _ _ h => h) (Or.inl ⟨by rfl, ?_⟩) (by assumption) ?_
          rotate_left
          · (intro w _; go_simp; try with_reducible rfl)
          try simp only [Act.put, List.setIfInBounds_toArray, List.set_cons_zero, List.set_cons_succ]
          refine Rest.plain (i := 7) _ (some 56) ?_ rfl rfl (by kernel_rfl) (by kernel_rfl) (by kernel_rfl) (by kernel_rfl) (fun _ _ _ h => h) (Or.inl ⟨by rfl, ?_⟩) (by assumption) ?_
          rotate_left
          · (intro w _; go_simp; try with_reducible rfl)
          try simp only [Act.put, List.setIfInBounds_toArray, List.set_cons_zero, List.set_cons_succ]
          refine Rest.take (i := 8) _ (some 57) ?_ rfl rfl (by kernel_rfl) (by kernel_rfl) (by kernel_rfl) (by kernel_rfl) (fun _ _ _ h => h) (Or.inl ⟨by rfl, ?_⟩) (by assumption) ?_
          rotate_left
          · (intro w hSw; (try dsimp only at hSw); go_simp; try with_reducible rfl)
          try simp only [Act.put, List.setIfInBounds_toArray, List.set_cons_zero, List.set_cons_succ]
          refine Rest.one (i := 9) (by kernel_rfl) rfl (fun K hK => ?_)
          go_simp
          go_at_call 27
          with_reducible refine (HR3.out i _ wr.drew (Is.hq HIS QD2.out)).mono ?_
          rintro e6 w6 ⟨o6, rfl, j6, r6⟩
          rw [E3.out i] at j6
          obtain ⟨ta, tc, rfl⟩ := j6.out.form
          have Q6 : Hid (Qt wr w6) := QD2.out.comp r6.out
          obtain ⟨vv, W7, r7, O7, M7, _⟩ := Ov.push (B.out.os.qt Q6.out) j6.out (by omega) (Nat.le_trans B.out.mv.size Q6.out.size)
          obtain ⟨qa, qc, _, eq, _⟩ := O7.vs
          subst eq
          have HO7 : Hid _ := O7
          have HM7 : Hid _ := M7
          have hbl : ∀ j, (Value.slice fa3 i fc3).ownBlock = some j → V.heap.size ≤ j := fun j e => (Ov.blk B.out.os e).1
          have MV7 : Hid (Mv (fun j => V.heap.size ≤ j) wr W7) := Mv.trans (Q6.out.mono (fun _ _ h => h.elim)) (M7.mono (fun j hj e => hbl j e)) (fun _ _ h => h)
          have o7 : B5p 41 g (.slice av x.pla.cnt cv) (.slice oa1 (asc 64 (x.pla.fst 0)).length oc1) (.slice oa2 (asc 64 (x.pla.lst 0)).length oc2) (.slice fa3 i fc3) (.bool x.pla.null) W7 := (B5p.mv B.out.ob MV7.out (by omega)).out
          clear O7 M7 hbl
          go_wp2_with fail
          refine hK.out _ _ (k3 C3 (Q6.out) (fun h => h) (fun h => h) (fun h => h)) (fun hHeld => ?_)
          try simp only [Act.put, List.setIfInBounds_toArray, List.set_cons_zero, List.set_cons_succ]
          clear hK K
          refine Rest.one (i := 10) (by kernel_rfl) rfl (fun K hK => ?_)
          go_simp
          refine hK.out _ _ (k3 C3 (Q6.out.alloc _) (fun h => h) (fun h => h) (fun h => h)) (fun hHeld => ?_)
          try simp only [Act.put, List.setIfInBounds_toArray, List.set_cons_zero, List.set_cons_succ]
          clear hK K
          refine Rest.one (i := 11) (by kernel_rfl) rfl (fun K hK => ?_)
          refine step_given rfl (.tmp 50) (.tmp 59) 35 rfl _ _ _ rfl rfl W7 r7 ?_
          refine hK.out _ _ (k3 C3 MV7.out (by show ¬ V.heap.size ≤ g; omega) (by show ¬ V.heap.size ≤ w1.heap.size; omega) (by show ¬ V.heap.size ≤ ub; have := HUB.out; omega)) (fun hHeld => ?_)
          try simp only [Act.put, List.setIfInBounds_toArray, List.set_cons_zero, List.set_cons_succ]
          clear hK K
          refine Rest.plain (i := 12) _ (some 61) ?_ rfl rfl (by kernel_rfl) (by kernel_rfl) (by kernel_rfl) (by kernel_rfl) (fun _ _ _ h => h) (Or.inl ⟨by rfl, ?_⟩) (by assumption) ?_
          rotate_left
          · (intro w _; go_simp; try with_reducible rfl)
          try simp only [Act.put, List.setIfInBounds_toArray, List.set_cons_zero, List.set_cons_succ]
          obtain ⟨y0, y1, y2, y3, y4, y5, y6, y7, y8, y9⟩ := B5p.facts (show Hid _ from o7)
          refine Rest.last (i := 13) (by kernel_rfl) rfl (by kernel_rfl) (fun K hK => ?_)
          go_simp
          refine hK.out _ _ ?_
          try simp only [Act.put, List.setIfInBounds_toArray, List.set_cons_zero, List.set_cons_succ]
          clear hK K
          clear y0 y1 y2 y3 y4 y5 y6 y7 y8 y9
          refine Rest.done (by kernel_rfl) ?_ _
          go_wp2_with fail
          exact ⟨⟨i + 1, qa, qc, by omega, by go_num, Lf.next B Q6.out HO7.out HM7.out rfl hgV⟩, by simp [intOf]; omega⟩
        · obtain rfl : i = x.pla.cnt := by omega
          obtain ⟨z0, z1, z2, z3, z4, z5, z6, z7, z8, z9⟩ := B5p.facts (show Hid _ from PW.out.zb)
          have hgz : g ≠ w.heap.size + 1 := by have := PF2.out.lt; have := PF2.out.pg.lo; omega
          go_wp2_with fail
          obtain ⟨t1, t2, t3⟩ := Lf.tell PF2 B HF.out.len
          refine bodyPost_ret (results_cell_tmp (p := 2) (u := 3) (ty := 41) rfl _ _ (w.heap.size + 1) 41 _ (0, 0) _ _ rfl rfl t3 Tryd.underlying41 rfl (by kernel_rfl)) rfl ?_
          exact ⟨_, _, _, _, rfl, t1, t2⟩
  · go_simp
    refine hK.out _ _ (k8 C8 (QD.out.alloc _)) (fun hHeld => ?_)
    try simp only [Act.put, List.setIfInBounds_toArray, List.set_cons_zero, List.set_cons_succ]
    clear hK K
    refine Rest.one (i := 6) (by kernel_rfl) rfl (fun K hK => ?_)
    go_simp
    go_at_call 27
    with_reducible refine (HR1.out (W3.alloc (zeros5 41)).drew (Is.hq iF3 (Qt.drew ((Qt.refl _).alloc _)))).mono ?_
    rintro e1w4 w4 ⟨o1, rfl, j1, r1⟩
    rw [E1.out] at j1
    obtain ⟨oa1, oc1, rfl⟩ := j1.out.form
    have Qw4 : Hid (Qt W3 w4) := (Qt.drew ((Qt.refl _).alloc _)).comp r1.out
    go_wp2_with fail
    refine hK.out _ _ (k8 C8 (Qw4.out)) (fun hHeld => ?_)
    try simp only [Act.put, List.setIfInBounds_toArray, List.set_cons_zero, List.set_cons_succ]
    clear hK K
    have Q4 := Qw4
    refine Rest.one (i := 9) (by kernel_rfl) rfl (fun K hK => ?_)
    go_simp
    go_at_call 27
    with_reducible refine (HR2.out w4 (Is.hq iL3 (Q4.out))).mono ?_
    rintro e2w5 w5 ⟨o2, rfl, j2, r2⟩
    rw [E2.out] at j2
    obtain ⟨oa2, oc2, rfl⟩ := j2.out.form
    have Qw5 : Hid (Qt W3 w5) := (Q4.out).comp r2.out
    go_wp2_with fail
    refine hK.out _ _ (k8 C8 (Qw5.out)) (fun hHeld => ?_)
    try simp only [Act.put, List.setIfInBounds_toArray, List.set_cons_zero, List.set_cons_succ]
    clear hK K
    have Q5 := Qw5
    have ZB : B5p 41 W3.heap.size (.slice none 0 0) (.slice none 0 0) (.slice none 0 0) (.slice none 0 0) (.bool false) w5 := (B5p.mv (B5p.mv (B5p.new W3.drew (.slice none 0 0) (.slice none 0 0) (.slice none 0 0) (.slice none 0 0) (.bool false)).out r1.out (fun h => h)).out r2.out (fun h => h)).out
    refine Rest.plain (i := 12) _ (some 39) ?_ rfl rfl (by kernel_rfl) (by kernel_rfl) (by kernel_rfl) (by kernel_rfl) (fun _ _ _ h => h) (Or.inl ⟨by rfl, ?_⟩) (by assumption) ?_
    rotate_left
    · (intro w _; go_simp; try with_reducible rfl)
    try simp only [Act.put, List.setIfInBounds_toArray, List.set_cons_zero, List.set_cons_succ]
    have PF := Pf.old (Pg.step G3 Q5.out) ZB (by have := G3.out.pb.lt; have := QD.out.size; have := Q4.out.size; omega) (j1.out.qt r2.out) j2.out
    have zz := B5p.facts (show Hid _ from ZB)
    obtain ⟨z0, z1, z2, z3, z4, z5, z6, z7, z8, z9⟩ := zz
    refine Rest.last (i := 14) (by kernel_rfl) rfl (by kernel_rfl) (fun K hK => ?_)
    go_simp
    refine hK.out _ _ ?_
    try simp only [Act.put, List.setIfInBounds_toArray, List.set_cons_zero, List.set_cons_succ]
    clear hK K
    refine Rest.done (by kernel_rfl) ?_ _
    clear z0 z1 z2 z3 z4 z5 z6 z7 z8 z9 p0 p1 p2 p3 p4 p5 p6 p7 p8 p9 x0 x1 x2 x3 x4 x5 x6 x7 x8 x9
    have PF2 : Hid (Pf w (((((w5.setCell ⟨W3.heap.size, 0, none⟩ (.slice av x.pla.cnt cv)).setCell ⟨W3.heap.size, 1, none⟩ (.slice oa1 (asc 64 (x.pla.fst 0)).length oc1)).setCell ⟨W3.heap.size, 2, none⟩ (.slice oa2 (asc 64 (x.pla.lst 0)).length oc2)).setCell ⟨W3.heap.size, 3, none⟩ (.slice none 0 0)).setCell ⟨W3.heap.size, 4, none⟩ (.bool x.pla.null)) w1.heap.size W3.heap.size (.slice av x.pla.cnt cv) (.slice au x.pla.cnt cu) (.slice oa1 (asc 64 (x.pla.fst 0)).length oc1) (.slice oa2 (asc 64 (x.pla.lst 0)).length oc2) x.pla H) := PF
    clear PF C8 QD ZB hHeld G3 iF3 iL3 BX HR1 HR2
    generalize (((((w5.setCell ⟨W3.heap.size, 0, none⟩ (.slice av x.pla.cnt cv)).setCell ⟨W3.heap.size, 1, none⟩ (.slice oa1 (asc 64 (x.pla.fst 0)).length oc1)).setCell ⟨W3.heap.size, 2, none⟩ (.slice oa2 (asc 64 (x.pla.lst 0)).length oc2)).setCell ⟨W3.heap.size, 3, none⟩ (.slice none 0 0)).setCell ⟨W3.heap.size, 4, none⟩ (.bool x.pla.null)) = V at *
    generalize W3.heap.size = g at *
    obtain ⟨x0, x1, x2, x3, x4, x5, x6, x7, x8, x9⟩ := B5p.facts (show Hid _ from PF2.out.ob)
    go_wp2_with fail
    go_loopw [8] (fun s8 wr => ∃ (i : Nat) (fa3 : Option Addr) (fc3 : Nat), i ≤ x.pla.cnt ∧ s8 = .int .i64 i ∧ Hid (Lf V wr g (.slice av x.pla.cnt cv) (.slice oa1 (asc 64 (x.pla.fst 0)).length oc1) (.slice oa2 (asc 64 (x.pla.lst 0)).length oc2) (.slice fa3 i fc3) x.pla i)) (fun s8 _ => x.pla.cnt - (intOf s8).toNat)
    case atStart => exact ⟨0, none, 0, by omega, rfl, ⟨Mv.refl _ V, PF2.out.ob, Ov.nil _ _ _⟩⟩
    case round =>
      obtain ⟨i, fa3, fc3, hi, rfl, B⟩ := hrel
      have PW := Pg.box PF2.out.pg PF2.out.ob PF2.out.lt B.out.mv
      clear x0 x1 x2 x3 x4 x5 x6 x7 x8 x9
      obtain ⟨x0, x1, x2, x3, x4, x5, x6, x7, x8, x9⟩ := B5p.facts (show Hid _ from B.out.ob)
      obtain ⟨p0, p1, p2, p3, p4, p5, p6, p7, p8, p9⟩ := B5p.facts (show Hid _ from PW.out.pb)
      by_cases hlt : i < x.pla.cnt
      · obtain ⟨ub, rfl⟩ := PW.out.ov.some (by omega)
        obtain ⟨s, hsc, hsf, IS⟩ := PW.out.ov.at hlt
        obtain ⟨sa, sc, rfl⟩ := IS.form
        have HIS : Hid (Is wr (.slice sa (H i).length sc) (H i)) := IS
        have HUB : Hid (ub < V.heap.size) := (Ov.blk PF2.out.pg.ov (j := ub) rfl).2
        have QD2 : Hid (Qt wr wr.drew) := Qt.drew (Qt.refl _)
        have C3 : Hid (wr.cell? ⟨g, 3, none⟩ = some (.slice fa3 i fc3) ∧ wr.cell? ⟨w1.heap.size, 3, none⟩ = some (.slice (some ⟨ub, 0, none⟩) x.pla.cnt cu) ∧ wr.cell? ⟨ub, i, none⟩ = some (.slice sa (H i).length sc)) := ⟨x3, p3, hsc⟩
        have hgV : g < V.heap.size := PF2.out.ob.lt
        have hgpV : w1.heap.size < V.heap.size := PF2.out.pg.pb.lt
        have hic : (i : Int) < (x.pla.cnt : Int) := by omega
        have hi100 : i < 100 := by have := HC.out; omega
        clear IS hsf
        go_wp2_with fail
        refine Rest.begin (S := (fun w' => w'.cell? ⟨g, 3, none⟩ = some (.slice fa3 i fc3) ∧ w'.cell? ⟨w1.heap.size, 3, none⟩ = some (.slice (some ⟨ub, 0, none⟩) x.pla.cnt cu) ∧ w'.cell? ⟨ub, i, none⟩ = some (.slice sa (H i).length sc))) (st := [13]) (by kernel_rfl) (k3 C3 (QD2.out) (fun h => h) (fun h => h) (fun h => h)) (fun hHeld => ?_)
        refine Rest.plain (i := 0) _ (some 49) ?_ rfl rfl (by kernel_rfl) (by kernel_rfl) (by kernel_rfl) (by kernel_rfl) (fun _ _ _ h => h) (Or.inl ⟨by rfl, ?_⟩) (by assumption) ?_
        rotate_left
        · (intro w _; go_simp; try with_reducible rfl)
        try simp only [Act.put, List.setIfInBounds_toArray, List.set_cons_zero, List.set_cons_succ]
        refine Rest.take (i := 1) _ (some 50) ?_ rfl rfl (by kernel_rfl) (by kernel_rfl) (by kernel_rfl) (by kernel_rfl) (fun _ _ _ h => h) (Or.inl ⟨by rfl, ?_⟩) (by assumption) ?_
        rotate_left
        · (intro w hSw; (try dsimp only at hSw); go_simp; try with_reducible rfl)
        try simp only [Act.put, List.setIfInBounds_toArray, List.set_cons_zero, List.set_cons_succ]
        refine Rest.plain (i := 2) _ (some 51) ?_ rfl rfl (by kernel_rfl) (by kernel_rfl) (by kernel_rfl) (by kernel_rfl) (fun _ _ _ h => h) (Or.inl ⟨by rfl, ?_⟩) (by assumption) ?_
        rotate_left
        · (intro w _; go_simp; try with_reducible rfl)
        try simp only [Act.put, List.setIfInBounds_toArray, List.set_cons_zero, List.set_cons_succ]
        refine Rest.plain (i := 3) _ (some 52) ?_ rfl rfl (by kernel_rfl) (by kernel_rfl) (by kernel_rfl) (by kernel_rfl) (fun _ _ _ h => h) (Or.inl ⟨by rfl, ?_⟩) (by assumption) ?_
        rotate_left
        · (intro w _; go_simp; try with_reducible rfl)
        try simp only [Act.put, List.setIfInBounds_toArray, List.set_cons_zero, List.set_cons_succ]
        refine Rest.plain (i := 4) _ (some 53) ?_ rfl rfl (by kernel_rfl) (by kernel_rfl) (by kernel_rfl) (by kernel_rfl) (fun _ _ _ h => h) (Or.inl ⟨by rfl, ?_⟩) (by assumption) ?_
        rotate_left
        · (intro w _; go_simp; try with_reducible rfl)
        try simp only [Act.put, List.setIfInBounds_toArray, List.set_cons_zero, List.set_cons_succ]
        refine Rest.take (i := 5) _ (some 54) ?_ rfl rfl (by kernel_rfl) (by kernel_rfl) (by kernel_rfl) (by kernel_rfl) (fun _ _ _ h => h) (Or.inl ⟨by rfl, ?_⟩) (by assumption) ?_
        rotate_left
        · (intro w hSw; (try dsimp only at hSw); go_simp; try with_reducible rfl)
        try simp only [Act.put, List.setIfInBounds_toArray, List.set_cons_zero, List.set_cons_succ]
        refine Rest.plain (i := 6) _ (some 55) ?_ rfl rfl (by kernel_rfl) (by kernel_rfl) (by kernel_rfl) (by kernel_rfl) (fun _ _ _ h => h) (Or.inl ⟨by rfl, ?_⟩) (by assumption) ?_
        rotate_left
        · (intro w _; go_simp; try with_reducible rfl)
        try simp only [Act.put, List.setIfInBounds_toArray, List.set_cons_zero, List.set_cons_succ]
        refine Rest.plain (i := 7) _ (some 56) ?_ rfl rfl (by kernel_rfl) (by kernel_rfl) (by kernel_rfl) (by kernel_rfl) (fun _ _ _ h => h) (Or.inl ⟨by rfl, ?_⟩) (by assumption) ?_
        rotate_left
        · (intro w _; go_simp; try with_reducible rfl)
        try simp only [Act.put, List.setIfInBounds_toArray, List.set_cons_zero, List.set_cons_succ]
        refine Rest.take (i := 8) _ (some 57) ?_ rfl rfl (by kernel_rfl) (by kernel_rfl) (by kernel_rfl) (by kernel_rfl) (fun _ _ _ h => h) (Or.inl ⟨by rfl, ?_⟩) (by assumption) ?_
        rotate_left
        · (intro w hSw; (try dsimp only at hSw); go_simp; try with_reducible rfl)
        try simp only [Act.put, List.setIfInBounds_toArray, List.set_cons_zero, List.set_cons_succ]
        refine Rest.one (i := 9) (by kernel_rfl) rfl (fun K hK => ?_)
        go_simp
        go_at_call 27
        with_reducible refine (HR3.out i _ wr.drew (Is.hq HIS QD2.out)).mono ?_
        rintro e6 w6 ⟨o6, rfl, j6, r6⟩
        rw [E3.out i] at j6
        obtain ⟨ta, tc, rfl⟩ := j6.out.form
        have Q6 : Hid (Qt wr w6) := QD2.out.comp r6.out
        obtain ⟨vv, W7, r7, O7, M7, _⟩ := Ov.push (B.out.os.qt Q6.out) j6.out (by omega) (Nat.le_trans B.out.mv.size Q6.out.size)
        obtain ⟨qa, qc, _, eq, _⟩ := O7.vs
        subst eq
        have HO7 : Hid _ := O7
        have HM7 : Hid _ := M7
        have hbl : ∀ j, (Value.slice fa3 i fc3).ownBlock = some j → V.heap.size ≤ j := fun j e => (Ov.blk B.out.os e).1
        have MV7 : Hid (Mv (fun j => V.heap.size ≤ j) wr W7) := Mv.trans (Q6.out.mono (fun _ _ h => h.elim)) (M7.mono (fun j hj e => hbl j e)) (fun _ _ h => h)
        have o7 : B5p 41 g (.slice av x.pla.cnt cv) (.slice oa1 (asc 64 (x.pla.fst 0)).length oc1) (.slice oa2 (asc 64 (x.pla.lst 0)).length oc2) (.slice fa3 i fc3) (.bool x.pla.null) W7 := (B5p.mv B.out.ob MV7.out (by omega)).out
        clear O7 M7 hbl
        go_wp2_with fail
        refine hK.out _ _ (k3 C3 (Q6.out) (fun h => h) (fun h => h) (fun h => h)) (fun hHeld => ?_)
        try simp only [Act.put, List.setIfInBounds_toArray, List.set_cons_zero, List.set_cons_succ]
        clear hK K
        refine Rest.one (i := 10) (by kernel_rfl) rfl (fun K hK => ?_)
        go_simp
        refine hK.out _ _ (k3 C3 (Q6.out.alloc _) (fun h => h) (fun h => h) (fun h => h)) (fun hHeld => ?_)
        try simp only [Act.put, List.setIfInBounds_toArray, List.set_cons_zero, List.set_cons_succ]
        clear hK K
        refine Rest.one (i := 11) (by kernel_rfl) rfl (fun K hK => ?_)
        refine step_given rfl (.tmp 50) (.tmp 59) 35 rfl _ _ _ rfl rfl W7 r7 ?_
        refine hK.out _ _ (k3 C3 MV7.out (by show ¬ V.heap.size ≤ g; omega) (by show ¬ V.heap.size ≤ w1.heap.size; omega) (by show ¬ V.heap.size ≤ ub; have := HUB.out; omega)) (fun hHeld => ?_)
        try simp only [Act.put, List.setIfInBounds_toArray, List.set_cons_zero, List.set_cons_succ]
        clear hK K
        refine Rest.plain (i := 12) _ (some 61) ?_ rfl rfl (by kernel_rfl) (by kernel_rfl) (by kernel_rfl) (by kernel_rfl) (fun _ _ _ h => h) (Or.inl ⟨by rfl, ?_⟩) (by assumption) ?_
        rotate_left
        · (intro w _; go_simp; try with_reducible rfl)
        try simp only [Act.put, List.setIfInBounds_toArray, List.set_cons_zero, List.set_cons_succ]
        obtain ⟨y0, y1, y2, y3, y4, y5, y6, y7, y8, y9⟩ := B5p.facts (show Hid _ from o7)
        refine Rest.last (i := 13) (by kernel_rfl) rfl (by kernel_rfl) (fun K hK => ?_)
        go_simp
        refine hK.out _ _ ?_
        try simp only [Act.put, List.setIfInBounds_toArray, List.set_cons_zero, List.set_cons_succ]
        clear hK K
        clear y0 y1 y2 y3 y4 y5 y6 y7 y8 y9
        refine Rest.done (by kernel_rfl) ?_ _
        go_wp2_with fail
        exact ⟨⟨i + 1, qa, qc, by omega, by go_num, Lf.next B Q6.out HO7.out HM7.out rfl hgV⟩, by simp [intOf]; omega⟩
      · obtain rfl : i = x.pla.cnt := by omega
        obtain ⟨z0, z1, z2, z3, z4, z5, z6, z7, z8, z9⟩ := B5p.facts (show Hid _ from PW.out.zb)
        have hgz : g ≠ w.heap.size + 1 := by have := PF2.out.lt; have := PF2.out.pg.lo; omega
        go_wp2_with fail
        obtain ⟨t1, t2, t3⟩ := Lf.tell PF2 B HF.out.len
        refine bodyPost_ret (results_cell_tmp (p := 2) (u := 3) (ty := 41) rfl _ _ (w.heap.size + 1) 41 _ (0, 0) _ _ rfl rfl t3 Tryd.underlying41 rfl (by kernel_rfl)) rfl ?_
        exact ⟨_, _, _, _, rfl, t1, t2⟩


end Go.Proofs.YtojbakkbmfgoaaaDoor

namespace Go.Proofs.YtojbakkbmfgoaaaDoor
open Go.RowKit
set_option linter.unusedVariables false
set_option linter.unusedSimpArgs false

set_option maxRecDepth 20000 in
set_option maxHeartbeats 4000000 in
theorem same_any (L : List Nat) (hl : L.length < 90000) (s t : Value) (w : World) (hs : Hid (Is w s L)) (ht : Hid (Is w t L)) : Calls Tryd.prog 12 #[s, t] w fun e w' => e = .returned (.bool true) ∧ ∃ m, w' = w.drewN m := by
  obtain ⟨sa, sc, rfl⟩ := hs.out.form
  obtain ⟨ta, tc, rfl⟩ := ht.out.form
  go_enter Tryd.func12, Tryd.ntmps12
  go_wp2_with fail
  go_loopw [5] (fun s5 wr => ∃ i : Nat, i ≤ L.length ∧ s5 = .int .i64 i ∧ Hid (∃ m, wr = w.drewN m)) (fun s5 _ => L.length - (intOf s5).toNat)
  case atStart => exact ⟨0, by omega, rfl, ⟨0, rfl⟩⟩
  case round =>
    obtain ⟨i, hi, rfl, M⟩ := hrel
    have Q : Hid (Qt w wr) := by obtain ⟨m, e⟩ := M.out; rw [e]; exact Mv.drewN (fun _ => False) w m
    by_cases hlt : i < L.length
    · obtain ⟨c, hc⟩ : ∃ c, L[i]? = some c := ⟨_, List.getElem?_eq_getElem hlt⟩
      obtain ⟨b, o, p, e, _, k1⟩ := (hs.out.qt Q.out).at hc
      obtain ⟨rfl, _, rfl⟩ := Value.slice.inj e
      obtain ⟨b2, o2, p2, e2, _, k2⟩ := (ht.out.qt Q.out).at hc
      obtain ⟨rfl, _, rfl⟩ := Value.slice.inj e2
      have hli : (i : Int) < (L.length : Int) := by omega
      have hneq : ((c : Int) != (c : Int)) = false := by simp
      clear e e2 hc
      go_wp2_with fail
      go_quiet (fail)
      go_wp2_with fail
      exact ⟨⟨i + 1, by omega, by go_num, M.out.elim (fun m e => ⟨m + nq, by rw [e, World.drewN_drewN]⟩)⟩, by simp [intOf]; omega⟩
    · obtain rfl : i = L.length := by omega
      go_wp2_with fail
      go_ret
      exact ⟨rfl, M.out⟩

end Go.Proofs.YtojbakkbmfgoaaaDoor

namespace Go.Proofs.YtojbakkbmfgoaaaDoor
open Go.RowKit
set_option linter.unusedVariables false
set_option linter.unusedSimpArgs false

theorem Nd_le5 {d : Nat} (h : d ≤ 5) : Nd d ≤ 364 := by
  rcases (show d = 0 ∨ d = 1 ∨ d = 2 ∨ d = 3 ∨ d = 4 ∨ d = 5 from by omega) with rfl | rfl | rfl | rfl | rfl | rfl <;> decide
theorem Pl.tall5 {d : Nat} {x : RX} (h : Pl d x) (hd : d ≤ 5) : x.tall < 90000 := by
  have := tall_nodes x
  have := Nat.le_trans h.nodes (Nd_le5 hd)
  omega
theorem Pl.leaf {x : RX} (h : Pl 0 x) : may x = 0 ∧ x.pla = oneP x.set := by
  have hn : x.nodes ≤ 1 := h.nodes
  have hd : x.depth ≤ 1 := h.depth
  have hf := h.formed
  obtain ⟨k, p, l⟩ := x
  have h1 := nodes_at (⟨k, p, l⟩ : RX)
  have hl : l = [] := by
    cases l with
    | nil => rfl
    | cons y l =>
      have h2 := len_le_sum (y :: l)
      simp only [List.length_cons] at h2 h1
      omega
  subst hl
  have hnode := hf
  rw [formed_at, Bool.and_eq_true] at hnode
  have hn2 := hnode.1
  have hk := formed_kind hf
  unfold RX.node node at hn2
  simp only at hn2 hk
  have hk1 : k = 1 := by
    rcases hk with e | e | e | e | e | e <;> subst e
    · rfl
    all_goals exfalso; revert hn2; simp
  subst hk1
  refine ⟨?_, pla_set p []⟩
  unfold may
  rw [hf, if_neg (by decide), if_pos ⟨by omega, by omega⟩]

theorem may0 : may ⟨0, fun _ => false, []⟩ = 2 := by
  unfold may
  rw [formed_eq]
  rfl
theorem tall0 : RX.tall ⟨0, fun _ => false, []⟩ < 90000 := by
  have h1 := tall_nodes ⟨0, fun _ => false, []⟩
  rw [nodes_eq] at h1
  simp at h1
  omega
theorem of_zero (W : World) : Calls Tryd.prog 10 #[.agg #[.int .i64 0, .int .u64 0, .int .u64 0, .int .u64 0, .int .u64 0, .slice none 0 0]] W fun e w' => e = .returned (.tuple #[.agg #[.slice none 0 0, .slice none 0 0, .slice none 0 0, .slice none 0 0, .bool false], .int .i64 2]) ∧ Hid (Qt W w') := by
  have h := of_no ⟨0, fun _ => false, []⟩ (by rw [may0]; decide) (fun _ => False) none 0 W (fun _ h => h.elim) (parts_none W) tall0
  rw [may0] at h
  simp only [limb_none] at h
  exact h
set_option maxRecDepth 20000 in
set_option maxHeartbeats 4000000 in
theorem begun_true (w : World) (hT : Hid (Tab w)) (h0 : 0 < w.heap.size) : Calls Tryd.prog 7 #[] w fun e w' => e = .returned (.bool true) ∧ Hid (Qt w w') := by
  have QA : Hid (Qt w (w.alloc (.cells #[.int .u8 0] 5))) := Mv.alloc _ _ _
  have HS : Hid (Sl (w.alloc (.cells #[.int .u8 0] 5)) (some ⟨w.heap.size, 0, none⟩) 1 (Bn (fun _ => 0))) := by
    intro i hi
    obtain rfl : i = 0 := by omega
    exact ⟨_, _, rfl, by simp, by simp [Bn]⟩
  have hmade := made_any (some ⟨w.heap.size, 0, none⟩) 1 1 (fun _ => 0) _ HS (by omega) (fun _ _ => by omega) (fun q hq => by cases hq; simp)
  rw [show (w.alloc (.cells #[.int .u8 0] 5)).heap.size = w.heap.size + 1 from by simp] at hmade
  have hrx : ∀ g W, Hid (Pk W g (some ⟨w.heap.size, 0, none⟩) 1 1 (fun _ => 0) 0) → Calls Tryd.prog 9 #[.pointer (some ⟨g, 0, none⟩), .int .i64 0] W fun e w' => RxP 0 W g (some ⟨w.heap.size, 0, none⟩) 1 1 (fun _ => 0) e w' := fun g W h => rx_any 0 (by decide) g _ 1 1 _ 0 W h
  go_enter Tryd.func7, Tryd.ntmps7
  go_wp2_with fail
  refine hmade.mono ?_
  rintro e1 w1 ⟨rfl, p1, q1⟩
  go_wp2_with fail
  refine (hrx _ _ p1).mono ?_
  intro e2 w2 h2
  obtain ⟨x, pa, pc, n2, rfl, plx, px, p2, m2⟩ := h2
  have Q2 : Hid (Qt w w2) := Mv.trans (QA.out.comp q1.out) m2.out (fun j hj e => by have := QA.out.size; omega)
  obtain ⟨hm, hpl⟩ := plx.out.leaf
  have hof := of_yes x hm _ pa pc w2 (fun j h => h.2) px.out.lt (plx.out.tall5 (by decide)) (show Hid _ from hT.out.qt Q2.out) (Nat.lt_of_lt_of_le h0 Q2.out.size)
  clear hrx hmade p1 p2 px q1 m2
  go_wp2_with fail
  refine hof.mono ?_
  intro e3 w3 h3
  unfold OfP at h3
  rw [hpl] at h3
  obtain ⟨s, f, l, g, rfl, PV, q3⟩ := h3
  have Q3 : Hid (Qt w w3) := Q2.out.comp q3.out
  obtain ⟨sa, sc, rfl, _⟩ := PV.out.sets
  obtain ⟨fa, fc, rfl⟩ := PV.out.fst.form
  obtain ⟨la, lc, rfl⟩ := PV.out.lst.form
  obtain ⟨ga, gc, _, rfl, _⟩ := PV.out.fol
  have hfl : (asc 64 ((oneP x.set).fst 0)).length = 1 := by
    have : asc 64 ((oneP x.set).fst 0) = [0] := by
      show asc 64 (fun n => n == 0) = [0]
      kernel_rfl
    rw [this]; rfl
  have hnl : (oneP x.set).null = false := rfl
  have hsl : (oneP x.set).sets.length = 1 := rfl
  have hcl : (oneP x.set).cnt = 1 := rfl
  rw [hfl, hnl, hsl, hcl]
  generalize (asc 64 ((oneP x.set).lst 0)).length = ll at *
  have BX : Hid (B5p 37 w3.heap.size (.slice sa 1 sc) (.slice fa 1 fc) (.slice la ll lc) (.slice ga 1 gc) (.bool false) (w3.alloc (.cells #[.slice sa 1 sc, .slice fa 1 fc, .slice la ll lc, .slice ga 1 gc, .bool false] 37))) := heap_alloc_new w3 _
  have QX : Hid (Qt w (w3.alloc (.cells #[.slice sa 1 sc, .slice fa 1 fc, .slice la ll lc, .slice ga 1 gc, .bool false] 37))) := Q3.out.alloc _
  obtain ⟨x0, x1, x2, x3, x4, x5, x6, x7, x8, x9⟩ := B5p.facts BX
  clear PV hof plx hm hpl hfl hnl hsl hcl
  go_wp2_with fail
  refine (of_zero _).mono ?_
  rintro e4 w4 ⟨rfl, q4⟩
  have BX4 := B5p.mv BX.out q4.out (fun h => h)
  have hsz4 : w3.heap.size < w4.heap.size := BX4.out.lt
  clear x0 x1 x2 x3 x4 x5 x6 x7 x8 x9
  obtain ⟨x0, x1, x2, x3, x4, x5, x6, x7, x8, x9⟩ := B5p.facts BX4
  go_wp2_with fail
  go_ret
  exact ⟨rfl, (QX.out.comp q4.out).alloc _⟩

end Go.Proofs.YtojbakkbmfgoaaaDoor
