/- Bytes, At, New of a text over a file. -/
import Derived.Test.YtdhdkbaalgdicaaDB
namespace Go.Proofs.Ytdhdkbaalgdicaa
open Go.RowKit
set_option linter.unusedVariables false

set_option maxRecDepth 20000 in
theorem errnoD_any (x : Int) (w : World) : Calls Try.prog 33 #[.iface 27 (.int .i64 x)] w fun e w' => e = .returned (.int .i64 x) ∧ w' = w := by
  have hta : (Instr.typeAssert (.iface 27 (.int .i64 x)) 20 27 true).run Try.prog w = .ok (.tuple #[.int .i64 x, .bool true]) w := by first | kernel_rfl | rfl
  go_enter Try.func33, Try.ntmps33
  go_wp2
  go_ret
  exact ⟨rfl, rfl⟩
theorem catchD_idle (p q : Addr) (w : World) :
    CallsD Try.prog 32 #[.pointer (some p), .pointer (some q)] .returning w fun e u' w' => e = .returned (.tuple #[]) ∧ u' = .returning ∧ w' = w := by
  refine callsD_of_wpS Try.func32 rfl fun c₀ cs hu => ?_
  apply wpS_seq
  apply wpS_region
  simp [wpOpsS, go_sem, recoverD, hu, Try.ntmps32, Exit.thenS]
  refine wpS_of_wp ?_
  rw [show (#[Value.pointer (some p), Value.pointer (some q)] ++ ((Array.replicate 6 undef).setIfInBounds 1 Value.nilIface).setIfInBounds 0 Value.nilIface) = #[Value.pointer (some p), Value.pointer (some q), Value.nilIface, Value.nilIface, undef, undef, undef, undef] from rfl]
  go_wp2_with fail
  cases c₀
  simp_all [bodyPostS, results, Try.results32]
theorem catchD_panicking (p q : Addr) (w : World) (y z : Value) (hc : w.cell? p = some y) (hz : w.frozen? p = false) (hc2 : w.cell? q = some z) (hz2 : w.frozen? q = false) (hqr : p ≠ q) :
    CallsD Try.prog 32 #[.pointer (some p), .pointer (some q)] (.panicking fchain) w fun e u' w' =>
      e = .returned (.tuple #[]) ∧ u' = .panicking [{ v := .iface 27 (.int .i64 11), recovered := true }] ∧ w' = (w.setCell p (.slice none 0 0)).setCell q (.int .i64 11) := by
  refine callsD_of_wpS Try.func32 rfl fun c₀ cs hu => ?_
  unfold fchain at hu
  apply wpS_seq
  apply wpS_region
  simp [wpOpsS, go_sem, recoverD, hu, Try.ntmps32, Exit.thenS]
  refine wpS_of_wp ?_
  rw [show (#[Value.pointer (some p), Value.pointer (some q)] ++ ((Array.replicate 6 undef).setIfInBounds 1 (Value.iface 27 (.int .i64 11))).setIfInBounds 0 (Value.iface 27 (.int .i64 11))) = #[Value.pointer (some p), Value.pointer (some q), (Value.iface 27 (.int .i64 11)), (Value.iface 27 (.int .i64 11)), undef, undef, undef, undef] from rfl]
  go_wp2_with fail
  refine (errnoD_any 11 w).mono ?_
  rintro e w1 ⟨rfl, hw⟩
  obtain rfl := hw.symm
  clear hw
  go_wp2_with fail
  exact ⟨rfl, _, rfl, .tuple #[], by simp [results, Try.results32], rfl, rfl, rfl⟩

section
variable {W : World} {dp fq tp : Nat} {d : Pd} {mo : Int} {l : List Int} {bad : Nat → Bool} {R : List Int} {L : List Bt} {m : Nat} {A : Nat → Int} {Y Z : Nat → Prop}

theorem w2_qt (W : World) : Qt W (w2 W) := ((Qt.refl W).alloc _).alloc _
/-- The two cells of the call, and all that is about, behind the length's call. -/
structure Mid (W w1 : World) (dp fq tp : Nat) (d : Pd) (mo : Int) (l : List Int) (bad : Nat → Bool) (R : List Int) (L : List Bt) (m : Nat) (A : Nat → Int) (Y Z Y1 Z1 : Nat → Prop) : Prop where
  D : Ds w1 dp fq tp d mo l bad R L m A Y1 Z1
  y : ∀ k, Y k → Y1 k
  z : ∀ k, Z k → Z1 k
  cy : ∀ k, W.heap.size ≤ k → k < W.heap.size + 2 → Y1 k ∧ Z1 k
  q2 : Qt (w2 W) w1
  lt : dp < W.heap.size ∧ d.top ≤ W.heap.size
theorem Mid.of {w1 : World} (h : Ds W dp fq tp d mo l bad R L m A Y Z) (q2 : Qt (w2 W) w1) : ∃ Y1 Z1, Mid W w1 dp fq tp d mo l bad R L m A Y Z Y1 Z1 := by
  have hs := w2_size W
  have hq := q2.size
  refine ⟨_, _, h.qt ((w2_qt W).comp q2), fun k hk => .inl hk, fun k hk => .inl hk, fun k h1 h2 => ⟨.inr ⟨h1, by omega⟩, .inr ⟨h1, by omega⟩⟩, q2, h.lt, h.top⟩
section
variable {w1 V : World} {Y1 Z1 : Nat → Prop}
theorem Mid.cells (h : Mid W w1 dp fq tp d mo l bad R L m A Y Z Y1 Z1) (M : Mv (fun j => ¬ Y1 j) w1 V) : V.cell? ⟨W.heap.size, 0, none⟩ = some (.slice none 0 0) ∧ V.frozen? ⟨W.heap.size, 0, none⟩ = false ∧ V.cell? ⟨W.heap.size + 1, 0, none⟩ = some (.int .i64 0) ∧ V.frozen? ⟨W.heap.size + 1, 0, none⟩ = false :=
  w2_kept (Z := fun j => W.heap.size ≤ j ∧ j < W.heap.size + 2) ((h.q2.mono (fun _ _ e => e.elim)).trans M (fun j _ e hy => e (h.cy j hy.1 hy.2).1)) ⟨Nat.le_refl _, by omega⟩ ⟨by omega, by omega⟩
theorem Mid.ok {X : List Bt} {v : Value} (h : Mid W w1 dp fq tp d mo l bad R L m A Y Z Y1 Z1) (K : Wok w1 V dp fq tp d mo bad R L m A Y1 Z1 X v) : Wok W (w2f W V v 0) dp fq tp d mo bad R L m A Y Z X v := by
  obtain ⟨l', R', Y', Z', D, hy, hz, hv, O, M, rd⟩ := K
  have hM := w2f_mv W V v 0
  have h1 := h.lt
  have hs := w2_size W
  have hq := h.q2.size
  refine ⟨l', R', _, _, D.mv hM (fun j hj => ⟨hy j (h.cy j hj.1 hj.2).1, hz j (h.cy j hj.1 hj.2).2, by omega, .inl (by omega)⟩), fun k hk => .inl (hy k (h.y k hk)), fun k hk => .inl (hz k (h.z k hk)), fun k hk => ⟨.inl (hv k hk).1, .inl (hv k hk).2⟩, ow_mono (hM.owns O (fun k hk e => ?_)) (fun k hk => ?_), ?_, rd⟩
  · have := (ow_blk O k hk).1; omega
  · have := (ow_blk O k hk).1; omega
  · exact ((((w2_qt W).comp h.q2).mono (fun _ _ e => e.elim)).trans M (fun j _ e hy' => e (h.y j hy'))).trans hM (fun j hj e => by omega)
theorem Mid.no {X : List Bt} (h : Mid W w1 dp fq tp d mo l bad R L m A Y Z Y1 Z1) (v : Value) (e : Int) (K : Wno w1 V dp fq tp d mo bad R L m A Y1 Z1 X) : Wno W (w2f W V v e) dp fq tp d mo bad R L m A Y Z X := by
  obtain ⟨l', R', Y', Z', D, hy, hz, M, rd⟩ := K
  have hM := w2f_mv W V v e
  have h1 := h.lt
  have hs := w2_size W
  have hq := h.q2.size
  refine ⟨l', R', _, _, D.mv hM (fun j hj => ⟨hy j (h.cy j hj.1 hj.2).1, hz j (h.cy j hj.1 hj.2).2, by omega, .inl (by omega)⟩), fun k hk => .inl (hy k (h.y k hk)), fun k hk => .inl (hz k (h.z k hk)), ?_, rd⟩
  exact ((((w2_qt W).comp h.q2).mono (fun _ _ e => e.elim)).trans M (fun j _ e hy' => e (h.y j hy'))).trans hM (fun j hj e => by omega)
end

set_option maxHeartbeats 1000000 in
theorem dbytes_ok (h : Hid (Ds W dp fq tp d mo l bad R L m A Y Z)) (a b : Nat) (hab : a ≤ b) (hb : b ≤ L.length) (hR : R.length + (b - a) < 20000) (hg : Gd d bad ((L.take b).drop a)) :
    Calls Try.prog 18 #[.pointer (some ⟨dp, 0, none⟩), .int .i64 a, .int .i64 b] W fun e W' => ∃ xa xc, e = .returned (.tuple #[.slice xa (b - a) xc, .int .i64 0]) ∧ Wok W W' dp fq tp d mo bad R L m A Y Z ((L.take b).drop a) (.slice xa (b - a) xc) := by
  have hmf := make_fn
  have D2 : Hid _ := h.out.qt (w2_qt W)
  have HA := hasParts_yes D2
  have HL := dlen_any D2
  have z1 : (a : Int) ≤ b := by omega
  have z2 : (b : Int) ≤ L.length := by omega
  have HG : Hid (Gd d bad ((L.take b).drop a)) := hg
  have LX : Hid ((((L.take b).drop a).map (bt d.f A)).length = b - a) := by show _ = _; rw [List.length_map, List.length_drop, List.length_take]; omega
  have WN : Hid (∀ w1 Y1 Z1, Ds w1 dp fq tp d mo l bad R L m A Y1 Z1 → Calls Try.prog 34 #[.pointer (some ⟨dp, 0, none⟩), .int .i64 a, .int .i64 b] w1 fun e V => Wend w1 dp fq tp d mo bad R L m A Y1 Z1 ((L.take b).drop a) e V) := fun w1 Y1 Z1 D => window_any (h := (D : Hid _)) a b hab hb hR
  clear hab hb hR hg D2
  generalize (L.take b).drop a = X at *
  go_enter_defers Try.func18, Try.ntmps18
  go_wp2_with fail
  refine HA.mono ?_
  rintro e w1 ⟨rfl, hw⟩
  subst hw
  go_wp2_with fail
  refine HL.mono ?_
  rintro e w1 ⟨rfl, q1⟩
  clear HA HL
  obtain ⟨Y1, Z1, MI0⟩ := Mid.of h.out q1.out
  have MI : Hid _ := MI0
  have WC := WN.out w1 Y1 Z1 MI0.D
  clear MI0
  go_wp2_with fail
  refine WC.mono ?_
  rintro e V hE
  clear WC WN
  rcases hE with ⟨v, rfl, _, K0⟩ | ⟨_, ng, _⟩
  · have K : Hid (Wok w1 V dp fq tp d mo bad R L m A Y1 Z1 X v) := K0
    obtain ⟨xa, xc, rfl⟩ : ∃ xa xc, v = .slice xa (b - a) xc := by
      obtain ⟨_, _, _, _, _, _, _, _, O, _⟩ := K0
      obtain ⟨a2, c2, e2, _⟩ := ow_ls O
      rw [LX.out] at e2
      exact ⟨a2, c2, e2⟩
    obtain ⟨n0, f0, n1, f1⟩ := MI.out.cells (V := V) (by obtain ⟨_, _, _, _, _, _, _, _, _, M, _⟩ := K0; exact M)
    clear K0
    obtain ⟨v0, v1⟩ := w2f_at (.slice xa (b - a) xc) 0 n0 n1
    have FIN := MI.out.ok K.out
    clear K MI LX HG q1 h
    generalize hn : b - a = n at *
    have HN : Hid _ := hn
    clear hn
    go_wp2_with fail
    refine leaves_cons (f := 32) (args := #[.pointer (some ⟨W.heap.size, 0, none⟩), .pointer (some ⟨W.heap.size + 1, 0, none⟩)]) (by simp) (by simp [go_sem]) ?_
    refine (catchD_idle ⟨W.heap.size, 0, none⟩ ⟨W.heap.size + 1, 0, none⟩ _).mono ?_
    rintro e u' w'' ⟨rfl, rfl, rfl⟩
    rw [show ((V.setCell ⟨W.heap.size, 0, none⟩ (.slice xa n xc)).setCell ⟨W.heap.size + 1, 0, none⟩ (.int .i64 0)) = w2f W V (.slice xa n xc) 0 from rfl]
    clear n0 f0 n1 f1
    generalize w2f W V (.slice xa n xc) 0 = Zw at *
    simp [Leaves, settle, results, Try.results18, go_sem, v0, v1]
    exact ⟨xa, xc, ⟨rfl, HN.out.symm, rfl⟩, by rw [HN.out]; exact FIN⟩
  · exact (ng HG.out).elim
set_option maxHeartbeats 1000000 in
theorem dbytes_bad (h : Hid (Ds W dp fq tp d mo l bad R L m A Y Z)) (a b : Nat) (hab : a ≤ b) (hb : b ≤ L.length) (hR : R.length + (b - a) < 20000) (hg : ¬ Gd d bad ((L.take b).drop a)) :
    Calls Try.prog 18 #[.pointer (some ⟨dp, 0, none⟩), .int .i64 a, .int .i64 b] W fun e W' => e = .returned (.tuple #[.slice none 0 0, .int .i64 11]) ∧ Wno W W' dp fq tp d mo bad R L m A Y Z ((L.take b).drop a) := by
  have hmf := make_fn
  have D2 : Hid _ := h.out.qt (w2_qt W)
  have HA := hasParts_yes D2
  have HL := dlen_any D2
  have z1 : (a : Int) ≤ b := by omega
  have z2 : (b : Int) ≤ L.length := by omega
  have HG : Hid (¬ Gd d bad ((L.take b).drop a)) := hg
  have LX : Hid ((((L.take b).drop a).map (bt d.f A)).length = b - a) := by show _ = _; rw [List.length_map, List.length_drop, List.length_take]; omega
  have WN : Hid (∀ w1 Y1 Z1, Ds w1 dp fq tp d mo l bad R L m A Y1 Z1 → Calls Try.prog 34 #[.pointer (some ⟨dp, 0, none⟩), .int .i64 a, .int .i64 b] w1 fun e V => Wend w1 dp fq tp d mo bad R L m A Y1 Z1 ((L.take b).drop a) e V) := fun w1 Y1 Z1 D => window_any (h := (D : Hid _)) a b hab hb hR
  clear hab hb hR hg D2
  generalize (L.take b).drop a = X at *
  go_enter_defers Try.func18, Try.ntmps18
  go_wp2_with fail
  refine HA.mono ?_
  rintro e w1 ⟨rfl, hw⟩
  subst hw
  go_wp2_with fail
  refine HL.mono ?_
  rintro e w1 ⟨rfl, q1⟩
  clear HA HL
  obtain ⟨Y1, Z1, MI0⟩ := Mid.of h.out q1.out
  have MI : Hid _ := MI0
  have WC := WN.out w1 Y1 Z1 MI0.D
  clear MI0
  go_wp2_with fail
  refine WC.mono ?_
  rintro e V hE
  clear WC WN
  rcases hE with ⟨v, _, g, _⟩ | ⟨rfl, ng, K0⟩
  · exact (HG.out g).elim
  · have K : Hid (Wno w1 V dp fq tp d mo bad R L m A Y1 Z1 X) := K0
    obtain ⟨n0, f0, n1, f1⟩ := MI.out.cells (V := V) (by obtain ⟨_, _, _, _, _, _, _, M, _⟩ := K0; exact M)
    clear K0
    obtain ⟨v0, v1⟩ := w2f_at (.slice none 0 0) 11 n0 n1
    have FIN := MI.out.no (.slice none 0 0) 11 K.out
    clear K MI LX HG q1 h ng
    refine leaves_cons (f := 32) (args := #[.pointer (some ⟨W.heap.size, 0, none⟩), .pointer (some ⟨W.heap.size + 1, 0, none⟩)]) (by simp) (by simp [go_sem]) ?_
    refine (catchD_panicking ⟨W.heap.size, 0, none⟩ ⟨W.heap.size + 1, 0, none⟩ _ _ _ n0 f0 n1 f1 (by simp)).mono ?_
    rintro e u' w'' ⟨rfl, rfl, rfl⟩
    rw [show ((V.setCell ⟨W.heap.size, 0, none⟩ (.slice none 0 0)).setCell ⟨W.heap.size + 1, 0, none⟩ (.int .i64 11)) = w2f W V (.slice none 0 0) 11 from rfl]
    clear n0 f0 n1 f1
    generalize w2f W V (.slice none 0 0) 11 = Zw at *
    simp [Leaves, settle, results, Try.results18, go_sem, v0, v1]
    exact FIN

set_option maxHeartbeats 1000000 in
theorem dbytes_nil (a b : Int) (w : World) : Calls Try.prog 18 #[.pointer none, .int .i64 a, .int .i64 b] w fun e w' => e = .returned (.tuple #[.slice none 0 0, .int .i64 1]) ∧ Below w.heap.size w w' := by
  go_enter_defers Try.func18, Try.ntmps18
  go_wp2_with fail
  refine (hasParts_nil _).mono ?_
  rintro e w1 ⟨rfl, hw⟩
  subst hw
  go_wp2_with fail
  simp [bodyPostD, Leaves, results, Try.results18, go_sem]
  exact ((Below.refl _ w).alloc (Nat.le_refl _) _).alloc (by simp) _
set_option maxHeartbeats 1000000 in
theorem dbytes_nof (dp : Nat) (a b : Int) (w : World) (hc : w.cell? ⟨dp, 0, none⟩ = some (.pointer none)) : Calls Try.prog 18 #[.pointer (some ⟨dp, 0, none⟩), .int .i64 a, .int .i64 b] w fun e w' => e = .returned (.tuple #[.slice none 0 0, .int .i64 1]) ∧ Below w.heap.size w w' := by
  have hl : dp < w.heap.size := World.block_lt_of_cell? _ _ hc
  go_enter_defers Try.func18, Try.ntmps18
  go_wp2_with fail
  refine (hasParts_nof dp _ ?_).mono ?_
  · exact ((w2_below w).cell (p := ⟨dp, 0, none⟩) hl).trans hc
  rintro e w1 ⟨rfl, hw⟩
  subst hw
  go_wp2_with fail
  simp [bodyPostD, Leaves, results, Try.results18, go_sem]
  exact ((Below.refl _ w).alloc (Nat.le_refl _) _).alloc (by simp) _
set_option maxHeartbeats 1000000 in
theorem dbytes_arg (h : Hid (Ds W dp fq tp d mo l bad R L m A Y Z)) (a b : Int) (hr : a < 0 ∨ b < a ∨ (L.length : Int) < b) : Calls Try.prog 18 #[.pointer (some ⟨dp, 0, none⟩), .int .i64 a, .int .i64 b] W fun e w' => e = .returned (.tuple #[.slice none 0 0, .int .i64 1]) ∧ Qt W w' := by
  have D2 : Hid _ := h.out.qt (w2_qt W)
  have HA := hasParts_yes D2
  have HL := dlen_any D2
  have hs : Hid _ := w2_size W
  clear D2
  have VV : Hid (∀ V, Qt (w2 W) V → V.cell? ⟨W.heap.size, 0, none⟩ = some (.slice none 0 0) ∧ V.cell? ⟨W.heap.size + 1, 0, none⟩ = some (.int .i64 0) ∧ V.frozen? ⟨W.heap.size, 0, none⟩ = false ∧ V.frozen? ⟨W.heap.size + 1, 0, none⟩ = false ∧ (w2f W V (.slice none 0 0) 1).cell? ⟨W.heap.size, 0, none⟩ = some (.slice none 0 0) ∧ (w2f W V (.slice none 0 0) 1).cell? ⟨W.heap.size + 1, 0, none⟩ = some (.int .i64 1) ∧ Qt W (w2f W V (.slice none 0 0) 1)) := by
    intro V q
    obtain ⟨n0, f0, n1, f1⟩ := w2_new W
    have m0 := q.cell n0 (fun h => h)
    have m1 := q.cell n1 (fun h => h)
    have g0 := (q.frozen (p := ⟨W.heap.size, 0, none⟩) (by have := hs.out; show W.heap.size < _; omega) (fun h => h)).trans f0
    have g1 := (q.frozen (p := ⟨W.heap.size + 1, 0, none⟩) (by have := hs.out; show W.heap.size + 1 < _; omega) (fun h => h)).trans f1
    have v := w2f_at (.slice none 0 0) 1 m0 m1
    exact ⟨m0, m1, g0, g1, v.1, v.2, ((w2_qt W).comp q).trans (w2f_mv W V _ _) (fun j hj e => by omega)⟩
  by_cases h1 : a < 0
  · clear hr
    obtain ⟨m0, m1, g0, g1, v0, v1, FIN0⟩ := VV.out (w2 W) (Qt.refl _)
    have FIN : Hid _ := FIN0
    clear FIN0 VV hs
    unfold w2f at v0 v1 FIN
    go_enter_defers Try.func18, Try.ntmps18
    go_wp2_with fail
    refine HA.mono ?_
    rintro e w1 ⟨rfl, hw⟩
    subst hw
    clear HA HL
    go_wp2_with fail
    simp [bodyPostD, Leaves, results, Try.results18, go_sem, v0, v1]
    exact FIN.out
  · by_cases h2 : b < a
    · clear hr
      have h1' : 0 ≤ a := by omega
      obtain ⟨m0, m1, g0, g1, v0, v1, FIN0⟩ := VV.out (w2 W) (Qt.refl _)
      have FIN : Hid _ := FIN0
      clear FIN0 VV hs
      unfold w2f at v0 v1 FIN
      go_enter_defers Try.func18, Try.ntmps18
      go_wp2_with fail
      refine HA.mono ?_
      rintro e w1 ⟨rfl, hw⟩
      subst hw
      clear HA HL
      go_wp2_with fail
      simp [bodyPostD, Leaves, results, Try.results18, go_sem, v0, v1]
      exact FIN.out
    · have h3 : (L.length : Int) < b := by omega
      have h1' : 0 ≤ a := by omega
      have h2' : a ≤ b := by omega
      clear hr
      go_enter_defers Try.func18, Try.ntmps18
      go_wp2_with fail
      refine HA.mono ?_
      rintro e w1 ⟨rfl, hw⟩
      subst hw
      go_wp2_with fail
      refine HL.mono ?_
      rintro e w1 ⟨rfl, q1⟩
      obtain ⟨m0, m1, g0, g1, v0, v1, FIN0⟩ := VV.out w1 q1.out
      have FIN : Hid _ := FIN0
      clear FIN0 VV hs HA HL
      unfold w2f at v0 v1 FIN
      go_wp2_with fail
      simp [bodyPostD, Leaves, results, Try.results18, go_sem, v0, v1]
      exact FIN.out
end
end Go.Proofs.Ytdhdkbaalgdicaa
