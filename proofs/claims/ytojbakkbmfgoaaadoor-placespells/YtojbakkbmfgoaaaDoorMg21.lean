/- The reference's walk: a set. -/
import Derived.Test.YtojbakkbmfgoaaaDoorMg20
namespace Go.Proofs.YtojbakkbmfgoaaaDoor
open Go.RowKit
set_option linter.unusedVariables false
set_option linter.unusedSimpArgs false

theorem ls_new {w : World} {p : Nat → Bool} : Ls (w.alloc (.cells #[.int .u64 (limb p 0), .int .u64 (limb p 1), .int .u64 (limb p 2), .int .u64 (limb p 3)] 26)) (some ⟨w.heap.size, 0, none⟩) (sc [p]) := Ls.new w (cs4 p) 26
theorem sl_new {w : World} : Sl (w.alloc (.cells #[.slice none 0 0] 34)) (some ⟨w.heap.size, 0, none⟩) 1 (fun _ => .slice none 0 0) := by
  intro i hi
  refine ⟨_, _, rfl, by simp, ?_⟩
  obtain rfl : i = 0 := by omega
  simp
theorem Wp.box {X : Nat → Prop} {gp g : Nat} {w w' : World} {v u : Value} {S : List (Nat → Bool)} {n : Nat} {G : Nat → List Nat} (h : Wp X gp w v u S n G) {cs : Array Value} {t : Nat} {k : Nat × Nat} (hb : w.heap[g]? = some (.cells cs t k)) (ht : t ≠ 26 ∧ t ≠ 34 ∧ t ≠ 3) (hg : g ≠ gp) (m : Mv (fun j => j = g) w w') : Wp X gp w' v u S n G := by
  have htg : ∀ s, t ≠ s → ∀ j cs, w.heap[j]? = some (.cells cs s (0, 0)) → ¬ j = g := by
    intro s hs j cs hj e
    rw [e] at hj
    exact hs (not_typed hb hj)
  refine ⟨(B5p.mv h.at_ m (fun e => hg e.symm)).out, m.owns h.sets (fun j hj e => ?_), h.fol.mv m (htg 34 ht.2.1) (htg 3 ht.2.2)⟩
  obtain ⟨cs, hc⟩ := Os.typed h.sets hj
  exact htg 26 ht.1 j cs hc e
theorem Fp.box {gp g : Nat} {w w1 w2 : World} (h : Fp gp w w1) (m : Mv (fun j => j = g) w1 w2) (hg : w.heap.size ≤ g) : Fp gp w w2 :=
  Mv.trans h m (fun j hj e => by omega)
theorem tell_set {X : Nat → Prop} {gp g : Nat} {w W : World} {v' u' v0 v1 v2 v3 v4 : Value} {S : List (Nat → Bool)} {G : Nat → List Nat} {p : Nat → Bool} {nd : Nat} (hn : Hid (1 ≤ nd)) (hW : Hid (Wp X gp W v' u' (S ++ [p]) (S.length + 1) G)) (F : Hid (Fp gp w W)) (C : Hid (B5p 41 g v0 v1 v2 v3 v4 W)) (hg : g ≠ gp) (hl : w.heap.size ≤ g) :
    RwP X gp w S G (oneP p) nd (.returned (.agg #[.slice none 0 0, .slice (some ⟨W.heap.size, 0, none⟩) 1 1, .slice (some ⟨W.heap.size + 1, 0, none⟩) 1 1, .slice none 0 0, .bool false])) (((put5 W g (.slice none 0 0) (.slice (some ⟨W.heap.size, 0, none⟩) 1 1) (.slice (some ⟨W.heap.size + 1, 0, none⟩) 1 1) (.slice none 0 0) (.bool false)).alloc (.cells #[.int .i64 (S.length : Int)] 3)).alloc (.cells #[.int .i64 (S.length : Int)] 3)) := by
  have m := put5_mv W g (.slice none 0 0) (.slice (some ⟨W.heap.size, 0, none⟩) 1 1) (.slice (some ⟨W.heap.size + 1, 0, none⟩) 1 1) (.slice none 0 0) (.bool false)
  have hs : (put5 W g (.slice none 0 0) (.slice (some ⟨W.heap.size, 0, none⟩) 1 1) (.slice (some ⟨W.heap.size + 1, 0, none⟩) 1 1) (.slice none 0 0) (.bool false)).heap.size = W.heap.size := by simp [put5, World.setCell]
  have h2 := Wp.box hW.out C.out (by decide) hg m
  have f2 := Fp.box F.out m hl
  generalize put5 W g (.slice none 0 0) (.slice (some ⟨W.heap.size, 0, none⟩) 1 1) (.slice (some ⟨W.heap.size + 1, 0, none⟩) 1 1) (.slice none 0 0) (.bool false) = V at *
  have q1 : Qt V (V.alloc (.cells #[.int .i64 (S.length : Int)] 3)) := Mv.alloc _ _ _
  have q2 : Qt (V.alloc (.cells #[.int .i64 (S.length : Int)] 3)) ((V.alloc (.cells #[.int .i64 (S.length : Int)] 3)).alloc (.cells #[.int .i64 (S.length : Int)] 3)) := Mv.alloc _ _ _
  have i1 := ((Oi.new V 0 S.length (Nat.zero_le _)).is).qt q2
  have i2 := (Oi.new (V.alloc (.cells #[.int .i64 (S.length : Int)] 3)) 0 S.length (Nat.zero_le _)).is
  rw [show (V.alloc (.cells #[.int .i64 (S.length : Int)] 3)).heap.size = V.heap.size + 1 from by simp, hs] at i2
  rw [hs] at i1
  refine ⟨_, _, [S.length], [S.length], v', u', G, rfl, i1, i2, (fun j hj => by rcases hj with hj | hj <;> (have := Option.some.inj hj; have := F.out.size; simp only at *; omega)), ⟨fun n => by simp [oneP], fun n => by simp [oneP], by simp [oneP], by simp [oneP]⟩, ?_, ⟨fun i j => by simp [oneP], fun i => by have := hn.out; omega⟩, f2.qt (q1.comp q2)⟩
  show Wp _ _ _ _ _ _ _ _
  have e : (S ++ (oneP p).sets).length = S.length + 1 := by simp [oneP]
  rw [e]
  exact h2.qt (q1.comp q2)

set_option maxRecDepth 20000 in
set_option maxHeartbeats 8000000 in
theorem rw_set (p : Nat → Bool) (l : List RX) : RwC ⟨1, p, l⟩ := by
  intro X K gp v u S G a c w hp hK hW hc hf hG hR hX
  obtain ⟨BR, BZ, Q0⟩ := begin_boxes5 w (.int .i64 1) (.int .u64 (limb p 0)) (.int .u64 (limb p 1)) (.int .u64 (limb p 2)) (.int .u64 (limb p 3)) (.slice a l.length c)
  rw [pla_set] at hc ⊢
  have hS : S.length < 41 := by have : (oneP p).cnt = 1 := rfl; omega
  have HN : Hid (1 ≤ RX.nodes ⟨1, p, l⟩) := nodes_pos _
  have HR : Hid (G S.length = []) := hR _ (Nat.le_refl _)
  have HW : Hid (gp < w.heap.size) := hW.out.lt
  have HWP := hW.out.qt Q0.out
  obtain ⟨av, cv, hv⟩ := Os.form HWP.sets
  subst hv
  obtain ⟨au, cu, _, hu, _⟩ := HWP.fol.ov.vs
  subst hu
  obtain ⟨k0, k1, k2, k3, k4, k5, _⟩ := B6.facts BR
  obtain ⟨g0, g1, g2, g3, g4, g5, g6, g7, g8, g9⟩ := B5p.facts (show Hid _ from HWP.at_)
  clear hp hK hc hf hG hR hW hX
  go_enter Tryd.func26, Tryd.ntmps26
  go_wp2_with fail
  generalize ((w.alloc (.cells #[.int .i64 1, .int .u64 (limb p 0), .int .u64 (limb p 1), .int .u64 (limb p 2), .int .u64 (limb p 3), .slice a l.length c] 29)).alloc (.cells #[.slice none 0 0, .slice none 0 0, .slice none 0 0, .slice none 0 0, .bool false] 41)) = W0 at *
  have HP0 : Hid (Wp X gp W0 (.slice av S.length cv) (.slice au S.length cu) S S.length G) := HWP
  clear HWP k0 k1 k2 k3 k4 k5 g0 g1 g2 g3 g4 g5
  have QD : Hid (Qt W0 W0.drew) := Qt.drew (Qt.refl _)
  have hgw : w.heap.size ≠ gp := by have := HW.out; omega
  have hzw : w.heap.size + 1 ≠ gp := by have := HW.out; omega
  have keepQ : Hid (∀ W, Qt W0 W → W.cell? ⟨gp, 0, none⟩ = some (.slice av S.length cv) ∧ W.cell? ⟨gp, 3, none⟩ = some (.slice au S.length cu) ∧ W.cell? ⟨w.heap.size, 1, none⟩ = some (.int .u64 (limb p 0)) ∧ W.cell? ⟨w.heap.size, 2, none⟩ = some (.int .u64 (limb p 1)) ∧ W.cell? ⟨w.heap.size, 3, none⟩ = some (.int .u64 (limb p 2)) ∧ W.cell? ⟨w.heap.size, 4, none⟩ = some (.int .u64 (limb p 3))) := fun W q => kS (HP0.out.qt q).at_ (B6.mv BR.out q (fun h => h)).out
  have keepF : Hid (∀ W, Fp gp W0 W → B5p 41 gp (.slice av S.length cv) (.slice none 0 0) (.slice none 0 0) (.slice au S.length cu) (.bool false) W → W.cell? ⟨gp, 0, none⟩ = some (.slice av S.length cv) ∧ W.cell? ⟨gp, 3, none⟩ = some (.slice au S.length cu) ∧ W.cell? ⟨w.heap.size, 1, none⟩ = some (.int .u64 (limb p 0)) ∧ W.cell? ⟨w.heap.size, 2, none⟩ = some (.int .u64 (limb p 1)) ∧ W.cell? ⟨w.heap.size, 3, none⟩ = some (.int .u64 (limb p 2)) ∧ W.cell? ⟨w.heap.size, 4, none⟩ = some (.int .u64 (limb p 3))) := fun W f b => kS b (B6.fp BR.out f hgw).out
  have BZ0 : Hid (B5p 41 (w.heap.size + 1) (.slice none 0 0) (.slice none 0 0) (.slice none 0 0) (.slice none 0 0) (.bool false) W0) := BZ
  have qa : Hid (Qt W0 (W0.alloc (.cells #[.int .u64 (limb p 0), .int .u64 (limb p 1), .int .u64 (limb p 2), .int .u64 (limb p 3)] 26)).drew) := Qt.drew ((Qt.refl _).alloc _)
  have qb : Hid (Qt W0 (W0.alloc (.cells #[.slice none 0 0] 34)).drew) := Qt.drew ((Qt.refl _).alloc _)
  have qab : Hid (Qt W0 ((W0.alloc (.cells #[.int .u64 (limb p 0), .int .u64 (limb p 1), .int .u64 (limb p 2), .int .u64 (limb p 3)] 26)).alloc (.cells #[.slice none 0 0] 34)).drew) := Qt.drew (((Qt.refl _).alloc _).alloc _)
  have qba : Hid (Qt W0 ((W0.alloc (.cells #[.slice none 0 0] 34)).alloc (.cells #[.int .u64 (limb p 0), .int .u64 (limb p 1), .int .u64 (limb p 2), .int .u64 (limb p 3)] 26)).drew) := Qt.drew (((Qt.refl _).alloc _).alloc _)
  have lsa : Ls (W0.alloc (.cells #[.int .u64 (limb p 0), .int .u64 (limb p 1), .int .u64 (limb p 2), .int .u64 (limb p 3)] 26)) (some ⟨W0.heap.size, 0, none⟩) (sc [p]) := ls_new
  have slb : Sl (W0.alloc (.cells #[.slice none 0 0] 34)) (some ⟨W0.heap.size, 0, none⟩) 1 (fun _ => .slice none 0 0) := sl_new
  have lsba : Ls ((W0.alloc (.cells #[.slice none 0 0] 34)).alloc (.cells #[.int .u64 (limb p 0), .int .u64 (limb p 1), .int .u64 (limb p 2), .int .u64 (limb p 3)] 26)) (some ⟨W0.heap.size + 1, 0, none⟩) (sc [p]) := by
    have h := ls_new (w := W0.alloc (.cells #[.slice none 0 0] 34)) (p := p)
    rw [show (W0.alloc (.cells #[.slice none 0 0] 34)).heap.size = W0.heap.size + 1 from by simp] at h
    exact h
  have slab : Sl ((W0.alloc (.cells #[.int .u64 (limb p 0), .int .u64 (limb p 1), .int .u64 (limb p 2), .int .u64 (limb p 3)] 26)).alloc (.cells #[.slice none 0 0] 34)) (some ⟨W0.heap.size + 1, 0, none⟩) 1 (fun _ => .slice none 0 0) := by
    have h := sl_new (w := W0.alloc (.cells #[.int .u64 (limb p 0), .int .u64 (limb p 1), .int .u64 (limb p 2), .int .u64 (limb p 3)] 26))
    rw [show (W0.alloc (.cells #[.int .u64 (limb p 0), .int .u64 (limb p 1), .int .u64 (limb p 2), .int .u64 (limb p 3)] 26)).heap.size = W0.heap.size + 1 from by simp] at h
    exact h
  have qd1 : ∀ W : World, Qt W W.drew := fun W => Qt.drew (Qt.refl _)
  have far : ∀ (W W' : World) (k : Nat) (V : Nat → Value), Mv (fun j => j < W0.heap.size) W W' → W0.heap.size ≤ k → Sl W (some ⟨k, 0, none⟩) 1 V → Sl W' (some ⟨k, 0, none⟩) 1 V := fun W W' k V m hk s => s.mv m (fun q hq e => by cases hq; simp at e; omega)
  obtain ⟨aA, cA, WA, rA, MA, NA⟩ := push1 HP0.out qab.out (by omega) p ((lsa.qt (Mv.alloc (fun _ => False) _ _)).qt (qd1 _))
  obtain ⟨bA, dA, VA, sA, AA, FA, PA, GA⟩ := push2 MA.out (Qt.refl _) (by omega) HR.out (far _ _ _ _ NA.out (by omega) (slab.mv (qd1 _) (fun _ _ h => h)))
  obtain ⟨aB, cB, WB, rB, MB, NB⟩ := push1 HP0.out qa.out (by omega) p (lsa.qt (qd1 _))
  obtain ⟨bB, dB, VB, sB, AB, FB, PB, GB⟩ := push2 MB.out (show Qt WB (WB.alloc (.cells #[.slice none 0 0] 34)) from Mv.alloc _ _ _) (by omega) HR.out sl_new
  obtain ⟨aC, cC, WC, rC, MC, NC⟩ := push1 HP0.out qba.out (by omega) p (lsba.qt (qd1 _))
  obtain ⟨bC, dC, VC, sC, AC, FC, PC, GC⟩ := push2 MC.out (Qt.refl _) (by omega) HR.out (far _ _ _ _ NC.out (Nat.le_refl _) ((slb.mv (Mv.alloc (fun _ => False) _ _) (fun _ _ h => h)).mv (qd1 _) (fun _ _ h => h)))
  have QM : Hid (Qt WB (WB.alloc (.cells #[.slice none 0 0] 34))) := Mv.alloc _ _ _
  obtain ⟨xA0, xA1, xA2, xA3, xA4, yA0, yA1, yA2, yA3, yA4⟩ := B5p.facts AA
  obtain ⟨xB0, xB1, xB2, xB3, xB4, yB0, yB1, yB2, yB3, yB4⟩ := B5p.facts AB
  obtain ⟨xC0, xC1, xC2, xC3, xC4, yC0, yC1, yC2, yC3, yC4⟩ := B5p.facts AC
  clear lsa slb lsba slab far xA1 xA2 xA4 xB1 xB2 xB4 xC1 xC2 xC4 yA1 yA2 yA4 yB1 yB2 yB4 yC1 yC2 yC4
  go_wp2_with fail
  refine Rest.begin (S := (fun w' => w'.cell? ⟨gp, 0, none⟩ = some (.slice av S.length cv) ∧ w'.cell? ⟨gp, 3, none⟩ = some (.slice au S.length cu) ∧ w'.cell? ⟨w.heap.size, 1, none⟩ = some (.int .u64 (limb p 0)) ∧ w'.cell? ⟨w.heap.size, 2, none⟩ = some (.int .u64 (limb p 1)) ∧ w'.cell? ⟨w.heap.size, 3, none⟩ = some (.int .u64 (limb p 2)) ∧ w'.cell? ⟨w.heap.size, 4, none⟩ = some (.int .u64 (limb p 3)))) (st := [16, 17, 18, 19, 20, 21]) (by kernel_rfl) (keepQ.out _ QD.out) (fun hHeld => ?_)
  refine Rest.plain (i := 0) _ (some 22) ?_ rfl rfl (by kernel_rfl) (by kernel_rfl) (by kernel_rfl) (by kernel_rfl) (fun _ _ _ h => h) (Or.inl ⟨by rfl, ?_⟩) (by assumption) ?_
  rotate_left
  · (intro w _; go_simp; try with_reducible rfl)
  try simp only [Act.put, List.setIfInBounds_toArray, List.set_cons_zero, List.set_cons_succ]
  refine Rest.plain (i := 1) _ (some 23) ?_ rfl rfl (by kernel_rfl) (by kernel_rfl) (by kernel_rfl) (by kernel_rfl) (fun _ _ _ h => h) (Or.inl ⟨by rfl, ?_⟩) (by assumption) ?_
  rotate_left
  · (intro w _; go_simp; try with_reducible rfl)
  try simp only [Act.put, List.setIfInBounds_toArray, List.set_cons_zero, List.set_cons_succ]
  refine Rest.plain (i := 2) _ (some 24) ?_ rfl rfl (by kernel_rfl) (by kernel_rfl) (by kernel_rfl) (by kernel_rfl) (fun _ _ _ h => h) (Or.inl ⟨by rfl, ?_⟩) (by assumption) ?_
  rotate_left
  · (intro w _; go_simp; try with_reducible rfl)
  try simp only [Act.put, List.setIfInBounds_toArray, List.set_cons_zero, List.set_cons_succ]
  refine Rest.plain (i := 3) _ (some 25) ?_ rfl rfl (by kernel_rfl) (by kernel_rfl) (by kernel_rfl) (by kernel_rfl) (fun _ _ _ h => h) (Or.inl ⟨by rfl, ?_⟩) (by assumption) ?_
  rotate_left
  · (intro w _; go_simp; try with_reducible rfl)
  try simp only [Act.put, List.setIfInBounds_toArray, List.set_cons_zero, List.set_cons_succ]
  refine Rest.plain (i := 4) _ (some 26) ?_ rfl rfl (by kernel_rfl) (by kernel_rfl) (by kernel_rfl) (by kernel_rfl) (fun _ _ _ h => h) (Or.inl ⟨by rfl, ?_⟩) (by assumption) ?_
  rotate_left
  · (intro w _; go_simp; try with_reducible rfl)
  try simp only [Act.put, List.setIfInBounds_toArray, List.set_cons_zero, List.set_cons_succ]
  refine Rest.take (i := 5) _ (some 27) ?_ rfl rfl (by kernel_rfl) (by kernel_rfl) (by kernel_rfl) (by kernel_rfl) (fun _ _ _ h => h) (Or.inl ⟨by rfl, ?_⟩) (by assumption) ?_
  rotate_left
  · (intro w hSw; (try dsimp only at hSw); go_simp; try with_reducible rfl)
  try simp only [Act.put, List.setIfInBounds_toArray, List.set_cons_zero, List.set_cons_succ]
  refine Rest.plain (i := 6) _ (some 28) ?_ rfl rfl (by kernel_rfl) (by kernel_rfl) (by kernel_rfl) (by kernel_rfl) (fun _ _ _ h => h) (Or.inl ⟨by rfl, ?_⟩) (by assumption) ?_
  rotate_left
  · (intro w _; go_simp; try with_reducible rfl)
  try simp only [Act.put, List.setIfInBounds_toArray, List.set_cons_zero, List.set_cons_succ]
  refine Rest.take (i := 7) _ (some 29) ?_ rfl rfl (by kernel_rfl) (by kernel_rfl) (by kernel_rfl) (by kernel_rfl) (fun _ _ _ h => h) (Or.inl ⟨by rfl, ?_⟩) (by assumption) ?_
  rotate_left
  · (intro w hSw; (try dsimp only at hSw); go_simp; try with_reducible rfl)
  try simp only [Act.put, List.setIfInBounds_toArray, List.set_cons_zero, List.set_cons_succ]
  refine Rest.plain (i := 10) _ (some 32) ?_ rfl rfl (by kernel_rfl) (by kernel_rfl) (by kernel_rfl) (by kernel_rfl) (fun _ _ _ h => h) (Or.inl ⟨by rfl, ?_⟩) (by assumption) ?_
  rotate_left
  · (intro w _; go_simp; try with_reducible rfl)
  try simp only [Act.put, List.setIfInBounds_toArray, List.set_cons_zero, List.set_cons_succ]
  refine Rest.plain (i := 11) _ (some 33) ?_ rfl rfl (by kernel_rfl) (by kernel_rfl) (by kernel_rfl) (by kernel_rfl) (fun _ _ _ h => h) (Or.inl ⟨by rfl, ?_⟩) (by assumption) ?_
  rotate_left
  · (intro w _; go_simp; try with_reducible rfl)
  try simp only [Act.put, List.setIfInBounds_toArray, List.set_cons_zero, List.set_cons_succ]
  refine Rest.plain (i := 12) _ (some 34) ?_ rfl rfl (by kernel_rfl) (by kernel_rfl) (by kernel_rfl) (by kernel_rfl) (fun _ _ _ h => h) (Or.inl ⟨by rfl, ?_⟩) (by assumption) ?_
  rotate_left
  · (intro w _; go_simp; try with_reducible rfl)
  try simp only [Act.put, List.setIfInBounds_toArray, List.set_cons_zero, List.set_cons_succ]
  refine Rest.take (i := 13) _ (some 35) ?_ rfl rfl (by kernel_rfl) (by kernel_rfl) (by kernel_rfl) (by kernel_rfl) (fun _ _ _ h => h) (Or.inl ⟨by rfl, ?_⟩) (by assumption) ?_
  rotate_left
  · (intro w hSw; (try dsimp only at hSw); go_simp; try with_reducible rfl)
  try simp only [Act.put, List.setIfInBounds_toArray, List.set_cons_zero, List.set_cons_succ]
  refine Rest.two (i := 8) (j := 14) (by kernel_rfl) rfl rfl (fun K hK => ?_) (fun K hK => ?_)
  · go_simp
    refine hK.out _ _ (keepQ.out _ qa.out) (fun hHeld => ?_)
    try simp only [Act.put, List.setIfInBounds_toArray, List.set_cons_zero, List.set_cons_succ]
    clear hK K
    refine Rest.two (i := 9) (j := 14) (by kernel_rfl) rfl rfl (fun K hK => ?_) (fun K hK => ?_)
    · refine step_given rfl (.tmp 27) (.tmp 30) 33 rfl _ _ _ rfl rfl WB rB ?_
      refine hK.out _ _ (keepF.out _ MB.out.fp MB.out.at_) (fun hHeld => ?_)
      try simp only [Act.put, List.setIfInBounds_toArray, List.set_cons_zero, List.set_cons_succ]
      clear hK K
      refine Rest.one (i := 14) (by kernel_rfl) rfl (fun K hK => ?_)
      go_simp
      refine hK.out _ _ (keepF.out _ (MB.out.qt QM.out).fp (MB.out.qt QM.out).at_) (fun hHeld => ?_)
      try simp only [Act.put, List.setIfInBounds_toArray, List.set_cons_zero, List.set_cons_succ]
      clear hK K
      refine Rest.one (i := 15) (by kernel_rfl) rfl (fun K hK => ?_)
      refine step_given rfl (.tmp 35) (.tmp 36) 35 rfl _ _ _ rfl rfl VB sB ?_
      refine hK.out _ _ (keepF.out _ FB.out AB.out) (fun hHeld => ?_)
      try simp only [Act.put, List.setIfInBounds_toArray, List.set_cons_zero, List.set_cons_succ]
      clear hK K
      refine Rest.last (i := 16) (by kernel_rfl) rfl (by kernel_rfl) (fun K hK => ?_)
      go_simp
      refine hK.out _ _ ?_
      try simp only [Act.put, List.setIfInBounds_toArray, List.set_cons_zero, List.set_cons_succ]
      clear hK K
      refine Rest.last (i := 17) (by kernel_rfl) rfl (by kernel_rfl) (fun K hK => ?_)
      go_simp
      refine hK.out _ _ ?_
      try simp only [Act.put, List.setIfInBounds_toArray, List.set_cons_zero, List.set_cons_succ]
      clear hK K
      refine Rest.last (i := 18) (by kernel_rfl) rfl (by kernel_rfl) (fun K hK => ?_)
      go_simp
      refine hK.out _ _ ?_
      try simp only [Act.put, List.setIfInBounds_toArray, List.set_cons_zero, List.set_cons_succ]
      clear hK K
      refine Rest.last (i := 19) (by kernel_rfl) rfl (by kernel_rfl) (fun K hK => ?_)
      go_simp
      refine hK.out _ _ ?_
      try simp only [Act.put, List.setIfInBounds_toArray, List.set_cons_zero, List.set_cons_succ]
      clear hK K
      refine Rest.last (i := 20) (by kernel_rfl) rfl (by kernel_rfl) (fun K hK => ?_)
      go_simp
      refine hK.out _ _ ?_
      try simp only [Act.put, List.setIfInBounds_toArray, List.set_cons_zero, List.set_cons_succ]
      clear hK K
      refine Rest.last (i := 21) (by kernel_rfl) rfl (by kernel_rfl) (fun K hK => ?_)
      go_simp
      refine hK.out _ _ ?_
      try simp only [Act.put, List.setIfInBounds_toArray, List.set_cons_zero, List.set_cons_succ]
      clear hK K
      refine Rest.done (by kernel_rfl) ?_ _
      have CX := B5p.fp BZ0.out GB.out hzw
      obtain ⟨z0, z1, z2, z3, z4, z5, z6, z7, z8, z9⟩ := B5p.facts CX
      have hsz : w.heap.size + 1 < ((VB.setCell ⟨gp, 0, none⟩ (.slice aB (S.length + 1) cB)).setCell ⟨gp, 3, none⟩ (.slice bB (S.length + 1) dB)).heap.size := CX.out.lt
      have FX : Hid (Fp gp w ((VB.setCell ⟨gp, 0, none⟩ (.slice aB (S.length + 1) cB)).setCell ⟨gp, 3, none⟩ (.slice bB (S.length + 1) dB))) := (Fr.of_qt Q0.out).trans GB.out
      have PX := PB
      clear PA PB PC GA GB GC
      generalize ((VB.setCell ⟨gp, 0, none⟩ (.slice aB (S.length + 1) cB)).setCell ⟨gp, 3, none⟩ (.slice bB (S.length + 1) dB)) = WW at *
      have hsz2 : w.heap.size + 1 < WW.heap.size + 1 := by omega
      go_wp2_with fail
      refine bodyPost_ret (results_cell_row (p := 4) (ty := 41) rfl _ _ (w.heap.size + 1) 41 _ (0, 0) _ rfl (B5p.mv (put5_heap CX.out _ _ _ _ _) (((Qt.refl _).alloc _).alloc _) (fun h => h)).out Tryd.underlying41 rfl (by kernel_rfl)) rfl ?_
      exact tell_set HN PX FX CX hzw (by omega)
    · go_simp
      refine hK.out _ _ (keepQ.out _ qab.out) (fun hHeld => ?_)
      try simp only [Act.put, List.setIfInBounds_toArray, List.set_cons_zero, List.set_cons_succ]
      clear hK K
      refine Rest.one (i := 9) (by kernel_rfl) rfl (fun K hK => ?_)
      refine step_given rfl (.tmp 27) (.tmp 30) 33 rfl _ _ _ rfl rfl WA rA ?_
      refine hK.out _ _ (keepF.out _ MA.out.fp MA.out.at_) (fun hHeld => ?_)
      try simp only [Act.put, List.setIfInBounds_toArray, List.set_cons_zero, List.set_cons_succ]
      clear hK K
      refine Rest.one (i := 15) (by kernel_rfl) rfl (fun K hK => ?_)
      refine step_given rfl (.tmp 35) (.tmp 36) 35 rfl _ _ _ rfl rfl VA sA ?_
      refine hK.out _ _ (keepF.out _ FA.out AA.out) (fun hHeld => ?_)
      try simp only [Act.put, List.setIfInBounds_toArray, List.set_cons_zero, List.set_cons_succ]
      clear hK K
      refine Rest.last (i := 16) (by kernel_rfl) rfl (by kernel_rfl) (fun K hK => ?_)
      go_simp
      refine hK.out _ _ ?_
      try simp only [Act.put, List.setIfInBounds_toArray, List.set_cons_zero, List.set_cons_succ]
      clear hK K
      refine Rest.last (i := 17) (by kernel_rfl) rfl (by kernel_rfl) (fun K hK => ?_)
      go_simp
      refine hK.out _ _ ?_
      try simp only [Act.put, List.setIfInBounds_toArray, List.set_cons_zero, List.set_cons_succ]
      clear hK K
      refine Rest.last (i := 18) (by kernel_rfl) rfl (by kernel_rfl) (fun K hK => ?_)
      go_simp
      refine hK.out _ _ ?_
      try simp only [Act.put, List.setIfInBounds_toArray, List.set_cons_zero, List.set_cons_succ]
      clear hK K
      refine Rest.last (i := 19) (by kernel_rfl) rfl (by kernel_rfl) (fun K hK => ?_)
      go_simp
      refine hK.out _ _ ?_
      try simp only [Act.put, List.setIfInBounds_toArray, List.set_cons_zero, List.set_cons_succ]
      clear hK K
      refine Rest.last (i := 20) (by kernel_rfl) rfl (by kernel_rfl) (fun K hK => ?_)
      go_simp
      refine hK.out _ _ ?_
      try simp only [Act.put, List.setIfInBounds_toArray, List.set_cons_zero, List.set_cons_succ]
      clear hK K
      refine Rest.last (i := 21) (by kernel_rfl) rfl (by kernel_rfl) (fun K hK => ?_)
      go_simp
      refine hK.out _ _ ?_
      try simp only [Act.put, List.setIfInBounds_toArray, List.set_cons_zero, List.set_cons_succ]
      clear hK K
      refine Rest.done (by kernel_rfl) ?_ _
      have CX := B5p.fp BZ0.out GA.out hzw
      obtain ⟨z0, z1, z2, z3, z4, z5, z6, z7, z8, z9⟩ := B5p.facts CX
      have hsz : w.heap.size + 1 < ((VA.setCell ⟨gp, 0, none⟩ (.slice aA (S.length + 1) cA)).setCell ⟨gp, 3, none⟩ (.slice bA (S.length + 1) dA)).heap.size := CX.out.lt
      have FX : Hid (Fp gp w ((VA.setCell ⟨gp, 0, none⟩ (.slice aA (S.length + 1) cA)).setCell ⟨gp, 3, none⟩ (.slice bA (S.length + 1) dA))) := (Fr.of_qt Q0.out).trans GA.out
      have PX := PA
      clear PA PB PC GA GB GC
      generalize ((VA.setCell ⟨gp, 0, none⟩ (.slice aA (S.length + 1) cA)).setCell ⟨gp, 3, none⟩ (.slice bA (S.length + 1) dA)) = WW at *
      have hsz2 : w.heap.size + 1 < WW.heap.size + 1 := by omega
      go_wp2_with fail
      refine bodyPost_ret (results_cell_row (p := 4) (ty := 41) rfl _ _ (w.heap.size + 1) 41 _ (0, 0) _ rfl (B5p.mv (put5_heap CX.out _ _ _ _ _) (((Qt.refl _).alloc _).alloc _) (fun h => h)).out Tryd.underlying41 rfl (by kernel_rfl)) rfl ?_
      exact tell_set HN PX FX CX hzw (by omega)
  · go_simp
    refine hK.out _ _ (keepQ.out _ qb.out) (fun hHeld => ?_)
    try simp only [Act.put, List.setIfInBounds_toArray, List.set_cons_zero, List.set_cons_succ]
    clear hK K
    refine Rest.one (i := 8) (by kernel_rfl) rfl (fun K hK => ?_)
    go_simp
    refine hK.out _ _ (keepQ.out _ qba.out) (fun hHeld => ?_)
    try simp only [Act.put, List.setIfInBounds_toArray, List.set_cons_zero, List.set_cons_succ]
    clear hK K
    refine Rest.one (i := 9) (by kernel_rfl) rfl (fun K hK => ?_)
    refine step_given rfl (.tmp 27) (.tmp 30) 33 rfl _ _ _ rfl rfl WC rC ?_
    refine hK.out _ _ (keepF.out _ MC.out.fp MC.out.at_) (fun hHeld => ?_)
    try simp only [Act.put, List.setIfInBounds_toArray, List.set_cons_zero, List.set_cons_succ]
    clear hK K
    refine Rest.one (i := 15) (by kernel_rfl) rfl (fun K hK => ?_)
    refine step_given rfl (.tmp 35) (.tmp 36) 35 rfl _ _ _ rfl rfl VC sC ?_
    refine hK.out _ _ (keepF.out _ FC.out AC.out) (fun hHeld => ?_)
    try simp only [Act.put, List.setIfInBounds_toArray, List.set_cons_zero, List.set_cons_succ]
    clear hK K
    refine Rest.last (i := 16) (by kernel_rfl) rfl (by kernel_rfl) (fun K hK => ?_)
    go_simp
    refine hK.out _ _ ?_
    try simp only [Act.put, List.setIfInBounds_toArray, List.set_cons_zero, List.set_cons_succ]
    clear hK K
    refine Rest.last (i := 17) (by kernel_rfl) rfl (by kernel_rfl) (fun K hK => ?_)
    go_simp
    refine hK.out _ _ ?_
    try simp only [Act.put, List.setIfInBounds_toArray, List.set_cons_zero, List.set_cons_succ]
    clear hK K
    refine Rest.last (i := 18) (by kernel_rfl) rfl (by kernel_rfl) (fun K hK => ?_)
    go_simp
    refine hK.out _ _ ?_
    try simp only [Act.put, List.setIfInBounds_toArray, List.set_cons_zero, List.set_cons_succ]
    clear hK K
    refine Rest.last (i := 19) (by kernel_rfl) rfl (by kernel_rfl) (fun K hK => ?_)
    go_simp
    refine hK.out _ _ ?_
    try simp only [Act.put, List.setIfInBounds_toArray, List.set_cons_zero, List.set_cons_succ]
    clear hK K
    refine Rest.last (i := 20) (by kernel_rfl) rfl (by kernel_rfl) (fun K hK => ?_)
    go_simp
    refine hK.out _ _ ?_
    try simp only [Act.put, List.setIfInBounds_toArray, List.set_cons_zero, List.set_cons_succ]
    clear hK K
    refine Rest.last (i := 21) (by kernel_rfl) rfl (by kernel_rfl) (fun K hK => ?_)
    go_simp
    refine hK.out _ _ ?_
    try simp only [Act.put, List.setIfInBounds_toArray, List.set_cons_zero, List.set_cons_succ]
    clear hK K
    refine Rest.done (by kernel_rfl) ?_ _
    have CX := B5p.fp BZ0.out GC.out hzw
    obtain ⟨z0, z1, z2, z3, z4, z5, z6, z7, z8, z9⟩ := B5p.facts CX
    have hsz : w.heap.size + 1 < ((VC.setCell ⟨gp, 0, none⟩ (.slice aC (S.length + 1) cC)).setCell ⟨gp, 3, none⟩ (.slice bC (S.length + 1) dC)).heap.size := CX.out.lt
    have FX : Hid (Fp gp w ((VC.setCell ⟨gp, 0, none⟩ (.slice aC (S.length + 1) cC)).setCell ⟨gp, 3, none⟩ (.slice bC (S.length + 1) dC))) := (Fr.of_qt Q0.out).trans GC.out
    have PX := PC
    clear PA PB PC GA GB GC
    generalize ((VC.setCell ⟨gp, 0, none⟩ (.slice aC (S.length + 1) cC)).setCell ⟨gp, 3, none⟩ (.slice bC (S.length + 1) dC)) = WW at *
    have hsz2 : w.heap.size + 1 < WW.heap.size + 1 := by omega
    go_wp2_with fail
    refine bodyPost_ret (results_cell_row (p := 4) (ty := 41) rfl _ _ (w.heap.size + 1) 41 _ (0, 0) _ rfl (B5p.mv (put5_heap CX.out _ _ _ _ _) (((Qt.refl _).alloc _).alloc _) (fun h => h)).out Tryd.underlying41 rfl (by kernel_rfl)) rfl ?_
    exact tell_set HN PX FX CX hzw (by omega)

end Go.Proofs.YtojbakkbmfgoaaaDoor

namespace Go.Proofs.YtojbakkbmfgoaaaDoor
open Go.RowKit
set_option linter.unusedVariables false
set_option linter.unusedSimpArgs false

theorem B5p.new (w : World) (v0 v1 v2 v3 v4 : Value) : Hid (B5p 41 w.heap.size v0 v1 v2 v3 v4 (w.alloc (.cells #[v0, v1, v2, v3, v4] 41))) := heap_alloc_new w _
theorem mul40 {a b : Nat} (ha : a ≤ 40) (hb : b ≤ 40) : a * b ≤ 1600 := Nat.mul_le_mul ha hb
/-- It is told. -/
theorem RwP.tell {X : Nat → Prop} {gp g : Nat} {w W : World} {f l v' u' u0 u1 u2 u3 u4 : Value} {S : List (Nat → Bool)} {G H : Nat → List Nat} {P : Pla} {nd : Nat} {F L : List Nat} (hW : Hid (Wp X gp W v' u' (S ++ P.sets) (S ++ P.sets).length H)) (iF : Hid (Is W f F)) (iL : Hid (Is W l L)) (hfr : Hid (Fresh w f l)) (hFL : Hid ((∀ n, n ∈ F ↔ P.fst S.length n = true) ∧ (∀ n, n ∈ L ↔ P.lst S.length n = true) ∧ F.length ≤ P.cnt ∧ L.length ≤ P.cnt)) (hH : Hid ((∀ i j, j ∈ H i ↔ j ∈ G i ∨ P.fol S.length i j = true) ∧ ∀ i, (H i).length + 1600 ≤ (G i).length + 1600 * nd)) (C : Hid (B5p 41 g u0 u1 u2 u3 u4 W)) (hg : g ≠ gp) (F1 : Hid (Fp gp w W)) (hl : w.heap.size ≤ g) :
    RwP X gp w S G P nd (.returned (.agg #[.slice none 0 0, f, l, .slice none 0 0, .bool P.null])) (put5 W g (.slice none 0 0) f l (.slice none 0 0) (.bool P.null)) := by
  have m := put5_mv W g (.slice none 0 0) f l (.slice none 0 0) (.bool P.null)
  have htg : ∀ j cs, W.heap[j]? = some (.cells cs 3 (0, 0)) → ¬ j = g := by
    intro j cs hj e
    rw [e] at hj
    have := not_typed hj C.out; omega
  exact ⟨f, l, F, L, v', u', H, rfl, iF.out.mv m htg, iL.out.mv m htg, hfr, hFL, Wp.box hW.out C.out (by decide) hg m, hH, Fp.box F1.out m hl⟩
theorem RwP.qt {X : Nat → Prop} {gp : Nat} {w W W' : World} {S : List (Nat → Bool)} {G : Nat → List Nat} {P : Pla} {nd : Nat} {e : Ending} (h : RwP X gp w S G P nd e W) (q : Qt W W') : RwP X gp w S G P nd e W' := by
  obtain ⟨f, l, F, L, v', u', H, e, i1, i2, h0, h1, h2, h3, h4⟩ := h
  exact ⟨f, l, F, L, v', u', H, e, i1.out.qt q, i2.out.qt q, h0, h1, h2.out.qt q, h3, h4.out.qt q⟩
/-- A sign's goes. -/
theorem goes_sign {P : Pla} {k : Nat} {G G' : Nat → List Nat} {F L : List Nat} {nd : Nat} (hc : P.cnt ≤ 40) (h : Hid ((∀ n, n ∈ F ↔ P.fst k n = true) ∧ (∀ n, n ∈ L ↔ P.lst k n = true) ∧ F.length ≤ P.cnt ∧ L.length ≤ P.cnt)) (hG : Hid ((∀ i j, j ∈ G' i ↔ j ∈ G i ∨ P.fol k i j = true) ∧ ∀ i, (G' i).length + 1600 ≤ (G i).length + 1600 * nd)) :
    Hid ((∀ i j, j ∈ goesG G' L F i ↔ j ∈ G i ∨ (againP P).fol k i j = true) ∧ ∀ i, (goesG G' L F i).length + 1600 ≤ (G i).length + 1600 * (1 + nd)) := by
  obtain ⟨h1, h2, h3, h4⟩ := h.out
  obtain ⟨g1, g2⟩ := hG.out
  refine ⟨fun i j => ?_, fun i => ?_⟩
  · rw [goesG_mem, g1, h1, h2]
    show _ ↔ j ∈ G i ∨ (P.fol k i j || (P.lst k i && P.fst k j)) = true
    rw [Bool.or_eq_true, Bool.and_eq_true, or_assoc]
  · have a := goesG_len F i L G'
    have b := g2 i
    have c := mul40 (a := L.length) (b := F.length) (by omega) (by omega)
    omega

set_option maxRecDepth 20000 in
set_option maxHeartbeats 8000000 in
theorem rw_sign4a (p : Nat → Bool) (x : RX) (IH : RwC x) (hxf : x.formed = true) (hnb : x.pla.null = true) : RwC ⟨4, p, [x]⟩ := by
  intro X K gp v u S G a c w hp hK hW hc hf hG hR hX
  obtain ⟨BR, BZ, Q0⟩ := begin_boxes5 w (.int .i64 4) (.int .u64 (limb p 0)) (.int .u64 (limb p 1)) (.int .u64 (limb p 2)) (.int .u64 (limb p 3)) (.slice a 1 c)
  rw [pla_sign 4 (by decide), sign_cnt] at hc
  rw [pla_sign 4 (by decide)]
  have hnd : RX.nodes ⟨4, p, [x]⟩ = 1 + x.nodes := by rw [nodes_eq]; simp
  rw [hnd] at hG ⊢
  obtain ⟨b, o, a', c', ha, hp2, q0, q1, q2, q3, q4, q5⟩ := (hp.mv Q0.out (fun _ _ h => h)).first
  subst ha
  have hth := IH X K gp v u S G a' c' _ hp2 hK (show Hid _ from hW.out.qt Q0.out) hc hxf (fun i => by have := hG i; omega) hR (fun j hj => Nat.lt_of_lt_of_le (hX j hj) Q0.out.size)
  have HXX : Hid (∀ j, X j → j < w.heap.size) := hX
  have HW : Hid (gp < w.heap.size) := hW.out.lt
  have HFI : Hid (x.pla.Fine) := pla_fine x
  have HC : Hid (S.length + x.pla.cnt ≤ 40) := hc
  have HG : Hid (∀ i, (G i).length + 1600 * (1 + x.nodes) ≤ 64000) := hG
  obtain ⟨k0, k1, k2, k3, k4, k5, _⟩ := B6.facts BR
  clear hp hp2 hK hW hc hf hxf IH hG hR hnd hX
  generalize x.pla = P at *
  generalize x.nodes = nd at *
  generalize limb p 0 = y0 at *
  generalize limb p 1 = y1 at *
  generalize limb p 2 = y2 at *
  generalize limb p 3 = y3 at *
  show Calls Tryd.prog 26 #[.pointer (some ⟨gp, 0, none⟩), .agg #[.int .i64 4, .int .u64 y0, .int .u64 y1, .int .u64 y2, .int .u64 y3, .slice (some ⟨b, o, none⟩) 1 c]] w fun e w' => RwP X gp w S G (signP 4 P) (1 + nd) e w'
  go_enter Tryd.func26, Tryd.ntmps26
  go_wp2_with fail
  generalize ((w.alloc (.cells #[.int .i64 4, .int .u64 y0, .int .u64 y1, .int .u64 y2, .int .u64 y3, .slice (some ⟨b, o, none⟩) 1 c] 29)).alloc (.cells #[.slice none 0 0, .slice none 0 0, .slice none 0 0, .slice none 0 0, .bool false] 41)) = W0 at *
  refine hth.mono ?_
  rintro e w1 ⟨f, l, F, L, v', u', G', rfl, iF, iL, hfr0, hFL, W1, hGG, F1⟩
  rw [hnb]
  have hfr : Hid (Fresh w f l) := hfr0.out.up Q0.out.size
  obtain ⟨fa, fc, rfl⟩ := iF.out.form
  obtain ⟨la, lc, rfl⟩ := iL.out.form
  have BN := B5p.new w1 (.slice none 0 0) (.slice fa F.length fc) (.slice la L.length lc) (.slice none 0 0) (.bool true)
  have QN : Hid (Qt w1 (w1.alloc (.cells #[.slice none 0 0, .slice fa F.length fc, .slice la L.length lc, .slice none 0 0, .bool true] 41))) := Mv.alloc _ _ _
  have HS : Hid ((S ++ P.sets).length = S.length + P.cnt) := by show _ = _; rw [List.length_append, HFI.out.len]
  have HGP : Hid (gp < w1.heap.size) := W1.out.lt
  have hsz : w.heap.size + 1 < w1.heap.size := Nat.lt_of_lt_of_le BZ.out.lt F1.out.size
  have hz0 : w.heap.size ≠ gp := by have := HW.out; omega
  have hz1 : w.heap.size + 1 ≠ gp := by have := HW.out; omega
  have hz2 : w1.heap.size ≠ gp := by have := HGP.out; omega
  have C0 := B6.fp BR.out (F1.out.qt QN.out) hz0
  have CZ := B5p.fp BZ.out (F1.out.qt QN.out) hz1
  obtain ⟨m0, m1, m2, m3, m4, m5, _⟩ := B6.facts C0
  obtain ⟨n0, n1, n2, n3, n4, n5, n6, n7, n8, n9⟩ := B5p.facts BN
  clear hth k0 k1 k2 k3 k4 k5 q0 q1 q2 q3 q4 q5
  have hgo := goes_any X L F gp v' u' (.slice la L.length lc) (.slice fa F.length fc) (S ++ P.sets) (S ++ P.sets).length G' _ (show Hid _ from W1.out.qt QN.out) (show Hid _ from iL.out.qt QN.out) (show Hid _ from iF.out.qt QN.out) (fun i hi => by have := HFI.out.lst _ _ ((hFL.out.2.1 i).1 hi); rw [HS.out]; omega) (fun i => by have h1 := mul40 (a := L.length) (b := F.length) (by have := hFL.out.2.2.2; have := HC.out; omega) (by have := hFL.out.2.2.1; have := HC.out; omega); have h2 := hGG.out.2 i; have h3 := HG.out i; have := hFL.out.2.2.1; have := HC.out; omega) (by have := hFL.out.2.2.2; have := HC.out; omega) (fun j hj => Nat.lt_of_lt_of_le (HXX.out j hj) (Nat.le_trans Q0.out.size (Nat.le_trans F1.out.size QN.out.size)))
  have HGS := goes_sign (by have := HC.out; omega) hFL hGG
  go_wp2_with fail
  have F2 : Hid (Fp gp w (w1.alloc (.cells #[.slice none 0 0, .slice fa F.length fc, .slice la L.length lc, .slice none 0 0, .bool true] 41))) := (Fr.of_qt Q0.out).trans (F1.out.qt QN.out)
  have iF2 : Hid (Is (w1.alloc (.cells #[.slice none 0 0, .slice fa F.length fc, .slice la L.length lc, .slice none 0 0, .bool true] 41)) (.slice fa F.length fc) F) := iF.out.qt QN.out
  have iL2 : Hid (Is (w1.alloc (.cells #[.slice none 0 0, .slice fa F.length fc, .slice la L.length lc, .slice none 0 0, .bool true] 41)) (.slice la L.length lc) L) := iL.out.qt QN.out
  have AT2 := (W1.out.qt QN.out).at_
  generalize w1.alloc (.cells #[.slice none 0 0, .slice fa F.length fc, .slice la L.length lc, .slice none 0 0, .bool true] 41) = W2 at *
  refine hgo.mono ?_
  rintro e w3 ⟨rfl, W3, F3⟩
  have BN3 := B5p.fp BN.out F3.out hz2
  have C3 := B5p.fp CZ.out F3.out hz1
  have D3 := B6.fp C0.out F3.out hz0
  have F4 : Hid (Fp gp w w3) := F2.out.trans F3.out
  have iF3 : Hid (Is w3 (.slice fa F.length fc) F) := iF2.out.fp F3.out AT2
  have iL3 : Hid (Is w3 (.slice la L.length lc) L) := iL2.out.fp F3.out AT2
  clear m0 m1 m2 m3 m4 m5 n0 n1 n2 n3 n4 n5 n6 n7 n8 n9 hgo
  obtain ⟨m0, m1, m2, m3, m4, m5, _⟩ := B6.facts D3
  obtain ⟨z0, z1, z2, z3, z4, z5, z6, z7, z8, z9⟩ := B5p.facts C3
  obtain ⟨x0, x1, x2, x3, x4, x5, x6, x7, x8, x9⟩ := B5p.facts BN3
  go_wp2_with fail
  have MS := Mv.setCell w3 ⟨w1.heap.size, 4, none⟩ (.bool true)
  have htg : ∀ t, t ≠ 41 → ∀ j cs, w3.heap[j]? = some (.cells cs t (0, 0)) → ¬ j = w1.heap.size := by
    intro t ht j cs hj e
    rw [e] at hj
    exact ht (not_typed hj BN3.out)
  have C4 := B5p.mv C3.out MS (by show ¬ w.heap.size + 1 = w1.heap.size; omega)
  have W4 : Hid (Wp X gp (w3.setCell ⟨w1.heap.size, 4, none⟩ (.bool true)) v' u' (S ++ P.sets) (S ++ P.sets).length _) := Wp.box W3.out BN3.out (by decide) hz2 MS
  have F5 : Hid (Fp gp w (w3.setCell ⟨w1.heap.size, 4, none⟩ (.bool true))) := Fp.box F4.out MS (by show w.heap.size ≤ w1.heap.size; omega)
  have iF4 : Hid (Is (w3.setCell ⟨w1.heap.size, 4, none⟩ (.bool true)) (.slice fa F.length fc) F) := iF3.out.mv MS (htg 3 (by decide))
  have iL4 : Hid (Is (w3.setCell ⟨w1.heap.size, 4, none⟩ (.bool true)) (.slice la L.length lc) L) := iL3.out.mv MS (htg 3 (by decide))
  refine bodyPost_ret (results_cell_row (p := 4) (ty := 41) rfl _ _ (w.heap.size + 1) 41 _ (0, 0) _ rfl (put5_heap C4.out _ _ _ _ _) Tryd.underlying41 rfl (by kernel_rfl)) rfl ?_
  have hn : (signP 4 P).null = true := by simp [signP, againP, optP, hnb]
  have h := RwP.tell (P := signP 4 P) W4 iF4 iL4 hfr hFL HGS C4 hz1 F5 (by omega)
  rw [hn] at h
  exact h

set_option maxRecDepth 20000 in
set_option maxHeartbeats 8000000 in
theorem rw_sign4b (p : Nat → Bool) (x : RX) (IH : RwC x) (hxf : x.formed = true) (hnb : x.pla.null = false) : RwC ⟨4, p, [x]⟩ := by
  intro X K gp v u S G a c w hp hK hW hc hf hG hR hX
  obtain ⟨BR, BZ, Q0⟩ := begin_boxes5 w (.int .i64 4) (.int .u64 (limb p 0)) (.int .u64 (limb p 1)) (.int .u64 (limb p 2)) (.int .u64 (limb p 3)) (.slice a 1 c)
  rw [pla_sign 4 (by decide), sign_cnt] at hc
  rw [pla_sign 4 (by decide)]
  have hnd : RX.nodes ⟨4, p, [x]⟩ = 1 + x.nodes := by rw [nodes_eq]; simp
  rw [hnd] at hG ⊢
  obtain ⟨b, o, a', c', ha, hp2, q0, q1, q2, q3, q4, q5⟩ := (hp.mv Q0.out (fun _ _ h => h)).first
  subst ha
  have hth := IH X K gp v u S G a' c' _ hp2 hK (show Hid _ from hW.out.qt Q0.out) hc hxf (fun i => by have := hG i; omega) hR (fun j hj => Nat.lt_of_lt_of_le (hX j hj) Q0.out.size)
  have HXX : Hid (∀ j, X j → j < w.heap.size) := hX
  have HW : Hid (gp < w.heap.size) := hW.out.lt
  have HFI : Hid (x.pla.Fine) := pla_fine x
  have HC : Hid (S.length + x.pla.cnt ≤ 40) := hc
  have HG : Hid (∀ i, (G i).length + 1600 * (1 + x.nodes) ≤ 64000) := hG
  obtain ⟨k0, k1, k2, k3, k4, k5, _⟩ := B6.facts BR
  clear hp hp2 hK hW hc hf hxf IH hG hR hnd hX
  generalize x.pla = P at *
  generalize x.nodes = nd at *
  generalize limb p 0 = y0 at *
  generalize limb p 1 = y1 at *
  generalize limb p 2 = y2 at *
  generalize limb p 3 = y3 at *
  show Calls Tryd.prog 26 #[.pointer (some ⟨gp, 0, none⟩), .agg #[.int .i64 4, .int .u64 y0, .int .u64 y1, .int .u64 y2, .int .u64 y3, .slice (some ⟨b, o, none⟩) 1 c]] w fun e w' => RwP X gp w S G (signP 4 P) (1 + nd) e w'
  go_enter Tryd.func26, Tryd.ntmps26
  go_wp2_with fail
  generalize ((w.alloc (.cells #[.int .i64 4, .int .u64 y0, .int .u64 y1, .int .u64 y2, .int .u64 y3, .slice (some ⟨b, o, none⟩) 1 c] 29)).alloc (.cells #[.slice none 0 0, .slice none 0 0, .slice none 0 0, .slice none 0 0, .bool false] 41)) = W0 at *
  refine hth.mono ?_
  rintro e w1 ⟨f, l, F, L, v', u', G', rfl, iF, iL, hfr0, hFL, W1, hGG, F1⟩
  rw [hnb]
  have hfr : Hid (Fresh w f l) := hfr0.out.up Q0.out.size
  obtain ⟨fa, fc, rfl⟩ := iF.out.form
  obtain ⟨la, lc, rfl⟩ := iL.out.form
  have BN := B5p.new w1 (.slice none 0 0) (.slice fa F.length fc) (.slice la L.length lc) (.slice none 0 0) (.bool false)
  have QN : Hid (Qt w1 (w1.alloc (.cells #[.slice none 0 0, .slice fa F.length fc, .slice la L.length lc, .slice none 0 0, .bool false] 41))) := Mv.alloc _ _ _
  have HS : Hid ((S ++ P.sets).length = S.length + P.cnt) := by show _ = _; rw [List.length_append, HFI.out.len]
  have HGP : Hid (gp < w1.heap.size) := W1.out.lt
  have hsz : w.heap.size + 1 < w1.heap.size := Nat.lt_of_lt_of_le BZ.out.lt F1.out.size
  have hz0 : w.heap.size ≠ gp := by have := HW.out; omega
  have hz1 : w.heap.size + 1 ≠ gp := by have := HW.out; omega
  have hz2 : w1.heap.size ≠ gp := by have := HGP.out; omega
  have C0 := B6.fp BR.out (F1.out.qt QN.out) hz0
  have CZ := B5p.fp BZ.out (F1.out.qt QN.out) hz1
  obtain ⟨m0, m1, m2, m3, m4, m5, _⟩ := B6.facts C0
  obtain ⟨n0, n1, n2, n3, n4, n5, n6, n7, n8, n9⟩ := B5p.facts BN
  clear hth k0 k1 k2 k3 k4 k5 q0 q1 q2 q3 q4 q5
  have hgo := goes_any X L F gp v' u' (.slice la L.length lc) (.slice fa F.length fc) (S ++ P.sets) (S ++ P.sets).length G' _ (show Hid _ from W1.out.qt QN.out) (show Hid _ from iL.out.qt QN.out) (show Hid _ from iF.out.qt QN.out) (fun i hi => by have := HFI.out.lst _ _ ((hFL.out.2.1 i).1 hi); rw [HS.out]; omega) (fun i => by have h1 := mul40 (a := L.length) (b := F.length) (by have := hFL.out.2.2.2; have := HC.out; omega) (by have := hFL.out.2.2.1; have := HC.out; omega); have h2 := hGG.out.2 i; have h3 := HG.out i; have := hFL.out.2.2.1; have := HC.out; omega) (by have := hFL.out.2.2.2; have := HC.out; omega) (fun j hj => Nat.lt_of_lt_of_le (HXX.out j hj) (Nat.le_trans Q0.out.size (Nat.le_trans F1.out.size QN.out.size)))
  have HGS := goes_sign (by have := HC.out; omega) hFL hGG
  go_wp2_with fail
  have F2 : Hid (Fp gp w (w1.alloc (.cells #[.slice none 0 0, .slice fa F.length fc, .slice la L.length lc, .slice none 0 0, .bool false] 41))) := (Fr.of_qt Q0.out).trans (F1.out.qt QN.out)
  have iF2 : Hid (Is (w1.alloc (.cells #[.slice none 0 0, .slice fa F.length fc, .slice la L.length lc, .slice none 0 0, .bool false] 41)) (.slice fa F.length fc) F) := iF.out.qt QN.out
  have iL2 : Hid (Is (w1.alloc (.cells #[.slice none 0 0, .slice fa F.length fc, .slice la L.length lc, .slice none 0 0, .bool false] 41)) (.slice la L.length lc) L) := iL.out.qt QN.out
  have AT2 := (W1.out.qt QN.out).at_
  generalize w1.alloc (.cells #[.slice none 0 0, .slice fa F.length fc, .slice la L.length lc, .slice none 0 0, .bool false] 41) = W2 at *
  refine hgo.mono ?_
  rintro e w3 ⟨rfl, W3, F3⟩
  have BN3 := B5p.fp BN.out F3.out hz2
  have C3 := B5p.fp CZ.out F3.out hz1
  have D3 := B6.fp C0.out F3.out hz0
  have F4 : Hid (Fp gp w w3) := F2.out.trans F3.out
  have iF3 : Hid (Is w3 (.slice fa F.length fc) F) := iF2.out.fp F3.out AT2
  have iL3 : Hid (Is w3 (.slice la L.length lc) L) := iL2.out.fp F3.out AT2
  clear m0 m1 m2 m3 m4 m5 n0 n1 n2 n3 n4 n5 n6 n7 n8 n9 hgo
  obtain ⟨m0, m1, m2, m3, m4, m5, _⟩ := B6.facts D3
  obtain ⟨z0, z1, z2, z3, z4, z5, z6, z7, z8, z9⟩ := B5p.facts C3
  obtain ⟨x0, x1, x2, x3, x4, x5, x6, x7, x8, x9⟩ := B5p.facts BN3
  go_wp2_with fail
  have MS := Mv.setCell w3 ⟨w1.heap.size, 4, none⟩ (.bool true)
  have htg : ∀ t, t ≠ 41 → ∀ j cs, w3.heap[j]? = some (.cells cs t (0, 0)) → ¬ j = w1.heap.size := by
    intro t ht j cs hj e
    rw [e] at hj
    exact ht (not_typed hj BN3.out)
  have C4 := B5p.mv C3.out MS (by show ¬ w.heap.size + 1 = w1.heap.size; omega)
  have W4 : Hid (Wp X gp (w3.setCell ⟨w1.heap.size, 4, none⟩ (.bool true)) v' u' (S ++ P.sets) (S ++ P.sets).length _) := Wp.box W3.out BN3.out (by decide) hz2 MS
  have F5 : Hid (Fp gp w (w3.setCell ⟨w1.heap.size, 4, none⟩ (.bool true))) := Fp.box F4.out MS (by show w.heap.size ≤ w1.heap.size; omega)
  have iF4 : Hid (Is (w3.setCell ⟨w1.heap.size, 4, none⟩ (.bool true)) (.slice fa F.length fc) F) := iF3.out.mv MS (htg 3 (by decide))
  have iL4 : Hid (Is (w3.setCell ⟨w1.heap.size, 4, none⟩ (.bool true)) (.slice la L.length lc) L) := iL3.out.mv MS (htg 3 (by decide))
  refine bodyPost_ret (results_cell_row (p := 4) (ty := 41) rfl _ _ (w.heap.size + 1) 41 _ (0, 0) _ rfl (put5_heap C4.out _ _ _ _ _) Tryd.underlying41 rfl (by kernel_rfl)) rfl ?_
  have hn : (signP 4 P).null = true := by simp [signP, againP, optP, hnb]
  have h := RwP.tell (P := signP 4 P) W4 iF4 iL4 hfr hFL HGS C4 hz1 F5 (by omega)
  rw [hn] at h
  exact h

set_option maxRecDepth 20000 in
set_option maxHeartbeats 8000000 in
theorem rw_sign5a (p : Nat → Bool) (x : RX) (IH : RwC x) (hxf : x.formed = true) (hnb : x.pla.null = true) : RwC ⟨5, p, [x]⟩ := by
  intro X K gp v u S G a c w hp hK hW hc hf hG hR hX
  obtain ⟨BR, BZ, Q0⟩ := begin_boxes5 w (.int .i64 5) (.int .u64 (limb p 0)) (.int .u64 (limb p 1)) (.int .u64 (limb p 2)) (.int .u64 (limb p 3)) (.slice a 1 c)
  rw [pla_sign 5 (by decide), sign_cnt] at hc
  rw [pla_sign 5 (by decide)]
  have hnd : RX.nodes ⟨5, p, [x]⟩ = 1 + x.nodes := by rw [nodes_eq]; simp
  rw [hnd] at hG ⊢
  obtain ⟨b, o, a', c', ha, hp2, q0, q1, q2, q3, q4, q5⟩ := (hp.mv Q0.out (fun _ _ h => h)).first
  subst ha
  have hth := IH X K gp v u S G a' c' _ hp2 hK (show Hid _ from hW.out.qt Q0.out) hc hxf (fun i => by have := hG i; omega) hR (fun j hj => Nat.lt_of_lt_of_le (hX j hj) Q0.out.size)
  have HXX : Hid (∀ j, X j → j < w.heap.size) := hX
  have HW : Hid (gp < w.heap.size) := hW.out.lt
  have HFI : Hid (x.pla.Fine) := pla_fine x
  have HC : Hid (S.length + x.pla.cnt ≤ 40) := hc
  have HG : Hid (∀ i, (G i).length + 1600 * (1 + x.nodes) ≤ 64000) := hG
  obtain ⟨k0, k1, k2, k3, k4, k5, _⟩ := B6.facts BR
  clear hp hp2 hK hW hc hf hxf IH hG hR hnd hX
  generalize x.pla = P at *
  generalize x.nodes = nd at *
  generalize limb p 0 = y0 at *
  generalize limb p 1 = y1 at *
  generalize limb p 2 = y2 at *
  generalize limb p 3 = y3 at *
  show Calls Tryd.prog 26 #[.pointer (some ⟨gp, 0, none⟩), .agg #[.int .i64 5, .int .u64 y0, .int .u64 y1, .int .u64 y2, .int .u64 y3, .slice (some ⟨b, o, none⟩) 1 c]] w fun e w' => RwP X gp w S G (signP 5 P) (1 + nd) e w'
  go_enter Tryd.func26, Tryd.ntmps26
  go_wp2_with fail
  generalize ((w.alloc (.cells #[.int .i64 5, .int .u64 y0, .int .u64 y1, .int .u64 y2, .int .u64 y3, .slice (some ⟨b, o, none⟩) 1 c] 29)).alloc (.cells #[.slice none 0 0, .slice none 0 0, .slice none 0 0, .slice none 0 0, .bool false] 41)) = W0 at *
  refine hth.mono ?_
  rintro e w1 ⟨f, l, F, L, v', u', G', rfl, iF, iL, hfr0, hFL, W1, hGG, F1⟩
  rw [hnb]
  have hfr : Hid (Fresh w f l) := hfr0.out.up Q0.out.size
  obtain ⟨fa, fc, rfl⟩ := iF.out.form
  obtain ⟨la, lc, rfl⟩ := iL.out.form
  have BN := B5p.new w1 (.slice none 0 0) (.slice fa F.length fc) (.slice la L.length lc) (.slice none 0 0) (.bool true)
  have QN : Hid (Qt w1 (w1.alloc (.cells #[.slice none 0 0, .slice fa F.length fc, .slice la L.length lc, .slice none 0 0, .bool true] 41))) := Mv.alloc _ _ _
  have HS : Hid ((S ++ P.sets).length = S.length + P.cnt) := by show _ = _; rw [List.length_append, HFI.out.len]
  have HGP : Hid (gp < w1.heap.size) := W1.out.lt
  have hsz : w.heap.size + 1 < w1.heap.size := Nat.lt_of_lt_of_le BZ.out.lt F1.out.size
  have hz0 : w.heap.size ≠ gp := by have := HW.out; omega
  have hz1 : w.heap.size + 1 ≠ gp := by have := HW.out; omega
  have hz2 : w1.heap.size ≠ gp := by have := HGP.out; omega
  have C0 := B6.fp BR.out (F1.out.qt QN.out) hz0
  have CZ := B5p.fp BZ.out (F1.out.qt QN.out) hz1
  obtain ⟨m0, m1, m2, m3, m4, m5, _⟩ := B6.facts C0
  obtain ⟨n0, n1, n2, n3, n4, n5, n6, n7, n8, n9⟩ := B5p.facts BN
  clear hth k0 k1 k2 k3 k4 k5 q0 q1 q2 q3 q4 q5
  have hgo := goes_any X L F gp v' u' (.slice la L.length lc) (.slice fa F.length fc) (S ++ P.sets) (S ++ P.sets).length G' _ (show Hid _ from W1.out.qt QN.out) (show Hid _ from iL.out.qt QN.out) (show Hid _ from iF.out.qt QN.out) (fun i hi => by have := HFI.out.lst _ _ ((hFL.out.2.1 i).1 hi); rw [HS.out]; omega) (fun i => by have h1 := mul40 (a := L.length) (b := F.length) (by have := hFL.out.2.2.2; have := HC.out; omega) (by have := hFL.out.2.2.1; have := HC.out; omega); have h2 := hGG.out.2 i; have h3 := HG.out i; have := hFL.out.2.2.1; have := HC.out; omega) (by have := hFL.out.2.2.2; have := HC.out; omega) (fun j hj => Nat.lt_of_lt_of_le (HXX.out j hj) (Nat.le_trans Q0.out.size (Nat.le_trans F1.out.size QN.out.size)))
  have HGS := goes_sign (by have := HC.out; omega) hFL hGG
  go_wp2_with fail
  have F2 : Hid (Fp gp w (w1.alloc (.cells #[.slice none 0 0, .slice fa F.length fc, .slice la L.length lc, .slice none 0 0, .bool true] 41))) := (Fr.of_qt Q0.out).trans (F1.out.qt QN.out)
  have iF2 : Hid (Is (w1.alloc (.cells #[.slice none 0 0, .slice fa F.length fc, .slice la L.length lc, .slice none 0 0, .bool true] 41)) (.slice fa F.length fc) F) := iF.out.qt QN.out
  have iL2 : Hid (Is (w1.alloc (.cells #[.slice none 0 0, .slice fa F.length fc, .slice la L.length lc, .slice none 0 0, .bool true] 41)) (.slice la L.length lc) L) := iL.out.qt QN.out
  have AT2 := (W1.out.qt QN.out).at_
  generalize w1.alloc (.cells #[.slice none 0 0, .slice fa F.length fc, .slice la L.length lc, .slice none 0 0, .bool true] 41) = W2 at *
  refine hgo.mono ?_
  rintro e w3 ⟨rfl, W3, F3⟩
  have BN3 := B5p.fp BN.out F3.out hz2
  have C3 := B5p.fp CZ.out F3.out hz1
  have D3 := B6.fp C0.out F3.out hz0
  have F4 : Hid (Fp gp w w3) := F2.out.trans F3.out
  have iF3 : Hid (Is w3 (.slice fa F.length fc) F) := iF2.out.fp F3.out AT2
  have iL3 : Hid (Is w3 (.slice la L.length lc) L) := iL2.out.fp F3.out AT2
  clear m0 m1 m2 m3 m4 m5 n0 n1 n2 n3 n4 n5 n6 n7 n8 n9 hgo
  obtain ⟨m0, m1, m2, m3, m4, m5, _⟩ := B6.facts D3
  obtain ⟨z0, z1, z2, z3, z4, z5, z6, z7, z8, z9⟩ := B5p.facts C3
  obtain ⟨x0, x1, x2, x3, x4, x5, x6, x7, x8, x9⟩ := B5p.facts BN3
  go_wp2_with fail
  have MS := Mv.setCell w3 ⟨w1.heap.size, 4, none⟩ (.bool true)
  have htg : ∀ t, t ≠ 41 → ∀ j cs, w3.heap[j]? = some (.cells cs t (0, 0)) → ¬ j = w1.heap.size := by
    intro t ht j cs hj e
    rw [e] at hj
    exact ht (not_typed hj BN3.out)
  have C4 := B5p.mv C3.out MS (by show ¬ w.heap.size + 1 = w1.heap.size; omega)
  have W4 : Hid (Wp X gp (w3.setCell ⟨w1.heap.size, 4, none⟩ (.bool true)) v' u' (S ++ P.sets) (S ++ P.sets).length _) := Wp.box W3.out BN3.out (by decide) hz2 MS
  have F5 : Hid (Fp gp w (w3.setCell ⟨w1.heap.size, 4, none⟩ (.bool true))) := Fp.box F4.out MS (by show w.heap.size ≤ w1.heap.size; omega)
  have iF4 : Hid (Is (w3.setCell ⟨w1.heap.size, 4, none⟩ (.bool true)) (.slice fa F.length fc) F) := iF3.out.mv MS (htg 3 (by decide))
  have iL4 : Hid (Is (w3.setCell ⟨w1.heap.size, 4, none⟩ (.bool true)) (.slice la L.length lc) L) := iL3.out.mv MS (htg 3 (by decide))
  refine bodyPost_ret (results_cell_row (p := 4) (ty := 41) rfl _ _ (w.heap.size + 1) 41 _ (0, 0) _ rfl (put5_heap C4.out _ _ _ _ _) Tryd.underlying41 rfl (by kernel_rfl)) rfl ?_
  have hn : (signP 5 P).null = true := by simp [signP, againP, optP, hnb]
  have h := RwP.tell (P := signP 5 P) W4 iF4 iL4 hfr hFL HGS C4 hz1 F5 (by omega)
  rw [hn] at h
  exact h

set_option maxRecDepth 20000 in
set_option maxHeartbeats 8000000 in
theorem rw_sign5b (p : Nat → Bool) (x : RX) (IH : RwC x) (hxf : x.formed = true) (hnb : x.pla.null = false) : RwC ⟨5, p, [x]⟩ := by
  intro X K gp v u S G a c w hp hK hW hc hf hG hR hX
  obtain ⟨BR, BZ, Q0⟩ := begin_boxes5 w (.int .i64 5) (.int .u64 (limb p 0)) (.int .u64 (limb p 1)) (.int .u64 (limb p 2)) (.int .u64 (limb p 3)) (.slice a 1 c)
  rw [pla_sign 5 (by decide), sign_cnt] at hc
  rw [pla_sign 5 (by decide)]
  have hnd : RX.nodes ⟨5, p, [x]⟩ = 1 + x.nodes := by rw [nodes_eq]; simp
  rw [hnd] at hG ⊢
  obtain ⟨b, o, a', c', ha, hp2, q0, q1, q2, q3, q4, q5⟩ := (hp.mv Q0.out (fun _ _ h => h)).first
  subst ha
  have hth := IH X K gp v u S G a' c' _ hp2 hK (show Hid _ from hW.out.qt Q0.out) hc hxf (fun i => by have := hG i; omega) hR (fun j hj => Nat.lt_of_lt_of_le (hX j hj) Q0.out.size)
  have HXX : Hid (∀ j, X j → j < w.heap.size) := hX
  have HW : Hid (gp < w.heap.size) := hW.out.lt
  have HFI : Hid (x.pla.Fine) := pla_fine x
  have HC : Hid (S.length + x.pla.cnt ≤ 40) := hc
  have HG : Hid (∀ i, (G i).length + 1600 * (1 + x.nodes) ≤ 64000) := hG
  obtain ⟨k0, k1, k2, k3, k4, k5, _⟩ := B6.facts BR
  clear hp hp2 hK hW hc hf hxf IH hG hR hnd hX
  generalize x.pla = P at *
  generalize x.nodes = nd at *
  generalize limb p 0 = y0 at *
  generalize limb p 1 = y1 at *
  generalize limb p 2 = y2 at *
  generalize limb p 3 = y3 at *
  show Calls Tryd.prog 26 #[.pointer (some ⟨gp, 0, none⟩), .agg #[.int .i64 5, .int .u64 y0, .int .u64 y1, .int .u64 y2, .int .u64 y3, .slice (some ⟨b, o, none⟩) 1 c]] w fun e w' => RwP X gp w S G (signP 5 P) (1 + nd) e w'
  go_enter Tryd.func26, Tryd.ntmps26
  go_wp2_with fail
  generalize ((w.alloc (.cells #[.int .i64 5, .int .u64 y0, .int .u64 y1, .int .u64 y2, .int .u64 y3, .slice (some ⟨b, o, none⟩) 1 c] 29)).alloc (.cells #[.slice none 0 0, .slice none 0 0, .slice none 0 0, .slice none 0 0, .bool false] 41)) = W0 at *
  refine hth.mono ?_
  rintro e w1 ⟨f, l, F, L, v', u', G', rfl, iF, iL, hfr0, hFL, W1, hGG, F1⟩
  rw [hnb]
  have hfr : Hid (Fresh w f l) := hfr0.out.up Q0.out.size
  obtain ⟨fa, fc, rfl⟩ := iF.out.form
  obtain ⟨la, lc, rfl⟩ := iL.out.form
  have BN := B5p.new w1 (.slice none 0 0) (.slice fa F.length fc) (.slice la L.length lc) (.slice none 0 0) (.bool false)
  have QN : Hid (Qt w1 (w1.alloc (.cells #[.slice none 0 0, .slice fa F.length fc, .slice la L.length lc, .slice none 0 0, .bool false] 41))) := Mv.alloc _ _ _
  have HS : Hid ((S ++ P.sets).length = S.length + P.cnt) := by show _ = _; rw [List.length_append, HFI.out.len]
  have HGP : Hid (gp < w1.heap.size) := W1.out.lt
  have hsz : w.heap.size + 1 < w1.heap.size := Nat.lt_of_lt_of_le BZ.out.lt F1.out.size
  have hz0 : w.heap.size ≠ gp := by have := HW.out; omega
  have hz1 : w.heap.size + 1 ≠ gp := by have := HW.out; omega
  have hz2 : w1.heap.size ≠ gp := by have := HGP.out; omega
  have C0 := B6.fp BR.out (F1.out.qt QN.out) hz0
  have CZ := B5p.fp BZ.out (F1.out.qt QN.out) hz1
  obtain ⟨m0, m1, m2, m3, m4, m5, _⟩ := B6.facts C0
  obtain ⟨n0, n1, n2, n3, n4, n5, n6, n7, n8, n9⟩ := B5p.facts BN
  clear hth k0 k1 k2 k3 k4 k5 q0 q1 q2 q3 q4 q5
  have hgo := goes_any X L F gp v' u' (.slice la L.length lc) (.slice fa F.length fc) (S ++ P.sets) (S ++ P.sets).length G' _ (show Hid _ from W1.out.qt QN.out) (show Hid _ from iL.out.qt QN.out) (show Hid _ from iF.out.qt QN.out) (fun i hi => by have := HFI.out.lst _ _ ((hFL.out.2.1 i).1 hi); rw [HS.out]; omega) (fun i => by have h1 := mul40 (a := L.length) (b := F.length) (by have := hFL.out.2.2.2; have := HC.out; omega) (by have := hFL.out.2.2.1; have := HC.out; omega); have h2 := hGG.out.2 i; have h3 := HG.out i; have := hFL.out.2.2.1; have := HC.out; omega) (by have := hFL.out.2.2.2; have := HC.out; omega) (fun j hj => Nat.lt_of_lt_of_le (HXX.out j hj) (Nat.le_trans Q0.out.size (Nat.le_trans F1.out.size QN.out.size)))
  have HGS := goes_sign (by have := HC.out; omega) hFL hGG
  go_wp2_with fail
  have F2 : Hid (Fp gp w (w1.alloc (.cells #[.slice none 0 0, .slice fa F.length fc, .slice la L.length lc, .slice none 0 0, .bool false] 41))) := (Fr.of_qt Q0.out).trans (F1.out.qt QN.out)
  have iF2 : Hid (Is (w1.alloc (.cells #[.slice none 0 0, .slice fa F.length fc, .slice la L.length lc, .slice none 0 0, .bool false] 41)) (.slice fa F.length fc) F) := iF.out.qt QN.out
  have iL2 : Hid (Is (w1.alloc (.cells #[.slice none 0 0, .slice fa F.length fc, .slice la L.length lc, .slice none 0 0, .bool false] 41)) (.slice la L.length lc) L) := iL.out.qt QN.out
  have AT2 := (W1.out.qt QN.out).at_
  generalize w1.alloc (.cells #[.slice none 0 0, .slice fa F.length fc, .slice la L.length lc, .slice none 0 0, .bool false] 41) = W2 at *
  refine hgo.mono ?_
  rintro e w3 ⟨rfl, W3, F3⟩
  have BN3 := B5p.fp BN.out F3.out hz2
  have C3 := B5p.fp CZ.out F3.out hz1
  have D3 := B6.fp C0.out F3.out hz0
  have F4 : Hid (Fp gp w w3) := F2.out.trans F3.out
  have iF3 : Hid (Is w3 (.slice fa F.length fc) F) := iF2.out.fp F3.out AT2
  have iL3 : Hid (Is w3 (.slice la L.length lc) L) := iL2.out.fp F3.out AT2
  clear m0 m1 m2 m3 m4 m5 n0 n1 n2 n3 n4 n5 n6 n7 n8 n9 hgo
  obtain ⟨m0, m1, m2, m3, m4, m5, _⟩ := B6.facts D3
  obtain ⟨z0, z1, z2, z3, z4, z5, z6, z7, z8, z9⟩ := B5p.facts C3
  obtain ⟨x0, x1, x2, x3, x4, x5, x6, x7, x8, x9⟩ := B5p.facts BN3
  go_wp2_with fail
  have MS := Mv.setCell w3 ⟨w1.heap.size, 4, none⟩ (.bool false)
  have htg : ∀ t, t ≠ 41 → ∀ j cs, w3.heap[j]? = some (.cells cs t (0, 0)) → ¬ j = w1.heap.size := by
    intro t ht j cs hj e
    rw [e] at hj
    exact ht (not_typed hj BN3.out)
  have C4 := B5p.mv C3.out MS (by show ¬ w.heap.size + 1 = w1.heap.size; omega)
  have W4 : Hid (Wp X gp (w3.setCell ⟨w1.heap.size, 4, none⟩ (.bool false)) v' u' (S ++ P.sets) (S ++ P.sets).length _) := Wp.box W3.out BN3.out (by decide) hz2 MS
  have F5 : Hid (Fp gp w (w3.setCell ⟨w1.heap.size, 4, none⟩ (.bool false))) := Fp.box F4.out MS (by show w.heap.size ≤ w1.heap.size; omega)
  have iF4 : Hid (Is (w3.setCell ⟨w1.heap.size, 4, none⟩ (.bool false)) (.slice fa F.length fc) F) := iF3.out.mv MS (htg 3 (by decide))
  have iL4 : Hid (Is (w3.setCell ⟨w1.heap.size, 4, none⟩ (.bool false)) (.slice la L.length lc) L) := iL3.out.mv MS (htg 3 (by decide))
  refine bodyPost_ret (results_cell_row (p := 4) (ty := 41) rfl _ _ (w.heap.size + 1) 41 _ (0, 0) _ rfl (put5_heap C4.out _ _ _ _ _) Tryd.underlying41 rfl (by kernel_rfl)) rfl ?_
  have hn : (signP 5 P).null = false := by simp [signP, againP, optP, hnb]
  have h := RwP.tell (P := signP 5 P) W4 iF4 iL4 hfr hFL HGS C4 hz1 F5 (by omega)
  rw [hn] at h
  exact h

set_option maxRecDepth 20000 in
set_option maxHeartbeats 8000000 in
theorem rw_sign6a (p : Nat → Bool) (x : RX) (IH : RwC x) (hxf : x.formed = true) (hnb : x.pla.null = true) : RwC ⟨6, p, [x]⟩ := by
  intro X K gp v u S G a c w hp hK hW hc hf hG hR hX
  obtain ⟨BR, BZ, Q0⟩ := begin_boxes5 w (.int .i64 6) (.int .u64 (limb p 0)) (.int .u64 (limb p 1)) (.int .u64 (limb p 2)) (.int .u64 (limb p 3)) (.slice a 1 c)
  rw [pla_sign 6 (by decide), sign_cnt] at hc
  rw [pla_sign 6 (by decide)]
  have hnd : RX.nodes ⟨6, p, [x]⟩ = 1 + x.nodes := by rw [nodes_eq]; simp
  rw [hnd] at hG ⊢
  obtain ⟨b, o, a', c', ha, hp2, q0, q1, q2, q3, q4, q5⟩ := (hp.mv Q0.out (fun _ _ h => h)).first
  subst ha
  have hth := IH X K gp v u S G a' c' _ hp2 hK (show Hid _ from hW.out.qt Q0.out) hc hxf (fun i => by have := hG i; omega) hR (fun j hj => Nat.lt_of_lt_of_le (hX j hj) Q0.out.size)
  have HXX : Hid (∀ j, X j → j < w.heap.size) := hX
  have HW : Hid (gp < w.heap.size) := hW.out.lt
  have HFI : Hid (x.pla.Fine) := pla_fine x
  have HC : Hid (S.length + x.pla.cnt ≤ 40) := hc
  have HG : Hid (∀ i, (G i).length + 1600 * (1 + x.nodes) ≤ 64000) := hG
  obtain ⟨k0, k1, k2, k3, k4, k5, _⟩ := B6.facts BR
  clear hp hp2 hK hW hc hf hxf IH hG hR hnd hX
  generalize x.pla = P at *
  generalize x.nodes = nd at *
  generalize limb p 0 = y0 at *
  generalize limb p 1 = y1 at *
  generalize limb p 2 = y2 at *
  generalize limb p 3 = y3 at *
  show Calls Tryd.prog 26 #[.pointer (some ⟨gp, 0, none⟩), .agg #[.int .i64 6, .int .u64 y0, .int .u64 y1, .int .u64 y2, .int .u64 y3, .slice (some ⟨b, o, none⟩) 1 c]] w fun e w' => RwP X gp w S G (signP 6 P) (1 + nd) e w'
  go_enter Tryd.func26, Tryd.ntmps26
  go_wp2_with fail
  generalize ((w.alloc (.cells #[.int .i64 6, .int .u64 y0, .int .u64 y1, .int .u64 y2, .int .u64 y3, .slice (some ⟨b, o, none⟩) 1 c] 29)).alloc (.cells #[.slice none 0 0, .slice none 0 0, .slice none 0 0, .slice none 0 0, .bool false] 41)) = W0 at *
  refine hth.mono ?_
  rintro e w1 ⟨f, l, F, L, v', u', G', rfl, iF, iL, hfr0, hFL, W1, hGG, F1⟩
  rw [hnb]
  have hfr : Hid (Fresh w f l) := hfr0.out.up Q0.out.size
  obtain ⟨fa, fc, rfl⟩ := iF.out.form
  obtain ⟨la, lc, rfl⟩ := iL.out.form
  have BN := B5p.new w1 (.slice none 0 0) (.slice fa F.length fc) (.slice la L.length lc) (.slice none 0 0) (.bool true)
  have QN : Hid (Qt w1 (w1.alloc (.cells #[.slice none 0 0, .slice fa F.length fc, .slice la L.length lc, .slice none 0 0, .bool true] 41))) := Mv.alloc _ _ _
  have HS : Hid ((S ++ P.sets).length = S.length + P.cnt) := by show _ = _; rw [List.length_append, HFI.out.len]
  have HGP : Hid (gp < w1.heap.size) := W1.out.lt
  have hsz : w.heap.size + 1 < w1.heap.size := Nat.lt_of_lt_of_le BZ.out.lt F1.out.size
  have hz0 : w.heap.size ≠ gp := by have := HW.out; omega
  have hz1 : w.heap.size + 1 ≠ gp := by have := HW.out; omega
  have hz2 : w1.heap.size ≠ gp := by have := HGP.out; omega
  have C0 := B6.fp BR.out (F1.out.qt QN.out) hz0
  have CZ := B5p.fp BZ.out (F1.out.qt QN.out) hz1
  obtain ⟨m0, m1, m2, m3, m4, m5, _⟩ := B6.facts C0
  obtain ⟨n0, n1, n2, n3, n4, n5, n6, n7, n8, n9⟩ := B5p.facts BN
  clear hth k0 k1 k2 k3 k4 k5 q0 q1 q2 q3 q4 q5
  have iF2 : Hid (Is w1 (.slice fa F.length fc) F) := iF
  obtain ⟨z0, z1, z2, z3, z4, z5, z6, z7, z8, z9⟩ := B5p.facts (B5p.fp BZ.out F1.out hz1)
  have C3 := B5p.fp BZ.out F1.out hz1
  have F4 : Hid (Fp gp w w1) := (Fr.of_qt Q0.out).trans F1.out
  have HGS : Hid ((∀ i j, j ∈ G' i ↔ j ∈ G i ∨ (signP 6 P).fol S.length i j = true) ∧ ∀ i, (G' i).length + 1600 ≤ (G i).length + 1600 * (1 + nd)) := ⟨hGG.out.1, fun i => by have := hGG.out.2 i; omega⟩
  go_wp2_with fail
  refine bodyPost_ret (results_cell_row (p := 4) (ty := 41) rfl _ _ (w.heap.size + 1) 41 _ (0, 0) _ rfl (B5p.mv (put5_heap C3.out _ _ _ _ _) (Mv.alloc (fun _ => False) _ _) (fun h => h)).out Tryd.underlying41 rfl (by kernel_rfl)) rfl ?_
  have hn : (signP 6 P).null = true := by simp [signP, optP]
  have h := RwP.tell (P := signP 6 P) W1 iF iL hfr hFL HGS C3 hz1 F4 (by omega)
  rw [hn] at h
  exact RwP.qt h (Mv.alloc _ _ _)

set_option maxRecDepth 20000 in
set_option maxHeartbeats 8000000 in
theorem rw_sign6b (p : Nat → Bool) (x : RX) (IH : RwC x) (hxf : x.formed = true) (hnb : x.pla.null = false) : RwC ⟨6, p, [x]⟩ := by
  intro X K gp v u S G a c w hp hK hW hc hf hG hR hX
  obtain ⟨BR, BZ, Q0⟩ := begin_boxes5 w (.int .i64 6) (.int .u64 (limb p 0)) (.int .u64 (limb p 1)) (.int .u64 (limb p 2)) (.int .u64 (limb p 3)) (.slice a 1 c)
  rw [pla_sign 6 (by decide), sign_cnt] at hc
  rw [pla_sign 6 (by decide)]
  have hnd : RX.nodes ⟨6, p, [x]⟩ = 1 + x.nodes := by rw [nodes_eq]; simp
  rw [hnd] at hG ⊢
  obtain ⟨b, o, a', c', ha, hp2, q0, q1, q2, q3, q4, q5⟩ := (hp.mv Q0.out (fun _ _ h => h)).first
  subst ha
  have hth := IH X K gp v u S G a' c' _ hp2 hK (show Hid _ from hW.out.qt Q0.out) hc hxf (fun i => by have := hG i; omega) hR (fun j hj => Nat.lt_of_lt_of_le (hX j hj) Q0.out.size)
  have HXX : Hid (∀ j, X j → j < w.heap.size) := hX
  have HW : Hid (gp < w.heap.size) := hW.out.lt
  have HFI : Hid (x.pla.Fine) := pla_fine x
  have HC : Hid (S.length + x.pla.cnt ≤ 40) := hc
  have HG : Hid (∀ i, (G i).length + 1600 * (1 + x.nodes) ≤ 64000) := hG
  obtain ⟨k0, k1, k2, k3, k4, k5, _⟩ := B6.facts BR
  clear hp hp2 hK hW hc hf hxf IH hG hR hnd hX
  generalize x.pla = P at *
  generalize x.nodes = nd at *
  generalize limb p 0 = y0 at *
  generalize limb p 1 = y1 at *
  generalize limb p 2 = y2 at *
  generalize limb p 3 = y3 at *
  show Calls Tryd.prog 26 #[.pointer (some ⟨gp, 0, none⟩), .agg #[.int .i64 6, .int .u64 y0, .int .u64 y1, .int .u64 y2, .int .u64 y3, .slice (some ⟨b, o, none⟩) 1 c]] w fun e w' => RwP X gp w S G (signP 6 P) (1 + nd) e w'
  go_enter Tryd.func26, Tryd.ntmps26
  go_wp2_with fail
  generalize ((w.alloc (.cells #[.int .i64 6, .int .u64 y0, .int .u64 y1, .int .u64 y2, .int .u64 y3, .slice (some ⟨b, o, none⟩) 1 c] 29)).alloc (.cells #[.slice none 0 0, .slice none 0 0, .slice none 0 0, .slice none 0 0, .bool false] 41)) = W0 at *
  refine hth.mono ?_
  rintro e w1 ⟨f, l, F, L, v', u', G', rfl, iF, iL, hfr0, hFL, W1, hGG, F1⟩
  rw [hnb]
  have hfr : Hid (Fresh w f l) := hfr0.out.up Q0.out.size
  obtain ⟨fa, fc, rfl⟩ := iF.out.form
  obtain ⟨la, lc, rfl⟩ := iL.out.form
  have BN := B5p.new w1 (.slice none 0 0) (.slice fa F.length fc) (.slice la L.length lc) (.slice none 0 0) (.bool false)
  have QN : Hid (Qt w1 (w1.alloc (.cells #[.slice none 0 0, .slice fa F.length fc, .slice la L.length lc, .slice none 0 0, .bool false] 41))) := Mv.alloc _ _ _
  have HS : Hid ((S ++ P.sets).length = S.length + P.cnt) := by show _ = _; rw [List.length_append, HFI.out.len]
  have HGP : Hid (gp < w1.heap.size) := W1.out.lt
  have hsz : w.heap.size + 1 < w1.heap.size := Nat.lt_of_lt_of_le BZ.out.lt F1.out.size
  have hz0 : w.heap.size ≠ gp := by have := HW.out; omega
  have hz1 : w.heap.size + 1 ≠ gp := by have := HW.out; omega
  have hz2 : w1.heap.size ≠ gp := by have := HGP.out; omega
  have C0 := B6.fp BR.out (F1.out.qt QN.out) hz0
  have CZ := B5p.fp BZ.out (F1.out.qt QN.out) hz1
  obtain ⟨m0, m1, m2, m3, m4, m5, _⟩ := B6.facts C0
  obtain ⟨n0, n1, n2, n3, n4, n5, n6, n7, n8, n9⟩ := B5p.facts BN
  clear hth k0 k1 k2 k3 k4 k5 q0 q1 q2 q3 q4 q5
  have iF2 : Hid (Is w1 (.slice fa F.length fc) F) := iF
  obtain ⟨z0, z1, z2, z3, z4, z5, z6, z7, z8, z9⟩ := B5p.facts (B5p.fp BZ.out F1.out hz1)
  have C3 := B5p.fp BZ.out F1.out hz1
  have F4 : Hid (Fp gp w w1) := (Fr.of_qt Q0.out).trans F1.out
  have HGS : Hid ((∀ i j, j ∈ G' i ↔ j ∈ G i ∨ (signP 6 P).fol S.length i j = true) ∧ ∀ i, (G' i).length + 1600 ≤ (G i).length + 1600 * (1 + nd)) := ⟨hGG.out.1, fun i => by have := hGG.out.2 i; omega⟩
  go_wp2_with fail
  refine bodyPost_ret (results_cell_row (p := 4) (ty := 41) rfl _ _ (w.heap.size + 1) 41 _ (0, 0) _ rfl (B5p.mv (put5_heap C3.out _ _ _ _ _) (Mv.alloc (fun _ => False) _ _) (fun h => h)).out Tryd.underlying41 rfl (by kernel_rfl)) rfl ?_
  have hn : (signP 6 P).null = true := by simp [signP, optP]
  have h := RwP.tell (P := signP 6 P) W1 iF iL hfr hFL HGS C3 hz1 F4 (by omega)
  rw [hn] at h
  exact RwP.qt h (Mv.alloc _ _ _)

end Go.Proofs.YtojbakkbmfgoaaaDoor

namespace Go.Proofs.YtojbakkbmfgoaaaDoor
open Go.RowKit
set_option linter.unusedVariables false
set_option linter.unusedSimpArgs false

theorem Oi.typed {w : World} {base : Nat} {v : Value} {l : List Nat} (h : Oi w base v l) {j : Nat} (hj : v.ownBlock = some j) : ∃ cs, w.heap[j]? = some (.cells cs 3 (0, 0)) := by
  rcases h.2 with ⟨rfl, _⟩ | ⟨g, cap, cur, rfl, _, hg, _⟩
  · cases hj
  · have e2 : g = j := Option.some.inj hj
    exact ⟨cur, by rw [← e2]; exact hg⟩
theorem Oi.fp {gp base : Nat} {w w' : World} {v : Value} {l : List Nat} (h : Oi w base v l) (f : Fp gp w w') {v0 v1 v2 v3 v4 : Value} (hg : B5p 41 gp v0 v1 v2 v3 v4 w) : Oi w' base v l := by
  refine h.mv f (fun j hj => ?_)
  rintro ⟨_, e | ⟨cs', t', m', e, e2⟩⟩
  · obtain ⟨cs, hc⟩ := h.typed hj
    rw [e] at hc
    have := not_typed hc hg; omega
  · obtain ⟨cs, hc⟩ := h.typed hj
    have := not_typed hc e
    rw [← this] at e2
    simp at e2
theorem Is.far {S : Nat → Prop} {w w' : World} {v : Value} {l : List Nat} (h : Is w v l) (m : Mv S w w') (hs : ∀ j, v.ownBlock = some j → ¬ S j) : Is w' v l := by
  obtain ⟨a, c, e, h1, h2, h3, h4⟩ := h
  have hs2 : ∀ p, a = some p → ¬ S p.block := fun p hp => hs _ (by rw [e, hp]; rfl)
  refine ⟨a, c, e, h1.mv m hs2, h2, h3, fun p hp => ?_⟩
  obtain ⟨cs, hc⟩ := h4 p hp
  exact ⟨cs, (m.block _ (Array.getElem?_eq_some_iff.1 hc).1 (hs2 p hp)).trans hc⟩
/-- Rows of ints turn that X names. -/
theorem Wp.ints {X S : Nat → Prop} {gp : Nat} {w w' : World} {v u : Value} {T : List (Nat → Bool)} {n : Nat} {G : Nat → List Nat} (h : Wp X gp w v u T n G) (m : Mv S w w') (hS : ∀ j, S j → X j ∧ ∃ cs, w.heap[j]? = some (.cells cs 3 (0, 0))) : Wp X gp w' v u T n G := by
  have htg : ∀ t, t ≠ 3 → ∀ j cs, w.heap[j]? = some (.cells cs t (0, 0)) → ¬ S j := by
    intro t ht j cs hj e
    obtain ⟨_, ds, hd⟩ := hS j e
    exact ht (not_typed hj hd)
  refine ⟨(B5p.mv h.at_ m (htg 41 (by decide) _ _ h.at_)).out, m.owns h.sets (fun j hj => ?_), ?_⟩
  · obtain ⟨cs, hc⟩ := Os.typed h.sets hj
    exact htg 26 (by decide) _ _ hc
  · obtain ⟨vs, h1, h2⟩ := h.fol
    refine ⟨vs, h1.mv m (fun j hj => ?_), fun i hi => ⟨(h2 i hi).1.far m (fun j hj e => (h2 i hi).2 j hj (hS j e).1), (h2 i hi).2⟩⟩
    obtain ⟨cs, hc⟩ := h1.typed hj
    exact htg 34 (by decide) _ _ hc
theorem Wp.less {X Y : Nat → Prop} {gp : Nat} {w : World} {v u : Value} {T : List (Nat → Bool)} {n : Nat} {G : Nat → List Nat} (h : Wp X gp w v u T n G) (e : ∀ j, j < w.heap.size → Y j → X j) : Wp Y gp w v u T n G := ⟨h.at_, h.sets, h.fol.less e⟩
/-- What X names, and two rows. -/
def Xt (X : Nat → Prop) (f l : Value) : Nat → Prop := fun j => X j ∨ (f.ownBlock = some j ∨ l.ownBlock = some j)
/-- Which numbers a row has. -/
def Fl (P : Pla) (k : Nat) (F L : List Nat) : Prop := (∀ n, n ∈ F ↔ P.fst k n = true) ∧ (∀ n, n ∈ L ↔ P.lst k n = true) ∧ F.length ≤ P.cnt ∧ L.length ≤ P.cnt
/-- While parts are gone through, one or the other. -/
structure Ta (X : Nat → Prop) (gp : Nat) (w wr : World) (S : List (Nat → Bool)) (G : Nat → List Nat) (P : Pla) (nd : Nat) (v u f l : Value) (F L : List Nat) (H : Nat → List Nat) (r0 r1 r2 r3 r4 r5 : Value) : Prop where
  wp : Wp (Xt X f l) gp wr v u (S ++ P.sets) (S ++ P.sets).length H
  hh : (∀ i j, j ∈ H i ↔ j ∈ G i ∨ P.fol S.length i j = true) ∧ ∀ i, (H i).length ≤ (G i).length + 1600 * nd
  out : B5p 41 (w.heap.size + 2) (.slice none 0 0) f l (.slice none 0 0) (.bool P.null) wr
  of : Oi wr w.heap.size f F
  ol : Oi wr w.heap.size l L
  ne : ∀ j, f.ownBlock = some j → l.ownBlock ≠ some j
  fl : Fl P S.length F L
  fp : Fp gp w wr
  rb : B6 w.heap.size r0 r1 r2 r3 r4 r5 wr
  zb : B5p 41 (w.heap.size + 1) (.slice none 0 0) (.slice none 0 0) (.slice none 0 0) (.slice none 0 0) (.bool false) wr
  lo : gp < w.heap.size
/-- What becomes of two rows. -/
theorem alt_app {b : Nat} {w : World} {f l fx lx : Value} {F L Fx Lx : List Nat} (hf : Oi w b f F) (hl : Oi w b l L) (ne : ∀ j, f.ownBlock = some j → l.ownBlock ≠ some j) (iF : Is w fx Fx) (iL : Is w lx Lx) (hx : ∀ j, lx.ownBlock = some j → f.ownBlock ≠ some j) (h1 : F.length + Fx.length < 100000) (h2 : L.length + Lx.length < 100000) (hb : b ≤ w.heap.size) :
    ∃ af cf W1 al cl W2, (Builtin.append_ #[34, 34] 34 #[f, fx]).run Tryd.prog w = .ok (.slice af (F.length + Fx.length) cf) W1 ∧ (Builtin.append_ #[34, 34] 34 #[l, lx]).run Tryd.prog W1 = .ok (.slice al (L.length + Lx.length) cl) W2 ∧
      Hid (Oi W2 b (.slice af (F.length + Fx.length) cf) (F ++ Fx)) ∧ Hid (Oi W2 b (.slice al (L.length + Lx.length) cl) (L ++ Lx)) ∧ Hid (Mv (fun j => f.ownBlock = some j) w W1) ∧ Hid (Mv (fun j => f.ownBlock = some j ∨ l.ownBlock = some j) w W2) ∧
      Hid (∀ j, (Value.slice af (F.length + Fx.length) cf).ownBlock = some j → (Value.slice al (L.length + Lx.length) cl).ownBlock ≠ some j) ∧ Hid (∀ j, (Value.slice af (F.length + Fx.length) cf).ownBlock = some j ∨ (Value.slice al (L.length + Lx.length) cl).ownBlock = some j → (f.ownBlock = some j ∨ l.ownBlock = some j) ∨ w.heap.size ≤ j) := by
  obtain ⟨f1, W1, r1, o1, m1, n1⟩ := hf.app iF h1 hb
  have hl1 : Oi W1 b l L := hl.mv m1 (fun j hj e => ne j e hj)
  have iL1 : Is W1 lx Lx := iL.far m1 (fun j hj e => hx j hj e)
  obtain ⟨l1, W2, r2, o2, m2, n2⟩ := hl1.app iL1 h2 (Nat.le_trans hb m1.size)
  have hfb : ∀ j, f1.ownBlock = some j → f.ownBlock = some j ∨ (w.heap.size ≤ j ∧ j < W1.heap.size) := by
    intro j hj
    rcases n1 with n1 | ⟨g, e, hg⟩
    · exact .inl (n1 ▸ hj)
    · have e2 : g = j := by rw [e] at hj; exact Option.some.inj hj
      exact .inr ⟨by omega, (ow_blk o1 j hj).2⟩
  have hlb : ∀ j, l1.ownBlock = some j → l.ownBlock = some j ∨ W1.heap.size ≤ j := by
    intro j hj
    rcases n2 with n2 | ⟨g, e, hg⟩
    · exact .inl (n2 ▸ hj)
    · have e2 : g = j := by rw [e] at hj; exact Option.some.inj hj
      exact .inr (by omega)
  have hlw : ∀ j, l.ownBlock = some j → j < w.heap.size := fun j hj => (ow_blk hl j hj).2
  have hfw : ∀ j, f.ownBlock = some j → j < w.heap.size := fun j hj => (ow_blk hf j hj).2
  have o1' : Oi W2 b f1 (F ++ Fx) := o1.mv m2 (fun j hj e => by
    rcases hfb j hj with h | h
    · exact ne j h e
    · have := hlw j e; omega)
  have m12 : Mv (fun j => f.ownBlock = some j ∨ l.ownBlock = some j) w W2 := Mv.trans (m1.mono (fun _ _ h => .inl h)) m2 (fun _ _ h => .inr h)
  obtain ⟨af, cf, e1⟩ := o1.is.form
  obtain ⟨al, cl, e2⟩ := o2.is.form
  rw [List.length_append] at e1 e2
  have hms := m1.size
  subst e1 e2
  refine ⟨af, cf, W1, al, cl, W2, r1, r2, o1', o2, m1, m12, fun j hj hj2 => ?_, fun j hj => ?_⟩
  · rcases hfb j hj with h | h <;> rcases hlb j hj2 with k | k
    · exact ne j h k
    · have := hfw j h; omega
    · have := hlw j k; omega
    · omega
  · rcases hj with hj | hj
    · rcases hfb j hj with h | h
      · exact .inl (.inl h)
      · exact .inr h.1
    · rcases hlb j hj with h | h
      · exact .inl (.inr h)
      · exact .inr (by omega)
/-- What the region of alternatives reads. -/
theorem kA {g x : Nat} {w : World} {f l fx lx : Value} {b c : Bool} (h : B5p 41 g (.slice none 0 0) f l (.slice none 0 0) (.bool b) w) (k : B5p 41 x (.slice none 0 0) fx lx (.slice none 0 0) (.bool c) w) :
    w.cell? ⟨g, 1, none⟩ = some f ∧ w.cell? ⟨g, 2, none⟩ = some l ∧ w.cell? ⟨g, 4, none⟩ = some (.bool b) ∧ w.cell? ⟨x, 1, none⟩ = some fx ∧ w.cell? ⟨x, 2, none⟩ = some lx ∧ w.cell? ⟨x, 4, none⟩ = some (.bool c) := by
  obtain ⟨_, a1, a2, _, a4, _⟩ := B5p.facts (show Hid _ from h)
  obtain ⟨_, b1, b2, _, b4, _⟩ := B5p.facts (show Hid _ from k)
  exact ⟨a1, a2, a4, b1, b2, b4⟩
theorem fl_or {P Y : Pla} {k : Nat} {F L Fx Lx : List Nat} (h : Fl P k F L) (g : Fl Y (k + P.cnt) Fx Lx) : Fl (orP P Y) k (F ++ Fx) (L ++ Lx) := by
  obtain ⟨h1, h2, h3, h4⟩ := h
  obtain ⟨g1, g2, g3, g4⟩ := g
  refine ⟨fun n => ?_, fun n => ?_, ?_, ?_⟩
  · rw [List.mem_append, h1, g1]; show _ ↔ (P.fst k n || Y.fst (k + P.cnt) n) = true; rw [Bool.or_eq_true]
  · rw [List.mem_append, h2, g2]; show _ ↔ (P.lst k n || Y.lst (k + P.cnt) n) = true; rw [Bool.or_eq_true]
  · rw [List.length_append]; show _ ≤ P.cnt + Y.cnt; omega
  · rw [List.length_append]; show _ ≤ P.cnt + Y.cnt; omega
/-- One part more. -/
theorem Ta.next {X : Nat → Prop} {gp : Nat} {w wr w1 : World} {S : List (Nat → Bool)} {G H H1 : Nat → List Nat} {P Y : Pla} {nd ny : Nat} {v u f l v1 u1 fx lx r0 r1 r2 r3 r4 r5 : Value} {F L Fx Lx : List Nat} (h : Hid (Ta X gp w wr S G P nd v u f l F L H r0 r1 r2 r3 r4 r5)) (hP : P.Fine) (hc : P.cnt + Y.cnt ≤ 40)
    (iF : Hid (Is w1 fx Fx)) (iL : Hid (Is w1 lx Lx)) (hfr : Hid (Fresh wr fx lx)) (hFL : Hid ((∀ n, n ∈ Fx ↔ Y.fst (S ++ P.sets).length n = true) ∧ (∀ n, n ∈ Lx ↔ Y.lst (S ++ P.sets).length n = true) ∧ Fx.length ≤ Y.cnt ∧ Lx.length ≤ Y.cnt)) (hW : Hid (Wp (Xt X f l) gp w1 v1 u1 ((S ++ P.sets) ++ Y.sets) ((S ++ P.sets) ++ Y.sets).length H1)) (hH : Hid ((∀ i j, j ∈ H1 i ↔ j ∈ H i ∨ Y.fol (S ++ P.sets).length i j = true) ∧ ∀ i, (H1 i).length + 1600 ≤ (H i).length + 1600 * ny)) (hF : Hid (Fp gp wr w1)) :
    ∃ af cf W1 al cl W2, (Builtin.append_ #[34, 34] 34 #[f, fx]).run Tryd.prog (w1.alloc (.cells #[.slice none 0 0, fx, lx, .slice none 0 0, .bool Y.null] 41)).drew = .ok (.slice af (F.length + Fx.length) cf) W1 ∧ (Builtin.append_ #[34, 34] 34 #[l, lx]).run Tryd.prog W1 = .ok (.slice al (L.length + Lx.length) cl) W2 ∧
      Hid (B5p 41 (w.heap.size + 2) (.slice none 0 0) f l (.slice none 0 0) (.bool P.null) (w1.alloc (.cells #[.slice none 0 0, fx, lx, .slice none 0 0, .bool Y.null] 41)).drew ∧ B5p 41 w1.heap.size (.slice none 0 0) fx lx (.slice none 0 0) (.bool Y.null) (w1.alloc (.cells #[.slice none 0 0, fx, lx, .slice none 0 0, .bool Y.null] 41)).drew) ∧
      Hid (B5p 41 (w.heap.size + 2) (.slice none 0 0) f l (.slice none 0 0) (.bool P.null) W1 ∧ B5p 41 w1.heap.size (.slice none 0 0) fx lx (.slice none 0 0) (.bool Y.null) W1) ∧ Hid (B5p 41 (w.heap.size + 2) (.slice none 0 0) f l (.slice none 0 0) (.bool P.null) W2 ∧ B5p 41 w1.heap.size (.slice none 0 0) fx lx (.slice none 0 0) (.bool Y.null) W2) ∧
      Hid (Ta X gp w (((W2.setCell ⟨w.heap.size + 2, 1, none⟩ (.slice af (F.length + Fx.length) cf)).setCell ⟨w.heap.size + 2, 2, none⟩ (.slice al (L.length + Lx.length) cl)).setCell ⟨w.heap.size + 2, 4, none⟩ (.bool (P.null || Y.null))) S G (orP P Y) (nd + ny) v1 u1 (.slice af (F.length + Fx.length) cf) (.slice al (L.length + Lx.length) cl) (F ++ Fx) (L ++ Lx) H1 r0 r1 r2 r3 r4 r5) := by
  have h' := h.out
  have QD : Qt w1 (w1.alloc (.cells #[.slice none 0 0, fx, lx, .slice none 0 0, .bool Y.null] 41)).drew := Qt.drew ((Qt.refl _).alloc _)
  have BX : B5p 41 w1.heap.size (.slice none 0 0) fx lx (.slice none 0 0) (.bool Y.null) (w1.alloc (.cells #[.slice none 0 0, fx, lx, .slice none 0 0, .bool Y.null] 41)).drew := B5p.new w1 _ _ _ _ _
  have hsz : w1.heap.size < (w1.alloc (.cells #[.slice none 0 0, fx, lx, .slice none 0 0, .bool Y.null] 41)).drew.heap.size := BX.lt
  have F2 : Fp gp wr (w1.alloc (.cells #[.slice none 0 0, fx, lx, .slice none 0 0, .bool Y.null] 41)).drew := hF.out.qt QD
  have W2' := hW.out.qt QD
  have iF2 := iF.out.qt QD
  have iL2 := iL.out.qt QD
  generalize (w1.alloc (.cells #[.slice none 0 0, fx, lx, .slice none 0 0, .bool Y.null] 41)).drew = V at *
  have hwr : w.heap.size ≤ wr.heap.size := h'.fp.size
  have hVs : wr.heap.size ≤ V.heap.size := F2.size
  have of2 := h'.of.fp F2 h'.wp.at_
  have ol2 := h'.ol.fp F2 h'.wp.at_
  have hlo := h'.lo
  obtain ⟨af, cf, W1, al, cl, W2, ra, rb, o1, o2, m1, m2, ne1, nb⟩ := alt_app of2 ol2 h'.ne iF2 iL2 (fun j hj e => by
    have a1 := hfr.out j (.inr hj)
    have a2 := (ow_blk h'.of j e).2
    omega) (by have := h'.fl.2.2.1; have := hFL.out.2.2.1; omega) (by have := h'.fl.2.2.2; have := hFL.out.2.2.2; omega) (Nat.le_trans hwr hVs)
  have BO : B5p 41 (w.heap.size + 2) (.slice none 0 0) f l (.slice none 0 0) (.bool P.null) V := (B5p.fp h'.out F2 (by omega)).out
  have BR := (B6.fp h'.rb F2 (by omega)).out
  have BZ := (B5p.fp h'.zb F2 (by omega)).out
  have t1 : ∀ j, f.ownBlock = some j ∨ l.ownBlock = some j → ∃ cs, V.heap[j]? = some (.cells cs 3 (0, 0)) := by
    intro j hj
    rcases hj with hj | hj
    · exact of2.typed hj
    · exact ol2.typed hj
  have k41 : ∀ g cs t, t ≠ 3 → V.heap[g]? = some (.cells cs t (0, 0)) → ¬ (f.ownBlock = some g ∨ l.ownBlock = some g) := by
    intro g cs t ht hg e
    obtain ⟨ds, hd⟩ := t1 g e
    exact ht (not_typed hg hd)
  have m1' : Mv (fun j => f.ownBlock = some j ∨ l.ownBlock = some j) V W1 := m1.out.mono (fun _ _ h => .inl h)
  refine ⟨af, cf, W1, al, cl, W2, ra, rb, ⟨BO, BX⟩, ⟨(B5p.mv BO m1' (k41 _ _ 41 (by decide) BO)).out, (B5p.mv BX m1' (k41 _ _ 41 (by decide) BX)).out⟩, ⟨(B5p.mv BO m2.out (k41 _ _ 41 (by decide) BO)).out, (B5p.mv BX m2.out (k41 _ _ 41 (by decide) BX)).out⟩, ?_⟩
  have BO2 := (B5p.mv BO m2.out (k41 _ _ 41 (by decide) BO)).out
  have BR2 := (B6.mv BR m2.out (k41 _ _ 29 (by decide) BR)).out
  have BZ2 := (B5p.mv BZ m2.out (k41 _ _ 41 (by decide) BZ)).out
  have WY : Wp (fun j => Xt X f l j ∨ V.heap.size ≤ j) gp V v1 u1 ((S ++ P.sets) ++ Y.sets) ((S ++ P.sets) ++ Y.sets).length H1 := W2'.less (fun j hj e => by
    rcases e with e | e
    · exact e
    · omega)
  have WZ := WY.ints m2.out (fun j hj => ⟨.inl (.inr hj), t1 j hj⟩)
  have WX : Wp (Xt X (.slice af (F.length + Fx.length) cf) (.slice al (L.length + Lx.length) cl)) gp W2 v1 u1 ((S ++ P.sets) ++ Y.sets) ((S ++ P.sets) ++ Y.sets).length H1 := WZ.less (fun j _ e => by
    rcases e with e | e
    · exact .inl (.inl e)
    · rcases nb.out j e with e | e
      · exact .inl (.inr e)
      · exact .inr e)
  have m3 : Mv (fun j => j = w.heap.size + 2) W2 (((W2.setCell ⟨w.heap.size + 2, 1, none⟩ (.slice af (F.length + Fx.length) cf)).setCell ⟨w.heap.size + 2, 2, none⟩ (.slice al (L.length + Lx.length) cl)).setCell ⟨w.heap.size + 2, 4, none⟩ (.bool (P.null || Y.null))) :=
    Mv.trans (Mv.trans (Mv.setCell W2 ⟨w.heap.size + 2, 1, none⟩ _) (Mv.setCell _ ⟨w.heap.size + 2, 2, none⟩ _) (fun _ _ h => h)) (Mv.setCell _ ⟨w.heap.size + 2, 4, none⟩ _) (fun _ _ h => h)
  have k3 : ∀ t, t ≠ 41 → ∀ j cs, W2.heap[j]? = some (.cells cs t (0, 0)) → ¬ j = w.heap.size + 2 := by
    intro t ht j cs hj e
    rw [e] at hj
    exact ht (not_typed hj BO2)
  have hfl := fl_or h'.fl (Y := Y) (Fx := Fx) (Lx := Lx) (by
    have := hFL.out
    rw [List.length_append, hP.len] at this
    exact this)
  refine ⟨?_, ⟨fun i j => ?_, fun i => ?_⟩, heap_set (heap_set (heap_set BO2)), o1.out.mv m3 (fun j hj => ?_), o2.out.mv m3 (fun j hj => ?_), ne1.out, hfl, ?_, (B6.mv BR2 m3 (by omega)).out, (B5p.mv BZ2 m3 (by omega)).out, hlo⟩
  · show Wp _ _ _ _ _ (S ++ (P.sets ++ Y.sets)) (S ++ (P.sets ++ Y.sets)).length _
    rw [← List.append_assoc]
    exact Wp.box WX BO2 (by decide) (by omega) m3
  · rw [hH.out.1, h'.hh.1, List.length_append, hP.len]
    show _ ↔ j ∈ G i ∨ (P.fol S.length i j || Y.fol (S.length + P.cnt) i j) = true
    rw [Bool.or_eq_true, or_assoc]
  · have a1 := hH.out.2 i
    have a2 := h'.hh.2 i
    omega
  · obtain ⟨cs, hc⟩ := o1.out.typed hj
    exact k3 3 (by decide) j cs hc
  · obtain ⟨cs, hc⟩ := o2.out.typed hj
    exact k3 3 (by decide) j cs hc
  · refine Fp.box (Mv.trans (h'.fp.trans F2) m2.out (fun j hj e => ?_)) m3 (by omega)
    exfalso
    have a1 : w.heap.size ≤ j := by
      rcases e with e | e
      · exact (ow_blk h'.of j e).1
      · exact (ow_blk h'.ol j e).1
    omega

end Go.Proofs.YtojbakkbmfgoaaaDoor
