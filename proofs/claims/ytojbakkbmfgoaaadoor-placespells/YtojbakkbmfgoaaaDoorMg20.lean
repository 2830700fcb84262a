/- place.Of, of what may be. -/
import Derived.Test.YtojbakkbmfgoaaaDoorMg19
import Derived.Deep.RegionHeld3
import Derived.Deep.RegionLaw
import Derived.Deep.DrawnRows
import Derived.Test.YtojbakkbmfgoaaaDoorMg09
namespace Go.Proofs.YtojbakkbmfgoaaaDoor
open Go.RowKit
set_option linter.unusedVariables false
attribute [local go_sem ↓] Go.wp_at_zero Go.wp_at_succ

/-- A box of five lies there, the table lies there, and nothing else has turned since W. -/
structure Rp (W : World) (g : Nat) (w' : World) : Prop where
  mv : Mv (fun k => k = g) W w'
  at_ : ∃ c0 c1 c2 c3 c4, w'.heap[g]? = some (.cells #[c0, c1, c2, c3, c4] 37 (0, 0))
  tab : Tab w'
  pos : 0 < g
theorem Rp.lt {W : World} {g : Nat} {w' : World} (h : Rp W g w') : g < w'.heap.size := by
  obtain ⟨_, _, _, _, _, e⟩ := h.at_
  exact (Array.getElem?_eq_some_iff.1 e).1
theorem Rp.qt {W : World} {g : Nat} {w' w'' : World} (h : Hid (Rp W g w')) (q : Hid (Qt w' w'')) : Hid (Rp W g w'') := by
  refine ⟨h.out.mv.trans q.out (fun _ _ h => h.elim), ?_, h.out.tab.qt q.out, h.out.pos⟩
  obtain ⟨c0, c1, c2, c3, c4, e⟩ := h.out.at_
  exact ⟨c0, c1, c2, c3, c4, by rw [q.out.block g h.out.lt (fun h => h), e]⟩
theorem Rp.qt6 {W : World} {g : Nat} {w' w'' : World} {A B C D E : Prop} (q : Hid (Qt w' w'')) (h : A ∧ B ∧ C ∧ D ∧ E ∧ Hid (Rp W g w')) : Hid (Rp W g w'') := Rp.qt h.2.2.2.2.2 q
theorem Rp.drew {W : World} {g : Nat} {w' : World} (h : Hid (Rp W g w')) : Hid (Rp W g w'.drew) := Rp.qt h (Qt.drew (Qt.refl _))
theorem Rp.set {W : World} {g : Nat} {w' : World} (h : Hid (Rp W g w')) (o : Nat) (ho : o < 5) (v : Value) : Hid (Rp W g (w'.setCell ⟨g, o, none⟩ v)) := by
  refine ⟨h.out.mv.trans (Mv.setCell w' _ _) (fun _ _ h => h), ?_, h.out.tab.mv (Mv.setCell w' ⟨g, o, none⟩ v) (fun e => by have := h.out.pos; have e' : 0 = g := e; omega), h.out.pos⟩
  obtain ⟨c0, c1, c2, c3, c4, e⟩ := h.out.at_
  rw [heap_set e]
  rcases (show o = 0 ∨ o = 1 ∨ o = 2 ∨ o = 3 ∨ o = 4 from by omega) with rfl | rfl | rfl | rfl | rfl <;> exact ⟨_, _, _, _, _, rfl⟩
theorem Rp.five {W : World} {g : Nat} {w' : World} (h : Hid (Rp W g w')) (v0 v1 v2 v3 v4 : Value) : Hid (Rp W g (put5 w' g v0 v1 v2 v3 v4)) :=
  Rp.set (Rp.set (Rp.set (Rp.set (Rp.set h 0 (by omega) v0) 1 (by omega) v1) 2 (by omega) v2) 3 (by omega) v3) 4 (by omega) v4
theorem Rp.five6 {W : World} {g : Nat} {w' : World} {A B C D E : Prop} (h : A ∧ B ∧ C ∧ D ∧ E ∧ Hid (Rp W g w')) (v0 v1 v2 v3 v4 : Value) : Hid (Rp W g (put5 w' g v0 v1 v2 v3 v4)) := Rp.five h.2.2.2.2.2 _ _ _ _ _
theorem Rp.cells {W : World} {g : Nat} {w' : World} (h : Hid (Rp W g w')) : ∃ c0 c1 c2 c3 c4, w'.cell? ⟨g, 0, none⟩ = some c0 ∧ w'.cell? ⟨g, 1, none⟩ = some c1 ∧ w'.cell? ⟨g, 2, none⟩ = some c2 ∧ w'.cell? ⟨g, 3, none⟩ = some c3 ∧ w'.cell? ⟨g, 4, none⟩ = some c4 ∧ w'.frozen? ⟨g, 0, none⟩ = false ∧ w'.frozen? ⟨g, 1, none⟩ = false ∧ w'.frozen? ⟨g, 2, none⟩ = false ∧ w'.frozen? ⟨g, 3, none⟩ = false ∧ w'.frozen? ⟨g, 4, none⟩ = false := by
  obtain ⟨c0, c1, c2, c3, c4, e⟩ := h.out.at_
  exact ⟨c0, c1, c2, c3, c4, by simp [World.cell?, e], by simp [World.cell?, e], by simp [World.cell?, e], by simp [World.cell?, e], by simp [World.cell?, e], by simp [World.frozen?, e], by simp [World.frozen?, e], by simp [World.frozen?, e], by simp [World.frozen?, e], by simp [World.frozen?, e]⟩
theorem Rp.keep5 {W : World} {g b d : Nat} {w' : World} {u0 u1 x0 x1 x2 : Value} (c0 : Hid (W.cell? ⟨b, 0, none⟩ = some u0)) (c1 : Hid (W.cell? ⟨b, 1, none⟩ = some u1)) (d0 : Hid (W.cell? ⟨d, 0, none⟩ = some x0)) (d1 : Hid (W.cell? ⟨d, 1, none⟩ = some x1)) (d2 : Hid (W.cell? ⟨d, 2, none⟩ = some x2)) (hb : Hid (b ≠ g)) (hd : Hid (d ≠ g)) (h : Hid (Rp W g w')) :
    w'.cell? ⟨b, 0, none⟩ = some u0 ∧ w'.cell? ⟨b, 1, none⟩ = some u1 ∧ w'.cell? ⟨d, 0, none⟩ = some x0 ∧ w'.cell? ⟨d, 1, none⟩ = some x1 ∧ w'.cell? ⟨d, 2, none⟩ = some x2 ∧ Hid (Rp W g w') :=
  ⟨h.out.mv.cell (p := ⟨b, 0, none⟩) c0.out hb.out, h.out.mv.cell (p := ⟨b, 1, none⟩) c1.out hb.out, h.out.mv.cell (p := ⟨d, 0, none⟩) d0.out hd.out, h.out.mv.cell (p := ⟨d, 1, none⟩) d1.out hd.out, h.out.mv.cell (p := ⟨d, 2, none⟩) d2.out hd.out, h⟩
theorem Rp.tab6 {W : World} {g : Nat} {w' : World} {A B C D E : Prop} (h : A ∧ B ∧ C ∧ D ∧ E ∧ Hid (Rp W g w')) : Hid (Tab w') := h.2.2.2.2.2.out.tab

theorem Oi.form {w : World} {base : Nat} {v : Value} {l : List Nat} (h : Hid (Oi w base v l)) : ∃ a n c, v = .slice a n c := by
  obtain ⟨a, c, e, _⟩ := h.out.is
  exact ⟨a, _, c, e⟩
theorem Ov.form {w : World} {base : Nat} {v : Value} {n : Nat} {G : Nat → List Nat} (h : Hid (Ov w base v n G)) : ∃ a n c, v = .slice a n c := by
  obtain ⟨a, c, _, e, _⟩ := h.out.vs
  exact ⟨a, n, c, e⟩
theorem Rp.sl6 {W : World} {g : Nat} {w' : World} {A B C D E : Prop} {a : Option Addr} {n : Nat} {V : Nat → Value} (s : Hid (Sl W a n V)) (hg : Hid (∀ p, a = some p → p.block ≠ g)) (h : A ∧ B ∧ C ∧ D ∧ E ∧ Hid (Rp W g w')) : Hid (Sl w' a n V) :=
  s.out.mv h.2.2.2.2.2.out.mv (fun p hp e => hg.out p hp e)
theorem Ov.mv {S : Nat → Prop} {w w' : World} {base : Nat} {v : Value} {n : Nat} {G : Nat → List Nat} (h : Ov w base v n G) (m : Mv S w w') (h1 : ∀ j cs, w.heap[j]? = some (.cells cs 34 (0, 0)) → ¬ S j) (h2 : ∀ j cs, w.heap[j]? = some (.cells cs 3 (0, 0)) → ¬ S j) : Ov w' base v n G := by
  obtain ⟨vs, k1, k2⟩ := h
  refine ⟨vs, k1.mv m (fun j hj => ?_), fun i hi => (k2 i hi).mv m h2⟩
  obtain ⟨cs, hc⟩ := Own.typed k1 hj
  exact h1 j cs hc
theorem Ss.mv {S : Nat → Prop} {w w' : World} {a : Option Addr} {n c : Nat} {T : List (Nat → Bool)} (h : Ss w (.slice a n c) T) (m : Mv S w w') (hs : ∀ p, a = some p → ¬ S p.block) : Ss w' (.slice a n c) T := by
  obtain ⟨a2, c2, e, h1⟩ := h
  obtain ⟨rfl, rfl, rfl⟩ := Value.slice.inj e
  exact ⟨_, _, rfl, h1.mv m hs⟩
/-- All that is told lies there behind the store of it. -/
theorem Rp.tell {w W w3 w4 w5 : World} {g b3 b4 b5 n : Nat} {a : Option Addr} {ns cs : Nat} {f1 f2 f3 : Value} {S : List (Nat → Bool)} {F L : List Nat} {G : Nat → List Nat} (r : Hid (Rp W g w5)) (q : Qt w W) (hg : w.heap.size ≤ g) (hS : Hid (Ss W (.slice a ns cs) S)) (ha : Hid (∀ p, a = some p → p.block ≠ g)) (o1 : Hid (Oi w3 b3 f1 F)) (q4 : Hid (Qt w3 w4)) (o2 : Hid (Oi w4 b4 f2 L)) (q5 : Hid (Qt w4 w5)) (o3 : Hid (Ov w5 b5 f3 n G)) (v0 v1 v2 v3 v4 : Value) :
    Hid (Pv (put5 w5 g v0 v1 v2 v3 v4) (.slice a ns cs) f1 f2 f3 S n F L G) ∧ Hid (Qt w (put5 w5 g v0 v1 v2 v3 v4)) := by
  have m := put5_mv w5 g v0 v1 v2 v3 v4
  obtain ⟨c0, c1, c2, c3, c4, e⟩ := r.out.at_
  have hk : ∀ t, t ≠ 37 → ∀ j cs, w5.heap[j]? = some (.cells cs t (0, 0)) → ¬ j = g := by
    intro t ht j cs hj e2
    rw [e2] at hj
    exact ht (not_typed hj e)
  refine ⟨⟨?_, ?_, ?_, ?_⟩, ?_⟩
  · exact (hS.out.mv r.out.mv (fun p hp e => ha.out p hp e)).mv m (fun p hp e => ha.out p hp e)
  · exact ((o1.out.is.qt q4.out).qt q5.out).mv m (hk 3 (by decide))
  · exact (o2.out.is.qt q5.out).mv m (hk 3 (by decide))
  · exact (o3.out.mv m (hk 34 (by decide)) (hk 3 (by decide))).vs
  · exact Mv.trans q (Mv.trans r.out.mv m (fun _ _ h => h)) (fun j hj e => by omega)
set_option maxRecDepth 20000 in
set_option maxHeartbeats 8000000 in
theorem of_yes (x : RX) (hm : may x = 0) (K : Nat → Prop) (a : Option Addr) (c : Nat) (w : World) (hK : ∀ j, K j → j < w.heap.size) (hX : Parts x.args K w a c) (ht : x.tall < 90000) (hT : Hid (Tab w)) (h0 : 0 < w.heap.size) :
    Calls Tryd.prog 10 #[.agg #[.int .i64 x.kind, .int .u64 (limb x.set 0), .int .u64 (limb x.set 1), .int .u64 (limb x.set 2), .int .u64 (limb x.set 3), .slice a x.args.length c]] w fun e w' => OfP w x e w' := by
  have Q0 : Hid (Qt w ((w.alloc (.cells #[.int .i64 x.kind, .int .u64 (limb x.set 0), .int .u64 (limb x.set 1), .int .u64 (limb x.set 2), .int .u64 (limb x.set 3), .slice a x.args.length c] 29)).alloc (zeros5 37))) := ((Qt.refl w).alloc _).alloc _
  have BR : Hid (B6 w.heap.size (.int .i64 x.kind) (.int .u64 (limb x.set 0)) (.int .u64 (limb x.set 1)) (.int .u64 (limb x.set 2)) (.int .u64 (limb x.set 3)) (.slice a x.args.length c) ((w.alloc (.cells #[.int .i64 x.kind, .int .u64 (limb x.set 0), .int .u64 (limb x.set 1), .int .u64 (limb x.set 2), .int .u64 (limb x.set 3), .slice a x.args.length c] 29)).alloc (zeros5 37))) := heap2a w _ _
  have BZ : Hid (B5p 37 (w.heap.size + 1) (.slice none 0 0) (.slice none 0 0) (.slice none 0 0) (.slice none 0 0) (.bool false) ((w.alloc (.cells #[.int .i64 x.kind, .int .u64 (limb x.set 0), .int .u64 (limb x.set 1), .int .u64 (limb x.set 2), .int .u64 (limb x.set 3), .slice a x.args.length c] 29)).alloc (zeros5 37))) := heap_alloc2_new w _ _
  have hmay := may_any x K a c _ (fun j hj => Nat.lt_of_lt_of_le (hK j hj) Q0.out.size) (hX.mv Q0.out (fun _ _ h => h)) ht
  unfold xv at hmay
  rw [hm] at hmay
  obtain ⟨m1, m2, m3⟩ := may_small hm
  have HP : Hid (Parts x.args K w a c) := hX
  have HK : Hid (∀ j, K j → j < w.heap.size) := hK
  have HN : Hid (x.pla.cnt ≤ 40) := Nat.le_trans (cnt_le x) m2
  have HTH := through_any x (by omega) m1
  have HF : Hid (x.pla.Fine) := pla_fine x
  have HFO : Hid (x.formed = true) := m1
  obtain ⟨k0, k1, k2, k3, k4, k5, _⟩ := B6.facts BR
  clear hX hK ht hm m1 m2 m3
  go_enter Tryd.func10, Tryd.ntmps10
  go_wp2_with fail
  generalize ((w.alloc (.cells #[.int .i64 x.kind, .int .u64 (limb x.set 0), .int .u64 (limb x.set 1), .int .u64 (limb x.set 2), .int .u64 (limb x.set 3), .slice a x.args.length c] 29)).alloc (.cells #[.slice none 0 0, .slice none 0 0, .slice none 0 0, .slice none 0 0, .bool false] 37)) = W0 at *
  refine hmay.mono ?_
  rintro e1 w1 ⟨rfl, q1⟩
  have BR1 := B6.mv BR.out q1.out (fun h => h)
  have BZ1 := B5p.mv BZ.out q1.out (fun h => h)
  have Q1 : Hid (Qt w w1) := Q0.out.comp q1.out
  have QA : Hid (Qt w1 (w1.alloc (.cells #[.slice none 0 0, .slice none 0 0] 61))) := Mv.alloc _ _ _
  have hw1 : w.heap.size + 1 < w1.heap.size := BZ1.out.lt
  have WK : Hid (Wk w1.heap.size (w1.alloc (.cells #[.slice none 0 0, .slice none 0 0] 61)) (.slice none 0 0) (.slice none 0 0) [] 0 (fun _ _ => false)) :=
    ⟨heap_alloc_new w1 _, ow_nil _ _ _ _, World.ownsRow_nil _ _ _ _, fun i _ => rfl⟩
  have hth := HTH K w1.heap.size (.slice none 0 0) (.slice none 0 0) [] (fun _ _ => false) a c _ (HP.out.mv (Q1.out.comp QA.out) (fun _ _ h => h)) (fun j hj => Nat.lt_of_lt_of_le (HK.out j hj) Q1.out.size) WK (hT.out.qt (Q1.out.comp QA.out)) (Nat.lt_of_lt_of_le h0 Q1.out.size) (by have := HN.out; simp; omega) HFO.out
  clear k0 k1 k2 k3 k4 k5 hmay
  obtain ⟨k0, k1, k2, k3, k4, k5, _⟩ := B6.facts (B6.mv BR1.out QA.out (fun h => h))
  go_wp2_with fail
  refine hth.mono ?_
  rintro e2 w2 ⟨rfl, v', u', W2, F2⟩
  have QB : Hid (Qt w2 (w2.alloc (.cells #[.int .u64 (limb (x.pla.fst 0) 0), .int .u64 (limb (x.pla.lst 0) 0), .bool x.pla.null] 64))) := Mv.alloc _ _ _
  have hw2 : w1.heap.size < w2.heap.size := W2.out.lt
  have W3 := W2.out.qt QB.out
  have BP := B3p.new w2 (.int .u64 (limb (x.pla.fst 0) 0)) (.int .u64 (limb (x.pla.lst 0) 0)) (.bool x.pla.null)
  have BZ2 := Fr.keep F2.out (B5p.mv BZ1.out QA.out (fun h => h)).out (by omega) (by decide)
  have BZ3 := B5p.mv BZ2 QB.out (fun h => h)
  have T3 : Hid (Tab (w2.alloc (.cells #[.int .u64 (limb (x.pla.fst 0) 0), .int .u64 (limb (x.pla.lst 0) 0), .bool x.pla.null] 64))) := (((hT.out.qt (Q1.out.comp QA.out)).fw F2.out (Nat.lt_of_lt_of_le h0 Q1.out.size))).qt QB.out
  have Q3 : Hid (Qt w (w2.alloc (.cells #[.int .u64 (limb (x.pla.fst 0) 0), .int .u64 (limb (x.pla.lst 0) 0), .bool x.pla.null] 64))) := (Fr.low F2.out (Q1.out.comp QA.out) (by omega)).comp QB.out
  obtain ⟨c0, c1, _, _⟩ := W3.cells
  obtain ⟨d0, d1, d2, _, _, _⟩ := B3p.facts BP
  have HLEN : Hid (([] ++ x.pla.sets).length = x.pla.cnt) := by show _ = _; rw [List.nil_append, HF.out.len]
  obtain ⟨av, cv, hv⟩ := Os.form W3.sets
  rw [List.nil_append, HF.out.len] at hv
  obtain ⟨au, cu, hu⟩ : ∃ a c, u' = .slice a x.pla.cnt c := by
    obtain ⟨a, c, e, _⟩ := W3.fol.sl
    rw [List.nil_append, HF.out.len] at e
    exact ⟨a, c, e⟩
  subst hv hu
  have hcnt : (x.pla.cnt : Int) ≤ 40 := by have := HN.out; omega
  clear k0 k1 k2 k3 k4 k5 hth HTH
  have HSS : Hid (Ss (w2.alloc (.cells #[.int .u64 (limb (x.pla.fst 0) 0), .int .u64 (limb (x.pla.lst 0) 0), .bool x.pla.null] 64)) (.slice av x.pla.cnt cv) x.pla.sets) := by
    have := Os.ss W3.sets
    rw [List.nil_append] at this; exact this
  have HSL : Hid (Sl (w2.alloc (.cells #[.int .u64 (limb (x.pla.fst 0) 0), .int .u64 (limb (x.pla.lst 0) 0), .bool x.pla.null] 64)) au x.pla.cnt (fun i => .int .u64 (limb (x.pla.fol 0 i) 0))) := by
    obtain ⟨a9, c9, e9, hs9, _⟩ := W3.fol.sl
    rw [List.nil_append, HF.out.len] at e9 hs9
    obtain ⟨rfl, _, _⟩ := Value.slice.inj e9
    intro i hi
    obtain ⟨b, o, e1, e2, e3⟩ := hs9 i hi
    exact ⟨b, o, e1, e2, e3.trans (by simp)⟩
  have HAU : Hid (∀ p, au = some p → p.block ≠ w.heap.size + 1) := by
    intro p hp e
    rw [hp] at W3
    have h1 := (ow_blk W3.fol p.block rfl).1
    omega
  have HAV : Hid (∀ p, av = some p → p.block ≠ w.heap.size + 1) := by
    intro p hp e
    rw [hp] at W3
    have h1 := (ow_blk W3.sets p.block rfl).1
    omega
  go_wp2_with fail
  have R0 : Hid (Rp (w2.alloc (.cells #[.int .u64 (limb (x.pla.fst 0) 0), .int .u64 (limb (x.pla.lst 0) 0), .bool x.pla.null] 64)) (w.heap.size + 1) (w2.alloc (.cells #[.int .u64 (limb (x.pla.fst 0) 0), .int .u64 (limb (x.pla.lst 0) 0), .bool x.pla.null] 64))) := ⟨Mv.refl _ _, ⟨_, _, _, _, _, BZ3.out⟩, T3.out, by omega⟩
  clear W3 W2 F2 QB BZ2
  generalize w2.alloc (.cells #[.int .u64 (limb (x.pla.fst 0) 0), .int .u64 (limb (x.pla.lst 0) 0), .bool x.pla.null] 64) = W at *
  have C0 : Hid _ := c0
  have C1 : Hid _ := c1
  have D0 : Hid _ := d0
  have D1 : Hid _ := d1
  have D2 : Hid _ := d2
  have HB : Hid (w1.heap.size ≠ w.heap.size + 1) := (by omega : w1.heap.size ≠ w.heap.size + 1)
  have HD : Hid (w2.heap.size ≠ w.heap.size + 1) := (by omega : w2.heap.size ≠ w.heap.size + 1)
  have hl1 := fun W' (t : Hid (Tab W')) => list_any (x.pla.fst 0) W' t
  have hl2 := fun W' (t : Hid (Tab W')) => list_any (x.pla.lst 0) W' t
  have hl3 := fun W' (t : Hid (Tab W')) (s : Hid (Sl W' au x.pla.cnt (fun i => .int .u64 (limb (x.pla.fol 0 i) 0)))) => lists_any (x.pla.fol 0) x.pla.cnt (by have := HN.out; omega) au cu W' s t
  clear c0 c1 d0 d1 d2
  go_region_held3 (fun w' => w'.cell? ⟨w1.heap.size, 0, none⟩ = some (.slice av x.pla.cnt cv) ∧ w'.cell? ⟨w1.heap.size, 1, none⟩ = some (.slice au x.pla.cnt cu) ∧ w'.cell? ⟨w2.heap.size, 0, none⟩ = some (.int .u64 (limb (x.pla.fst 0) 0)) ∧ w'.cell? ⟨w2.heap.size, 1, none⟩ = some (.int .u64 (limb (x.pla.lst 0) 0)) ∧ w'.cell? ⟨w2.heap.size, 2, none⟩ = some (.bool x.pla.null) ∧ Hid (Rp W (w.heap.size + 1) w'))
    (first | (refine Rp.keep5 C0 C1 D0 D1 D2 HB HD ?_; first | exact Rp.qt6 (by assumption) (by assumption) | exact Rp.drew R0 | exact Rp.five6 (by assumption) _ _ _ _ _))
    ((first
      | (go_at_call 23; with_reducible refine (hl1 _ (Rp.tab6 (W := W) (g := w.heap.size + 1) (by assumption))).mono ?_; rintro e3 w3 ⟨f1, rfl, o1, q3⟩; obtain ⟨fa, fn, fc, rfl⟩ := Oi.form o1)
      | (go_at_call 23; with_reducible refine (hl2 _ (Rp.tab6 (W := W) (g := w.heap.size + 1) (by assumption))).mono ?_; rintro e4 w4 ⟨f2, rfl, o2, q4⟩; obtain ⟨ga, gn, gc, rfl⟩ := Oi.form o2)
      | (go_at_call 24; with_reducible refine (hl3 _ (Rp.tab6 (W := W) (g := w.heap.size + 1) (by assumption)) (Rp.sl6 (W := W) (g := w.heap.size + 1) HSL HAU (by assumption))).mono ?_; rintro e5 w5 ⟨f3, rfl, o3, q5⟩; obtain ⟨ha, hn, hc, rfl⟩ := Ov.form o3; obtain ⟨y0, y1, y2, y3, y4, t0, t1, t2, t3, t4, r0, r1, r2, r3, r4⟩ := Rp.cells (W := W) (g := w.heap.size + 1) (Rp.qt6 q5 (by assumption)))))
  have R5 := Rp.qt (Rp.qt (Rp.qt (Rp.drew R0) q3) q4) q5
  go_wp2_with fail
  refine bodyPost_ret (results_cell_tmp (p := 2) (u := 3) (ty := 37) rfl _ _ (w.heap.size + 1) 37 _ (0, 0) _ _ rfl rfl (put5_heap (by exact R5.out.at_.choose_spec.choose_spec.choose_spec.choose_spec.choose_spec) _ _ _ _ _) Tryd.underlying37 rfl (by kernel_rfl)) rfl ?_
  obtain ⟨t1, t2⟩ := Rp.tell R5 Q3.out (by omega) HSS HAV o1 q4 o2 q5 o3 (.slice av x.pla.cnt cv) (.slice fa fn fc) (.slice ga gn gc) (.slice ha hn hc) (.bool x.pla.null)
  exact ⟨_, _, _, _, rfl, t1, t2⟩

end Go.Proofs.YtojbakkbmfgoaaaDoor

namespace Go.Proofs.YtojbakkbmfgoaaaDoor
open Go.RowKit
set_option linter.unusedVariables false
attribute [local go_sem ↓] Go.wp_at_zero Go.wp_at_succ

/-- A row of one's own, of slices of ints that lie in no block of X. -/
def Ox (X : Nat → Prop) (w : World) (base : Nat) (v : Value) (n : Nat) (G : Nat → List Nat) : Prop := ∃ vs, Own w base 34 v n vs ∧ ∀ i, i < n → Is w (vs i) (G i) ∧ ∀ j, (vs i).ownBlock = some j → ¬ X j
theorem Ox.ov {X : Nat → Prop} {w : World} {base : Nat} {v : Value} {n : Nat} {G : Nat → List Nat} (h : Ox X w base v n G) : Ov w base v n G := by
  obtain ⟨vs, h1, h2⟩ := h
  exact ⟨vs, h1, fun i hi => (h2 i hi).1⟩
theorem Ox.mv {X S : Nat → Prop} {w w' : World} {base : Nat} {v : Value} {n : Nat} {G : Nat → List Nat} (h : Ox X w base v n G) (m : Mv S w w') (h1 : ∀ j cs, w.heap[j]? = some (.cells cs 34 (0, 0)) → ¬ S j) (h2 : ∀ j cs, w.heap[j]? = some (.cells cs 3 (0, 0)) → ¬ S j) : Ox X w' base v n G := by
  obtain ⟨vs, k1, k2⟩ := h
  refine ⟨vs, k1.mv m (fun j hj => ?_), fun i hi => ⟨(k2 i hi).1.mv m h2, (k2 i hi).2⟩⟩
  obtain ⟨cs, hc⟩ := Own.typed k1 hj
  exact h1 j cs hc
theorem Ox.qt {X : Nat → Prop} {w w' : World} {base : Nat} {v : Value} {n : Nat} {G : Nat → List Nat} (h : Ox X w base v n G) (q : Qt w w') : Ox X w' base v n G := h.mv q (fun _ _ _ h => h) (fun _ _ _ h => h)
theorem Ox.congr {X : Nat → Prop} {w : World} {base : Nat} {v : Value} {n : Nat} {G H : Nat → List Nat} (h : Ox X w base v n G) (e : ∀ i, i < n → G i = H i) : Ox X w base v n H := by
  obtain ⟨vs, h1, h2⟩ := h
  exact ⟨vs, h1, fun i hi => by rw [← e i hi]; exact h2 i hi⟩
theorem Ox.less {X Y : Nat → Prop} {w : World} {base : Nat} {v : Value} {n : Nat} {G : Nat → List Nat} (h : Ox X w base v n G) (e : ∀ j, j < w.heap.size → Y j → X j) : Ox Y w base v n G := by
  obtain ⟨vs, h1, h2⟩ := h
  refine ⟨vs, h1, fun i hi => ⟨(h2 i hi).1, fun j hj hy => (h2 i hi).2 j hj (e j ?_ hy)⟩⟩
  obtain ⟨a, c, e2, _, _, _, k⟩ := (h2 i hi).1
  cases a with
  | none => rw [e2] at hj; cases hj
  | some p =>
    obtain ⟨cs, hc⟩ := k p rfl
    rw [e2] at hj
    cases hj
    exact (Array.getElem?_eq_some_iff.1 hc).1
/-- What the reference's walk has so far; what leads where lies in no block of X. -/
structure Wp (X : Nat → Prop) (gp : Nat) (w : World) (v u : Value) (S : List (Nat → Bool)) (n : Nat) (G : Nat → List Nat) : Prop where
  at_ : B5p 41 gp v (.slice none 0 0) (.slice none 0 0) u (.bool false) w
  sets : Os w gp v S
  fol : Ox X w gp u n G
abbrev Fp (gp : Nat) (w w' : World) : Prop := Fr gp gp [26, 34] w w'
theorem Wp.lt {X : Nat → Prop} {gp : Nat} {w : World} {v u : Value} {S : List (Nat → Bool)} {n : Nat} {G : Nat → List Nat} (h : Wp X gp w v u S n G) : gp < w.heap.size := h.at_.lt
theorem Wp.qt {X : Nat → Prop} {gp : Nat} {w w' : World} {v u : Value} {S : List (Nat → Bool)} {n : Nat} {G : Nat → List Nat} (h : Wp X gp w v u S n G) (q : Qt w w') : Wp X gp w' v u S n G :=
  ⟨(B5p.mv h.at_ q (fun h => h)).out, q.owns h.sets (fun _ _ h => h), h.fol.qt q⟩
theorem Wp.congr {X : Nat → Prop} {gp : Nat} {w : World} {v u : Value} {S : List (Nat → Bool)} {n : Nat} {G H : Nat → List Nat} (h : Wp X gp w v u S n G) (e : ∀ i, i < n → G i = H i) : Wp X gp w v u S n H := ⟨h.at_, h.sets, h.fol.congr e⟩
theorem Ov.typed {w : World} {base n : Nat} {v : Value} {G : Nat → List Nat} (h : Ov w base v n G) {j : Nat} (hj : v.ownBlock = some j) : ∃ cs, w.heap[j]? = some (.cells cs 34 (0, 0)) := by
  obtain ⟨vs, h1, _⟩ := h
  exact h1.typed hj
theorem Ov.blk {w : World} {base n : Nat} {v : Value} {G : Nat → List Nat} (h : Ov w base v n G) {j : Nat} (hj : v.ownBlock = some j) : base ≤ j ∧ j < w.heap.size := by
  obtain ⟨vs, h1, _⟩ := h
  exact h1.blk j hj
theorem Wp.ne {X : Nat → Prop} {gp : Nat} {w : World} {v u : Value} {S : List (Nat → Bool)} {n : Nat} {G : Nat → List Nat} (h : Wp X gp w v u S n G) {j : Nat} (hj : v.ownBlock = some j ∨ u.ownBlock = some j) : j ≠ gp := by
  intro e
  subst e
  have h' := h.at_
  rcases hj with hj | hj
  · obtain ⟨cs, hc⟩ := Os.typed h.sets hj
    have := not_typed h' hc
    omega
  · obtain ⟨cs, hc⟩ := Ov.typed h.fol.ov hj
    have := not_typed h' hc
    omega
theorem Wp.apart {X : Nat → Prop} {gp : Nat} {w : World} {v u : Value} {S : List (Nat → Bool)} {n : Nat} {G : Nat → List Nat} (h : Wp X gp w v u S n G) {j : Nat} (h1 : v.ownBlock = some j) (h2 : u.ownBlock = some j) : False := by
  obtain ⟨cs, hc⟩ := Os.typed h.sets h1
  obtain ⟨ds, hd⟩ := Ov.typed h.fol.ov h2
  have := not_typed hc hd
  omega
theorem Is.fp {gp : Nat} {w w' : World} {v : Value} {l : List Nat} (h : Is w v l) (f : Fp gp w w') {v0 v1 v2 v3 v4 : Value} (hg : B5p 41 gp v0 v1 v2 v3 v4 w) : Is w' v l := Fr.is f h hg (by decide) (by decide)
/-- A row's cell, and what becomes of the rows when it is stored into. -/
theorem Ov.at {w : World} {base b n cu : Nat} {G : Nat → List Nat} (h : Ov w base (.slice (some ⟨b, 0, none⟩) n cu) n G) {i : Nat} (hi : i < n) : ∃ s, w.cell? ⟨b, i, none⟩ = some s ∧ w.frozen? ⟨b, i, none⟩ = false ∧ Is w s (G i) := by
  obtain ⟨vs, h1, h2⟩ := h
  obtain ⟨k1, k2⟩ := h1.at hi
  exact ⟨vs i, k1, k2, h2 i hi⟩
theorem Ox.store {X : Nat → Prop} {w : World} {base b n cu : Nat} {G : Nat → List Nat} {s : Value} {l : List Nat} (h : Ox X w base (.slice (some ⟨b, 0, none⟩) n cu) n G) (i : Nat) (hs : Is w s l) (hx : ∀ j, s.ownBlock = some j → ¬ X j) : Ox X (w.setCell ⟨b, i, none⟩ s) base (.slice (some ⟨b, 0, none⟩) n cu) n (fun a => if a = i then l else G a) := by
  obtain ⟨cs, hc⟩ := Ov.typed h.ov (j := b) rfl
  obtain ⟨vs, h1, h2⟩ := h
  have m := Mv.setCell w ⟨b, i, none⟩ s
  have hk : ∀ j ds, w.heap[j]? = some (.cells ds 3 (0, 0)) → ¬ j = b := by
    intro j ds hj e
    rw [e] at hj
    have := not_typed hj hc
    omega
  have h3 := (World.ownsRow.stored h1 i s).1
  rw [row_set] at h3
  refine ⟨fun a => if a = i then s else vs a, h3, fun a ha => ?_⟩
  by_cases e : a = i
  · simp only [if_pos e]; exact ⟨hs.mv m hk, hx⟩
  · simp only [if_neg e]; exact ⟨(h2 a ha).1.mv m hk, (h2 a ha).2⟩

/-- Each of m behind each of l. -/
def goesG (G : Nat → List Nat) (l m : List Nat) : Nat → List Nat := l.foldl (fun H c a => if a = c then H a ++ m else H a) G
theorem goesG_succ (G : Nat → List Nat) {l : List Nat} (m : List Nat) {i c : Nat} (h : l[i]? = some c) : goesG G (l.take (i + 1)) m = fun a => if a = c then goesG G (l.take i) m a ++ m else goesG G (l.take i) m a := by
  unfold goesG
  rw [List.take_add_one, h]
  simp only [Option.toList_some, List.foldl_append, List.foldl_cons, List.foldl_nil]
theorem goesG_mem (m : List Nat) (a j : Nat) : ∀ (l : List Nat) (G : Nat → List Nat), j ∈ goesG G l m a ↔ j ∈ G a ∨ (a ∈ l ∧ j ∈ m)
  | [], G => by simp [goesG]
  | c :: l, G => by
    show j ∈ goesG (fun a => if a = c then G a ++ m else G a) l m a ↔ _
    rw [goesG_mem m a j l]
    by_cases e : a = c
    · subst e
      simp only [if_true, List.mem_append, List.mem_cons, true_or, true_and]
      constructor
      · rintro ((h | h) | ⟨h1, h2⟩)
        · exact .inl h
        · exact .inr h
        · exact .inr h2
      · rintro (h | h)
        · exact .inl (.inl h)
        · exact .inl (.inr h)
    · simp only [List.mem_cons, e, false_or, if_false]
theorem goesG_len (m : List Nat) (a : Nat) : ∀ (l : List Nat) (G : Nat → List Nat), (goesG G l m a).length ≤ (G a).length + l.length * m.length
  | [], G => by simp [goesG]
  | c :: l, G => by
    show (goesG (fun a => if a = c then G a ++ m else G a) l m a).length ≤ _
    refine Nat.le_trans (goesG_len m a l _) ?_
    simp only [List.length_cons, Nat.add_mul, Nat.one_mul]
    split
    · rw [List.length_append]; omega
    · omega

end Go.Proofs.YtojbakkbmfgoaaaDoor

namespace Go.Proofs.YtojbakkbmfgoaaaDoor
open Go.RowKit
set_option linter.unusedVariables false
set_option linter.unusedSimpArgs false
attribute [local go_sem ↓] Go.wp_at_zero Go.wp_at_succ

theorem takeV {P : Program} {ops : Array Oper} {Q : Exit → Act → World → Prop} {md : Region.Mode} {S : World → Prop} {i : Nat} (oi : Oper) (d : Option Tmp) (v : Value) {fuel : Nat} {listed : Array Bool} {a : Act} {w : World} (hi : ops[i]? = some oi) (hd : oi.dst = d)
    (hs : Region.noSelect ops = true) (hf : Region.free md ops listed i = true) (hr : (Region.ready md ops listed).contains i = true)
    (hQ : ∀ c a w, Q (.panic c) (a.put d v) w → Q (.panic c) a w) (hy : YieldsIf P ops S oi v a) (hS : S w)
    (h : wpAnyH P md ops Q S fuel (listed.setIfInBounds i true) (a.put d v) w) : wpAnyH P md ops Q S (fuel + 1) listed a w := by
  subst hd
  exact wpAnyH_take hi hs hf hr hQ hy hS h
/-- Nothing but block b has turned. -/
structure Rq (W : World) (b : Nat) (w' : World) : Prop where
  mv : Mv (fun k => k = b) W w'
theorem Rq.of {W w' : World} {b : Nat} (q : Hid (Qt W w')) : Hid (Rq W b w') := ⟨q.out.mono (fun _ _ h => h.elim)⟩
theorem Rq.set {W w' : World} {b o : Nat} (q : Hid (Qt W w')) (v : Value) : Hid (Rq W b (w'.setCell ⟨b, o, none⟩ v)) := ⟨Mv.trans (q.out.mono (fun _ _ h => h.elim)) (Mv.setCell w' ⟨b, o, none⟩ v) (fun _ _ h => h)⟩
theorem Rq.keep2 {W : World} {b g d o : Nat} {w' : World} {u v : Value} (c0 : Hid (W.cell? ⟨g, 3, none⟩ = some u)) (c1 : Hid (W.cell? ⟨d, o, none⟩ = some v)) (hb : Hid (g ≠ b)) (hd : Hid (d ≠ b)) (h : Hid (Rq W b w')) : w'.cell? ⟨g, 3, none⟩ = some u ∧ w'.cell? ⟨d, o, none⟩ = some v ∧ Hid (Rq W b w') :=
  ⟨h.out.mv.cell (p := ⟨g, 3, none⟩) c0.out hb.out, h.out.mv.cell (p := ⟨d, o, none⟩) c1.out hd.out, h⟩
theorem Is.typed {w : World} {b o n c : Nat} {l : List Nat} (h : Is w (.slice (some ⟨b, o, none⟩) n c) l) : ∃ cs, w.heap[b]? = some (.cells cs 3 (0, 0)) := by
  obtain ⟨a, c', e, _, _, _, h4⟩ := h
  obtain ⟨rfl, _, _⟩ := Value.slice.inj e
  exact h4 _ rfl
theorem Is.form {w : World} {v : Value} {l : List Nat} (h : Is w v l) : ∃ a c, v = .slice a l.length c := by
  obtain ⟨a, c, e, _⟩ := h
  exact ⟨a, c, e⟩
/-- A row made anew of two. -/
theorem twice {w : World} {s t : Value} {l m : List Nat} (hs : Is w s l) (ht : Is w t m) (hl : l.length + m.length < 100000) :
    ∃ v1 W1 a2 c2 W2, (Builtin.append_ #[34, 34] 34 #[.slice (some ⟨w.heap.size, 0, none⟩) 0 0, s]).run Tryd.prog (w.alloc (.cells #[] 3)) = .ok v1 W1 ∧ (Builtin.append_ #[34, 34] 34 #[v1, t]).run Tryd.prog W1 = .ok (.slice a2 (l.length + m.length) c2) W2 ∧ Hid (Qt w W1) ∧ Hid (Qt w W2) ∧ Hid (Is W2 (.slice a2 (l.length + m.length) c2) (l ++ m)) ∧ Hid (∃ a c, v1 = .slice a l.length c) ∧ Hid (Oi W2 w.heap.size (.slice a2 (l.length + m.length) c2) (l ++ m)) := by
  have q : Qt w (w.alloc (.cells #[] 3)) := (Qt.refl w).alloc _
  obtain ⟨v1, W1, r1, o1, m1, n1⟩ := (Oi.empty w w.heap.size (Nat.le_refl _)).app (hs.qt q) (by simp; omega) q.size
  have q1 : Qt w W1 := Mv.trans q m1 (fun j hj e => by
    have : w.heap.size = j := Option.some.inj e
    omega)
  obtain ⟨v2, W2, r2, o2, m2, n2⟩ := o1.app (ht.qt q1) (by simpa using hl) q1.size
  have q2 : Qt w W2 := Mv.trans q1 m2 (fun j hj e => by have := (ow_blk o1 j e).1; omega)
  simp only [List.nil_append] at o1 o2
  obtain ⟨a2, c2, e2⟩ := o2.is.form
  rw [List.length_append] at e2
  subst e2
  exact ⟨v1, W1, a2, c2, W2, r1, r2, q1, q2, o2.is, o1.is.form, o2⟩

set_option maxRecDepth 20000 in
set_option maxHeartbeats 8000000 in
theorem goes_any (X : Nat → Prop) (l m : List Nat) (gp : Nat) (v u lv mv : Value) (S : List (Nat → Bool)) (n : Nat) (G : Nat → List Nat) (w : World) (hW : Hid (Wp X gp w v u S n G)) (hl : Hid (Is w lv l)) (hm : Hid (Is w mv m)) (hb : ∀ c ∈ l, c < n) (hlen : ∀ a, (G a).length + l.length * m.length + m.length < 90000) (hll : l.length < 90000) (hXX : ∀ j, X j → j < w.heap.size) :
    Calls Tryd.prog 41 #[.pointer (some ⟨gp, 0, none⟩), lv, mv] w fun e w' => e = .returned (.tuple #[]) ∧ Hid (Wp X gp w' v u S n (goesG G l m)) ∧ Hid (Fp gp w w') := by
  obtain ⟨al, cl, rfl⟩ := hl.out.form
  obtain ⟨am, cm, rfl⟩ := hm.out.form
  have HB : Hid (∀ c ∈ l, c < n) := hb
  have HXX : Hid (∀ j, X j → j < w.heap.size) := hXX
  clear hXX
  have HL : Hid (∀ a, (G a).length + l.length * m.length + m.length < 90000) := hlen
  clear hb hlen
  generalize hln : l.length = ln at *
  have HLN : Hid (l.length = ln) := hln
  clear hln
  go_enter Tryd.func41, Tryd.ntmps41
  go_wp2_with fail
  go_loopw [6] (fun s6 wr => ∃ i : Nat, i ≤ ln ∧ s6 = .int .i64 i ∧ Hid (Wp X gp wr v u S n (goesG G (l.take i) m)) ∧ Hid (Fp gp w wr)) (fun s6 _ => ln - (intOf s6).toNat)
  case atStart => exact ⟨0, by omega, rfl, hW, Fr.refl _ _ _ _⟩
  case round =>
    obtain ⟨i, hi, rfl, B, F⟩ := hrel
    by_cases hlt : i < ln
    · obtain ⟨c, hc⟩ : ∃ c, l[i]? = some c := ⟨_, List.getElem?_eq_getElem (by have := HLN.out; omega)⟩
      have hcn : c < n := HB.out c (List.mem_of_getElem? hc)
      have IL : Is wr (.slice al ln cl) l := Is.fp hl.out F.out hW.out.at_
      have IM : Is wr (.slice am m.length cm) m := Is.fp hm.out F.out hW.out.at_
      obtain ⟨bl, ol, cap, hv, hbl, hcell⟩ := IL.at hc
      obtain ⟨rfl, hz, rfl⟩ := Value.slice.inj hv
      clear hz
      obtain ⟨bu, cu, hu⟩ : ∃ bu cu, u = .slice (some ⟨bu, 0, none⟩) n cu := by
        obtain ⟨vs, h1, _⟩ := B.out.fol
        rcases Own.slice h1 with ⟨_, h⟩ | ⟨g, c, e, _⟩
        · omega
        · exact ⟨g, c, e⟩
      subst hu
      obtain ⟨s, hsc, hsf, IS⟩ := B.out.fol.ov.at hcn
      obtain ⟨as1, cs, rfl⟩ := IS.form
      have QD : Qt wr wr.drew := Qt.drew (Qt.refl _)
      have hsz : (goesG G (l.take i) m c).length + m.length < 90000 := by
        have h1 := goesG_len m c (l.take i) G
        have h2 := HL.out c
        have h3 : (l.take i).length * m.length ≤ ln * m.length := Nat.mul_le_mul_right _ (by rw [List.length_take]; omega)
        omega
      obtain ⟨v1, W1, a2, c2, W2, r1, r2, q1, q2, I2, F1, O2⟩ := twice (IS.qt QD) (IM.qt QD) (by omega)
      obtain ⟨a1, c1, rfl⟩ := F1.out
      obtain ⟨k0, k1, k2, k3, k4, k5, k6, k7, k8, k9⟩ := B5p.facts (show Hid _ from B.out.at_)
      have hne1 : Hid (gp ≠ bu) := fun e => (B.out.ne (.inr rfl)) e.symm
      have hne2 : Hid (bl ≠ bu) := by
        intro e
        obtain ⟨c3, h3⟩ := Is.typed IL
        obtain ⟨c4, h4⟩ := Ov.typed B.out.fol.ov (j := bu) rfl
        rw [e] at h3
        have := not_typed h3 h4
        omega
      have hbu : bu < wr.heap.size := (Ov.blk B.out.fol.ov rfl).2
      have HQ1 : Hid (Qt wr W1) := QD.comp q1.out
      have HQ2 : Hid (Qt wr W2) := QD.comp q2.out
      have HQ0 : Hid (Qt wr (wr.alloc (.cells #[] 3)).drew) := Qt.drew ((Qt.refl _).alloc _)
      have hsf2 : W2.frozen? ⟨bu, c, none⟩ = false := (HQ2.out.frozen (p := ⟨bu, c, none⟩) hbu (fun h => h)).trans hsf
      have hsc2 : W2.cell? ⟨bu, c, none⟩ = some (.slice as1 (goesG G (l.take i) m c).length cs) := HQ2.out.cell (p := ⟨bu, c, none⟩) hsc (fun h => h)
      have HHC : Hid (l[i]? = some c) := hc
      have HU : Hid (Wp X gp (W2.setCell ⟨bu, c, none⟩ (.slice a2 ((goesG G (l.take i) m c).length + m.length) c2)) v (.slice (some ⟨bu, 0, none⟩) n cu) S n (goesG G (l.take (i + 1)) m)) := by
        have h2 := B.out.qt HQ2.out
        have mset := Mv.setCell W2 ⟨bu, c, none⟩ (.slice a2 ((goesG G (l.take i) m c).length + m.length) c2)
        refine ⟨(B5p.mv h2.at_ mset (fun e => hne1.out e)).out, mset.owns h2.sets (fun j hj e => h2.apart hj (by rw [e]; rfl)), ?_⟩
        refine (h2.fol.store c I2.out (fun j hj hx => ?_)).congr (fun a ha => ?_)
        · have k1 := (ow_blk O2.out j hj).1
          have k2 := HXX.out j hx
          have k3 := F.out.size
          have k4 : wr.drew.heap.size = wr.heap.size := rfl
          omega
        rw [goesG_succ G m hc]
        by_cases e : a = c
        · subst e; rfl
        · simp only [if_neg e]
      have HFN : Hid (Fp gp w (W2.setCell ⟨bu, c, none⟩ (.slice a2 ((goesG G (l.take i) m c).length + m.length) c2))) := by
        refine (F.out.qt HQ2.out).trans (Mv.mono (Mv.setCell W2 ⟨bu, c, none⟩ _) (fun j hj e => ?_))
        have h2 := B.out.qt HQ2.out
        obtain ⟨c4, h4⟩ := Ov.typed h2.fol.ov (j := bu) rfl
        exact ⟨by rw [e]; exact (Ov.blk B.out.fol.ov (j := bu) rfl).1, .inr ⟨c4, 34, _, by rw [e]; exact h4, by simp⟩⟩
      generalize (goesG G (l.take i) m c).length = x1 at *
      generalize m.length = x2 at *
      have KC : Hid (wr.cell? ⟨gp, 3, none⟩ = some (.slice (some ⟨bu, 0, none⟩) n cu)) := k3
      have KL : Hid (wr.cell? ⟨bl, ol + i, none⟩ = some (.int .i64 (c : Int))) := hcell
      have hni : (c : Int) < (n : Int) := by omega
      have hsc1 : (wr.alloc (.cells #[] 3)).cell? ⟨bu, c, none⟩ = some (.slice as1 x1 cs) := (Qt.alloc (Qt.refl wr) _).cell (p := ⟨bu, c, none⟩) hsc (fun h => h)
      clear hc IL IM IS hv hsz F1 I2 QD k0 k1 k2 k4 q1 q2
      go_wp2_with fail
      refine wp_region_held_drew (S := (fun w' => w'.cell? ⟨gp, 3, none⟩ = some (.slice (some ⟨bu, 0, none⟩) n cu) ∧ w'.cell? ⟨bl, ol + i, none⟩ = some (.int .i64 (c : Int)) ∧ Hid (Rq wr bu w'))) (by kernel_rfl) (Rq.keep2 KC KL hne1 hne2 (Rq.of (Qt.drew (Qt.refl _)))) (fun hHeld => ?_)
      refine takeV (i := 0) _ (some 13) ?_ rfl rfl (by kernel_rfl) (by kernel_rfl) (by kernel_rfl) (fun _ _ _ h => h) (Or.inl ⟨by rfl, ?_⟩) (by assumption) ?_
      rotate_left
      · (intro w hSw; (try dsimp only at hSw); go_simp; try with_reducible rfl)
      try simp only [Act.put, List.setIfInBounds_toArray, List.set_cons_zero, List.set_cons_succ]
      refine takeV (i := 1) _ (some 14) ?_ rfl rfl (by kernel_rfl) (by kernel_rfl) (by kernel_rfl) (fun _ _ _ h => h) (Or.inl ⟨by rfl, ?_⟩) (by assumption) ?_
      rotate_left
      · (intro w hSw; (try dsimp only at hSw); go_simp; try with_reducible rfl)
      try simp only [Act.put, List.setIfInBounds_toArray, List.set_cons_zero, List.set_cons_succ]
      refine takeV (i := 2) _ (some 15) ?_ rfl rfl (by kernel_rfl) (by kernel_rfl) (by kernel_rfl) (fun _ _ _ h => h) (Or.inl ⟨by rfl, ?_⟩) (by assumption) ?_
      rotate_left
      · (intro w hSw; (try dsimp only at hSw); go_simp; try with_reducible rfl)
      try simp only [Act.put, List.setIfInBounds_toArray, List.set_cons_zero, List.set_cons_succ]
      refine takeV (i := 3) _ (some 16) ?_ rfl rfl (by kernel_rfl) (by kernel_rfl) (by kernel_rfl) (fun _ _ _ h => h) (Or.inl ⟨by rfl, ?_⟩) (by assumption) ?_
      rotate_left
      · (intro w hSw; (try dsimp only at hSw); go_simp; try with_reducible rfl)
      try simp only [Act.put, List.setIfInBounds_toArray, List.set_cons_zero, List.set_cons_succ]
      refine takeV (i := 4) _ (some 17) ?_ rfl rfl (by kernel_rfl) (by kernel_rfl) (by kernel_rfl) (fun _ _ _ h => h) (Or.inl ⟨by rfl, ?_⟩) (by assumption) ?_
      rotate_left
      · (intro w hSw; (try dsimp only at hSw); go_simp; try with_reducible rfl)
      try simp only [Act.put, List.setIfInBounds_toArray, List.set_cons_zero, List.set_cons_succ]
      refine takeV (i := 5) _ (some 18) ?_ rfl rfl (by kernel_rfl) (by kernel_rfl) (by kernel_rfl) (fun _ _ _ h => h) (Or.inl ⟨by rfl, ?_⟩) (by assumption) ?_
      rotate_left
      · (intro w hSw; (try dsimp only at hSw); go_simp; try with_reducible rfl)
      try simp only [Act.put, List.setIfInBounds_toArray, List.set_cons_zero, List.set_cons_succ]
      refine takeV (i := 6) _ (some 19) ?_ rfl rfl (by kernel_rfl) (by kernel_rfl) (by kernel_rfl) (fun _ _ _ h => h) (Or.inl ⟨by rfl, ?_⟩) (by assumption) ?_
      rotate_left
      · (intro w hSw; (try dsimp only at hSw); go_simp; try with_reducible rfl)
      try simp only [Act.put, List.setIfInBounds_toArray, List.set_cons_zero, List.set_cons_succ]
      refine takeV (i := 7) _ (some 20) ?_ rfl rfl (by kernel_rfl) (by kernel_rfl) (by kernel_rfl) (fun _ _ _ h => h) (Or.inl ⟨by rfl, ?_⟩) (by assumption) ?_
      rotate_left
      · (intro w hSw; (try dsimp only at hSw); go_simp; try with_reducible rfl)
      try simp only [Act.put, List.setIfInBounds_toArray, List.set_cons_zero, List.set_cons_succ]
      refine takeV (i := 9) _ (some 22) ?_ rfl rfl (by kernel_rfl) (by kernel_rfl) (by kernel_rfl) (fun _ _ _ h => h) (Or.inl ⟨by rfl, ?_⟩) (by assumption) ?_
      rotate_left
      · (intro w hSw; (try dsimp only at hSw); go_simp; try with_reducible rfl)
      try simp only [Act.put, List.setIfInBounds_toArray, List.set_cons_zero, List.set_cons_succ]
      refine takeV (i := 10) _ (some 23) ?_ rfl rfl (by kernel_rfl) (by kernel_rfl) (by kernel_rfl) (fun _ _ _ h => h) (Or.inl ⟨by rfl, ?_⟩) (by assumption) ?_
      rotate_left
      · (intro w hSw; (try dsimp only at hSw); go_simp; try with_reducible rfl)
      try simp only [Act.put, List.setIfInBounds_toArray, List.set_cons_zero, List.set_cons_succ]
      refine takeV (i := 11) _ (some 24) ?_ rfl rfl (by kernel_rfl) (by kernel_rfl) (by kernel_rfl) (fun _ _ _ h => h) (Or.inl ⟨by rfl, ?_⟩) (by assumption) ?_
      rotate_left
      · (intro w hSw; (try dsimp only at hSw); go_simp; try with_reducible rfl)
      try simp only [Act.put, List.setIfInBounds_toArray, List.set_cons_zero, List.set_cons_succ]
      refine takeV (i := 12) _ (some 25) ?_ rfl rfl (by kernel_rfl) (by kernel_rfl) (by kernel_rfl) (fun _ _ _ h => h) (Or.inl ⟨by rfl, ?_⟩) (by assumption) ?_
      rotate_left
      · (intro w hSw; (try dsimp only at hSw); go_simp; try with_reducible rfl)
      try simp only [Act.put, List.setIfInBounds_toArray, List.set_cons_zero, List.set_cons_succ]
      refine takeV (i := 13) _ (some 26) ?_ rfl rfl (by kernel_rfl) (by kernel_rfl) (by kernel_rfl) (fun _ _ _ h => h) (Or.inl ⟨by rfl, ?_⟩) (by assumption) ?_
      rotate_left
      · (intro w hSw; (try dsimp only at hSw); go_simp; try with_reducible rfl)
      try simp only [Act.put, List.setIfInBounds_toArray, List.set_cons_zero, List.set_cons_succ]
      refine takeV (i := 14) _ (some 27) ?_ rfl rfl (by kernel_rfl) (by kernel_rfl) (by kernel_rfl) (fun _ _ _ h => h) (Or.inl ⟨by rfl, ?_⟩) (by assumption) ?_
      rotate_left
      · (intro w hSw; (try dsimp only at hSw); go_simp; try with_reducible rfl)
      try simp only [Act.put, List.setIfInBounds_toArray, List.set_cons_zero, List.set_cons_succ]
      refine takeV (i := 15) _ (some 28) ?_ rfl rfl (by kernel_rfl) (by kernel_rfl) (by kernel_rfl) (fun _ _ _ h => h) (Or.inl ⟨by rfl, ?_⟩) (by assumption) ?_
      rotate_left
      · (intro w hSw; (try dsimp only at hSw); go_simp; try with_reducible rfl)
      try simp only [Act.put, List.setIfInBounds_toArray, List.set_cons_zero, List.set_cons_succ]
      refine takeV (i := 16) _ (some 29) ?_ rfl rfl (by kernel_rfl) (by kernel_rfl) (by kernel_rfl) (fun _ _ _ h => h) (Or.inl ⟨by rfl, ?_⟩) (by assumption) ?_
      rotate_left
      · (intro w hSw; (try dsimp only at hSw); go_simp; try with_reducible rfl)
      try simp only [Act.put, List.setIfInBounds_toArray, List.set_cons_zero, List.set_cons_succ]
      refine takeV (i := 17) _ (some 30) ?_ rfl rfl (by kernel_rfl) (by kernel_rfl) (by kernel_rfl) (fun _ _ _ h => h) (Or.inl ⟨by rfl, ?_⟩) (by assumption) ?_
      rotate_left
      · (intro w hSw; (try dsimp only at hSw); go_simp; try with_reducible rfl)
      try simp only [Act.put, List.setIfInBounds_toArray, List.set_cons_zero, List.set_cons_succ]
      refine takeV (i := 20) _ (some 33) ?_ rfl rfl (by kernel_rfl) (by kernel_rfl) (by kernel_rfl) (fun _ _ _ h => h) (Or.inl ⟨by rfl, ?_⟩) (by assumption) ?_
      rotate_left
      · (intro w hSw; (try dsimp only at hSw); go_simp; try with_reducible rfl)
      try simp only [Act.put, List.setIfInBounds_toArray, List.set_cons_zero, List.set_cons_succ]
      refine wpAnyH_ready (rs := [8, 18]) (by kernel_rfl) (by simp) ?_
      refine AllReadyH.cons (o := _) rfl (fun K hK => ?_) (AllReadyH.cons (o := _) rfl (fun K hK => ?_) (AllReadyH.nil))
      · go_simp
        refine hK.out _ _ (Rq.keep2 KC KL hne1 hne2 (Rq.of HQ0)) (fun hHeld => ?_)
        try simp only [Act.put, List.setIfInBounds_toArray, List.set_cons_zero, List.set_cons_succ]
        clear hK K
        refine wpAnyH_ready (rs := [18]) (by kernel_rfl) (by simp) ?_
        refine AllReadyH.cons (o := _) rfl (fun K hK => ?_) AllReadyH.nil
        go_simp
        refine hK.out _ _ (Rq.keep2 KC KL hne1 hne2 (Rq.of HQ0)) (fun hHeld => ?_)
        try simp only [Act.put, List.setIfInBounds_toArray, List.set_cons_zero, List.set_cons_succ]
        clear hK K
        refine wpAnyH_ready (rs := [19]) (by kernel_rfl) (by simp) ?_
        refine AllReadyH.cons (o := _) rfl (fun K hK => ?_) AllReadyH.nil
        refine step_given rfl (.tmp 21) (.tmp 31) 34 rfl _ _ _ rfl rfl W1 r1 ?_
        refine hK.out _ _ (Rq.keep2 KC KL hne1 hne2 (Rq.of HQ1)) (fun hHeld => ?_)
        try simp only [Act.put, List.setIfInBounds_toArray, List.set_cons_zero, List.set_cons_succ]
        clear hK K
        refine wpAnyH_ready (rs := [21]) (by kernel_rfl) (by simp) ?_
        refine AllReadyH.cons (o := _) rfl (fun K hK => ?_) AllReadyH.nil
        refine step_given rfl (.tmp 32) (.tmp 33) 34 rfl _ _ _ rfl rfl W2 r2 ?_
        refine hK.out _ _ (Rq.keep2 KC KL hne1 hne2 (Rq.of HQ2)) (fun hHeld => ?_)
        try simp only [Act.put, List.setIfInBounds_toArray, List.set_cons_zero, List.set_cons_succ]
        clear hK K
        refine takeV (i := 22) _ (some 35) ?_ rfl rfl (by kernel_rfl) (by kernel_rfl) (by kernel_rfl) (fun _ _ _ h => h) (Or.inl ⟨by rfl, ?_⟩) (by assumption) ?_
        rotate_left
        · (intro w hSw; (try dsimp only at hSw); go_simp; try with_reducible rfl)
        try simp only [Act.put, List.setIfInBounds_toArray, List.set_cons_zero, List.set_cons_succ]
        refine wpAnyH_ready (rs := [23]) (by kernel_rfl) (by simp) ?_
        refine AllReadyH.cons (o := _) rfl (fun K hK => ?_) AllReadyH.nil
        go_simp
        refine hK.out _ _ (Rq.keep2 KC KL hne1 hne2 (Rq.set HQ2 _)) (fun hHeld => ?_)
        try simp only [Act.put, List.setIfInBounds_toArray, List.set_cons_zero, List.set_cons_succ]
        clear hK K
        refine wpAnyH_done (by kernel_rfl) ?_ _
        go_wp2_with fail
        exact ⟨⟨i + 1, by omega, by go_num, HU, HFN⟩, by simp [intOf]; omega⟩
      · go_simp
        refine hK.out _ _ (Rq.keep2 KC KL hne1 hne2 (Rq.of (Qt.drew (Qt.refl _)))) (fun hHeld => ?_)
        try simp only [Act.put, List.setIfInBounds_toArray, List.set_cons_zero, List.set_cons_succ]
        clear hK K
        refine wpAnyH_ready (rs := [8]) (by kernel_rfl) (by simp) ?_
        refine AllReadyH.cons (o := _) rfl (fun K hK => ?_) AllReadyH.nil
        go_simp
        refine hK.out _ _ (Rq.keep2 KC KL hne1 hne2 (Rq.of HQ0)) (fun hHeld => ?_)
        try simp only [Act.put, List.setIfInBounds_toArray, List.set_cons_zero, List.set_cons_succ]
        clear hK K
        refine wpAnyH_ready (rs := [19]) (by kernel_rfl) (by simp) ?_
        refine AllReadyH.cons (o := _) rfl (fun K hK => ?_) AllReadyH.nil
        refine step_given rfl (.tmp 21) (.tmp 31) 34 rfl _ _ _ rfl rfl W1 r1 ?_
        refine hK.out _ _ (Rq.keep2 KC KL hne1 hne2 (Rq.of HQ1)) (fun hHeld => ?_)
        try simp only [Act.put, List.setIfInBounds_toArray, List.set_cons_zero, List.set_cons_succ]
        clear hK K
        refine wpAnyH_ready (rs := [21]) (by kernel_rfl) (by simp) ?_
        refine AllReadyH.cons (o := _) rfl (fun K hK => ?_) AllReadyH.nil
        refine step_given rfl (.tmp 32) (.tmp 33) 34 rfl _ _ _ rfl rfl W2 r2 ?_
        refine hK.out _ _ (Rq.keep2 KC KL hne1 hne2 (Rq.of HQ2)) (fun hHeld => ?_)
        try simp only [Act.put, List.setIfInBounds_toArray, List.set_cons_zero, List.set_cons_succ]
        clear hK K
        refine takeV (i := 22) _ (some 35) ?_ rfl rfl (by kernel_rfl) (by kernel_rfl) (by kernel_rfl) (fun _ _ _ h => h) (Or.inl ⟨by rfl, ?_⟩) (by assumption) ?_
        rotate_left
        · (intro w hSw; (try dsimp only at hSw); go_simp; try with_reducible rfl)
        try simp only [Act.put, List.setIfInBounds_toArray, List.set_cons_zero, List.set_cons_succ]
        refine wpAnyH_ready (rs := [23]) (by kernel_rfl) (by simp) ?_
        refine AllReadyH.cons (o := _) rfl (fun K hK => ?_) AllReadyH.nil
        go_simp
        refine hK.out _ _ (Rq.keep2 KC KL hne1 hne2 (Rq.set HQ2 _)) (fun hHeld => ?_)
        try simp only [Act.put, List.setIfInBounds_toArray, List.set_cons_zero, List.set_cons_succ]
        clear hK K
        refine wpAnyH_done (by kernel_rfl) ?_ _
        go_wp2_with fail
        exact ⟨⟨i + 1, by omega, by go_num, HU, HFN⟩, by simp [intOf]; omega⟩
    · obtain rfl : i = ln := by omega
      have HE : Hid (Wp X gp wr v u S n (goesG G l m)) := by
        have := B.out
        rw [← HLN.out, List.take_length] at this
        exact this
      go_wp2_with fail
      go_end0
      exact ⟨rfl, HE, F⟩

end Go.Proofs.YtojbakkbmfgoaaaDoor

namespace Go.Proofs.YtojbakkbmfgoaaaDoor
open Go.RowKit
set_option linter.unusedVariables false

section
variable {P : Program} {ops : Array Oper} {Q : Exit → Act → World → Prop} {md : Region.Mode} {S T : World → Prop} {st : List Nat}
/-- None of st has come up. -/
def Unl (st : List Nat) (l : Array Bool) : Prop := ∀ j ∈ st, l.getD j false = false
/-- Those of st that have come up have come up behind what they wait for. -/
def Okl (md : Region.Mode) (ops : Array Oper) (st : List Nat) (l : Array Bool) : Prop := ∀ j ∈ st, l.getD j false = true → ∀ o, ops[j]? = some o → ∀ e ∈ o.after, Region.binds md e = true → l.getD e.on false = true
/-- The rest in any order; while none of st has come up the world meets S. -/
def Rest (P : Program) (md : Region.Mode) (ops : Array Oper) (Q : Exit → Act → World → Prop) (S : World → Prop) (st : List Nat) (n : Nat) (listed : Array Bool) : Act → World → Prop :=
  Nat.rec (motive := fun _ => Array Bool → Act → World → Prop) (fun l a w => Region.ready md ops l = [] ∧ Q .normal a w)
    (fun _ next l a w => (Region.ready md ops l = [] → Q .normal a w) ∧ ∀ i ∈ Region.ready md ops l, wpOp P ops Q i (fun a' w' => (Unl st (l.setIfInBounds i true) → S w') ∧ next (l.setIfInBounds i true) a' w') a w) n listed
theorem Rest.any : ∀ (n : Nat) (l : Array Bool) (a : Act) (w : World), Rest P md ops Q S st n l a w → wpAny P md ops Q n l a w
  | 0, _, _, _, h => h
  | n + 1, _, _, _, h => ⟨h.1, fun i hi => wpOp_mono (fun a' w' k => Rest.any n _ a' w' k.2) (h.2 i hi)⟩
/-- Those of st wait for i. -/
def Waits (md : Region.Mode) (ops : Array Oper) (st : List Nat) (i : Nat) : Bool :=
  st.all fun j => (ops[j]?).any fun o => o.after.any fun e => Region.binds md e && e.on == i
theorem waits_unl {i : Nat} {l : Array Bool} (hw : Waits md ops st i = true) (hk : Okl md ops st l) (hi : l.getD i true = false) : Unl st l := by
  intro j hj
  cases hl : l.getD j false with
  | false => rfl
  | true =>
    have h1 := List.all_eq_true.1 hw j hj
    cases ho : ops[j]? with
    | none => rw [ho] at h1; cases h1
    | some o =>
      rw [ho] at h1
      obtain ⟨e, he, hb⟩ := Array.any_eq_true'.1 (show (o.after.any fun e => Region.binds md e && e.on == i) = true from h1)
      rw [Bool.and_eq_true, beq_iff_eq] at hb
      have h2 := hk j hj hl o ho e he hb.1
      rw [hb.2] at h2
      by_cases hs : i < l.size
      · simp [hs] at h2 hi
        rw [h2] at hi; cases hi
      · simp [hs] at h2
theorem getD_on {l : Array Bool} {i j : Nat} (h : l.getD j false = true) : (l.setIfInBounds i true).getD j false = true := getD_set_true h
theorem getD_off {l : Array Bool} {i j : Nat} (h : (l.setIfInBounds i true).getD j false = false) : l.getD j false = false := by
  cases hl : l.getD j false with
  | false => rfl
  | true => rw [getD_on hl] at h; cases h
theorem getD_ne {l : Array Bool} {i j : Nat} (h : j ≠ i) (d : Bool) : (l.setIfInBounds i true).getD j d = l.getD j d := by
  by_cases hs : j < l.size
  · simp [hs, Ne.symm h]
  · simp [hs]
theorem Unl.back {l : Array Bool} {i : Nat} (h : Unl st (l.setIfInBounds i true)) : Unl st l := fun j hj => getD_off (h j hj)
theorem Unl.more {l : Array Bool} {i : Nat} (h : Unl st l) (hi : i ∉ st) : Unl st (l.setIfInBounds i true) := fun j hj => by
  have e : j ≠ i := fun e => hi (by rw [← e]; exact hj)
  rw [getD_ne e]; exact h j hj
theorem Okl.step {l : Array Bool} {j : Nat} (h : Okl md ops st l) (hj : j ∈ Region.ready md ops l) : Okl md ops st (l.setIfInBounds j true) := by
  intro k hk hl o ho e he hb
  by_cases ek : k = j
  · obtain ⟨_, o2, ho2, hall⟩ := mem_ready.1 hj
    rw [ek, ho2] at ho
    cases ho
    exact getD_on (hall e he hb)
  · rw [getD_ne ek] at hl
    exact getD_on (h k hk hl o ho e he hb)
/-- What yields the same in each world that meets T may be taken first. -/
theorem Rest.early {i : Nat} {oi : Oper} {v : Value} (hi : ops[i]? = some oi) (hns : ∀ (j : Nat) (o : Oper) cs b, ops[j]? = some o → o.op ≠ .select cs b) (hQ : ∀ c a w, Q (.panic c) (a.put oi.dst v) w → Q (.panic c) a w) (his : i ∉ st)
    (hT : ∀ l w, Okl md ops st l → l.getD i true = false → (Unl st l → S w) → T w) :
    ∀ (n : Nat) (l : Array Bool) (a : Act) (w : World), (∀ j oj, ops[j]? = some oj → j ≠ i → l.getD j true = false → (∀ e ∈ oj.after, Region.binds md e = true → e.on ≠ i) → oi.apart ops oj = true) → Okl md ops st l → i ∈ Region.ready md ops l → YieldsIf P ops T oi v a → (Unl st l → S w) →
      Rest P md ops Q S st n (l.setIfInBounds i true) (a.put oi.dst v) w → Rest P md ops Q S st (n + 1) l a w := by
  intro n
  induction n with
  | zero =>
    intro l a w _ hk hr hy hS H
    refine ⟨fun h => absurd hr (by rw [h]; simp), fun j hj => ?_⟩
    by_cases e : j = i
    · rw [e]; exact hy.wpOp hi (hT l w hk (mem_ready.1 hr).1 hS) ⟨fun h => hS h.back, H⟩
    · have h2 := ready_mono hj e
      rw [H.1] at h2
      simp at h2
  | succ n ih =>
    intro l a w hfree hk hr hy hS H
    refine ⟨fun h => absurd hr (by rw [h]; simp), fun j hj => ?_⟩
    by_cases e : j = i
    · rw [e]; exact hy.wpOp hi (hT l w hk (mem_ready.1 hr).1 hS) ⟨fun h => hS h.back, H⟩
    · obtain ⟨hun, oj, hoj, hedge⟩ := mem_ready.1 hj
      have hno : ∀ x ∈ oj.after, Region.binds md x = true → x.on ≠ i := by
        intro x hx hb hxi
        have h2 := hedge x hx hb
        rw [hxi] at h2
        have h3 := (mem_ready.1 hr).1
        by_cases hs : i < l.size
        · simp [hs] at h2 h3
          rw [h2] at h3; cases h3
        · simp [hs] at h2
      refine wpOp_mono (fun a' w' k => ?_) (wpOp_putIf hoj (hfree j oj hoj e hun hno) (fun cs b => hns i oi cs b hi) (fun cs b => hns j oj cs b hoj) hQ hy (H.2 j (ready_mono hj e)))
      obtain ⟨ky, ks, kr⟩ := k
      rw [Array.setIfInBounds_comm _ _ (Ne.symm e)] at ks kr
      have hS2 : Unl st (l.setIfInBounds j true) → S w' := fun h => ks (h.more his)
      refine ⟨hS2, ih _ a' w' (fun k ok hk hki hun2 hno2 => hfree k ok hk hki ?_ hno2) (hk.step hj) (ready_mono hr (Ne.symm e)) ky hS2 kr⟩
      by_cases hjk : j = k
      · rw [← hjk]; exact hun
      · rw [getD_set_ne true hjk] at hun2; exact hun2
/-- No store has come up. -/
def unlB (st : List Nat) (l : Array Bool) : Bool := st.all fun j => !(l.getD j false)
theorem unlB_unl {l : Array Bool} (h : unlB st l = true) : Unl st l := fun j hj => by
  have := List.all_eq_true.1 h j hj
  simpa using this
theorem unl_okl {l : Array Bool} (h : Unl st l) : Okl md ops st l := fun j hj hl => by rw [h j hj] at hl; cases hl
/-- A load. -/
theorem Rest.take {i : Nat} (oi : Oper) (d : Option Tmp) (v : Value) {n : Nat} {l : Array Bool} {a : Act} {w : World} (hi : ops[i]? = some oi) (hd : oi.dst = d)
    (hs : Region.noSelect ops = true) (hf : Region.free md ops l i = true) (hr : (Region.ready md ops l).contains i = true) (hw : (Waits md ops st i && (unlB st l && !st.contains i)) = true)
    (hQ : ∀ c a w, Q (.panic c) (a.put d v) w → Q (.panic c) a w) (hy : YieldsIf P ops S oi v a) (hS : S w)
    (h : Rest P md ops Q S st n (l.setIfInBounds i true) (a.put d v) w) : Rest P md ops Q S st (n + 1) l a w := by
  subst hd
  rw [Bool.and_eq_true, Bool.and_eq_true] at hw
  exact Rest.early (T := S) hi (Region.noSelect_spec hs) hQ (by simpa using hw.2.2) (fun l w hk hl hs => hs (waits_unl hw.1 hk hl)) n l a w (Region.free_spec hi hf) (unl_okl (unlB_unl hw.2.1)) (by simpa using hr) hy (fun _ => hS) h
/-- What asks no world. -/
theorem Rest.plain {i : Nat} (oi : Oper) (d : Option Tmp) (v : Value) {n : Nat} {l : Array Bool} {a : Act} {w : World} (hi : ops[i]? = some oi) (hd : oi.dst = d)
    (hs : Region.noSelect ops = true) (hf : Region.free md ops l i = true) (hr : (Region.ready md ops l).contains i = true) (hw : (unlB st l && !st.contains i) = true)
    (hQ : ∀ c a w, Q (.panic c) (a.put d v) w → Q (.panic c) a w) (hy : YieldsIf P ops (fun _ => True) oi v a) (hS : S w)
    (h : Rest P md ops Q S st n (l.setIfInBounds i true) (a.put d v) w) : Rest P md ops Q S st (n + 1) l a w := by
  subst hd
  rw [Bool.and_eq_true] at hw
  exact Rest.early (T := fun _ => True) hi (Region.noSelect_spec hs) hQ (by simpa using hw.2) (fun _ _ _ _ _ => trivial) n l a w (Region.free_spec hi hf) (unl_okl (unlB_unl hw.1)) (by simpa using hr) hy (fun _ => hS) h
theorem Rest.begin {id : Nat} {a : Act} {w : World} (hm : P.follows .mixedOrders = true) (hS : S w.drew) (h : S w.drew → Rest P .any ops Q S st ops.size (Array.replicate ops.size false) a w.drew) : (Code.region id ops true).wp P Q a w :=
  wp_region_any hm (Rest.any _ _ _ _ (h hS))
theorem Rest.done {l : Array Bool} {a : Act} {w : World} (hr : Region.ready md ops l = []) (h : Q .normal a w) : ∀ n, Rest P md ops Q S st n l a w
  | 0 => ⟨hr, h⟩
  | _ + 1 => ⟨fun _ => h, by rw [hr]; simp⟩
/-- One alone may come up. -/
theorem Rest.one {i : Nat} {n : Nat} {l : Array Bool} {a : Act} {w : World} {o : Oper} (hr : Region.ready md ops l = [i]) (ho : ops[i]? = some o)
    (h : ∀ K' : Act → World → Prop, Shut (∀ a w, S w → (S w → Rest P md ops Q S st n (l.setIfInBounds i true) a w) → K' a w) → if Region.wanted o (yielded ops a.tmps) = true then Oper.wp P o a w K' Q else K' (a.put o.dst undef) w) : Rest P md ops Q S st (n + 1) l a w := by
  refine ⟨fun h0 => absurd (hr ▸ h0) (by simp), fun j hj => ?_⟩
  rw [hr, List.mem_singleton] at hj
  rw [hj]
  exact wpOp_step ho (fun K' hK => h K' (fun a w hS hW => hK a w ⟨fun _ => hS, hW hS⟩))
/-- One alone may come up, a store. -/
theorem Rest.last {i : Nat} {n : Nat} {l : Array Bool} {a : Act} {w : World} {o : Oper} (hr : Region.ready md ops l = [i]) (ho : ops[i]? = some o) (hl : (!(unlB st (l.setIfInBounds i true))) = true)
    (h : ∀ K' : Act → World → Prop, Shut (∀ a w, Rest P md ops Q S st n (l.setIfInBounds i true) a w → K' a w) → if Region.wanted o (yielded ops a.tmps) = true then Oper.wp P o a w K' Q else K' (a.put o.dst undef) w) : Rest P md ops Q S st (n + 1) l a w := by
  refine ⟨fun h0 => absurd (hr ▸ h0) (by simp), fun j hj => ?_⟩
  rw [hr, List.mem_singleton] at hj
  rw [hj]
  refine wpOp_step ho (fun K' hK => h K' (fun a w hW => hK a w ⟨fun hu => ?_, hW⟩))
  exfalso
  have h2 : unlB st (l.setIfInBounds i true) = true := List.all_eq_true.2 (fun k hk => by rw [hu k hk]; rfl)
  rw [h2] at hl; cases hl
/-- Two may come up. -/
theorem Rest.two {i j : Nat} {n : Nat} {l : Array Bool} {a : Act} {w : World} {o p : Oper} (hr : Region.ready md ops l = [i, j]) (ho : ops[i]? = some o) (hp : ops[j]? = some p) 
    (h : ∀ K' : Act → World → Prop, Shut (∀ a w, S w → (S w → Rest P md ops Q S st n (l.setIfInBounds i true) a w) → K' a w) → if Region.wanted o (yielded ops a.tmps) = true then Oper.wp P o a w K' Q else K' (a.put o.dst undef) w)
    (k : ∀ K' : Act → World → Prop, Shut (∀ a w, S w → (S w → Rest P md ops Q S st n (l.setIfInBounds j true) a w) → K' a w) → if Region.wanted p (yielded ops a.tmps) = true then Oper.wp P p a w K' Q else K' (a.put p.dst undef) w) : Rest P md ops Q S st (n + 1) l a w := by
  refine ⟨fun h0 => absurd (hr ▸ h0) (by simp), fun m hm => ?_⟩
  rw [hr] at hm
  rcases List.mem_cons.1 hm with e | e
  · rw [e]
    exact wpOp_step ho (fun K' hK => h K' (fun a w hS hW => hK a w ⟨fun _ => hS, hW hS⟩))
  · rw [List.mem_singleton] at e
    rw [e]
    exact wpOp_step hp (fun K' hK => k K' (fun a w hS hW => hK a w ⟨fun _ => hS, hW hS⟩))
end

end Go.Proofs.YtojbakkbmfgoaaaDoor

namespace Go.Proofs.YtojbakkbmfgoaaaDoor
open Go.RowKit
set_option linter.unusedVariables false
set_option linter.unusedSimpArgs false

/-- Between the two appends. -/
structure Mid (X : Nat → Prop) (gp : Nat) (w W : World) (v v1 u : Value) (S : List (Nat → Bool)) (n : Nat) (G : Nat → List Nat) : Prop where
  at_ : B5p 41 gp v (.slice none 0 0) (.slice none 0 0) u (.bool false) W
  sets : Os W gp v1 S
  fol : Ox X W gp u n G
  fp : Fp gp w W
theorem Mid.qt {X : Nat → Prop} {gp : Nat} {w W W' : World} {v v1 u : Value} {S : List (Nat → Bool)} {n : Nat} {G : Nat → List Nat} (h : Mid X gp w W v v1 u S n G) (q : Qt W W') : Mid X gp w W' v v1 u S n G :=
  ⟨(B5p.mv h.at_ q (fun h => h)).out, q.owns h.sets (fun _ _ h => h), h.fol.qt q, h.fp.qt q⟩
theorem push1 {X : Nat → Prop} {gp : Nat} {w W1 : World} {v u : Value} {S : List (Nat → Bool)} {n : Nat} {G : Nat → List Nat} {a : Addr} (h : Wp X gp w v u S n G) (q : Qt w W1) (hl : S.length < 90000) (p : Nat → Bool) (hs : Ls W1 (some a) (sc [p])) :
    ∃ a1 c1 W2, (Builtin.append_ #[33, 33] 33 #[v, .slice (some a) 1 1]).run Tryd.prog W1 = .ok (.slice a1 (S.length + 1) c1) W2 ∧ Hid (Mid X gp w W2 v (.slice a1 (S.length + 1) c1) u (S ++ [p]) n G) ∧ Hid (Mv (fun j => j < w.heap.size) W1 W2) := by
  have h1 := h.qt q
  obtain ⟨v', W, hr, hown, hgr, hnb⟩ := append_ow 33 33 26 Tryd.t26 (.agg #[.int .u64 0, .int .u64 0, .int .u64 0, .int .u64 0]) 4 32 Tryd.underlying33 info26 zero26 size26 bytes26 (by rfl) (by omega) (by omega) W1 gp v S.length 1 1 (sc S) (sc [p]) (some a) h1.sets hs rfl (sc_one [p]) (by omega) (fun e => by cases e) (Nat.le_of_lt h1.lt)
  have hM : Mv (fun j => v.ownBlock = some j) W1 W := Mv.of_grown hgr
  have hO : Os W gp v' (S ++ [p]) := by
    show W.ownsRow _ _ _ _ _ _
    rw [sc_append, List.length_append]; exact hown
  obtain ⟨a1, c1, e⟩ := hO.form
  rw [List.length_append] at e
  have e' : v' = .slice a1 (S.length + 1) c1 := e
  subst e'
  refine ⟨a1, c1, W, hr, ⟨?_, hO, ?_, ?_⟩, Mv.mono hM (fun j hj e => (ow_blk h.sets j e).2)⟩
  · exact (B5p.mv h1.at_ hM (fun e => h1.ne (.inl e) rfl)).out
  · refine h1.fol.mv hM (fun j cs hj e => ?_) (fun j cs hj e => ?_)
    · obtain ⟨ds, hd⟩ := Os.typed h1.sets e
      have := not_typed hj hd; omega
    · obtain ⟨ds, hd⟩ := Os.typed h1.sets e
      have := not_typed hj hd; omega
  · refine Fr.trans (Fr.of_qt q) (Mv.mono hM (fun j hj e => ?_))
    obtain ⟨cs, hc⟩ := Os.typed h1.sets e
    exact ⟨(ow_blk h1.sets j e).1, .inr ⟨cs, 26, _, hc, by simp⟩⟩
theorem push2 {X : Nat → Prop} {gp : Nat} {w W2 W3 : World} {v v1 u : Value} {S : List (Nat → Bool)} {n : Nat} {G : Nat → List Nat} {b : Addr} (h : Mid X gp w W2 v v1 u S n G) (q : Qt W2 W3) (hn : n < 90000) (hG : G n = []) (hs : Sl W3 (some b) 1 (fun _ => .slice none 0 0)) :
    ∃ a2 c2 W4, (Builtin.append_ #[35, 35] 35 #[u, .slice (some b) 1 1]).run Tryd.prog W3 = .ok (.slice a2 (n + 1) c2) W4 ∧ Hid (B5p 41 gp v (.slice none 0 0) (.slice none 0 0) u (.bool false) W4) ∧ Hid (Fp gp w W4) ∧
      Hid (Wp X gp ((W4.setCell ⟨gp, 0, none⟩ v1).setCell ⟨gp, 3, none⟩ (.slice a2 (n + 1) c2)) v1 (.slice a2 (n + 1) c2) S (n + 1) G) ∧ Hid (Fp gp w ((W4.setCell ⟨gp, 0, none⟩ v1).setCell ⟨gp, 3, none⟩ (.slice a2 (n + 1) c2))) := by
  have h1 := h.qt q
  obtain ⟨vs, k1, k2⟩ := h1.fol
  obtain ⟨u', W, hr, hown, hgr, hnb⟩ := append_own 35 35 34 Tryd.t34 (.slice none 0 0) 24 Tryd.underlying35 info34 zero34 size34 bytes34 (by rfl) (by omega) W3 gp u n 1 1 vs (fun _ => .slice none 0 0) (some b) k1 hs (fun _ => rfl) (by omega) (fun e => by cases e) (Nat.le_of_lt h1.at_.lt)
  have hM : Mv (fun j => u.ownBlock = some j) W3 W := Mv.of_grown hgr
  have hne : ∀ j, u.ownBlock = some j → j ≠ gp := by
    intro j hj e
    rw [e] at hj
    obtain ⟨cs, hc⟩ := Ov.typed h1.fol.ov hj
    have := not_typed h1.at_ hc; omega
  have hv : Ox X W gp u' (n + 1) G := by
    refine ⟨cat vs n (fun _ => .slice none 0 0), hown, fun i hi => ?_⟩
    unfold cat
    have hk : ∀ j cs, W3.heap[j]? = some (.cells cs 3 (0, 0)) → ¬ u.ownBlock = some j := by
      intro j cs hj e
      obtain ⟨ds, hd⟩ := k1.typed e
      have := not_typed hj hd; omega
    by_cases hin : i < n
    · simp only [if_pos hin]; exact ⟨(k2 i hin).1.mv hM hk, (k2 i hin).2⟩
    · have e : i = n := by omega
      rw [if_neg hin, e, hG]; exact ⟨Is.nil _, fun j hj => nomatch hj⟩
  obtain ⟨a2, c2, _, e, _⟩ := hv.ov.vs
  subst e
  have hat : B5p 41 gp v (.slice none 0 0) (.slice none 0 0) u (.bool false) W := (B5p.mv h1.at_ hM (fun e => hne gp e rfl)).out
  have hsets : Os W gp v1 S := hM.owns h1.sets (fun j hj e => by
    obtain ⟨cs, hc⟩ := Os.typed h1.sets hj
    obtain ⟨ds, hd⟩ := Ov.typed h1.fol.ov e
    have := not_typed hc hd; omega)
  have hfp : Fp gp w W := h1.fp.trans (Mv.mono hM (fun j hj e => by
    obtain ⟨cs, hc⟩ := Ov.typed h1.fol.ov e
    exact ⟨(Ov.blk h1.fol.ov e).1, .inr ⟨cs, 34, _, hc, by simp⟩⟩))
  have m : Mv (fun j => j = gp) W ((W.setCell ⟨gp, 0, none⟩ v1).setCell ⟨gp, 3, none⟩ (.slice a2 (n + 1) c2)) := Mv.trans (Mv.setCell W ⟨gp, 0, none⟩ v1) (Mv.setCell _ ⟨gp, 3, none⟩ _) (fun _ _ h => h)
  have htg : ∀ t, t ≠ 41 → ∀ j cs, W.heap[j]? = some (.cells cs t (0, 0)) → ¬ j = gp := by
    intro t ht j cs hj e
    rw [e] at hj
    exact ht (not_typed hj hat)
  refine ⟨a2, c2, W, hr, hat, hfp, ⟨heap_set (heap_set hat), m.owns hsets (fun j hj e => ?_), hv.mv m (htg 34 (by decide)) (htg 3 (by decide))⟩, hfp.trans (Mv.mono m (fun j hj e => ⟨by show gp ≤ j; omega, .inl e⟩))⟩
  obtain ⟨cs, hc⟩ := Os.typed hsets hj
  exact htg 26 (by decide) j cs hc e
/-- What the region reads. -/
theorem kS {gp g : Nat} {w : World} {v u v0 v1 v2 v3 v4 v5 : Value} (h : B5p 41 gp v (.slice none 0 0) (.slice none 0 0) u (.bool false) w) (r : B6 g v0 v1 v2 v3 v4 v5 w) :
    w.cell? ⟨gp, 0, none⟩ = some v ∧ w.cell? ⟨gp, 3, none⟩ = some u ∧ w.cell? ⟨g, 1, none⟩ = some v1 ∧ w.cell? ⟨g, 2, none⟩ = some v2 ∧ w.cell? ⟨g, 3, none⟩ = some v3 ∧ w.cell? ⟨g, 4, none⟩ = some v4 := by
  obtain ⟨a0, _, _, a3, _⟩ := B5p.facts (show Hid _ from h)
  obtain ⟨_, b1, b2, b3, b4, _⟩ := B6.facts (show Hid _ from r)
  exact ⟨a0, a3, b1, b2, b3, b4⟩
/-- Rows made since w. -/
def Fresh (w : World) (f l : Value) : Prop := ∀ j, f.ownBlock = some j ∨ l.ownBlock = some j → w.heap.size ≤ j
theorem Fresh.up {w w' : World} {f l : Value} (h : Fresh w' f l) (hs : w.heap.size ≤ w'.heap.size) : Fresh w f l := fun j hj => Nat.le_trans hs (h j hj)
/-- What walk tells. -/
def RwP (X : Nat → Prop) (gp : Nat) (w : World) (S : List (Nat → Bool)) (G : Nat → List Nat) (P : Pla) (nd : Nat) (e : Ending) (w' : World) : Prop :=
  ∃ f l F L v' u' G', e = .returned (.agg #[.slice none 0 0, f, l, .slice none 0 0, .bool P.null]) ∧ Hid (Is w' f F) ∧ Hid (Is w' l L) ∧ Hid (Fresh w f l) ∧ Hid ((∀ n, n ∈ F ↔ P.fst S.length n = true) ∧ (∀ n, n ∈ L ↔ P.lst S.length n = true) ∧ F.length ≤ P.cnt ∧ L.length ≤ P.cnt) ∧
    Hid (Wp X gp w' v' u' (S ++ P.sets) (S ++ P.sets).length G') ∧ Hid ((∀ i j, j ∈ G' i ↔ j ∈ G i ∨ P.fol S.length i j = true) ∧ ∀ i, (G' i).length + 1600 ≤ (G i).length + 1600 * nd) ∧ Hid (Fp gp w w')
def RwC (x : RX) : Prop := ∀ (X : Nat → Prop) (K : Nat → Prop) (gp : Nat) (v u : Value) (S : List (Nat → Bool)) (G : Nat → List Nat) (a : Option Addr) (c : Nat) (w : World), Parts x.args K w a c → (∀ j, K j → j < gp) → Hid (Wp X gp w v u S S.length G) → S.length + x.pla.cnt ≤ 40 → x.formed = true → (∀ i, (G i).length + 1600 * x.nodes ≤ 64000) → (∀ i, S.length ≤ i → G i = []) → (∀ j, X j → j < w.heap.size) →
  Calls Tryd.prog 26 #[.pointer (some ⟨gp, 0, none⟩), .agg #[.int .i64 x.kind, .int .u64 (limb x.set 0), .int .u64 (limb x.set 1), .int .u64 (limb x.set 2), .int .u64 (limb x.set 3), .slice a x.args.length c]] w fun e w' => RwP X gp w S G x.pla x.nodes e w'
/-- The boxes with which walk begins. -/
theorem begin_boxes5 (w : World) (v0 v1 v2 v3 v4 v5 : Value) : Hid (B6 w.heap.size v0 v1 v2 v3 v4 v5 ((w.alloc (.cells #[v0, v1, v2, v3, v4, v5] 29)).alloc (zeros5 41))) ∧ Hid (B5p 41 (w.heap.size + 1) (.slice none 0 0) (.slice none 0 0) (.slice none 0 0) (.slice none 0 0) (.bool false) ((w.alloc (.cells #[v0, v1, v2, v3, v4, v5] 29)).alloc (zeros5 41))) ∧ Hid (Qt w ((w.alloc (.cells #[v0, v1, v2, v3, v4, v5] 29)).alloc (zeros5 41))) :=
  ⟨heap2a w _ _, heap_alloc2_new w _ _, ((Qt.refl w).alloc _).alloc _⟩
theorem B6.fp {gp g : Nat} {v0 v1 v2 v3 v4 v5 : Value} {w w' : World} (h : B6 g v0 v1 v2 v3 v4 v5 w) (f : Fp gp w w') (hg : g ≠ gp) : Hid (B6 g v0 v1 v2 v3 v4 v5 w') := Fr.keep f h hg (by simp)
theorem B5p.fp {gp g : Nat} {v0 v1 v2 v3 v4 : Value} {w w' : World} (h : B5p 41 g v0 v1 v2 v3 v4 w) (f : Fp gp w w') (hg : g ≠ gp) : Hid (B5p 41 g v0 v1 v2 v3 v4 w') := Fr.keep f h hg (by simp)

end Go.Proofs.YtojbakkbmfgoaaaDoor

namespace Go.Proofs.YtojbakkbmfgoaaaDoor
open Go.RowKit
set_option linter.unusedVariables false

section
variable {P : Program} {ops : Array Oper} {Q : Exit → Act → World → Prop} {md : Region.Mode} {A S T : World → Prop} {st : List Nat}
/-- The rest in any order; the world meets A, and S while none of st has come up. -/
def Rast (P : Program) (md : Region.Mode) (ops : Array Oper) (Q : Exit → Act → World → Prop) (A S : World → Prop) (st : List Nat) (n : Nat) (listed : Array Bool) : Act → World → Prop :=
  Nat.rec (motive := fun _ => Array Bool → Act → World → Prop) (fun l a w => Region.ready md ops l = [] ∧ Q .normal a w)
    (fun _ next l a w => (Region.ready md ops l = [] → Q .normal a w) ∧ ∀ i ∈ Region.ready md ops l, wpOp P ops Q i (fun a' w' => (A w' ∧ (Unl st (l.setIfInBounds i true) → S w')) ∧ next (l.setIfInBounds i true) a' w') a w) n listed
theorem Rast.any : ∀ (n : Nat) (l : Array Bool) (a : Act) (w : World), Rast P md ops Q A S st n l a w → wpAny P md ops Q n l a w
  | 0, _, _, _, h => h
  | n + 1, _, _, _, h => ⟨h.1, fun i hi => wpOp_mono (fun a' w' k => Rast.any n _ a' w' k.2) (h.2 i hi)⟩
/-- What yields the same in each world that meets T may be taken first. -/
theorem Rast.early {i : Nat} {oi : Oper} {v : Value} (hi : ops[i]? = some oi) (hns : ∀ (j : Nat) (o : Oper) cs b, ops[j]? = some o → o.op ≠ .select cs b) (hQ : ∀ c a w, Q (.panic c) (a.put oi.dst v) w → Q (.panic c) a w) (his : i ∉ st)
    (hT : ∀ l w, Okl md ops st l → l.getD i true = false → A w ∧ (Unl st l → S w) → T w) :
    ∀ (n : Nat) (l : Array Bool) (a : Act) (w : World), (∀ j oj, ops[j]? = some oj → j ≠ i → l.getD j true = false → (∀ e ∈ oj.after, Region.binds md e = true → e.on ≠ i) → oi.apart ops oj = true) → Okl md ops st l → i ∈ Region.ready md ops l → YieldsIf P ops T oi v a → A w ∧ (Unl st l → S w) →
      Rast P md ops Q A S st n (l.setIfInBounds i true) (a.put oi.dst v) w → Rast P md ops Q A S st (n + 1) l a w := by
  intro n
  induction n with
  | zero =>
    intro l a w _ hk hr hy hS H
    refine ⟨fun h => absurd hr (by rw [h]; simp), fun j hj => ?_⟩
    by_cases e : j = i
    · rw [e]; exact hy.wpOp hi (hT l w hk (mem_ready.1 hr).1 hS) ⟨⟨hS.1, fun h => hS.2 h.back⟩, H⟩
    · have h2 := ready_mono hj e
      rw [H.1] at h2
      simp at h2
  | succ n ih =>
    intro l a w hfree hk hr hy hS H
    refine ⟨fun h => absurd hr (by rw [h]; simp), fun j hj => ?_⟩
    by_cases e : j = i
    · rw [e]; exact hy.wpOp hi (hT l w hk (mem_ready.1 hr).1 hS) ⟨⟨hS.1, fun h => hS.2 h.back⟩, H⟩
    · obtain ⟨hun, oj, hoj, hedge⟩ := mem_ready.1 hj
      have hno : ∀ x ∈ oj.after, Region.binds md x = true → x.on ≠ i := by
        intro x hx hb hxi
        have h2 := hedge x hx hb
        rw [hxi] at h2
        have h3 := (mem_ready.1 hr).1
        by_cases hs : i < l.size
        · simp [hs] at h2 h3
          rw [h2] at h3; cases h3
        · simp [hs] at h2
      refine wpOp_mono (fun a' w' k => ?_) (wpOp_putIf hoj (hfree j oj hoj e hun hno) (fun cs b => hns i oi cs b hi) (fun cs b => hns j oj cs b hoj) hQ hy (H.2 j (ready_mono hj e)))
      obtain ⟨ky, ks, kr⟩ := k
      rw [Array.setIfInBounds_comm _ _ (Ne.symm e)] at ks kr
      have hS2 : A w' ∧ (Unl st (l.setIfInBounds j true) → S w') := ⟨ks.1, fun h => ks.2 (h.more his)⟩
      refine ⟨hS2, ih _ a' w' (fun k ok hk hki hun2 hno2 => hfree k ok hk hki ?_ hno2) (hk.step hj) (ready_mono hr (Ne.symm e)) ky hS2 kr⟩
      by_cases hjk : j = k
      · rw [← hjk]; exact hun
      · rw [getD_set_ne true hjk] at hun2; exact hun2
/-- A load. -/
theorem Rast.take {i : Nat} (oi : Oper) (d : Option Tmp) (v : Value) {n : Nat} {l : Array Bool} {a : Act} {w : World} (hi : ops[i]? = some oi) (hd : oi.dst = d)
    (hs : Region.noSelect ops = true) (hf : Region.free md ops l i = true) (hr : (Region.ready md ops l).contains i = true) (hw : (Waits md ops st i && (unlB st l && !st.contains i)) = true)
    (hQ : ∀ c a w, Q (.panic c) (a.put d v) w → Q (.panic c) a w) (hy : YieldsIf P ops S oi v a) (hS : A w ∧ S w)
    (h : Rast P md ops Q A S st n (l.setIfInBounds i true) (a.put d v) w) : Rast P md ops Q A S st (n + 1) l a w := by
  subst hd
  rw [Bool.and_eq_true, Bool.and_eq_true] at hw
  exact Rast.early (T := S) hi (Region.noSelect_spec hs) hQ (by simpa using hw.2.2) (fun l w hk hl hs => hs.2 (waits_unl hw.1 hk hl)) n l a w (Region.free_spec hi hf) (unl_okl (unlB_unl hw.2.1)) (by simpa using hr) hy ⟨hS.1, fun _ => hS.2⟩ h
/-- A load of what no store turns. -/
theorem Rast.ever {i : Nat} (oi : Oper) (d : Option Tmp) (v : Value) {n : Nat} {l : Array Bool} {a : Act} {w : World} (hi : ops[i]? = some oi) (hd : oi.dst = d)
    (hs : Region.noSelect ops = true) (hf : Region.free md ops l i = true) (hr : (Region.ready md ops l).contains i = true) (hw : (unlB st l && !st.contains i) = true)
    (hQ : ∀ c a w, Q (.panic c) (a.put d v) w → Q (.panic c) a w) (hy : YieldsIf P ops A oi v a) (hS : A w ∧ S w)
    (h : Rast P md ops Q A S st n (l.setIfInBounds i true) (a.put d v) w) : Rast P md ops Q A S st (n + 1) l a w := by
  subst hd
  rw [Bool.and_eq_true] at hw
  exact Rast.early (T := A) hi (Region.noSelect_spec hs) hQ (by simpa using hw.2) (fun l w hk hl hs => hs.1) n l a w (Region.free_spec hi hf) (unl_okl (unlB_unl hw.1)) (by simpa using hr) hy ⟨hS.1, fun _ => hS.2⟩ h
/-- What asks no world. -/
theorem Rast.plain {i : Nat} (oi : Oper) (d : Option Tmp) (v : Value) {n : Nat} {l : Array Bool} {a : Act} {w : World} (hi : ops[i]? = some oi) (hd : oi.dst = d)
    (hs : Region.noSelect ops = true) (hf : Region.free md ops l i = true) (hr : (Region.ready md ops l).contains i = true) (hw : (unlB st l && !st.contains i) = true)
    (hQ : ∀ c a w, Q (.panic c) (a.put d v) w → Q (.panic c) a w) (hy : YieldsIf P ops (fun _ => True) oi v a) (hS : A w ∧ S w)
    (h : Rast P md ops Q A S st n (l.setIfInBounds i true) (a.put d v) w) : Rast P md ops Q A S st (n + 1) l a w := by
  subst hd
  rw [Bool.and_eq_true] at hw
  exact Rast.early (T := fun _ => True) hi (Region.noSelect_spec hs) hQ (by simpa using hw.2) (fun _ _ _ _ _ => trivial) n l a w (Region.free_spec hi hf) (unl_okl (unlB_unl hw.1)) (by simpa using hr) hy ⟨hS.1, fun _ => hS.2⟩ h
theorem Rast.begin {id : Nat} {a : Act} {w : World} (hm : P.follows .mixedOrders = true) (hS : A w.drew ∧ S w.drew) (h : A w.drew ∧ S w.drew → Rast P .any ops Q A S st ops.size (Array.replicate ops.size false) a w.drew) : (Code.region id ops true).wp P Q a w :=
  wp_region_any hm (Rast.any _ _ _ _ (h hS))
theorem Rast.done {l : Array Bool} {a : Act} {w : World} (hr : Region.ready md ops l = []) (h : Q .normal a w) : ∀ n, Rast P md ops Q A S st n l a w
  | 0 => ⟨hr, h⟩
  | _ + 1 => ⟨fun _ => h, by rw [hr]; simp⟩
/-- One alone may come up. -/
theorem Rast.one {i : Nat} {n : Nat} {l : Array Bool} {a : Act} {w : World} {o : Oper} (hr : Region.ready md ops l = [i]) (ho : ops[i]? = some o)
    (h : ∀ K' : Act → World → Prop, Shut (∀ a w, A w ∧ S w → (A w ∧ S w → Rast P md ops Q A S st n (l.setIfInBounds i true) a w) → K' a w) → if Region.wanted o (yielded ops a.tmps) = true then Oper.wp P o a w K' Q else K' (a.put o.dst undef) w) : Rast P md ops Q A S st (n + 1) l a w := by
  refine ⟨fun h0 => absurd (hr ▸ h0) (by simp), fun j hj => ?_⟩
  rw [hr, List.mem_singleton] at hj
  rw [hj]
  exact wpOp_step ho (fun K' hK => h K' (fun a w hS hW => hK a w ⟨⟨hS.1, fun _ => hS.2⟩, hW hS⟩))
/-- One alone may come up, a store. -/
theorem Rast.last {i : Nat} {n : Nat} {l : Array Bool} {a : Act} {w : World} {o : Oper} (hr : Region.ready md ops l = [i]) (ho : ops[i]? = some o) (hl : (!(unlB st (l.setIfInBounds i true))) = true)
    (h : ∀ K' : Act → World → Prop, Shut (∀ a w, A w → (A w → Rast P md ops Q A S st n (l.setIfInBounds i true) a w) → K' a w) → if Region.wanted o (yielded ops a.tmps) = true then Oper.wp P o a w K' Q else K' (a.put o.dst undef) w) : Rast P md ops Q A S st (n + 1) l a w := by
  refine ⟨fun h0 => absurd (hr ▸ h0) (by simp), fun j hj => ?_⟩
  rw [hr, List.mem_singleton] at hj
  rw [hj]
  refine wpOp_step ho (fun K' hK => h K' (fun a w hA hW => hK a w ⟨⟨hA, fun hu => ?_⟩, hW hA⟩))
  exfalso
  have h2 : unlB st (l.setIfInBounds i true) = true := List.all_eq_true.2 (fun k hk => by rw [hu k hk]; rfl)
  rw [h2] at hl; cases hl
/-- Two may come up. -/
theorem Rast.two {i j : Nat} {n : Nat} {l : Array Bool} {a : Act} {w : World} {o p : Oper} (hr : Region.ready md ops l = [i, j]) (ho : ops[i]? = some o) (hp : ops[j]? = some p) 
    (h : ∀ K' : Act → World → Prop, Shut (∀ a w, A w ∧ S w → (A w ∧ S w → Rast P md ops Q A S st n (l.setIfInBounds i true) a w) → K' a w) → if Region.wanted o (yielded ops a.tmps) = true then Oper.wp P o a w K' Q else K' (a.put o.dst undef) w)
    (k : ∀ K' : Act → World → Prop, Shut (∀ a w, A w ∧ S w → (A w ∧ S w → Rast P md ops Q A S st n (l.setIfInBounds j true) a w) → K' a w) → if Region.wanted p (yielded ops a.tmps) = true then Oper.wp P p a w K' Q else K' (a.put p.dst undef) w) : Rast P md ops Q A S st (n + 1) l a w := by
  refine ⟨fun h0 => absurd (hr ▸ h0) (by simp), fun m hm => ?_⟩
  rw [hr] at hm
  rcases List.mem_cons.1 hm with e | e
  · rw [e]
    exact wpOp_step ho (fun K' hK => h K' (fun a w hS hW => hK a w ⟨⟨hS.1, fun _ => hS.2⟩, hW hS⟩))
  · rw [List.mem_singleton] at e
    rw [e]
    exact wpOp_step hp (fun K' hK => k K' (fun a w hS hW => hK a w ⟨⟨hS.1, fun _ => hS.2⟩, hW hS⟩))
end

end Go.Proofs.YtojbakkbmfgoaaaDoor
