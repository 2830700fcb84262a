/- The reference's reader: atom, a set. -/
import Derived.Test.YtkclkhfcmjhogaaDoorMgU1
import Derived.Test.YtkclkhfcmjhogaaDoorMgC
import Derived.Test.YtkclkhfcmjhogaaDoorMgF
import Derived.Deep.RegionHeld3
namespace Go.Proofs.YtkclkhfcmjhogaaDoor
open Go.RowKit
set_option linter.unusedVariables false

theorem hold2x {W w' : World} {b0 k0 b1 k1 : Nat} {u0 u1 : Value} (c0 : Hid (W.cell? ⟨b0, k0, none⟩ = some u0)) (c1 : Hid (W.cell? ⟨b1, k1, none⟩ = some u1)) (q : Hid (Qt W w')) : w'.cell? ⟨b0, k0, none⟩ = some u0 ∧ w'.cell? ⟨b1, k1, none⟩ = some u1 ∧ Hid (Qt W w') := ⟨Qt.keep q c0.out, Qt.keep q c1.out, q⟩

/-- A set's box. -/
abbrev B25 (g : Nat) (v0 v1 v2 v3 : Value) (w : World) : Prop := w.heap[g]? = some (.cells #[v0, v1, v2, v3] 25 (0, 0))
theorem B25.mv {X : Nat → Prop} {g : Nat} {v0 v1 v2 v3 : Value} {w w' : World} (h : B25 g v0 v1 v2 v3 w) (m : Mv X w w') (hx : ¬ X g) : Hid (B25 g v0 v1 v2 v3 w') := (m.block g (Array.getElem?_eq_some_iff.1 h).1 hx).trans h
theorem B25.facts {g : Nat} {v0 v1 v2 v3 : Value} {w : World} (h : Hid (B25 g v0 v1 v2 v3 w)) : w.cell? ⟨g, 0, none⟩ = some v0 ∧ w.cell? ⟨g, 1, none⟩ = some v1 ∧ w.cell? ⟨g, 2, none⟩ = some v2 ∧ w.cell? ⟨g, 3, none⟩ = some v3 := by
  have h' := h.out
  unfold B25 at h'
  refine ⟨?_, ?_, ?_, ?_⟩ <;> simp [World.cell?, h']
theorem B25.lt {g : Nat} {v0 v1 v2 v3 : Value} {w : World} (h : B25 g v0 v1 v2 v3 w) : g < w.heap.size := (Array.getElem?_eq_some_iff.1 h).1

theorem ratom_bad {q n k : Nat} {S : ByteArray} {l : List Nat} {w w1 W w2 : World} (H0 : Hid (Ok4 q S l n w)) (q1 : Hid (Qt (w.alloc zeros6) w1)) (QW : Hid (Qt w1 W)) (ME : Hid (Mv (fun j => j = q) W w2)) (BE : Hid (B4 q S ((S.size - l.length : Nat) : Int) ((13 - n : Nat) : Int) 2 w2)) (hk : k = S.size - l.length) {v0 v1 v2 v3 v4 v5 : Value} (ZB : Hid (B6 w.heap.size v0 v1 v2 v3 v4 v5 (w2.setCell ⟨q, 1, none⟩ (.int .i64 ((k : Nat) : Int))))) :
    Rr4 q S n w (.error 2) (.returned (.agg #[.int .i64 1, .int .u64 0, .int .u64 0, .int .u64 0, .int .u64 0, .slice none 0 0])) (put6 (w2.setCell ⟨q, 1, none⟩ (.int .i64 ((k : Nat) : Int))) w.heap.size (.int .i64 1) (.int .u64 0) (.int .u64 0) (.int .u64 0) (.int .u64 0) (.slice none 0 0)) := by
  have hq := Ok4.lt H0
  have mp := put6_mv (w2.setCell ⟨q, 1, none⟩ (.int .i64 ((k : Nat) : Int))) w.heap.size (.int .i64 1) (.int .u64 0) (.int .u64 0) (.int .u64 0) (.int .u64 0) (.slice none 0 0)
  have m0 : Mv (fun j => j = q) w w1 := Mv.trans (Mv.alloc _ w zeros6) q1.out (fun _ _ h => h.elim)
  have m1 : Mv (fun j => j = q) w W := Mv.trans m0 QW.out (fun _ _ h => h.elim)
  have m2 : Mv (fun j => j = q) w w2 := Mv.trans m1 ME.out (fun _ _ h => h)
  have m3 : Mv (fun j => j = q) w (w2.setCell ⟨q, 1, none⟩ (.int .i64 ((k : Nat) : Int))) := Mv.trans m2 (Mv.setCell w2 ⟨q, 1, none⟩ _) (fun _ _ h => h)
  have hr := H0.out.room
  have hd := H0.out.deep
  have hB := B4.mv (BE.out.at ((k : Nat) : Int)) mp (by omega)
  refine ⟨⟨1, fun _ => false, []⟩, none, 0, ?_, (parts_none _).mono (fun _ h => h.elim), Mv.trans m3 mp (fun j hj e => by omega), ⟨⟨_, _, hB.out, by omega, by omega⟩, by decide, hr⟩, by show 0 < 1000; decide⟩
  show _ = Ending.returned (.agg #[.int .i64 1, .int .u64 (limb (fun _ => false) 0), .int .u64 (limb (fun _ => false) 1), .int .u64 (limb (fun _ => false) 2), .int .u64 (limb (fun _ => false) 3), .slice none 0 0])
  rw [limb_none, limb_none, limb_none, limb_none]
  rfl

set_option maxRecDepth 20000 in
set_option maxHeartbeats 8000000 in
theorem ratom_none (q : Nat) (S : ByteArray) (l : List Nat) (n : Nat) (w : World) (h : Hid (Ok4 q S l n w)) (h40 : hdc l 40 = false) (hc : cls l = none) : Calls Tryd.prog 88 #[.pointer (some ⟨q, 0, none⟩)] w fun e w' => Rr4 q S n w ((.error 2 : Res)) e w' := by
  have h1 : Hid (Ok4 q S l n (w.alloc zeros6)) := Ok4.mv h (Mv.alloc (fun _ => False) w zeros6) (fun h => h)
  have hl := h.out.le
  have hr := h.out.room
  have his := ris_ok h1 40
  rw [h40] at his
  obtain ⟨k, hk⟩ : ∃ k, k = S.size - l.length := ⟨_, rfl⟩
  have hks : k ≤ S.size := by omega
  have hext : S.extract k S.size = str l := by rw [hk]; exact ext_of h.out.sf
  have hbs : bs (str l) = l := bs_str l (fun c hc => by obtain ⟨pre, e, _⟩ := h.out.sf; exact bs_lt S c (by rw [e]; simp [hc]))
  have hsz : (str l).size = l.length := str_size l
  have hcls := fun W => rclass_any (str l) (by rw [hsz]; omega) W
  rw [hbs, ← hext, hc] at hcls
  have hmin : min (k : Int) (S.size : Int) = (k : Int) := by omega
  have hk0 : (0 : Int) ≤ (k : Int) := by omega
  have hk1 : (k : Int) ≤ (S.size : Int) := by omega
  have H0 : Hid (Ok4 q S l n w) := h
  have HK : Hid (k = S.size - l.length) := hk
  have HX : Hid (S.extract k S.size = str l) := hext
  have HH : Hid (hdc l 40 = false) := h40
  have hcls2 : ∀ W, Calls Tryd.prog 100 #[.string (S.extract k S.size)] W fun e w' => e = .returned (.tuple #[.agg #[.int .u64 0, .int .u64 0, .int .u64 0, .int .u64 0], .int .i64 0, .int .i64 2]) ∧ Hid (Qt W w') := hcls
  clear h hbs hsz hext h40 hcls
  go_enter Tryd.func88, Tryd.ntmps88
  go_wp2_with fail
  refine his.mono ?_
  rintro e1 w1 ⟨rfl, q1⟩
  have O1 := Ok4.mv h1 q1.out (fun h => h)
  obtain ⟨k0, k1, k2, k3, f1, f2, f3⟩ := B4.facts (show Hid _ from O1.out.at_)
  rw [← HK.out] at k1
  have C0 : Hid _ := k0
  have C1 : Hid _ := k1
  have DQ : Hid (Qt w1 w1.drew) := Mv.drewN _ w1 1
  clear hk h1 hl
  go_wp2_with fail
  go_region_held3 (fun w' => w'.cell? ⟨q, 0, none⟩ = some (.string S) ∧ w'.cell? ⟨q, 1, none⟩ = some (.int .i64 k) ∧ Hid (Qt w1 w'))
    (first | (refine hold2x C0 C1 ?_; first | exact DQ | exact Qt.comp DQ.out q9.out | exact Qt.drew (Qt.alloc (Qt.refl w1) _) | exact Qt.comp (Qt.drew (Qt.alloc (Qt.refl w1) _)) q9.out | exact Qt.alloc (Qt.comp DQ.out q9.out) _ | exact Mv.trans (Qt.comp (Qt.drew (Qt.alloc (Qt.refl w1) _)) q9.out) (put4_mv w9 w1.heap.size _ _ _ _) (fun j hj e => by omega) | exact Mv.trans (Qt.alloc (Qt.comp DQ.out q9.out) _) (put4_mv (w9.alloc _) w9.heap.size _ _ _ _) (fun j hj e => by have := q9.out.size; simp at this; omega)))
    ((first | (go_at_call 100; refine (hcls2 _).mono ?_; rintro e9 w9 ⟨rfl, q9⟩; first | (obtain ⟨z0, z1, z2, z3, z4, z5, z6, z7⟩ := Zr.facts (Zr.mv (show Hid (Zr w1.heap.size ((w1.alloc zeros).drew)) from heap_alloc_new w1 zeros) q9.out (fun h => h))) | skip)))
  all_goals (rename_i hh; obtain ⟨_, _, QW⟩ := hh)
  all_goals go_wp2_with fail
  all_goals (clear his hcls2)
  · have BX : Hid (B25 w9.heap.size (.int .u64 0) (.int .u64 0) (.int .u64 0) (.int .u64 0) (w9.alloc zeros)) := heap_alloc_new w9 zeros
    have QW2 : Hid (Qt w1 (w9.alloc zeros)) := QW
    have HB : Hid (w1.heap.size ≤ w9.heap.size) := q9.out.size
    have OW := Ok4.mv O1 QW2.out (fun h => h)
    refine (rfail_ok q S _ _ 2 _ (show Hid _ from OW.out.at_)).mono ?_
    rintro e2 w2 ⟨rfl, hw2⟩
    have HW2 : Hid (w2 = (w9.alloc zeros).setCell ⟨q, 3, none⟩ (.int .i64 2)) := hw2
    have BE : Hid (B4 q S ((S.size - l.length : Nat) : Int) ((13 - n : Nat) : Int) 2 w2) := by show B4 _ _ _ _ _ _; rw [hw2]; exact OW.out.at_.err 2
    have ME : Hid (Mv (fun j => j = q) (w9.alloc zeros) w2) := by show Mv _ _ _; rw [hw2]; exact (Mv.setCell _ ⟨q, 3, none⟩ _)
    have HQ : Hid (q < w.heap.size) := Ok4.lt H0
    have HQ1 : Hid (w.heap.size < w1.heap.size) := by have := q1.out.size; simp at this; show _ < _; omega
    have BX2 := B25.mv BX.out ME.out (by have := HQ.out; have := HQ1.out; have := HB.out; omega)
    clear hw2
    obtain ⟨s0, s1, s2, s3, g1, g2, g3⟩ := B4.facts BE
    rw [← HK.out] at s1
    have ZB := B6.mv (B6.mv (B6.mv (show B6 w.heap.size (.int .i64 0) (.int .u64 0) (.int .u64 0) (.int .u64 0) (.int .u64 0) (.slice none 0 0) (w.alloc zeros6) from heap_alloc_new w zeros6) q1.out (fun h => h)).out QW2.out (fun h => h)).out ME.out (by have := HQ.out; omega)
    have MK := Mv.setCell w2 ⟨q, 1, none⟩ (.int .i64 ((k : Nat) : Int))
    obtain ⟨t0, t1, t2, t3⟩ := B25.facts (B25.mv BX2.out MK (by have := HQ.out; have := HQ1.out; have := HB.out; simp; omega))
    have ZB2 := B6.mv ZB.out MK (by have := HQ.out; simp; omega)
    obtain ⟨z0, z1, z2, z3, z4, z5, f0', f1', f2', f3', f4', f5'⟩ := B6.facts ZB2
    go_wp2_with fail
    refine bodyPost_ret (results_cell_row (p := 2) (ty := 28) rfl _ _ w.heap.size 28 _ (0, 0) _ rfl (put6_heap ZB2.out _ _ _ _ _ _) Tryd.underlying28 rfl (by kernel_rfl)) rfl ?_
    exact ratom_bad H0 q1 QW2 ME BE HK.out ZB2
  · have BX : Hid (B25 w1.heap.size (.int .u64 0) (.int .u64 0) (.int .u64 0) (.int .u64 0) (put4 w9 w1.heap.size (.int .u64 0) (.int .u64 0) (.int .u64 0) (.int .u64 0))) := put4_heap ((Zr.mv (show Hid (Zr w1.heap.size ((w1.alloc zeros).drew)) from heap_alloc_new w1 zeros) q9.out (fun h => h)).out) _ _ _ _
    have QW2 : Hid (Qt w1 (put4 w9 w1.heap.size (.int .u64 0) (.int .u64 0) (.int .u64 0) (.int .u64 0))) := QW
    have HB : Hid (w1.heap.size ≤ w1.heap.size) := Nat.le_refl _
    have OW := Ok4.mv O1 QW2.out (fun h => h)
    refine (rfail_ok q S _ _ 2 _ (show Hid _ from OW.out.at_)).mono ?_
    rintro e2 w2 ⟨rfl, hw2⟩
    have HW2 : Hid (w2 = (put4 w9 w1.heap.size (.int .u64 0) (.int .u64 0) (.int .u64 0) (.int .u64 0)).setCell ⟨q, 3, none⟩ (.int .i64 2)) := hw2
    have BE : Hid (B4 q S ((S.size - l.length : Nat) : Int) ((13 - n : Nat) : Int) 2 w2) := by show B4 _ _ _ _ _ _; rw [hw2]; exact OW.out.at_.err 2
    have ME : Hid (Mv (fun j => j = q) (put4 w9 w1.heap.size (.int .u64 0) (.int .u64 0) (.int .u64 0) (.int .u64 0)) w2) := by show Mv _ _ _; rw [hw2]; exact (Mv.setCell _ ⟨q, 3, none⟩ _)
    have HQ : Hid (q < w.heap.size) := Ok4.lt H0
    have HQ1 : Hid (w.heap.size < w1.heap.size) := by have := q1.out.size; simp at this; show _ < _; omega
    have BX2 := B25.mv BX.out ME.out (by have := HQ.out; have := HQ1.out; have := HB.out; omega)
    clear hw2
    obtain ⟨s0, s1, s2, s3, g1, g2, g3⟩ := B4.facts BE
    rw [← HK.out] at s1
    have ZB := B6.mv (B6.mv (B6.mv (show B6 w.heap.size (.int .i64 0) (.int .u64 0) (.int .u64 0) (.int .u64 0) (.int .u64 0) (.slice none 0 0) (w.alloc zeros6) from heap_alloc_new w zeros6) q1.out (fun h => h)).out QW2.out (fun h => h)).out ME.out (by have := HQ.out; omega)
    have MK := Mv.setCell w2 ⟨q, 1, none⟩ (.int .i64 ((k : Nat) : Int))
    obtain ⟨t0, t1, t2, t3⟩ := B25.facts (B25.mv BX2.out MK (by have := HQ.out; have := HQ1.out; have := HB.out; simp; omega))
    have ZB2 := B6.mv ZB.out MK (by have := HQ.out; simp; omega)
    obtain ⟨z0, z1, z2, z3, z4, z5, f0', f1', f2', f3', f4', f5'⟩ := B6.facts ZB2
    go_wp2_with fail
    refine bodyPost_ret (results_cell_row (p := 2) (ty := 28) rfl _ _ w.heap.size 28 _ (0, 0) _ rfl (put6_heap ZB2.out _ _ _ _ _ _) Tryd.underlying28 rfl (by kernel_rfl)) rfl ?_
    exact ratom_bad H0 q1 QW2 ME BE HK.out ZB2
  · have BX : Hid (B25 w1.heap.size (.int .u64 0) (.int .u64 0) (.int .u64 0) (.int .u64 0) (put4 w9 w1.heap.size (.int .u64 0) (.int .u64 0) (.int .u64 0) (.int .u64 0))) := put4_heap ((Zr.mv (show Hid (Zr w1.heap.size ((w1.alloc zeros).drew)) from heap_alloc_new w1 zeros) q9.out (fun h => h)).out) _ _ _ _
    have QW2 : Hid (Qt w1 (put4 w9 w1.heap.size (.int .u64 0) (.int .u64 0) (.int .u64 0) (.int .u64 0))) := QW
    have HB : Hid (w1.heap.size ≤ w1.heap.size) := Nat.le_refl _
    have OW := Ok4.mv O1 QW2.out (fun h => h)
    refine (rfail_ok q S _ _ 2 _ (show Hid _ from OW.out.at_)).mono ?_
    rintro e2 w2 ⟨rfl, hw2⟩
    have HW2 : Hid (w2 = (put4 w9 w1.heap.size (.int .u64 0) (.int .u64 0) (.int .u64 0) (.int .u64 0)).setCell ⟨q, 3, none⟩ (.int .i64 2)) := hw2
    have BE : Hid (B4 q S ((S.size - l.length : Nat) : Int) ((13 - n : Nat) : Int) 2 w2) := by show B4 _ _ _ _ _ _; rw [hw2]; exact OW.out.at_.err 2
    have ME : Hid (Mv (fun j => j = q) (put4 w9 w1.heap.size (.int .u64 0) (.int .u64 0) (.int .u64 0) (.int .u64 0)) w2) := by show Mv _ _ _; rw [hw2]; exact (Mv.setCell _ ⟨q, 3, none⟩ _)
    have HQ : Hid (q < w.heap.size) := Ok4.lt H0
    have HQ1 : Hid (w.heap.size < w1.heap.size) := by have := q1.out.size; simp at this; show _ < _; omega
    have BX2 := B25.mv BX.out ME.out (by have := HQ.out; have := HQ1.out; have := HB.out; omega)
    clear hw2
    obtain ⟨s0, s1, s2, s3, g1, g2, g3⟩ := B4.facts BE
    rw [← HK.out] at s1
    have ZB := B6.mv (B6.mv (B6.mv (show B6 w.heap.size (.int .i64 0) (.int .u64 0) (.int .u64 0) (.int .u64 0) (.int .u64 0) (.slice none 0 0) (w.alloc zeros6) from heap_alloc_new w zeros6) q1.out (fun h => h)).out QW2.out (fun h => h)).out ME.out (by have := HQ.out; omega)
    have MK := Mv.setCell w2 ⟨q, 1, none⟩ (.int .i64 ((k : Nat) : Int))
    obtain ⟨t0, t1, t2, t3⟩ := B25.facts (B25.mv BX2.out MK (by have := HQ.out; have := HQ1.out; have := HB.out; simp; omega))
    have ZB2 := B6.mv ZB.out MK (by have := HQ.out; simp; omega)
    obtain ⟨z0, z1, z2, z3, z4, z5, f0', f1', f2', f3', f4', f5'⟩ := B6.facts ZB2
    go_wp2_with fail
    refine bodyPost_ret (results_cell_row (p := 2) (ty := 28) rfl _ _ w.heap.size 28 _ (0, 0) _ rfl (put6_heap ZB2.out _ _ _ _ _ _) Tryd.underlying28 rfl (by kernel_rfl)) rfl ?_
    exact ratom_bad H0 q1 QW2 ME BE HK.out ZB2

end Go.Proofs.YtkclkhfcmjhogaaDoor

namespace Go.Proofs.YtkclkhfcmjhogaaDoor
open Go.RowKit
set_option linter.unusedVariables false

theorem Sf.sfx {S : ByteArray} {k : Nat} {l t : List Nat} (h : Sf S k l) (ht : t <:+ l) : Sf S (S.size - t.length) t := by
  obtain ⟨pre, h1, h2⟩ := h
  obtain ⟨u, rfl⟩ := ht
  refine ⟨pre ++ u, by rw [h1, List.append_assoc], ?_⟩
  rw [← bs_length S, h1]
  simp only [List.length_append]
  omega
theorem ratom_good {q n k' : Nat} {S : ByteArray} {l t : List Nat} {w w1 W : World} (H0 : Hid (Ok4 q S l n w)) (q1 : Hid (Qt (w.alloc zeros6) w1)) (QW : Hid (Qt w1 W)) (ht : t <:+ l) (hk : k' = S.size - t.length) (p : Nat → Bool) :
    Rr4 q S n w (.ok (⟨1, p, []⟩, t)) (.returned (.agg #[.int .i64 1, .int .u64 (limb p 0), .int .u64 (limb p 1), .int .u64 (limb p 2), .int .u64 (limb p 3), .slice none 0 0])) (put6 (W.setCell ⟨q, 1, none⟩ (.int .i64 ((k' : Nat) : Int))) w.heap.size (.int .i64 1) (.int .u64 (limb p 0)) (.int .u64 (limb p 1)) (.int .u64 (limb p 2)) (.int .u64 (limb p 3)) (.slice none 0 0)) := by
  have hq := Ok4.lt H0
  have mp := put6_mv (W.setCell ⟨q, 1, none⟩ (.int .i64 ((k' : Nat) : Int))) w.heap.size (.int .i64 1) (.int .u64 (limb p 0)) (.int .u64 (limb p 1)) (.int .u64 (limb p 2)) (.int .u64 (limb p 3)) (.slice none 0 0)
  have m0 : Mv (fun j => j = q) w w1 := Mv.trans (Mv.alloc _ w zeros6) q1.out (fun _ _ h => h.elim)
  have m1 : Mv (fun j => j = q) w W := Mv.trans m0 QW.out (fun _ _ h => h.elim)
  have m3 : Mv (fun j => j = q) w (W.setCell ⟨q, 1, none⟩ (.int .i64 ((k' : Nat) : Int))) := Mv.trans m1 (Mv.setCell W ⟨q, 1, none⟩ _) (fun _ _ h => h)
  have OW := Ok4.mv (Ok4.mv (Ok4.mv H0 (Mv.alloc (fun _ => False) w zeros6) (fun h => h)) q1.out (fun h => h)) QW.out (fun h => h)
  have hB := B4.mv (OW.out.at_.at ((k' : Nat) : Int)) mp (by omega)
  have hl := ht.length_le
  have hle := H0.out.le
  refine ⟨⟨1, p, []⟩, none, 0, rfl, (parts_none _).mono (fun _ h => h.elim), Mv.trans m3 mp (fun j hj e => by omega), rfl, ?_, H0.out.sf.sfx ht, by omega, H0.out.room, H0.out.deep⟩
  rw [← hk]
  exact hB.out

set_option maxRecDepth 20000 in
set_option maxHeartbeats 8000000 in
theorem ratom_some (q : Nat) (S : ByteArray) (l : List Nat) (n : Nat) (w : World) (h : Hid (Ok4 q S l n w)) (h40 : hdc l 40 = false) (p : Nat → Bool) (t : List Nat) (hc : cls l = some (p, t)) : Calls Tryd.prog 88 #[.pointer (some ⟨q, 0, none⟩)] w fun e w' => Rr4 q S n w ((.ok (⟨1, p, []⟩, t) : Res)) e w' := by
  have h1 : Hid (Ok4 q S l n (w.alloc zeros6)) := Ok4.mv h (Mv.alloc (fun _ => False) w zeros6) (fun h => h)
  have hl := h.out.le
  have hr := h.out.room
  have his := ris_ok h1 40
  rw [h40] at his
  obtain ⟨k, hk⟩ : ∃ k, k = S.size - l.length := ⟨_, rfl⟩
  have hks : k ≤ S.size := by omega
  have hext : S.extract k S.size = str l := by rw [hk]; exact ext_of h.out.sf
  have hbs : bs (str l) = l := bs_str l (fun c hc => by obtain ⟨pre, e, _⟩ := h.out.sf; exact bs_lt S c (by rw [e]; simp [hc]))
  have hsz : (str l).size = l.length := str_size l
  have hcls := fun W => rclass_any (str l) (by rw [hsz]; omega) W
  rw [hbs, ← hext, hc] at hcls
  have hmin : min (k : Int) (S.size : Int) = (k : Int) := by omega
  have hk0 : (0 : Int) ≤ (k : Int) := by omega
  have hk1 : (k : Int) ≤ (S.size : Int) := by omega
  have H0 : Hid (Ok4 q S l n w) := h
  have HK : Hid (k = S.size - l.length) := hk
  have HX : Hid (S.extract k S.size = str l) := hext
  have HH : Hid (hdc l 40 = false) := h40
  have hsl : t.length ≤ l.length := (cls_suf hc).1.suf.length_le
  have HSU : Hid (t <:+ l) := (cls_suf hc).1.suf
  obtain ⟨m, hm⟩ : ∃ m, m = (S.extract k S.size).size - t.length := ⟨_, rfl⟩
  have hmv : m = l.length - t.length := by rw [hm, hext, hsz]
  obtain ⟨k', hk'⟩ : ∃ k', k' = S.size - t.length := ⟨_, rfl⟩
  have hz : (k : Int) + (m : Int) = (k' : Int) := by omega
  have hb1 : -1000000 ≤ (k : Int) + (m : Int) ∧ (k : Int) + (m : Int) ≤ 1000000 := by omega
  have HK2 : Hid (k' = S.size - t.length) := hk'
  have hcls2 : ∀ W, Calls Tryd.prog 100 #[.string (S.extract k S.size)] W fun e w' => e = .returned (.tuple #[.agg #[.int .u64 (limb p 0), .int .u64 (limb p 1), .int .u64 (limb p 2), .int .u64 (limb p 3)], .int .i64 ((m : Nat) : Int), .int .i64 0]) ∧ Hid (Qt W w') := fun W => by rw [hm]; exact hcls W
  clear hm hmv hk' hsl
  clear h hbs hsz hext h40 hcls
  go_enter Tryd.func88, Tryd.ntmps88
  go_wp2_with fail
  refine his.mono ?_
  rintro e1 w1 ⟨rfl, q1⟩
  have O1 := Ok4.mv h1 q1.out (fun h => h)
  obtain ⟨k0, k1, k2, k3, f1, f2, f3⟩ := B4.facts (show Hid _ from O1.out.at_)
  rw [← HK.out] at k1
  have C0 : Hid _ := k0
  have C1 : Hid _ := k1
  have DQ : Hid (Qt w1 w1.drew) := Mv.drewN _ w1 1
  clear hk h1 hl his
  go_wp2_with fail
  go_region_held3 (fun w' => w'.cell? ⟨q, 0, none⟩ = some (.string S) ∧ w'.cell? ⟨q, 1, none⟩ = some (.int .i64 k) ∧ Hid (Qt w1 w'))
    (first | (refine hold2x C0 C1 ?_; first | exact DQ | exact Qt.comp DQ.out q9.out | exact Qt.drew (Qt.alloc (Qt.refl w1) _) | exact Qt.comp (Qt.drew (Qt.alloc (Qt.refl w1) _)) q9.out | exact Qt.alloc (Qt.comp DQ.out q9.out) _ | exact Mv.trans (Qt.comp (Qt.drew (Qt.alloc (Qt.refl w1) _)) q9.out) (put4_mv w9 w1.heap.size _ _ _ _) (fun j hj e => by omega) | exact Mv.trans (Qt.alloc (Qt.comp DQ.out q9.out) _) (put4_mv (w9.alloc _) w9.heap.size _ _ _ _) (fun j hj e => by have := q9.out.size; simp at this; omega)))
    ((first | (go_at_call 100; refine (hcls2 _).mono ?_; rintro e9 w9 ⟨rfl, q9⟩; first | (obtain ⟨z0, z1, z2, z3, z4, z5, z6, z7⟩ := Zr.facts (Zr.mv (show Hid (Zr w1.heap.size ((w1.alloc zeros).drew)) from heap_alloc_new w1 zeros) q9.out (fun h => h))) | skip)))
  all_goals (rename_i hh; obtain ⟨_, _, QW⟩ := hh)
  all_goals (clear hcls2)
  · have BX : Hid (B25 w9.heap.size (.int .u64 (limb p 0)) (.int .u64 (limb p 1)) (.int .u64 (limb p 2)) (.int .u64 (limb p 3)) (w9.alloc (.cells #[.int .u64 (limb p 0), .int .u64 (limb p 1), .int .u64 (limb p 2), .int .u64 (limb p 3)] 25))) := heap_alloc_new w9 _
    have QW2 : Hid (Qt w1 (w9.alloc (.cells #[.int .u64 (limb p 0), .int .u64 (limb p 1), .int .u64 (limb p 2), .int .u64 (limb p 3)] 25))) := QW
    have HB : Hid (w1.heap.size ≤ w9.heap.size) := q9.out.size
    have OW := Ok4.mv O1 QW2.out (fun h => h)
    have HQ : Hid (q < w.heap.size) := Ok4.lt H0
    have HQ1 : Hid (w.heap.size < w1.heap.size) := by have := q1.out.size; simp at this; show _ < _; omega
    obtain ⟨s0, s1, s2, s3, g1, g2, g3⟩ := B4.facts (show Hid _ from OW.out.at_)
    rw [← HK.out] at s1
    have ZB := B6.mv (B6.mv (show B6 w.heap.size (.int .i64 0) (.int .u64 0) (.int .u64 0) (.int .u64 0) (.int .u64 0) (.slice none 0 0) (w.alloc zeros6) from heap_alloc_new w zeros6) q1.out (fun h => h)).out QW2.out (fun h => h)
    have MK := Mv.setCell (w9.alloc (.cells #[.int .u64 (limb p 0), .int .u64 (limb p 1), .int .u64 (limb p 2), .int .u64 (limb p 3)] 25)) ⟨q, 1, none⟩ (.int .i64 ((k' : Nat) : Int))
    obtain ⟨t0, t1, t2, t3⟩ := B25.facts (B25.mv BX.out MK (by have := HQ.out; have := HQ1.out; have := HB.out; simp; omega))
    have ZB2 := B6.mv ZB.out MK (by have := HQ.out; simp; omega)
    obtain ⟨z0, z1, z2, z3, z4, z5, f0', f1', f2', f3', f4', f5'⟩ := B6.facts ZB2
    go_wp2_with fail
    refine bodyPost_ret (results_cell_row (p := 2) (ty := 28) rfl _ _ w.heap.size 28 _ (0, 0) _ rfl (put6_heap ZB2.out _ _ _ _ _ _) Tryd.underlying28 rfl (by kernel_rfl)) rfl ?_
    exact ratom_good H0 q1 QW2 HSU.out HK2.out p
  · have BX : Hid (B25 w1.heap.size (.int .u64 (limb p 0)) (.int .u64 (limb p 1)) (.int .u64 (limb p 2)) (.int .u64 (limb p 3)) (put4 w9 w1.heap.size (.int .u64 (limb p 0)) (.int .u64 (limb p 1)) (.int .u64 (limb p 2)) (.int .u64 (limb p 3)))) := put4_heap ((Zr.mv (show Hid (Zr w1.heap.size ((w1.alloc zeros).drew)) from heap_alloc_new w1 zeros) q9.out (fun h => h)).out) _ _ _ _
    have QW2 : Hid (Qt w1 (put4 w9 w1.heap.size (.int .u64 (limb p 0)) (.int .u64 (limb p 1)) (.int .u64 (limb p 2)) (.int .u64 (limb p 3)))) := QW
    have HB : Hid (w1.heap.size ≤ w1.heap.size) := Nat.le_refl _
    have OW := Ok4.mv O1 QW2.out (fun h => h)
    have HQ : Hid (q < w.heap.size) := Ok4.lt H0
    have HQ1 : Hid (w.heap.size < w1.heap.size) := by have := q1.out.size; simp at this; show _ < _; omega
    obtain ⟨s0, s1, s2, s3, g1, g2, g3⟩ := B4.facts (show Hid _ from OW.out.at_)
    rw [← HK.out] at s1
    have ZB := B6.mv (B6.mv (show B6 w.heap.size (.int .i64 0) (.int .u64 0) (.int .u64 0) (.int .u64 0) (.int .u64 0) (.slice none 0 0) (w.alloc zeros6) from heap_alloc_new w zeros6) q1.out (fun h => h)).out QW2.out (fun h => h)
    have MK := Mv.setCell (put4 w9 w1.heap.size (.int .u64 (limb p 0)) (.int .u64 (limb p 1)) (.int .u64 (limb p 2)) (.int .u64 (limb p 3))) ⟨q, 1, none⟩ (.int .i64 ((k' : Nat) : Int))
    obtain ⟨t0, t1, t2, t3⟩ := B25.facts (B25.mv BX.out MK (by have := HQ.out; have := HQ1.out; have := HB.out; simp; omega))
    have ZB2 := B6.mv ZB.out MK (by have := HQ.out; simp; omega)
    obtain ⟨z0, z1, z2, z3, z4, z5, f0', f1', f2', f3', f4', f5'⟩ := B6.facts ZB2
    unfold put4 at s0 s1 s2 s3 g1 g2 g3 t0 t1 t2 t3 z0 z1 z2 z3 z4 z5 f0' f1' f2' f3' f4' f5'
    go_wp2_with fail
    refine bodyPost_ret (results_cell_row (p := 2) (ty := 28) rfl _ _ w.heap.size 28 _ (0, 0) _ rfl (put6_heap ZB2.out _ _ _ _ _ _) Tryd.underlying28 rfl (by kernel_rfl)) rfl ?_
    exact ratom_good H0 q1 QW2 HSU.out HK2.out p
  · have BX : Hid (B25 w1.heap.size (.int .u64 (limb p 0)) (.int .u64 (limb p 1)) (.int .u64 (limb p 2)) (.int .u64 (limb p 3)) (put4 w9 w1.heap.size (.int .u64 (limb p 0)) (.int .u64 (limb p 1)) (.int .u64 (limb p 2)) (.int .u64 (limb p 3)))) := put4_heap ((Zr.mv (show Hid (Zr w1.heap.size ((w1.alloc zeros).drew)) from heap_alloc_new w1 zeros) q9.out (fun h => h)).out) _ _ _ _
    have QW2 : Hid (Qt w1 (put4 w9 w1.heap.size (.int .u64 (limb p 0)) (.int .u64 (limb p 1)) (.int .u64 (limb p 2)) (.int .u64 (limb p 3)))) := QW
    have HB : Hid (w1.heap.size ≤ w1.heap.size) := Nat.le_refl _
    have OW := Ok4.mv O1 QW2.out (fun h => h)
    have HQ : Hid (q < w.heap.size) := Ok4.lt H0
    have HQ1 : Hid (w.heap.size < w1.heap.size) := by have := q1.out.size; simp at this; show _ < _; omega
    obtain ⟨s0, s1, s2, s3, g1, g2, g3⟩ := B4.facts (show Hid _ from OW.out.at_)
    rw [← HK.out] at s1
    have ZB := B6.mv (B6.mv (show B6 w.heap.size (.int .i64 0) (.int .u64 0) (.int .u64 0) (.int .u64 0) (.int .u64 0) (.slice none 0 0) (w.alloc zeros6) from heap_alloc_new w zeros6) q1.out (fun h => h)).out QW2.out (fun h => h)
    have MK := Mv.setCell (put4 w9 w1.heap.size (.int .u64 (limb p 0)) (.int .u64 (limb p 1)) (.int .u64 (limb p 2)) (.int .u64 (limb p 3))) ⟨q, 1, none⟩ (.int .i64 ((k' : Nat) : Int))
    obtain ⟨t0, t1, t2, t3⟩ := B25.facts (B25.mv BX.out MK (by have := HQ.out; have := HQ1.out; have := HB.out; simp; omega))
    have ZB2 := B6.mv ZB.out MK (by have := HQ.out; simp; omega)
    obtain ⟨z0, z1, z2, z3, z4, z5, f0', f1', f2', f3', f4', f5'⟩ := B6.facts ZB2
    unfold put4 at s0 s1 s2 s3 g1 g2 g3 t0 t1 t2 t3 z0 z1 z2 z3 z4 z5 f0' f1' f2' f3' f4' f5'
    go_wp2_with fail
    refine bodyPost_ret (results_cell_row (p := 2) (ty := 28) rfl _ _ w.heap.size 28 _ (0, 0) _ rfl (put6_heap ZB2.out _ _ _ _ _ _) Tryd.underlying28 rfl (by kernel_rfl)) rfl ?_
    exact ratom_good H0 q1 QW2 HSU.out HK2.out p

theorem ratom_class {q n : Nat} {S : ByteArray} {l : List Nat} {w : World} (h : Hid (Ok4 q S l n w)) (h40 : hdc l 40 = false) : Calls Tryd.prog 88 #[.pointer (some ⟨q, 0, none⟩)] w fun e w' => Rr4 q S n w (atomS (inn n) l) e w' := by
  have e : ∀ f, atomS f l = (match cls l with | none => .error 2 | some (p, u) => .ok (⟨1, p, []⟩, u)) := by
    intro f
    cases l with
    | nil => rfl
    | cons c t =>
      have hc : c ≠ 40 := by intro e; rw [e] at h40; exact absurd h40 (by simp [hdc])
      simp [atomS, hc]
      cases cls (c :: t) <;> rfl
  rw [e]
  cases hc : cls l with
  | none => exact ratom_none q S l n w h h40 hc
  | some r =>
    obtain ⟨p, t⟩ := r
    exact ratom_some q S l n w h h40 p t hc

end Go.Proofs.YtkclkhfcmjhogaaDoor

namespace Go.Proofs.YtkclkhfcmjhogaaDoor
open Go.RowKit
set_option linter.unusedVariables false

/-- Of no more parts than signs. -/
def Few (f : List Nat → Res) : Prop := ∀ l x t, f l = .ok (x, t) → x.args.length ≤ l.length
theorem few_atom {f : List Nat → Res} (hf : Few f) : Few (atomS f) := by
  intro l x t e
  unfold atomS at e
  split at e
  · cases e
  · split at e
    · split at e
      · cases e
      · cases e
      · rename_i x' d v hi
        split at e
        · cases e
          have := hf _ _ _ hi
          simp only [List.length_cons]
          omega
        · cases e
    · split at e
      · cases e
      · cases e
        exact Nat.zero_le _
theorem few_rep {f : List Nat → Res} (hf : Few f) (hg : Goes f) : Few (repS f) := by
  intro l x t e
  unfold repS at e
  split at e
  · cases e
  · rename_i y u ha
    have h1 := few_atom hf _ _ _ ha
    have h2 := (atomS_goes hg _ _ _ ha).len
    have e2 := Except.ok.inj e
    have e3 : x = (signS y u).1 := by rw [e2]
    rw [e3]
    unfold signS
    split
    · exact h1
    · split
      · show 1 ≤ _
        omega
      · exact h1
theorem few_catL {f : List Nat → Res} (hf : Few f) (hg : Goes f) (N : Nat) : ∀ (n : Nat) (acc xs : List RX) (l t : List Nat), catL f n acc l = .ok (xs, t) → (∀ y ∈ acc, y.args.length ≤ N) → acc.length + l.length ≤ N → (∀ y ∈ xs, y.args.length ≤ N) ∧ xs.length + t.length ≤ N
  | 0, acc, xs, l, t, e, h1, h2 => by cases e; exact ⟨h1, h2⟩
  | n + 1, acc, xs, l, t, e, h1, h2 => by
    unfold catL at e
    split at e
    · cases e; exact ⟨h1, h2⟩
    · split at e
      · cases e
      · rename_i y u hr
        have k1 := few_rep hf hg _ _ _ hr
        have k2 := (repS_goes hg _ _ _ hr).len
        refine few_catL hf hg N n _ _ _ _ e (fun z hz => ?_) (by simp; omega)
        rcases List.mem_append.1 hz with hz | hz
        · exact h1 z hz
        · rw [List.mem_singleton.1 hz]; omega
theorem few_one {N : Nat} {k : Int} {xs : List RX} (h1 : ∀ y ∈ xs, y.args.length ≤ N) (h2 : xs.length ≤ N) : (one k xs).args.length ≤ N := by
  unfold one
  split
  · exact h1 _ (by simp)
  · exact h2
theorem few_cat {f : List Nat → Res} (hf : Few f) (hg : Goes f) : Few (catS f) := by
  intro l x t e
  unfold catS at e
  split at e
  · cases e
  · rename_i y u hr
    obtain ⟨xs, hc, rfl⟩ := oneR_ok e
    have k1 := few_rep hf hg _ _ _ hr
    have k2 := (repS_goes hg _ _ _ hr).len
    have := few_catL hf hg l.length _ _ _ _ _ hc (fun z hz => by rw [List.mem_singleton.1 hz]; omega) (by simp; omega)
    exact few_one this.1 (by omega)
theorem few_altL {f : List Nat → Res} (hf : Few f) (hg : Goes f) (N : Nat) : ∀ (n : Nat) (acc xs : List RX) (l t : List Nat), altL f n acc l = .ok (xs, t) → (∀ y ∈ acc, y.args.length ≤ N) → acc.length + l.length ≤ N → (∀ y ∈ xs, y.args.length ≤ N) ∧ xs.length + t.length ≤ N
  | 0, acc, xs, l, t, e, h1, h2 => by cases e; exact ⟨h1, h2⟩
  | n + 1, acc, xs, [], t, e, h1, h2 => by cases e; exact ⟨h1, h2⟩
  | n + 1, acc, xs, c :: l, t, e, h1, h2 => by
    unfold altL at e
    split at e
    · split at e
      · cases e
      · rename_i y u hr
        have k1 := few_cat hf hg _ _ _ hr
        have k2 := (catS_goes hg _ _ _ hr).len
        simp only [List.length_cons] at h2
        refine few_altL hf hg N n _ _ _ _ e (fun z hz => ?_) (by simp; omega)
        rcases List.mem_append.1 hz with hz | hz
        · exact h1 z hz
        · rw [List.mem_singleton.1 hz]; omega
    · cases e; exact ⟨h1, h2⟩
theorem few_altS {f : List Nat → Res} (hf : Few f) (hg : Goes f) : Few (altS f) := by
  intro l x t e
  unfold altS at e
  split at e
  · cases e
  · rename_i y u hr
    obtain ⟨xs, hc, rfl⟩ := oneR_ok e
    have k1 := few_cat hf hg _ _ _ hr
    have k2 := (catS_goes hg _ _ _ hr).len
    have := few_altL hf hg l.length _ _ _ _ _ hc (fun z hz => by rw [List.mem_singleton.1 hz]; omega) (by simp; omega)
    exact few_one this.1 (by omega)
theorem few_alt : ∀ n, Few (altN n)
  | 0 => few_altS (fun _ _ _ h => by cases h) (fun _ _ _ h => by cases h)
  | n + 1 => few_altS (few_alt n) (altN_goes n)

def RAlt (m : Nat) : Prop := ∀ (q : Nat) (S : ByteArray) (l : List Nat) (w : World), Hid (Ok4 q S l m w) → Calls Tryd.prog 33 #[.pointer (some ⟨q, 0, none⟩)] w fun e w' => Rr4 q S m w (altN m l) e w'

set_option maxRecDepth 20000 in
set_option maxHeartbeats 4000000 in
theorem ropen_0 (q : Nat) (S : ByteArray) (t : List Nat) (w : World) (h : Hid (Ok4 q S (40 :: t) 0 w)) : Calls Tryd.prog 88 #[.pointer (some ⟨q, 0, none⟩)] w fun e w' => Rr4 q S 0 w ((.error 6 : Res)) e w' := by
  have h1 : Hid (Ok4 q S (40 :: t) 0 (w.alloc zeros6)) := Ok4.mv h (Mv.alloc (fun _ => False) w zeros6) (fun h => h)
  have his := ris_ok h1 40
  rw [show hdc (40 :: t) 40 = true from rfl] at his
  have H0 : Hid (Ok4 q S (40 :: t) 0 w) := h
  clear h
  go_enter Tryd.func88, Tryd.ntmps88
  go_wp2_with fail
  refine his.mono ?_
  rintro e1 w1 ⟨rfl, q1⟩
  have O1 := Ok4.mv h1 q1.out (fun h => h)
  obtain ⟨k0, k1, k2, k3, f1, f2, f3⟩ := B4.facts (show Hid _ from O1.out.at_)
  rw [show ((13 - 0 : Nat) : Int) = 13 from rfl] at k2
  clear h1 his
  go_wp2_with fail
  refine (rfail_ok q S _ _ 6 _ (show Hid _ from O1.out.at_)).mono ?_
  rintro e2 w2 ⟨rfl, hw2⟩
  have HW2 : Hid (w2 = w1.setCell ⟨q, 3, none⟩ (.int .i64 6)) := hw2
  have BE : Hid (B4 q S ((S.size - (40 :: t).length : Nat) : Int) ((13 - 0 : Nat) : Int) 6 w2) := by show B4 _ _ _ _ _ _; rw [hw2]; exact O1.out.at_.err 6
  have ME : Hid (Mv (fun j => j = q) w1 w2) := by show Mv _ _ _; rw [hw2]; exact (Mv.setCell _ ⟨q, 3, none⟩ _)
  have HQ : Hid (q < w.heap.size) := Ok4.lt H0
  have ZB := B6.mv (B6.mv (show B6 w.heap.size (.int .i64 0) (.int .u64 0) (.int .u64 0) (.int .u64 0) (.int .u64 0) (.slice none 0 0) (w.alloc zeros6) from heap_alloc_new w zeros6) q1.out (fun h => h)).out ME.out (by have := HQ.out; omega)
  obtain ⟨z0, z1, z2, z3, z4, z5, f0', f1', f2', f3', f4', f5'⟩ := B6.facts ZB
  clear hw2 k0 k1 k2 k3 f1 f2 f3
  go_wp2_with fail
  refine bodyPost_ret (results_cell_row (p := 2) (ty := 28) rfl _ _ w.heap.size 28 _ (0, 0) _ rfl (put6_heap ZB.out _ _ _ _ _ _) Tryd.underlying28 rfl (by kernel_rfl)) rfl ?_
  have hq := HQ.out
  have mp := put6_mv w2 w.heap.size (.int .i64 0) (.int .u64 0) (.int .u64 0) (.int .u64 0) (.int .u64 0) (.slice none 0 0)
  have m0 : Mv (fun j => j = q) w w1 := Mv.trans (Mv.alloc _ w zeros6) q1.out (fun _ _ h => h.elim)
  have m2 : Mv (fun j => j = q) w w2 := Mv.trans m0 ME.out (fun _ _ h => h)
  have hB := B4.mv BE.out mp (by omega)
  have hr := H0.out.room
  refine ⟨⟨0, fun _ => false, []⟩, none, 0, ?_, (parts_none _).mono (fun _ h => h.elim), Mv.trans m2 mp (fun j hj e => by omega), ⟨⟨_, _, hB.out, by omega, by omega⟩, by decide, hr⟩, by show 0 < 1000; decide⟩
  show _ = Ending.returned (.agg #[.int .i64 0, .int .u64 (limb (fun _ => false) 0), .int .u64 (limb (fun _ => false) 1), .int .u64 (limb (fun _ => false) 2), .int .u64 (limb (fun _ => false) 3), .slice none 0 0])
  rw [limb_none, limb_none, limb_none, limb_none]
  rfl

theorem ropen_bad {m q c : Nat} {S : ByteArray} {t : List Nat} {w w5 : World} {k5 d5 e5 : Int} {x : RX} {a : Option Addr} (H0 : Hid (Ok4 q S (40 :: t) (m + 1) w)) (M5 : Hid (Mv (fun j => j = q) w w5)) (BE : Hid (B4 q S k5 d5 e5 w5)) (hk : (0 ≤ k5 ∧ k5 ≤ 300 + m) ∧ (-(300 + (m : Int)) ≤ d5 ∧ d5 ≤ 300)) (hne : e5 ≠ 0) (P : Hid (Parts x.args (fun j => w.heap.size < j) w5 a c)) (hx : x.args.length < 1000) :
    Rr4 q S (m + 1) w (.error e5) (.returned (.agg #[.int .i64 x.kind, .int .u64 (limb x.set 0), .int .u64 (limb x.set 1), .int .u64 (limb x.set 2), .int .u64 (limb x.set 3), .slice a x.args.length c])) (put6 ((w5.setCell ⟨q, 1, none⟩ (.int .i64 (k5 + 1))).setCell ⟨q, 2, none⟩ (.int .i64 (d5 - 1))) w.heap.size (.int .i64 x.kind) (.int .u64 (limb x.set 0)) (.int .u64 (limb x.set 1)) (.int .u64 (limb x.set 2)) (.int .u64 (limb x.set 3)) (.slice a x.args.length c)) := by
  have hq := Ok4.lt H0
  have mp := put6_mv ((w5.setCell ⟨q, 1, none⟩ (.int .i64 (k5 + 1))).setCell ⟨q, 2, none⟩ (.int .i64 (d5 - 1))) w.heap.size (.int .i64 x.kind) (.int .u64 (limb x.set 0)) (.int .u64 (limb x.set 1)) (.int .u64 (limb x.set 2)) (.int .u64 (limb x.set 3)) (.slice a x.args.length c)
  have m1 : Mv (fun j => j = q) w5 ((w5.setCell ⟨q, 1, none⟩ (.int .i64 (k5 + 1))).setCell ⟨q, 2, none⟩ (.int .i64 (d5 - 1))) := Mv.trans (Mv.setCell w5 ⟨q, 1, none⟩ _) (Mv.setCell _ ⟨q, 2, none⟩ _) (fun _ _ h => h)
  have m3 := Mv.trans M5.out m1 (fun _ _ h => h)
  have hB := B4.mv ((BE.out.at (k5 + 1)).deep (d5 - 1)) mp (by omega)
  refine ⟨x, a, c, rfl, ((P.out.mv m1 (fun j hj e => by omega)).mv mp (fun j hj e => by omega)).mono (fun j hj => by omega), Mv.trans m3 mp (fun j hj e => by omega), ⟨⟨_, _, hB.out, by omega, by omega⟩, hne, H0.out.room⟩, hx⟩
theorem ropen_good {m q c : Nat} {S : ByteArray} {t v : List Nat} {w w5 : World} {k5 d5 : Nat} {x : RX} {a : Option Addr} (H0 : Hid (Ok4 q S (40 :: t) (m + 1) w)) (M5 : Hid (Mv (fun j => j = q) w w5)) (O5 : Hid (Ok4 q S (41 :: v) m w5)) (hk : k5 = S.size - (41 :: v).length) (hd : d5 = 13 - m) (P : Hid (Parts x.args (fun j => w.heap.size < j) w5 a c)) :
    Rr4 q S (m + 1) w (.ok (x, v)) (.returned (.agg #[.int .i64 x.kind, .int .u64 (limb x.set 0), .int .u64 (limb x.set 1), .int .u64 (limb x.set 2), .int .u64 (limb x.set 3), .slice a x.args.length c])) (put6 ((w5.setCell ⟨q, 1, none⟩ (.int .i64 ((k5 : Int) + 1))).setCell ⟨q, 2, none⟩ (.int .i64 ((d5 : Int) - 1))) w.heap.size (.int .i64 x.kind) (.int .u64 (limb x.set 0)) (.int .u64 (limb x.set 1)) (.int .u64 (limb x.set 2)) (.int .u64 (limb x.set 3)) (.slice a x.args.length c)) := by
  have hq := Ok4.lt H0
  have mp := put6_mv ((w5.setCell ⟨q, 1, none⟩ (.int .i64 ((k5 : Int) + 1))).setCell ⟨q, 2, none⟩ (.int .i64 ((d5 : Int) - 1))) w.heap.size (.int .i64 x.kind) (.int .u64 (limb x.set 0)) (.int .u64 (limb x.set 1)) (.int .u64 (limb x.set 2)) (.int .u64 (limb x.set 3)) (.slice a x.args.length c)
  have m1 : Mv (fun j => j = q) w5 ((w5.setCell ⟨q, 1, none⟩ (.int .i64 ((k5 : Int) + 1))).setCell ⟨q, 2, none⟩ (.int .i64 ((d5 : Int) - 1))) := Mv.trans (Mv.setCell w5 ⟨q, 1, none⟩ _) (Mv.setCell _ ⟨q, 2, none⟩ _) (fun _ _ h => h)
  have m3 := Mv.trans M5.out m1 (fun _ _ h => h)
  have hB := B4.mv ((O5.out.at_.at ((k5 : Int) + 1)).deep ((d5 : Int) - 1)) mp (by omega)
  have hle := O5.out.le
  have hdp := H0.out.deep
  simp only [List.length_cons] at hle hk
  refine ⟨x, a, c, rfl, ((P.out.mv m1 (fun j hj e => by omega)).mv mp (fun j hj e => by omega)).mono (fun j hj => by omega), Mv.trans m3 mp (fun j hj e => by omega), rfl, ?_, O5.out.sf.sfx (List.suffix_cons _ _), by omega, H0.out.room, hdp⟩
  rw [show ((S.size - v.length : Nat) : Int) = (k5 : Int) + 1 from by omega, show ((13 - (m + 1) : Nat) : Int) = (d5 : Int) - 1 from by omega]
  exact hB.out

set_option maxRecDepth 20000 in
set_option maxHeartbeats 4000000 in
theorem ropen_n (m : Nat) (hA : RAlt m) (q : Nat) (S : ByteArray) (t : List Nat) (w : World) (h : Hid (Ok4 q S (40 :: t) (m + 1) w)) : Calls Tryd.prog 88 #[.pointer (some ⟨q, 0, none⟩)] w fun e w' => Rr4 q S (m + 1) w (brS (altN m) t) e w' := by
  have h1 : Hid (Ok4 q S (40 :: t) (m + 1) (w.alloc zeros6)) := Ok4.mv h (Mv.alloc (fun _ => False) w zeros6) (fun h => h)
  have his := ris_ok h1 40
  rw [show hdc (40 :: t) 40 = true from rfl] at his
  have hl := h.out.le
  have hr := h.out.room
  have hd := h.out.deep
  have H0 : Hid (Ok4 q S (40 :: t) (m + 1) w) := h
  simp only [List.length_cons] at hl
  obtain ⟨k, hk⟩ : ∃ k, k = S.size - (40 :: t).length := ⟨_, rfl⟩
  obtain ⟨d, hdd⟩ : ∃ d, d = 13 - (m + 1) := ⟨_, rfl⟩
  have HK : Hid (k = S.size - (40 :: t).length) := hk
  have HD : Hid (d = 13 - (m + 1)) := hdd
  simp only [List.length_cons] at hk
  have hk2 : k + 1 = S.size - t.length := by omega
  have HK2 : Hid (k + 1 = S.size - t.length) := hk2
  have hd2 : d + 1 = 13 - m := by omega
  have HD2 : Hid (d + 1 = 13 - m) := hd2
  have hd3 : (d : Int) ≤ 12 := by omega
  have hd4 : ¬ (12 : Int) < (d : Int) := by omega
  have hd5 : decide ((12 : Int) < (d : Int)) = false := decide_eq_false hd4
  have hk3 : (k : Int) ≤ 120 := by omega
  clear h hdd hk hk2 hd2 hl hd hr
  go_enter Tryd.func88, Tryd.ntmps88
  go_wp2_with fail
  refine his.mono ?_
  rintro e1 w1 ⟨rfl, q1⟩
  have O1 := Ok4.mv h1 q1.out (fun h => h)
  obtain ⟨k0, k1, k2, k3, f1, f2, f3⟩ := B4.facts (show Hid _ from O1.out.at_)
  rw [← HK.out] at k1
  rw [← HD.out] at k2
  clear h1 his
  have O2 : Hid (Ok4 q S t m ((w1.setCell ⟨q, 2, none⟩ (.int .i64 ((d : Int) + 1))).setCell ⟨q, 1, none⟩ (.int .i64 ((k : Int) + 1)))) := by
    refine ⟨?_, O1.out.sf.sfx (List.suffix_cons _ _), by have := O1.out.le; simp at this; omega, O1.out.room, by have := O1.out.deep; omega⟩
    have := (O1.out.at_.deep ((d : Int) + 1)).at ((k : Int) + 1)
    rw [← HK2.out, ← HD2.out]
    exact this
  have hA2 := hA q S t _ O2
  clear hA
  go_wp2_with fail
  refine hA2.mono ?_
  rintro e2 w2 ⟨x, a, c, rfl, P2, M2, hR⟩
  have HQ : Hid (q < w.heap.size) := Ok4.lt H0
  have HQ1 : Hid (w.heap.size < w1.heap.size) := by have := q1.out.size; simp at this; show _ < _; omega
  have HQ2 : Hid (w1.heap.size ≤ w2.heap.size) := by have := M2.out.size; simp [World.setCell] at this; show _ ≤ _; omega
  have MA : Hid (Mv (fun j => j = q) w w2) := Mv.trans (Mv.trans (show Mv (fun j => j = q) w w1 from Mv.trans (Mv.alloc _ w zeros6) q1.out (fun _ _ h => h.elim)) (Mv.trans (Mv.setCell w1 ⟨q, 2, none⟩ _) (Mv.setCell _ ⟨q, 1, none⟩ _) (fun _ _ h => h)) (fun _ _ h => h)) M2.out (fun _ _ h => h)
  have MB : Hid (Mv (fun j => j = q) w (w2.alloc (.cells #[.int .i64 x.kind, .int .u64 (limb x.set 0), .int .u64 (limb x.set 1), .int .u64 (limb x.set 2), .int .u64 (limb x.set 3), .slice a x.args.length c] 28))) := Mv.trans MA.out (Mv.alloc (fun _ => False) w2 _) (fun _ _ h => h.elim)
  have PX : Hid (Parts x.args (fun j => w.heap.size < j) (w2.alloc (.cells #[.int .i64 x.kind, .int .u64 (limb x.set 0), .int .u64 (limb x.set 1), .int .u64 (limb x.set 2), .int .u64 (limb x.set 3), .slice a x.args.length c] 28)) a c) := (P2.out.mv (Mv.alloc (fun _ => False) w2 _) (fun _ _ h => h)).mono (fun j hj => by have := HQ1.out; simp [World.setCell] at hj; omega)
  have XB : Hid (B6 w2.heap.size (.int .i64 x.kind) (.int .u64 (limb x.set 0)) (.int .u64 (limb x.set 1)) (.int .u64 (limb x.set 2)) (.int .u64 (limb x.set 3)) (.slice a x.args.length c) (w2.alloc (.cells #[.int .i64 x.kind, .int .u64 (limb x.set 0), .int .u64 (limb x.set 1), .int .u64 (limb x.set 2), .int .u64 (limb x.set 3), .slice a x.args.length c] 28))) := heap_alloc_new w2 _
  have ZB : Hid (B6 w.heap.size (.int .i64 0) (.int .u64 0) (.int .u64 0) (.int .u64 0) (.int .u64 0) (.slice none 0 0) (w2.alloc (.cells #[.int .i64 x.kind, .int .u64 (limb x.set 0), .int .u64 (limb x.set 1), .int .u64 (limb x.set 2), .int .u64 (limb x.set 3), .slice a x.args.length c] 28))) := B6.mv (B6.mv (B6.mv (B6.mv (show B6 w.heap.size (.int .i64 0) (.int .u64 0) (.int .u64 0) (.int .u64 0) (.int .u64 0) (.slice none 0 0) (w.alloc zeros6) from heap_alloc_new w zeros6) q1.out (fun h => h)).out (Mv.trans (Mv.setCell w1 ⟨q, 2, none⟩ _) (Mv.setCell _ ⟨q, 1, none⟩ _) (fun _ _ h => h)) (by have := HQ.out; simp; omega)).out M2.out (by have := HQ.out; omega)).out (Mv.alloc (fun _ => False) w2 _) (fun h => h)
  clear O1 O2 k0 k1 k2 k3 f1 f2 f3 hA2
  have HRO : Hid _ := hR
  clear hR
  obtain ⟨r, hr⟩ : ∃ r, r = altN m t := ⟨_, rfl⟩
  rw [← hr] at HRO
  have HR0 : Hid (altN m t = r) := hr.symm
  clear hr
  cases r with
  | error er =>
    obtain ⟨hE, hx⟩ := HRO.out
    have HX : Hid (x.args.length < 1000) := hx
    have E2 : Hid (Er4 q S er m (w2.alloc (.cells #[.int .i64 x.kind, .int .u64 (limb x.set 0), .int .u64 (limb x.set 1), .int .u64 (limb x.set 2), .int .u64 (limb x.set 3), .slice a x.args.length c] 28))) := Er4.mv hE (Mv.alloc (fun _ => False) w2 _) (fun h => h)
    have hk := ris_er E2 41
    have HB : Hid (brS (altN m) t = .error er) := brS_error HR0.out
    clear HRO hE hx
    go_wp2_with fail
    refine hk.mono ?_
    rintro e3 w3 ⟨⟨b, rfl⟩, q3⟩
    have E3 := Er4.mv E2 q3.out (fun h => h)
    have ZB3 := B6.mv ZB.out q3.out (fun h => h)
    have XB3 := B6.mv XB.out q3.out (fun h => h)
    have PX3 : Hid (Parts x.args (fun j => w.heap.size < j) w3 a c) := PX.out.mv q3.out (fun _ _ h => h)
    have M3 : Hid (Mv (fun j => j = q) w w3) := Mv.trans MB.out q3.out (fun _ _ h => h.elim)
    have hne := E3.out.ne
    obtain ⟨k5, d5, hB5, hk5, hd5b⟩ := E3.out.at_
    have B5 : Hid (B4 q S k5 d5 er w3) := hB5
    have hm : m ≤ 13 := by have := H0.out.deep; omega
    have hkk : (0 ≤ k5 ∧ k5 ≤ 300 + m) ∧ (-(300 + (m : Int)) ≤ d5 ∧ d5 ≤ 300) := ⟨hk5, hd5b⟩
    have hk6 : 0 ≤ k5 ∧ k5 ≤ 400 := by omega
    have hd6 : -400 ≤ d5 ∧ d5 ≤ 400 := by omega
    have HKK : Hid _ := hkk
    obtain ⟨k0, k1, k2, k3, f1, f2, f3⟩ := B4.facts B5
    have ZB4 : Hid _ := B6.mv ZB3.out (Mv.trans (Mv.setCell w3 ⟨q, 1, none⟩ (.int .i64 (k5 + 1))) (Mv.setCell _ ⟨q, 2, none⟩ (.int .i64 (d5 - 1))) (fun _ _ h => h)) (by have := HQ.out; simp; omega)
    have XB4 : Hid _ := B6.mv XB3.out (Mv.trans (Mv.setCell w3 ⟨q, 1, none⟩ (.int .i64 (k5 + 1))) (Mv.setCell _ ⟨q, 2, none⟩ (.int .i64 (d5 - 1))) (fun _ _ h => h)) (by have := HQ.out; have := HQ1.out; have := HQ2.out; simp; omega)
    obtain ⟨x0, x1, x2, x3, x4, x5, _, _, _, _, _, _⟩ := B6.facts XB4
    obtain ⟨z0, z1, z2, z3, z4, z5, f0', f1', f2', f3', f4', f5'⟩ := B6.facts ZB4
    clear hk hB5 hk5 hd5b hm hkk
    cases b with
    | true =>
      go_wp2_with fail
      refine bodyPost_ret (results_cell_row (p := 2) (ty := 28) rfl _ _ w.heap.size 28 _ (0, 0) _ rfl (put6_heap ZB4.out _ _ _ _ _ _) Tryd.underlying28 rfl (by kernel_rfl)) rfl ?_
      rw [HB.out]
      exact ropen_bad H0 M3 B5 HKK.out hne PX3 HX.out
    | false =>
      go_wp2_with fail
      refine (rfail_er q S _ _ er 2 _ B5 hne).mono ?_
      rintro e4 w4 ⟨rfl, hw4⟩
      obtain rfl := hw4.symm
      go_wp2_with fail
      refine bodyPost_ret (results_cell_row (p := 2) (ty := 28) rfl _ _ w.heap.size 28 _ (0, 0) _ rfl (put6_heap ZB4.out _ _ _ _ _ _) Tryd.underlying28 rfl (by kernel_rfl)) rfl ?_
      rw [HB.out]
      exact ropen_bad H0 M3 B5 HKK.out hne PX3 HX.out
  | ok r =>
    obtain ⟨y, u⟩ := r
    obtain ⟨hxy, hO⟩ := HRO.out
    have HXY : Hid (x = y) := hxy
    have OA : Hid (Ok4 q S u m (w2.alloc (.cells #[.int .i64 x.kind, .int .u64 (limb x.set 0), .int .u64 (limb x.set 1), .int .u64 (limb x.set 2), .int .u64 (limb x.set 3), .slice a x.args.length c] 28))) := Ok4.mv hO (Mv.alloc (fun _ => False) w2 _) (fun h => h)
    have hk := ris_ok OA 41
    clear HRO hO hxy
    go_wp2_with fail
    refine hk.mono ?_
    rintro e3 w3 ⟨rfl, q3⟩
    have O3 := Ok4.mv OA q3.out (fun h => h)
    have ZB3 := B6.mv ZB.out q3.out (fun h => h)
    have XB3 := B6.mv XB.out q3.out (fun h => h)
    have PX3 : Hid (Parts x.args (fun j => w.heap.size < j) w3 a c) := PX.out.mv q3.out (fun _ _ h => h)
    have M3 : Hid (Mv (fun j => j = q) w w3) := Mv.trans MB.out q3.out (fun _ _ h => h.elim)
    obtain ⟨k5, hk5⟩ : ∃ k, k = S.size - u.length := ⟨_, rfl⟩
    obtain ⟨d5, hd5'⟩ : ∃ d, d = 13 - m := ⟨_, rfl⟩
    have hk6 : k5 ≤ 120 := by have := O3.out.room; omega
    have hd6 : d5 ≤ 13 := by omega
    have HK5 : Hid (k5 = S.size - u.length) := hk5
    have HD5 : Hid (d5 = 13 - m) := hd5'
    clear hk hk5 hd5'
    cases hh : hdc u 41 with
    | true =>
      obtain ⟨v, rfl⟩ : ∃ v, u = 41 :: v := by
        cases u with
        | nil => cases hh
        | cons d v =>
          have hd : d = 41 := by simpa [hdc] using hh
          exact ⟨v, by rw [hd]⟩
      have HB : Hid (brS (altN m) t = .ok (x, v)) := by rw [HXY.out]; exact brS_ok HR0.out
      clear hh
      obtain ⟨k0, k1, k2, k3, f1, f2, f3⟩ := B4.facts (show Hid _ from O3.out.at_)
      rw [← HK5.out] at k1
      rw [← HD5.out] at k2
      have ZB4 : Hid _ := B6.mv ZB3.out (Mv.trans (Mv.setCell w3 ⟨q, 1, none⟩ (.int .i64 ((k5 : Int) + 1))) (Mv.setCell _ ⟨q, 2, none⟩ (.int .i64 ((d5 : Int) - 1))) (fun _ _ h => h)) (by have := HQ.out; simp; omega)
      have XB4 : Hid _ := B6.mv XB3.out (Mv.trans (Mv.setCell w3 ⟨q, 1, none⟩ (.int .i64 ((k5 : Int) + 1))) (Mv.setCell _ ⟨q, 2, none⟩ (.int .i64 ((d5 : Int) - 1))) (fun _ _ h => h)) (by have := HQ.out; have := HQ1.out; have := HQ2.out; simp; omega)
      obtain ⟨x0, x1, x2, x3, x4, x5, _, _, _, _, _, _⟩ := B6.facts XB4
      obtain ⟨z0, z1, z2, z3, z4, z5, f0', f1', f2', f3', f4', f5'⟩ := B6.facts ZB4
      go_wp2_with fail
      refine bodyPost_ret (results_cell_row (p := 2) (ty := 28) rfl _ _ w.heap.size 28 _ (0, 0) _ rfl (put6_heap ZB4.out _ _ _ _ _ _) Tryd.underlying28 rfl (by kernel_rfl)) rfl ?_
      rw [HB.out]
      exact ropen_good H0 M3 O3 HK5.out HD5.out PX3
    | false =>
      have HB : Hid (brS (altN m) t = .error 2) := by
        show brS (altN m) t = .error 2
        unfold brS
        rw [HR0.out]
        cases u with
        | nil => rfl
        | cons d v =>
          have hd : ¬ d = 41 := by simpa [hdc] using hh
          simp [hd]
      have HX : Hid (x.args.length < 1000) := by
        show x.args.length < 1000
        have hl := few_alt m t x u (by rw [HXY.out]; exact HR0.out)
        have := H0.out.le
        have := H0.out.room
        simp only [List.length_cons] at *
        omega
      clear hh
      go_wp2_with fail
      refine (rfail_ok q S _ _ 2 _ (show Hid _ from O3.out.at_)).mono ?_
      rintro e4 w4 ⟨rfl, hw4⟩
      have B5 : Hid (B4 q S (k5 : Int) (d5 : Int) 2 w4) := by show B4 _ _ _ _ _ _; rw [hw4, HK5.out, HD5.out]; exact O3.out.at_.err 2
      have ME : Hid (Mv (fun j => j = q) w3 w4) := by show Mv _ _ _; rw [hw4]; exact (Mv.setCell _ ⟨q, 3, none⟩ _)
      clear hw4
      obtain ⟨k0, k1, k2, k3, f1, f2, f3⟩ := B4.facts B5
      have ZB5 : Hid _ := B6.mv ZB3.out ME.out (by have := HQ.out; omega)
      have XB5 : Hid _ := B6.mv XB3.out ME.out (by have := HQ.out; have := HQ1.out; have := HQ2.out; omega)
      have PX5 : Hid (Parts x.args (fun j => w.heap.size < j) w4 a c) := PX3.out.mv ME.out (fun j hj e => by have := HQ.out; omega)
      have M5 : Hid (Mv (fun j => j = q) w w4) := Mv.trans M3.out ME.out (fun _ _ h => h)
      have ZB4 : Hid _ := B6.mv ZB5.out (Mv.trans (Mv.setCell w4 ⟨q, 1, none⟩ (.int .i64 ((k5 : Int) + 1))) (Mv.setCell _ ⟨q, 2, none⟩ (.int .i64 ((d5 : Int) - 1))) (fun _ _ h => h)) (by have := HQ.out; simp; omega)
      have XB4 : Hid _ := B6.mv XB5.out (Mv.trans (Mv.setCell w4 ⟨q, 1, none⟩ (.int .i64 ((k5 : Int) + 1))) (Mv.setCell _ ⟨q, 2, none⟩ (.int .i64 ((d5 : Int) - 1))) (fun _ _ h => h)) (by have := HQ.out; have := HQ1.out; have := HQ2.out; simp; omega)
      obtain ⟨x0, x1, x2, x3, x4, x5, _, _, _, _, _, _⟩ := B6.facts XB4
      obtain ⟨z0, z1, z2, z3, z4, z5, f0', f1', f2', f3', f4', f5'⟩ := B6.facts ZB4
      go_wp2_with fail
      refine bodyPost_ret (results_cell_row (p := 2) (ty := 28) rfl _ _ w.heap.size 28 _ (0, 0) _ rfl (put6_heap ZB4.out _ _ _ _ _ _) Tryd.underlying28 rfl (by kernel_rfl)) rfl ?_
      rw [HB.out]
      exact ropen_bad H0 M5 B5 (by omega) (by decide) PX5 HX.out

theorem ratom_any (n : Nat) (hA : ∀ m, n = m + 1 → RAlt m) {q : Nat} {S : ByteArray} {l : List Nat} {w : World} (h : Hid (Ok4 q S l n w)) : Calls Tryd.prog 88 #[.pointer (some ⟨q, 0, none⟩)] w fun e w' => Rr4 q S n w (atomS (inn n) l) e w' := by
  cases hh : hdc l 40 with
  | false => exact ratom_class h hh
  | true =>
    obtain ⟨t, rfl⟩ : ∃ t, l = 40 :: t := by
      cases l with
      | nil => cases hh
      | cons d v =>
        have hd : d = 40 := by simpa [hdc] using hh
        exact ⟨v, by rw [hd]⟩
    rw [atomS_br]
    cases n with
    | zero =>
      rw [show brS (inn 0) t = .error 6 from brS_error rfl]
      exact ropen_0 q S t w h
    | succ m => exact ropen_n m (hA m rfl) q S t w h

end Go.Proofs.YtkclkhfcmjhogaaDoor
