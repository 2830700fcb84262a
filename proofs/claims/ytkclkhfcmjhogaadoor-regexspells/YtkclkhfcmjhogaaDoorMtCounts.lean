/- RegexCounts. -/
import Derived.Test.YtkclkhfcmjhogaaDoorMgF
import Derived.Test.YtkclkhfcmjhogaaDoorMgR
import Derived.Test.YtkclkhfcmjhogaaDoorMgG1
namespace Go.Proofs.YtkclkhfcmjhogaaDoor
open Go.RowKit
set_option linter.unusedVariables false

theorem Fw.start (w : World) (c N : Nat) (hN : N < 100000) : (Instr.makeSlice 37 (.int .i64 N) (.int .i64 N)).run Tryd.prog w = .ok (.slice (some ⟨w.heap.size, 0, none⟩) N N) (w.alloc (.cells (madeCells #[.int .u8 0] N) 5)) ∧ Hid (Fw w (w.alloc (.cells (madeCells #[.int .u8 0] N) 5)) w.heap.size N c 0) := by
  obtain ⟨h1, h2⟩ := made 37 5 Tryd.t5 (.int .u8 0) 1 Tryd.underlying37 info5 zero5 size5 bytes5 rfl (by decide) N hN w w.heap.size (Nat.le_refl _)
  exact ⟨h1, h2.congr (fun i _ => by simp [Pf]), Mv.alloc _ _ _⟩
theorem Fw.cell {w wr : World} {g N c i : Nat} (h : Fw w wr g N c i) {j : Nat} (hj : j < N) : wr.cell? ⟨g, j, none⟩ = some (Pf c i j) ∧ wr.frozen? ⟨g, j, none⟩ = false := h.own.at hj
theorem row_setb (V : Nat → Value) (n j : Nat) (u : Value) : (row V n).set j u = row (fun i => if i = j then u else V i) n := by
  apply List.ext_getElem
  · simp [row_length]
  · intro i h1 h2
    rw [List.getElem_set, row_get, row_get]
    by_cases h : j = i
    · rw [if_pos h, if_pos h.symm]
    · rw [if_neg h, if_neg (fun e => h e.symm)]
theorem Fw.put {w wr : World} {g N c i : Nat} (h : Fw w wr g N c i) : Fw w (wr.setCell ⟨g, i, none⟩ (.int .u8 (c : Int))) g N c (i + 1) := by
  have hb := (h.own.blk g rfl).1
  refine ⟨?_, Mv.trans h.qt (Mv.setCell wr ⟨g, i, none⟩ _) (fun j hj e => by simp at e; omega)⟩
  have h1 := (World.ownsRow.stored h.own i (.int .u8 (c : Int))).1
  rw [row_setb] at h1
  refine Own.congr h1 (fun r hr => ?_)
  unfold Pf
  by_cases e : r = i
  · rw [if_pos e, if_pos (by omega)]
  · rw [if_neg e]
    by_cases h2 : r < i
    · rw [if_pos h2, if_pos (by omega)]
    · rw [if_neg h2, if_neg (by omega)]
theorem Fw.done {w wr : World} {g N c : Nat} (h : Fw w wr g N c N) : Own wr w.heap.size 5 (.slice (some ⟨g, 0, none⟩) N N) N (Bn (fun _ => c)) :=
  Own.congr h.own (fun r hr => by unfold Pf; rw [if_pos hr]; rfl)

/-- What is asked of the trees: one byte's set; a sign. -/
structure Sx1 (c : Nat) (a : Option Addr) (W : World) : Prop where
  parts : Parts [oneX c] (fun j => j < W.heap.size) W a 1
  tab : Tab W
theorem Sx1.qt {c : Nat} {a : Option Addr} {W W' : World} (h : Sx1 c a W) (q : Qt W W') : Sx1 c a W' :=
  ⟨(h.parts.mv q (fun _ _ h => h)).mono (fun j hj => Nat.lt_of_lt_of_le hj q.size), h.tab.qt q⟩
theorem sg_new (c : Nat) {w : World} (hT : Tab w) : Hid (Sx1 c (some ⟨w.heap.size, 0, none⟩) (w.alloc (.cells #[.int .i64 1, .int .u64 (limb (btw c c) 0), .int .u64 (limb (btw c c) 1), .int .u64 (limb (btw c c) 2), .int .u64 (limb (btw c c) 3), .slice none 0 0] 28))) := by
  refine ⟨Parts.mono (fun j h => ?_) (parts_new1 (x := oneX c) (parts_none w)), hT.qt (Mv.alloc _ _ _)⟩
  rcases h with h | h
  · exact h.elim
  · rw [h]; simp
theorem in_sign {c : Nat} (hc : c < 256) (k : Int) (hk : k = 4 ∨ k = 5 ∨ k = 6) (bt : Nat → Nat) (n : Nat) (hb : ∀ i, i < n → bt i < 256) (a wa : Option Addr) (wc : Nat) (W : World) (h : Sx1 c a W) (hw : Sl W wa n (Bn bt)) :
    Calls Tryd.prog 26 #[.agg #[.int .i64 k, .int .u64 0, .int .u64 0, .int .u64 0, .int .u64 0, .slice a 1 1], .slice wa n wc] W fun e w' => e = .returned (.bool (inX bt n ⟨k, fun _ => false, [oneX c]⟩)) ∧ Hid (Qt W w') := by
  have h1 := in_any bt n hb ⟨k, fun _ => false, [oneX c]⟩ _ a wa 1 wc W (fun j hj => hj) h.parts (sign_tall c k).1 hw h.tab
  rw [limb_none, limb_none, limb_none, limb_none] at h1
  exact h1
theorem in_one {c : Nat} (hc : c < 256) (bt : Nat → Nat) (n : Nat) (hb : ∀ i, i < n → bt i < 256) (wa : Option Addr) (wc : Nat) (W : World) (hT : Tab W) (hw : Sl W wa n (Bn bt)) :
    Calls Tryd.prog 26 #[.agg #[.int .i64 1, .int .u64 (limb (btw c c) 0), .int .u64 (limb (btw c c) 1), .int .u64 (limb (btw c c) 2), .int .u64 (limb (btw c c) 3), .slice none 0 0], .slice wa n wc] W fun e w' => e = .returned (.bool (inX bt n (oneX c))) ∧ Hid (Qt W w') :=
  in_any bt n hb (oneX c) (fun _ => False) none wa 0 wc W (fun j hj => hj.elim) (parts_none W) (sign_tall c 1).2 hw hT

/-- What lies behind the three signs. -/
structure Ld (c : Nat) (wr V : World) : Prop where
  b9 : (B6 (wr.heap.size + 1) (.int .i64 4) (.int .u64 0) (.int .u64 0) (.int .u64 0) (.int .u64 0) (.slice (some ⟨wr.heap.size, 0, none⟩) 1 1) V)
  b10 : (B6 (wr.heap.size + 1 + 1 + 1) (.int .i64 5) (.int .u64 0) (.int .u64 0) (.int .u64 0) (.int .u64 0) (.slice (some ⟨wr.heap.size + 1 + 1, 0, none⟩) 1 1) V)
  b11 : (B6 (wr.heap.size + 1 + 1 + 1 + 1 + 1) (.int .i64 6) (.int .u64 0) (.int .u64 0) (.int .u64 0) (.int .u64 0) (.slice (some ⟨wr.heap.size + 1 + 1 + 1 + 1, 0, none⟩) 1 1) V)
  s9 : Sx1 c (some ⟨wr.heap.size, 0, none⟩) V
  s10 : Sx1 c (some ⟨wr.heap.size + 1 + 1, 0, none⟩) V
  s11 : Sx1 c (some ⟨wr.heap.size + 1 + 1 + 1 + 1, 0, none⟩) V
theorem laid3 (c : Nat) (wr V1 V2 V3 : World) (h1 : V1 = (wr.alloc (.cells #[.int .i64 1, .int .u64 (limb (btw c c) 0), .int .u64 (limb (btw c c) 1), .int .u64 (limb (btw c c) 2), .int .u64 (limb (btw c c) 3), .slice none 0 0] 28)).alloc (.cells #[.int .i64 4, .int .u64 0, .int .u64 0, .int .u64 0, .int .u64 0, .slice (some ⟨wr.heap.size, 0, none⟩) 1 1] 28)) (h2 : V2 = (V1.alloc (.cells #[.int .i64 1, .int .u64 (limb (btw c c) 0), .int .u64 (limb (btw c c) 1), .int .u64 (limb (btw c c) 2), .int .u64 (limb (btw c c) 3), .slice none 0 0] 28)).alloc (.cells #[.int .i64 5, .int .u64 0, .int .u64 0, .int .u64 0, .int .u64 0, .slice (some ⟨wr.heap.size + 1 + 1, 0, none⟩) 1 1] 28)) (h3 : V3 = (V2.alloc (.cells #[.int .i64 1, .int .u64 (limb (btw c c) 0), .int .u64 (limb (btw c c) 1), .int .u64 (limb (btw c c) 2), .int .u64 (limb (btw c c) 3), .slice none 0 0] 28)).alloc (.cells #[.int .i64 6, .int .u64 0, .int .u64 0, .int .u64 0, .int .u64 0, .slice (some ⟨wr.heap.size + 1 + 1 + 1 + 1, 0, none⟩) 1 1] 28)) (hT : Tab wr) : Hid (Ld c wr V3) := by
  have q1 : Qt wr V1 := by rw [h1]; exact ((Qt.refl wr).alloc _).alloc _
  have q2 : Qt V1 V2 := by rw [h2]; exact ((Qt.refl V1).alloc _).alloc _
  have q3 : Qt V2 V3 := by rw [h3]; exact ((Qt.refl V2).alloc _).alloc _
  have e1 : V1.heap.size = wr.heap.size + 1 + 1 := by rw [h1]; simp
  have e2 : V2.heap.size = wr.heap.size + 1 + 1 + 1 + 1 := by rw [h2]; simp [e1]
  have b9 : (B6 (wr.heap.size + 1) (.int .i64 4) (.int .u64 0) (.int .u64 0) (.int .u64 0) (.int .u64 0) (.slice (some ⟨wr.heap.size, 0, none⟩) 1 1) V1) := by
    have h := heap_alloc_new (wr.alloc (.cells #[.int .i64 1, .int .u64 (limb (btw c c) 0), .int .u64 (limb (btw c c) 1), .int .u64 (limb (btw c c) 2), .int .u64 (limb (btw c c) 3), .slice none 0 0] 28)) (.cells #[.int .i64 4, .int .u64 0, .int .u64 0, .int .u64 0, .int .u64 0, .slice (some ⟨wr.heap.size, 0, none⟩) 1 1] 28)
    rw [show (wr.alloc (.cells #[.int .i64 1, .int .u64 (limb (btw c c) 0), .int .u64 (limb (btw c c) 1), .int .u64 (limb (btw c c) 2), .int .u64 (limb (btw c c) 3), .slice none 0 0] 28)).heap.size = wr.heap.size + 1 from by simp, ← h1] at h
    exact h
  have b10 : (B6 (wr.heap.size + 1 + 1 + 1) (.int .i64 5) (.int .u64 0) (.int .u64 0) (.int .u64 0) (.int .u64 0) (.slice (some ⟨wr.heap.size + 1 + 1, 0, none⟩) 1 1) V2) := by
    have h := heap_alloc_new (V1.alloc (.cells #[.int .i64 1, .int .u64 (limb (btw c c) 0), .int .u64 (limb (btw c c) 1), .int .u64 (limb (btw c c) 2), .int .u64 (limb (btw c c) 3), .slice none 0 0] 28)) (.cells #[.int .i64 5, .int .u64 0, .int .u64 0, .int .u64 0, .int .u64 0, .slice (some ⟨wr.heap.size + 1 + 1, 0, none⟩) 1 1] 28)
    rw [show (V1.alloc (.cells #[.int .i64 1, .int .u64 (limb (btw c c) 0), .int .u64 (limb (btw c c) 1), .int .u64 (limb (btw c c) 2), .int .u64 (limb (btw c c) 3), .slice none 0 0] 28)).heap.size = wr.heap.size + 1 + 1 + 1 from by simp [e1], ← h2] at h
    exact h
  have b11 : (B6 (wr.heap.size + 1 + 1 + 1 + 1 + 1) (.int .i64 6) (.int .u64 0) (.int .u64 0) (.int .u64 0) (.int .u64 0) (.slice (some ⟨wr.heap.size + 1 + 1 + 1 + 1, 0, none⟩) 1 1) V3) := by
    have h := heap_alloc_new (V2.alloc (.cells #[.int .i64 1, .int .u64 (limb (btw c c) 0), .int .u64 (limb (btw c c) 1), .int .u64 (limb (btw c c) 2), .int .u64 (limb (btw c c) 3), .slice none 0 0] 28)) (.cells #[.int .i64 6, .int .u64 0, .int .u64 0, .int .u64 0, .int .u64 0, .slice (some ⟨wr.heap.size + 1 + 1 + 1 + 1, 0, none⟩) 1 1] 28)
    rw [show (V2.alloc (.cells #[.int .i64 1, .int .u64 (limb (btw c c) 0), .int .u64 (limb (btw c c) 1), .int .u64 (limb (btw c c) 2), .int .u64 (limb (btw c c) 3), .slice none 0 0] 28)).heap.size = wr.heap.size + 1 + 1 + 1 + 1 + 1 from by simp [e2], ← h3] at h
    exact h
  have s9 := (sg_new c hT).out
  have s10 := (sg_new c (w := V1) (hT.qt q1)).out
  have s11 := (sg_new c (w := V2) (hT.qt (q1.comp q2))).out
  rw [e1] at s10
  rw [e2] at s11
  have r1 : Qt (wr.alloc (.cells #[.int .i64 1, .int .u64 (limb (btw c c) 0), .int .u64 (limb (btw c c) 1), .int .u64 (limb (btw c c) 2), .int .u64 (limb (btw c c) 3), .slice none 0 0] 28)) V1 := by rw [h1]; exact (Qt.refl _).alloc _
  have r2 : Qt (V1.alloc (.cells #[.int .i64 1, .int .u64 (limb (btw c c) 0), .int .u64 (limb (btw c c) 1), .int .u64 (limb (btw c c) 2), .int .u64 (limb (btw c c) 3), .slice none 0 0] 28)) V2 := by rw [h2]; exact (Qt.refl _).alloc _
  have r3 : Qt (V2.alloc (.cells #[.int .i64 1, .int .u64 (limb (btw c c) 0), .int .u64 (limb (btw c c) 1), .int .u64 (limb (btw c c) 2), .int .u64 (limb (btw c c) 3), .slice none 0 0] 28)) V3 := by rw [h3]; exact (Qt.refl _).alloc _
  exact ⟨B6.mv b9 (q2.comp q3) (fun h => h), B6.mv b10 q3 (fun h => h), b11, s9.qt ((r1.comp q2).comp q3), s10.qt (r2.comp q3), s11.qt r3⟩
theorem Own.sl_of {w : World} {base g n c : Nat} {e : TypeId} {V : Nat → Value} (h : Own w base e (.slice (some ⟨g, 0, none⟩) n c) n V) : Sl w (some ⟨g, 0, none⟩) n V := by
  obtain ⟨a, c2, hv, hs, _⟩ := h.sl
  obtain ⟨rfl, _, _⟩ := Value.slice.inj hv
  exact hs
/-- The other text: one byte more, another one. -/
def otb (c k : Nat) : Nat → Nat := fun i => if i < k then c else (c + 1) % 256
theorem one_cell (W : World) (x i : Nat) (hi : i < 1) : (W.alloc (.cells #[.int .u8 ((x : Nat) : Int)] 5)).cell? ⟨W.heap.size, 0 + i, none⟩ = some (Bn (fun _ => x) i) := by
  obtain rfl : i = 0 := by omega
  exact (alloc_new W #[.int .u8 ((x : Nat) : Int)] 5 0 _ rfl).1
theorem other (c k : Nat) (hc : c < 256) (hk : k < 1000) (V : World) (gx cap : Nat) (hs : Hid (Sl V (some ⟨gx, 0, none⟩) k (Bn (fun _ => c)))) :
    ∃ v1 Wa v2 Wb, (Builtin.append_ #[37, 37] 37 #[.slice (some ⟨V.heap.size, 0, none⟩) 0 0, .slice (some ⟨gx, 0, none⟩) k cap]).run Tryd.prog (V.alloc (.cells #[] 5)) = .ok v1 Wa ∧
      (Builtin.append_ #[37, 37] 37 #[v1, .slice (some ⟨Wa.heap.size, 0, none⟩) 1 1]).run Tryd.prog (Wa.alloc (.cells #[.int .u8 (((c + 1) % 256 : Nat) : Int)] 5)) = .ok v2 Wb ∧
      (∃ a cp, v2 = .slice a (k + 1) cp ∧ Hid (Sl Wb a (k + 1) (Bn (otb c k)))) ∧ Hid (Qt V Wb) := by
  have q0 := Mv.alloc (fun _ => False) V (.cells #[] 5)
  obtain ⟨v1, Wa, hr1, o1, g1, b1⟩ := append_own 37 37 5 Tryd.t5 (.int .u8 0) 1 Tryd.underlying37 info5 zero5 size5 bytes5 rfl (by decide) (V.alloc (.cells #[] 5)) V.heap.size (.slice (some ⟨V.heap.size, 0, none⟩) 0 0) 0 k cap (Bn (fun _ => c)) (Bn (fun _ => c)) (some ⟨gx, 0, none⟩)
    (own_empty V V.heap.size V.heap.size 5 rfl (Nat.le_refl _) _) (hs.out.mv q0 (fun _ _ h => h)) (fun _ => rfl) (by omega) (fun h => nomatch h) q0.size
  have q1 : Qt V Wa := Mv.trans q0 (Mv.of_grown g1) (fun j hj e => by have e2 : V.heap.size = j := Option.some.inj e; omega)
  have q2 := Mv.alloc (fun _ => False) Wa (.cells #[.int .u8 (((c + 1) % 256 : Nat) : Int)] 5)
  have hb := o1.blk
  obtain ⟨v2, Wb, hr2, o2, g2, b2⟩ := append_own 37 37 5 Tryd.t5 (.int .u8 0) 1 Tryd.underlying37 info5 zero5 size5 bytes5 rfl (by decide) (Wa.alloc (.cells #[.int .u8 (((c + 1) % 256 : Nat) : Int)] 5)) V.heap.size v1 (0 + k) 1 1 _ (Bn (fun _ => (c + 1) % 256)) (some ⟨Wa.heap.size, 0, none⟩)
    (Own.mv o1 q2 (fun _ _ h => h)) (fun i hi => ⟨_, _, rfl, by simp, one_cell Wa _ i hi⟩) (fun _ => rfl) (by omega) (fun h => nomatch h) (Nat.le_trans q1.size q2.size)
  have q3 : Qt V Wb := Mv.trans (q1.comp q2) (Mv.of_grown g2) (fun j hj e => by have := hb j e; omega)
  obtain ⟨a, cp, rfl, hsl, _, _⟩ := o2.sl
  refine ⟨v1, Wa, _, Wb, hr1, hr2, ⟨a, cp, by rw [Nat.zero_add], ?_⟩, q3⟩
  rw [Nat.zero_add] at hsl
  refine Sl.congr hsl (fun i hi => ?_)
  unfold cat otb Bn
  by_cases h : i < k
  · simp [h]
  · simp [h]

set_option maxRecDepth 100000 in
set_option maxHeartbeats 4000000 in
theorem regexCounts_walk (c n : Nat) (hc : c < 256) (hn : n < 256) (w : World) (hT : Hid (Tab w)) : Calls Tryd.prog 9 #[.int .u8 c, .int .u8 n] w fun e w' => e = .returned (.bool true) ∧ Hid (Qt w w') := by
  have hb := begun_true w hT
  have hmt : Int.tmod (n : Int) 12 = ((n % 12 : Nat) : Int) := by rw [Int.tmod_eq_emod_of_nonneg (by omega)]; omega
  have hme : (n : Int) % 12 = ((n % 12 : Nat) : Int) := by omega
  obtain ⟨k, hk⟩ : ∃ k, k = n % 12 := ⟨_, rfl⟩
  have hk12 : k < 12 := by omega
  rw [← hk] at hmt hme
  clear hk
  have hki : (k : Int) < 12 := by omega
  have hof := fun W => rof_one c hc W
  rw [sv_cells] at hof
  go_enter Tryd.func9, Tryd.ntmps9
  go_wp2_with fail
  refine hb.mono ?_
  rintro e1 w1 ⟨rfl, q1⟩
  go_wp2_with fail
  refine (hof _).mono ?_
  rintro e2 w2 ⟨rfl, q2⟩
  have QA : Hid (Qt w w2) := (q1.out.alloc _).comp q2.out
  obtain ⟨hmk, F0⟩ := Fw.start (w2.alloc (.cells #[.int .i64 1, .int .u64 (limb (btw c c) 0), .int .u64 (limb (btw c c) 1), .int .u64 (limb (btw c c) 2), .int .u64 (limb (btw c c) 3), .slice none 0 0] 28)) c k (by omega)
  have QB : Hid (Qt w (w2.alloc (.cells #[.int .i64 1, .int .u64 (limb (btw c c) 0), .int .u64 (limb (btw c c) 1), .int .u64 (limb (btw c c) 2), .int .u64 (limb (btw c c) 3), .slice none 0 0] 28))) := QA.out.alloc _
  have PX : Hid (B6 w2.heap.size (.int .i64 1) (.int .u64 (limb (btw c c) 0)) (.int .u64 (limb (btw c c) 1)) (.int .u64 (limb (btw c c) 2)) (.int .u64 (limb (btw c c) 3)) (.slice none 0 0) (w2.alloc (.cells #[.int .i64 1, .int .u64 (limb (btw c c) 0), .int .u64 (limb (btw c c) 1), .int .u64 (limb (btw c c) 2), .int .u64 (limb (btw c c) 3), .slice none 0 0] 28))) := heap_alloc_new w2 _
  have hkn : k ≤ 12 := by omega
  clear hn hb hof
  go_wp2_with fail
  obtain ⟨W0, hW0⟩ : ∃ W0, W0 = w2.alloc (.cells #[.int .i64 1, .int .u64 (limb (btw c c) 0), .int .u64 (limb (btw c c) 1), .int .u64 (limb (btw c c) 2), .int .u64 (limb (btw c c) 3), .slice none 0 0] 28) := ⟨_, rfl⟩
  have hgz : W0.heap.size = w2.heap.size + 1 := by rw [hW0]; simp
  rw [← hW0] at F0 PX QB ⊢
  clear hW0 hmk hmt hme
  obtain ⟨W1, hW1⟩ : ∃ W1, W1 = W0.alloc (.cells (madeCells #[.int .u8 0] k) 5) := ⟨_, rfl⟩
  rw [← hW1] at F0 ⊢
  clear hW1
  have hgz : W0.heap.size = w2.heap.size + 1 := hgz
  generalize w2.heap.size = gx at *
  obtain ⟨hgz, _⟩ : W0.heap.size = gx + 1 ∧ True := ⟨hgz, trivial⟩
  rw [hgz] at F0
  clear q1 q2 QA hgz
  go_loopw [8] (fun s8 wr => ∃ i : Nat, i ≤ k ∧ s8 = .int .i64 i ∧ Hid (Fw W0 wr (gx + 1) k c i)) (fun s8 _ => k - (intOf s8).toNat)
  case atStart => exact ⟨0, by omega, rfl, F0⟩
  case round =>
    obtain ⟨i, hi, rfl, B⟩ := hrel
    by_cases hlt : i < k
    · obtain ⟨k3, k4⟩ := B.out.cell hlt
      have BN : Hid _ := B.out.put
      generalize Pf c i i = z0 at k3
      have g1 : (0 : Int) ≤ (i : Int) := by omega
      have g2 : (i : Int) < (k : Int) := by omega
      go_wp2_with fail
      exact ⟨⟨i + 1, by omega, by go_num, BN⟩, by simp [intOf]; omega⟩
    · obtain rfl : i = k := by omega
      have QC : Hid (Qt w wr) := QB.out.comp B.out.qt
      have PY := B6.mv PX.out B.out.qt (fun h => h)
      obtain ⟨c0, c1, c2, c3, c4, c5, _, _, _, _, _, _⟩ := B6.facts PY
      have TW : Hid (Tab wr) := hT.out.qt QC.out
      have OW : Hid _ := B.out.done
      clear B PX QB F0
      have m1 : Hid (Qt wr ((wr.alloc (.cells #[.int .i64 1, .int .u64 (limb (btw c c) 0), .int .u64 (limb (btw c c) 1), .int .u64 (limb (btw c c) 2), .int .u64 (limb (btw c c) 3), .slice none 0 0] 28)).alloc (.cells #[.int .i64 4, .int .u64 0, .int .u64 0, .int .u64 0, .int .u64 0, .slice (some ⟨wr.heap.size, 0, none⟩) 1 1] 28))) := ((Qt.refl wr).alloc _).alloc _
      obtain ⟨d0, d1, d2, d3, d4, d5⟩ : _ ∧ _ ∧ _ ∧ _ ∧ _ ∧ _ := ⟨Qt.keep m1 c0, Qt.keep m1 c1, Qt.keep m1 c2, Qt.keep m1 c3, Qt.keep m1 c4, Qt.keep m1 c5⟩
      have m2 : Hid (Qt wr ((((wr.alloc (.cells #[.int .i64 1, .int .u64 (limb (btw c c) 0), .int .u64 (limb (btw c c) 1), .int .u64 (limb (btw c c) 2), .int .u64 (limb (btw c c) 3), .slice none 0 0] 28)).alloc (.cells #[.int .i64 4, .int .u64 0, .int .u64 0, .int .u64 0, .int .u64 0, .slice (some ⟨wr.heap.size, 0, none⟩) 1 1] 28)).alloc (.cells #[.int .i64 1, .int .u64 (limb (btw c c) 0), .int .u64 (limb (btw c c) 1), .int .u64 (limb (btw c c) 2), .int .u64 (limb (btw c c) 3), .slice none 0 0] 28)).alloc (.cells #[.int .i64 5, .int .u64 0, .int .u64 0, .int .u64 0, .int .u64 0, .slice (some ⟨wr.heap.size + 1 + 1, 0, none⟩) 1 1] 28))) := (m1.out.alloc _).alloc _
      obtain ⟨x0, x1, x2, x3, x4, x5⟩ : _ ∧ _ ∧ _ ∧ _ ∧ _ ∧ _ := ⟨Qt.keep m2 c0, Qt.keep m2 c1, Qt.keep m2 c2, Qt.keep m2 c3, Qt.keep m2 c4, Qt.keep m2 c5⟩
      have m3 : Hid (Qt wr ((((((wr.alloc (.cells #[.int .i64 1, .int .u64 (limb (btw c c) 0), .int .u64 (limb (btw c c) 1), .int .u64 (limb (btw c c) 2), .int .u64 (limb (btw c c) 3), .slice none 0 0] 28)).alloc (.cells #[.int .i64 4, .int .u64 0, .int .u64 0, .int .u64 0, .int .u64 0, .slice (some ⟨wr.heap.size, 0, none⟩) 1 1] 28)).alloc (.cells #[.int .i64 1, .int .u64 (limb (btw c c) 0), .int .u64 (limb (btw c c) 1), .int .u64 (limb (btw c c) 2), .int .u64 (limb (btw c c) 3), .slice none 0 0] 28)).alloc (.cells #[.int .i64 5, .int .u64 0, .int .u64 0, .int .u64 0, .int .u64 0, .slice (some ⟨wr.heap.size + 1 + 1, 0, none⟩) 1 1] 28)).alloc (.cells #[.int .i64 1, .int .u64 (limb (btw c c) 0), .int .u64 (limb (btw c c) 1), .int .u64 (limb (btw c c) 2), .int .u64 (limb (btw c c) 3), .slice none 0 0] 28)).alloc (.cells #[.int .i64 6, .int .u64 0, .int .u64 0, .int .u64 0, .int .u64 0, .slice (some ⟨wr.heap.size + 1 + 1 + 1 + 1, 0, none⟩) 1 1] 28))) := (m2.out.alloc _).alloc _
      have LA := laid3 c wr ((wr.alloc (.cells #[.int .i64 1, .int .u64 (limb (btw c c) 0), .int .u64 (limb (btw c c) 1), .int .u64 (limb (btw c c) 2), .int .u64 (limb (btw c c) 3), .slice none 0 0] 28)).alloc (.cells #[.int .i64 4, .int .u64 0, .int .u64 0, .int .u64 0, .int .u64 0, .slice (some ⟨wr.heap.size, 0, none⟩) 1 1] 28)) ((((wr.alloc (.cells #[.int .i64 1, .int .u64 (limb (btw c c) 0), .int .u64 (limb (btw c c) 1), .int .u64 (limb (btw c c) 2), .int .u64 (limb (btw c c) 3), .slice none 0 0] 28)).alloc (.cells #[.int .i64 4, .int .u64 0, .int .u64 0, .int .u64 0, .int .u64 0, .slice (some ⟨wr.heap.size, 0, none⟩) 1 1] 28)).alloc (.cells #[.int .i64 1, .int .u64 (limb (btw c c) 0), .int .u64 (limb (btw c c) 1), .int .u64 (limb (btw c c) 2), .int .u64 (limb (btw c c) 3), .slice none 0 0] 28)).alloc (.cells #[.int .i64 5, .int .u64 0, .int .u64 0, .int .u64 0, .int .u64 0, .slice (some ⟨wr.heap.size + 1 + 1, 0, none⟩) 1 1] 28)) ((((((wr.alloc (.cells #[.int .i64 1, .int .u64 (limb (btw c c) 0), .int .u64 (limb (btw c c) 1), .int .u64 (limb (btw c c) 2), .int .u64 (limb (btw c c) 3), .slice none 0 0] 28)).alloc (.cells #[.int .i64 4, .int .u64 0, .int .u64 0, .int .u64 0, .int .u64 0, .slice (some ⟨wr.heap.size, 0, none⟩) 1 1] 28)).alloc (.cells #[.int .i64 1, .int .u64 (limb (btw c c) 0), .int .u64 (limb (btw c c) 1), .int .u64 (limb (btw c c) 2), .int .u64 (limb (btw c c) 3), .slice none 0 0] 28)).alloc (.cells #[.int .i64 5, .int .u64 0, .int .u64 0, .int .u64 0, .int .u64 0, .slice (some ⟨wr.heap.size + 1 + 1, 0, none⟩) 1 1] 28)).alloc (.cells #[.int .i64 1, .int .u64 (limb (btw c c) 0), .int .u64 (limb (btw c c) 1), .int .u64 (limb (btw c c) 2), .int .u64 (limb (btw c c) 3), .slice none 0 0] 28)).alloc (.cells #[.int .i64 6, .int .u64 0, .int .u64 0, .int .u64 0, .int .u64 0, .slice (some ⟨wr.heap.size + 1 + 1 + 1 + 1, 0, none⟩) 1 1] 28)) rfl rfl rfl TW.out
      obtain ⟨v1, Wa, v2, Wb, hr1, hr2, OA, QV⟩ := other c i hc (by omega) ((((((wr.alloc (.cells #[.int .i64 1, .int .u64 (limb (btw c c) 0), .int .u64 (limb (btw c c) 1), .int .u64 (limb (btw c c) 2), .int .u64 (limb (btw c c) 3), .slice none 0 0] 28)).alloc (.cells #[.int .i64 4, .int .u64 0, .int .u64 0, .int .u64 0, .int .u64 0, .slice (some ⟨wr.heap.size, 0, none⟩) 1 1] 28)).alloc (.cells #[.int .i64 1, .int .u64 (limb (btw c c) 0), .int .u64 (limb (btw c c) 1), .int .u64 (limb (btw c c) 2), .int .u64 (limb (btw c c) 3), .slice none 0 0] 28)).alloc (.cells #[.int .i64 5, .int .u64 0, .int .u64 0, .int .u64 0, .int .u64 0, .slice (some ⟨wr.heap.size + 1 + 1, 0, none⟩) 1 1] 28)).alloc (.cells #[.int .i64 1, .int .u64 (limb (btw c c) 0), .int .u64 (limb (btw c c) 1), .int .u64 (limb (btw c c) 2), .int .u64 (limb (btw c c) 3), .slice none 0 0] 28)).alloc (.cells #[.int .i64 6, .int .u64 0, .int .u64 0, .int .u64 0, .int .u64 0, .slice (some ⟨wr.heap.size + 1 + 1 + 1 + 1, 0, none⟩) 1 1] 28)) (gx + 1) i (show Hid _ from (Own.sl_of OW.out).mv m3.out (fun _ _ h => h))
      have e6 : (((((((wr.alloc (.cells #[.int .i64 1, .int .u64 (limb (btw c c) 0), .int .u64 (limb (btw c c) 1), .int .u64 (limb (btw c c) 2), .int .u64 (limb (btw c c) 3), .slice none 0 0] 28)).alloc (.cells #[.int .i64 4, .int .u64 0, .int .u64 0, .int .u64 0, .int .u64 0, .slice (some ⟨wr.heap.size, 0, none⟩) 1 1] 28)).alloc (.cells #[.int .i64 1, .int .u64 (limb (btw c c) 0), .int .u64 (limb (btw c c) 1), .int .u64 (limb (btw c c) 2), .int .u64 (limb (btw c c) 3), .slice none 0 0] 28)).alloc (.cells #[.int .i64 5, .int .u64 0, .int .u64 0, .int .u64 0, .int .u64 0, .slice (some ⟨wr.heap.size + 1 + 1, 0, none⟩) 1 1] 28)).alloc (.cells #[.int .i64 1, .int .u64 (limb (btw c c) 0), .int .u64 (limb (btw c c) 1), .int .u64 (limb (btw c c) 2), .int .u64 (limb (btw c c) 3), .slice none 0 0] 28)).alloc (.cells #[.int .i64 6, .int .u64 0, .int .u64 0, .int .u64 0, .int .u64 0, .slice (some ⟨wr.heap.size + 1 + 1 + 1 + 1, 0, none⟩) 1 1] 28))).heap.size = wr.heap.size + 1 + 1 + 1 + 1 + 1 + 1 := by simp
      rw [e6] at hr1
      clear e6
      have hw1 : IntKind.u8.wrap ((c : Int) + 1) = (((c + 1) % 256 : Nat) : Int) := by rw [IntKind.wrap_u8]; omega
      have hw2 : ((c : Int) + 1) % 256 = (((c + 1) % 256 : Nat) : Int) := by omega
      generalize (c + 1) % 256 = d at hw1 hw2 hr2
      have QW : Hid (Qt wr Wb) := m3.out.comp QV.out
      have L9 := B6.mv LA.out.b9 QV.out (fun h => h)
      have L10 := B6.mv LA.out.b10 QV.out (fun h => h)
      have L11 := B6.mv LA.out.b11 QV.out (fun h => h)
      have LX := B6.mv PY.out QW.out (fun h => h)
      have T9 := TW.out.qt QW.out
      have W9 : Sl Wb (some ⟨gx + 1, 0, none⟩) i (Bn (fun _ => c)) := (Own.sl_of OW.out).mv QW.out (fun _ _ h => h)
      have H4 : ∀ W, Hid (Qt Wb W) → Calls Tryd.prog 26 #[.agg #[.int .i64 4, .int .u64 0, .int .u64 0, .int .u64 0, .int .u64 0, .slice (some ⟨wr.heap.size, 0, none⟩) 1 1], .slice (some ⟨gx + 1, 0, none⟩) i i] W fun e w' => e = .returned (.bool true) ∧ Hid (Qt W w') := fun W q => by
        have h := in_sign hc 4 (.inl rfl) (fun _ => c) i (fun _ _ => hc) _ _ i W (LA.out.s9.qt (QV.out.comp q.out)) (W9.mv q.out (fun _ _ h => h))
        rw [inX_star hc _ _ (by omega), decide_eq_true (fun _ _ => rfl)] at h
        exact h
      have H5 : ∀ W, Hid (Qt Wb W) → Calls Tryd.prog 26 #[.agg #[.int .i64 5, .int .u64 0, .int .u64 0, .int .u64 0, .int .u64 0, .slice (some ⟨wr.heap.size + 1 + 1, 0, none⟩) 1 1], .slice (some ⟨gx + 1, 0, none⟩) i i] W fun e w' => e = .returned (.bool (decide ((i : Int) > 0))) ∧ Hid (Qt W w') := fun W q => by
        have h := in_sign hc 5 (.inr (.inl rfl)) (fun _ => c) i (fun _ _ => hc) _ _ i W (LA.out.s10.qt (QV.out.comp q.out)) (W9.mv q.out (fun _ _ h => h))
        rw [inX_plus hc _ _ (by omega), decide_eq_decide.2 (show (0 < i ∧ ∀ m, m < i → c = c) ↔ (i : Int) > 0 from ⟨fun h => by omega, fun h => ⟨by omega, fun _ _ => rfl⟩⟩)] at h
        exact h
      have H6 : ∀ W, Hid (Qt Wb W) → Calls Tryd.prog 26 #[.agg #[.int .i64 6, .int .u64 0, .int .u64 0, .int .u64 0, .int .u64 0, .slice (some ⟨wr.heap.size + 1 + 1 + 1 + 1, 0, none⟩) 1 1], .slice (some ⟨gx + 1, 0, none⟩) i i] W fun e w' => e = .returned (.bool (decide ((i : Int) < 2))) ∧ Hid (Qt W w') := fun W q => by
        have h := in_sign hc 6 (.inr (.inr rfl)) (fun _ => c) i (fun _ _ => hc) _ _ i W (LA.out.s11.qt (QV.out.comp q.out)) (W9.mv q.out (fun _ _ h => h))
        rw [inX_opt hc _ _ (by omega), decide_eq_decide.2 (show (i = 0 ∨ i = 1 ∧ c = c) ↔ (i : Int) < 2 from by omega)] at h
        exact h
      have H1 : ∀ W, Hid (Qt Wb W) → Calls Tryd.prog 26 #[.agg #[.int .i64 1, .int .u64 (limb (btw c c) 0), .int .u64 (limb (btw c c) 1), .int .u64 (limb (btw c c) 2), .int .u64 (limb (btw c c) 3), .slice none 0 0], .slice (some ⟨gx + 1, 0, none⟩) i i] W fun e w' => e = .returned (.bool ((i : Int) == 1)) ∧ Hid (Qt W w') := fun W q => by
        have h := in_one hc (fun _ => c) i (fun _ _ => hc) (some ⟨gx + 1, 0, none⟩) i W (T9.qt q.out) (W9.mv q.out (fun _ _ h => h))
        rw [inX_one hc _ _ (by omega), show decide (i = 1 ∧ c = c) = ((i : Int) == 1) from bool_iff (by rw [decide_eq_true_iff, beq_iff_eq]; omega)] at h
        exact h
      obtain ⟨ao, co, rfl, SO⟩ := OA
      have hob : ∀ j, j < i + 1 → otb c i j < 256 := fun j hj => by unfold otb; split <;> omega
      have hoi : otb c i i ≠ c := by unfold otb; rw [if_neg (Nat.lt_irrefl i)]; omega
      have H7 : ∀ W, Hid (Qt Wb W) → Calls Tryd.prog 26 #[.agg #[.int .i64 4, .int .u64 0, .int .u64 0, .int .u64 0, .int .u64 0, .slice (some ⟨wr.heap.size, 0, none⟩) 1 1], .slice ao (i + 1) co] W fun e w' => e = .returned (.bool false) ∧ Hid (Qt W w') := fun W q => by
        have h := in_sign hc 4 (.inl rfl) (otb c i) (i + 1) hob _ ao co W (LA.out.s9.qt (QV.out.comp q.out)) (SO.out.mv q.out (fun _ _ h => h))
        rw [inX_star hc _ _ (by omega), decide_eq_false (fun h => hoi (h i (by omega)))] at h
        exact h
      have H8 : ∀ W, Hid (Qt Wb W) → Calls Tryd.prog 26 #[.agg #[.int .i64 5, .int .u64 0, .int .u64 0, .int .u64 0, .int .u64 0, .slice (some ⟨wr.heap.size + 1 + 1, 0, none⟩) 1 1], .slice ao (i + 1) co] W fun e w' => e = .returned (.bool false) ∧ Hid (Qt W w') := fun W q => by
        have h := in_sign hc 5 (.inr (.inl rfl)) (otb c i) (i + 1) hob _ ao co W (LA.out.s10.qt (QV.out.comp q.out)) (SO.out.mv q.out (fun _ _ h => h))
        rw [inX_plus hc _ _ (by omega), decide_eq_false (fun h => hoi (h.2 i (by omega)))] at h
        exact h
      clear W9 T9 hob hoi LA OW TW PY QV SO m3 m1 m2
      obtain ⟨a0, a1, a2, a3, a4, a5, _, _, _, _, _, _⟩ := B6.facts L9
      go_wp2_with (at_builtin; first | (refine wpList_append_given rfl _ _ 37 rfl _ _ _ Wa rfl rfl hr1 ?_) | (refine wpList_append_given rfl _ _ 37 rfl _ _ _ Wb rfl rfl hr2 ?_))
      clear hr1 hr2 hw1 hw2
      clear c0 c1 c2 c3 c4 c5 d0 d1 d2 d3 d4 d5 x0 x1 x2 x3 x4 x5
      refine (H4 _ (Qt.refl _)).mono ?_
      rintro e3 w3 ⟨rfl, q3⟩
      clear a0 a1 a2 a3 a4 a5
      obtain ⟨a0, a1, a2, a3, a4, a5, _, _, _, _, _, _⟩ := B6.facts (B6.mv L10.out q3.out (fun h => h))
      go_wp2_with fail
      refine (H5 _ q3).mono ?_
      rintro e4 w4 ⟨rfl, q4⟩
      have Q4 : Hid (Qt Wb w4) := q3.out.comp q4.out
      clear a0 a1 a2 a3 a4 a5
      obtain ⟨a0, a1, a2, a3, a4, a5, _, _, _, _, _, _⟩ := B6.facts (B6.mv L11.out Q4.out (fun h => h))
      go_wp2_with fail
      refine (H6 _ Q4).mono ?_
      rintro e5 w5 ⟨rfl, q5⟩
      have Q5 : Hid (Qt Wb w5) := Q4.out.comp q5.out
      clear a0 a1 a2 a3 a4 a5
      obtain ⟨a0, a1, a2, a3, a4, a5, _, _, _, _, _, _⟩ := B6.facts (B6.mv LX.out Q5.out (fun h => h))
      go_wp2_with fail
      refine (H1 _ Q5).mono ?_
      rintro e6 w6 ⟨rfl, q6⟩
      have Q6 : Hid (Qt Wb w6) := Q5.out.comp q6.out
      clear a0 a1 a2 a3 a4 a5
      obtain ⟨a0, a1, a2, a3, a4, a5, _, _, _, _, _, _⟩ := B6.facts (B6.mv L9.out Q6.out (fun h => h))
      go_wp2_with fail
      refine (H7 _ Q6).mono ?_
      rintro e7 w7 ⟨rfl, q7⟩
      have Q7 : Hid (Qt Wb w7) := Q6.out.comp q7.out
      clear a0 a1 a2 a3 a4 a5
      obtain ⟨a0, a1, a2, a3, a4, a5, _, _, _, _, _, _⟩ := B6.facts (B6.mv L10.out Q7.out (fun h => h))
      go_wp2_with fail
      refine (H8 _ Q7).mono ?_
      rintro e8 w8 ⟨rfl, q8⟩
      have Q8 : Hid (Qt Wb w8) := Q7.out.comp q8.out
      go_wp2_with fail
      go_ret
      exact ⟨rfl, (QC.out.comp QW.out).comp Q8.out⟩

theorem regexCounts_row (a b : Int) (wa : (Lit.int .u8 a).wf = true) (wb : (Lit.int .u8 b).wf = true) (w : World) (hT : Tab w) : Calls Tryd.prog 9 #[.int .u8 a, .int .u8 b] w fun e w' => e = .returned (.bool true) ∧ Below w.heap.size w w' := by
  obtain ⟨n, rfl, hn⟩ : ∃ n : Nat, a = n ∧ n < 256 := by
    simp [Lit.wf, IntKind.min, IntKind.max, IntKind.signed, IntKind.bits] at wa
    exact ⟨a.toNat, by omega, by omega⟩
  obtain ⟨m, rfl, hm⟩ : ∃ n : Nat, b = n ∧ n < 256 := by
    simp [Lit.wf, IntKind.min, IntKind.max, IntKind.signed, IntKind.bits] at wb
    exact ⟨b.toNat, by omega, by omega⟩
  exact (regexCounts_walk n m hn hm w hT).mono fun e w' ⟨he, hq⟩ => ⟨he, hq.out.below (Nat.le_refl _) (fun _ _ h => h)⟩

end Go.Proofs.YtkclkhfcmjhogaaDoor
