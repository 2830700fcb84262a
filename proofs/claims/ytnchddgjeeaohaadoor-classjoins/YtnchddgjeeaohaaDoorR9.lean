/- The reference: Or. -/
import Derived.Test.YtnchddgjeeaohaaDoorR8
import Derived.Test.YtnchddgjeeaohaaDoorG2
namespace Go.Proofs.YtnchddgjeeaohaaDoor
open Go.RowKit
set_option linter.unusedVariables false

theorem join_ol {w : World} {base b2 : Nat} {v u : Value} {l m : List Nat} (h : Hid (Ol w base v l)) (k : Hid (Ol w b2 u m)) (hb : base ≤ w.heap.size) (hl : l.length + m.length < 90000) :
    ∃ v' W, (Builtin.append_ #[30, 30] 30 #[v, u]).run Tryd.prog w = .ok v' W ∧ Hid (Ol W base v' (l ++ m)) ∧ Hid (Mv (fun j => base ≤ j) w W) := by
  obtain ⟨a, cap, rfl, hs, h1, h2, _⟩ := ow_ls k.out
  obtain ⟨v', W, hr, hown, hgr, _⟩ := append_ow 30 30 5 Tryd.t5 (.int .u8 0) 1 1 Tryd.underlying30 info5 zero5 size5 bytes5 (by rfl) (by omega) (by omega) w base v l.length m.length cap (nc l) (nc m) a h.out hs (by simp [nc]) (by intro x hx; unfold nc at hx; rw [List.mem_map] at hx; obtain ⟨c, _, rfl⟩ := hx; rfl) (by omega) h2 hb
  refine ⟨v', W, hr, ?_, ?_⟩
  · show W.ownsRow _ _ _ _ _ _
    rw [nc_append, List.length_append]; exact hown
  · exact Mv.mono (Mv.of_grown hgr) (fun j hj e => (ow_blk h.out j e).1)
theorem step_join {ops : Array Oper} {o : Oper} {a : Act} {w : World} {K : Act → World → Prop} {Q : Exit → Act → World → Prop} {E : Prop} (hgd : o.guard = none) (s x : Operand)
    (ho : o.op = .call { callee := .builtin .append, args := #[s, x], argTypes := #[30, 30] }) (hty : o.type = 30)
    {base b2 : Nat} {v u : Value} {l m : List Nat} (hs : a.eval s = v) (hx : a.eval x = u) (h : Hid (Ol w base v l)) (k : Hid (Ol w b2 u m)) (hb : base ≤ w.heap.size) (hl : l.length + m.length < 90000)
    (H : ∀ v' W, Hid (Ol W base v' (l ++ m)) → Hid (Mv (fun j => base ≤ j) w W) → K (a.put o.dst v') W) :
    if Region.wanted o (yielded ops a.tmps) = true then Oper.wp Tryd.prog o a w K Q else E := by
  have hw : Region.wanted o (yielded ops a.tmps) = true := by simp [Region.wanted, hgd]
  rw [if_pos hw]
  obtain ⟨v', W, hr, h1, h2⟩ := join_ol h k hb hl
  exact wp_append_given s x 30 ho v u v' W hs hx (by rw [hty]; exact hr) (H v' W h1 h2)

theorem hold8m {W w' : World} {S : Nat → Prop} {g0 g1 : Nat} {p q : Nat → Bool} (h0 : Hid (Bk g0 p W)) (h1 : Hid (Bk g1 q W)) (n0 : ¬ S g0) (n1 : ¬ S g1) (m : Hid (Mv S W w')) :
    w'.cell? ⟨g0, 0, none⟩ = some (.int .u64 (limb p 0)) ∧ w'.cell? ⟨g0, 1, none⟩ = some (.int .u64 (limb p 1)) ∧ w'.cell? ⟨g0, 2, none⟩ = some (.int .u64 (limb p 2)) ∧ w'.cell? ⟨g0, 3, none⟩ = some (.int .u64 (limb p 3)) ∧ w'.cell? ⟨g1, 0, none⟩ = some (.int .u64 (limb q 0)) ∧ w'.cell? ⟨g1, 1, none⟩ = some (.int .u64 (limb q 1)) ∧ w'.cell? ⟨g1, 2, none⟩ = some (.int .u64 (limb q 2)) ∧ w'.cell? ⟨g1, 3, none⟩ = some (.int .u64 (limb q 3)) ∧ Hid (Mv S W w') := by
  obtain ⟨a0, a1, a2, a3, _⟩ := Bk.facts (Bk.mv h0 m.out n0)
  obtain ⟨b0, b1, b2, b3, _⟩ := Bk.facts (Bk.mv h1 m.out n1)
  exact ⟨a0, a1, a2, a3, b0, b1, b2, b3, m⟩
theorem inl_ou (p q : Nat → Bool) : Like (inl (upl p 256 ++ upl q 256)) (ou p q) := by
  intro b hb
  have h1 := inl_upl p b hb
  have h2 := inl_upl q b hb
  unfold inl at *
  unfold ou
  rw [← h1, ← h2, Bool.eq_iff_iff]
  simp

theorem list_in (p : Nat → Bool) (W0 : World) (B : Nat) (hB : B + 1 ≤ W0.heap.size) (X : World) (m : Hid (Mv (fun j => B ≤ j) W0 X)) : Calls Tryd.prog 33 #[.agg #[.int .u64 (limb p 0), .int .u64 (limb p 1), .int .u64 (limb p 2), .int .u64 (limb p 3)]] X fun e w' => ∃ v, e = .returned v ∧ Hid (Ol w' (B + 1) v (upl p 256)) ∧ Hid (Mv (fun j => B ≤ j) W0 w') ∧ Hid (Qt X w') := by
  refine (rlist_any p X).mono ?_
  rintro e w' ⟨v, rfl, o, k⟩
  exact ⟨v, rfl, ow_mono o (fun j hj => Nat.le_trans (Nat.le_trans hB m.out.size) (ow_blk o j hj).1), m.out.trans k (fun j hj h => h.elim), k⟩

set_option maxRecDepth 20000 in
set_option maxHeartbeats 4000000 in
theorem ror_any (p q : Nat → Bool) (w : World) : Calls Tryd.prog 17 #[.agg #[.int .u64 (limb p 0), .int .u64 (limb p 1), .int .u64 (limb p 2), .int .u64 (limb p 3)], .agg #[.int .u64 (limb q 0), .int .u64 (limb q 1), .int .u64 (limb q 2), .int .u64 (limb q 3)]] w fun e w' => e = .returned (sv (ou p q)) ∧ Hid (Qt w w') := by
  have HL : Hid (sv (inl (upl p 256 ++ upl q 256)) = sv (ou p q)) := sv_like (inl_ou p q)
  have HN : Hid ((upl p 256).length + (upl q 256).length < 90000) := by have := upl_len p 256; have := upl_len q 256; show _ < _; omega
  have HN2 : Hid ((upl p 256 ++ upl q 256).length < 90000) := by show _ < _; rw [List.length_append]; exact HN.out
  have HLT : Hid (∀ c ∈ upl p 256 ++ upl q 256, c < 256) := by
    intro c hc
    rw [List.mem_append] at hc
    rcases hc with hc | hc <;> exact upl_lt _ hc
  go_enter Tryd.func17, Tryd.ntmps17
  go_wp2_with fail
  have HB : Hid (Bk w.heap.size p (((w.alloc (.cells #[.int .u64 (limb p 0), .int .u64 (limb p 1), .int .u64 (limb p 2), .int .u64 (limb p 3)] 25)).alloc (.cells #[.int .u64 (limb q 0), .int .u64 (limb q 1), .int .u64 (limb q 2), .int .u64 (limb q 3)] 25)).alloc (.cells #[.int .u64 0, .int .u64 0, .int .u64 0, .int .u64 0] 25))) := Bk.mv (Bk.mv (w := w.alloc (.cells #[.int .u64 (limb p 0), .int .u64 (limb p 1), .int .u64 (limb p 2), .int .u64 (limb p 3)] 25)) (heap_alloc_new _ _) (Mv.alloc (fun _ => False) _ _) (fun h => h)) (Mv.alloc (fun _ => False) _ _) (fun h => h)
  have HB2 : Hid (Bk (w.heap.size + 1) q (((w.alloc (.cells #[.int .u64 (limb p 0), .int .u64 (limb p 1), .int .u64 (limb p 2), .int .u64 (limb p 3)] 25)).alloc (.cells #[.int .u64 (limb q 0), .int .u64 (limb q 1), .int .u64 (limb q 2), .int .u64 (limb q 3)] 25)).alloc (.cells #[.int .u64 0, .int .u64 0, .int .u64 0, .int .u64 0] 25))) := Bk.mv (w := (w.alloc (.cells #[.int .u64 (limb p 0), .int .u64 (limb p 1), .int .u64 (limb p 2), .int .u64 (limb p 3)] 25)).alloc (.cells #[.int .u64 (limb q 0), .int .u64 (limb q 1), .int .u64 (limb q 2), .int .u64 (limb q 3)] 25)) (heap_alloc2_new _ _ _) (Mv.alloc (fun _ => False) _ _) (fun h => h)
  have HZ : Hid (Zr (w.heap.size + 1 + 1) (((w.alloc (.cells #[.int .u64 (limb p 0), .int .u64 (limb p 1), .int .u64 (limb p 2), .int .u64 (limb p 3)] 25)).alloc (.cells #[.int .u64 (limb q 0), .int .u64 (limb q 1), .int .u64 (limb q 2), .int .u64 (limb q 3)] 25)).alloc (.cells #[.int .u64 0, .int .u64 0, .int .u64 0, .int .u64 0] 25))) := heap3 _ _ _ _
  have HS : Hid (w.heap.size + 3 ≤ (((w.alloc (.cells #[.int .u64 (limb p 0), .int .u64 (limb p 1), .int .u64 (limb p 2), .int .u64 (limb p 3)] 25)).alloc (.cells #[.int .u64 (limb q 0), .int .u64 (limb q 1), .int .u64 (limb q 2), .int .u64 (limb q 3)] 25)).alloc (.cells #[.int .u64 0, .int .u64 0, .int .u64 0, .int .u64 0] 25)).heap.size) := by show _ ≤ _; simp
  have HQ : Hid (Qt w (((w.alloc (.cells #[.int .u64 (limb p 0), .int .u64 (limb p 1), .int .u64 (limb p 2), .int .u64 (limb p 3)] 25)).alloc (.cells #[.int .u64 (limb q 0), .int .u64 (limb q 1), .int .u64 (limb q 2), .int .u64 (limb q 3)] 25)).alloc (.cells #[.int .u64 0, .int .u64 0, .int .u64 0, .int .u64 0] 25))) := (((Qt.refl w).alloc _).alloc _).alloc _
  generalize ((w.alloc (.cells #[.int .u64 (limb p 0), .int .u64 (limb p 1), .int .u64 (limb p 2), .int .u64 (limb p 3)] 25)).alloc (.cells #[.int .u64 (limb q 0), .int .u64 (limb q 1), .int .u64 (limb q 2), .int .u64 (limb q 3)] 25)).alloc (.cells #[.int .u64 0, .int .u64 0, .int .u64 0, .int .u64 0] 25) = W0 at *
  obtain ⟨k0, k1, k2, k3, _⟩ := Bk.facts HB
  obtain ⟨j0, j1, j2, j3, _⟩ := Bk.facts HB2
  have DM : Hid (Mv (fun j => w.heap.size + 2 ≤ j) W0 W0.drew) := Mv.drewN _ W0 1
  have LP := fun X m => list_in p W0 (w.heap.size + 2) HS.out X m
  have LQ := fun X m => list_in q W0 (w.heap.size + 2) HS.out X m
  go_region_held3 (fun w' => w'.cell? ⟨w.heap.size, 0, none⟩ = some (.int .u64 (limb p 0)) ∧ w'.cell? ⟨w.heap.size, 1, none⟩ = some (.int .u64 (limb p 1)) ∧ w'.cell? ⟨w.heap.size, 2, none⟩ = some (.int .u64 (limb p 2)) ∧ w'.cell? ⟨w.heap.size, 3, none⟩ = some (.int .u64 (limb p 3)) ∧ w'.cell? ⟨w.heap.size + 1, 0, none⟩ = some (.int .u64 (limb q 0)) ∧ w'.cell? ⟨w.heap.size + 1, 1, none⟩ = some (.int .u64 (limb q 1)) ∧ w'.cell? ⟨w.heap.size + 1, 2, none⟩ = some (.int .u64 (limb q 2)) ∧ w'.cell? ⟨w.heap.size + 1, 3, none⟩ = some (.int .u64 (limb q 3)) ∧ Hid (Mv (fun j => w.heap.size + 2 ≤ j) W0 w'))
    (first | (refine hold8m HB HB2 (by omega) (by omega) ?_; first | exact DM | exact M4 | exact M5 | exact M6 | exact M7 | exact M7.out.trans (put4_mv w7 (w.heap.size + 1 + 1) _ _ _ _) (fun j hj e => by omega) | fail))
    ((first
      | (go_at_call 33; (with_reducible refine (LP _ DM).mono ?_); rintro e4 w4 ⟨v4, rfl, O4, M4, q4⟩)
      | (go_at_call 33; (with_reducible refine (LQ _ M4).mono ?_); rintro e5 w5 ⟨v5, rfl, O5, M5, q5⟩; have P5 : Hid (Ol w5 (w.heap.size + 2 + 1) v4 (upl p 256)) := Ol.qt O4 q5)
      | (go_at_call 23; (with_reducible refine (rof_l O6 HLT.out HN2.out).mono ?_); rintro e7 w7 ⟨rfl, q7⟩; rw [HL.out, sv_cells]; have M7 : Hid (Mv (fun j => w.heap.size + 2 ≤ j) W0 w7) := M6.out.trans q7.out (fun j hj h => h.elim); obtain ⟨z0, z1, z2, z3, l0, l1, l2, l3⟩ := Zr.facts (Zr.mv (Zr.mv (Zr.mv (Zr.mv (Zr.mv HZ (Mv.drewN (fun _ => False) W0 1) (fun h => h)) q4.out (fun h => h)) q5.out (fun h => h)) m6.out (by omega)) q7.out (fun h => h)))
      | (refine step_join (by rfl) (.tmp 6) (.tmp 8) (by rfl) (by rfl) (by rfl) (by rfl) P5 O5 (Nat.le_trans HS.out M5.out.size) HN.out ?_; intro v6 W6 O6 m6; have M6 : Hid (Mv (fun j => w.heap.size + 2 ≤ j) W0 W6) := M5.out.trans m6.out (fun j hj h => by omega))
      | fail))
  have Z7 : Hid (Zr (w.heap.size + 1 + 1) w7) := Zr.mv (Zr.mv (Zr.mv (Zr.mv (Zr.mv HZ (Mv.drewN (fun _ => False) W0 1) (fun h => h)) q4.out (fun h => h)) q5.out (fun h => h)) m6.out (by omega)) q7.out (fun h => h)
  have QW : Hid (Qt w w7) := Qt.comp (Mv.trans (Qt.comp (Qt.comp (HQ.out.comp (Mv.drewN _ W0 1)) q4.out) q5.out) m6.out (fun j hj h => by omega)) q7.out
  clear k0 k1 k2 k3 j0 j1 j2 j3
  go_wp2_with fail
  refine bodyPost_ret (results_cell_row (p := 4) (ty := 25) rfl _ _ (w.heap.size + 1 + 1) 25 _ (0, 0) _ rfl (put4_heap Z7.out _ _ _ _) Tryd.underlying25 rfl (by kernel_rfl)) rfl ?_
  exact ⟨rfl, Mv.trans QW.out (put4_mv w7 (w.heap.size + 1 + 1) _ _ _ _) (fun j hj e => by omega)⟩
end Go.Proofs.YtnchddgjeeaohaaDoor
