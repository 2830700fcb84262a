/- The reference: Or. -/
import Derived.Test.YtkclkhfcmjhogaaDoorR8
import Derived.Test.YtkclkhfcmjhogaaDoorG2
namespace Go.Proofs.YtkclkhfcmjhogaaDoor
open Go.RowKit
set_option linter.unusedVariables false

theorem join_ol {w : World} {base b2 : Nat} {v u : Value} {l m : List Nat} (h : Hid (Ol w base v l)) (k : Hid (Ol w b2 u m)) (hb : base ≤ w.heap.size) (hl : l.length + m.length < 90000) :
    ∃ v' W, (Builtin.append_ #[37, 37] 37 #[v, u]).run Tryd.prog w = .ok v' W ∧ Hid (Ol W base v' (l ++ m)) ∧ Hid (Mv (fun j => base ≤ j) w W) := by
  obtain ⟨a, cap, rfl, hs, h1, h2, _⟩ := ow_ls k.out
  obtain ⟨v', W, hr, hown, hgr, _⟩ := append_ow 37 37 5 Tryd.t5 (.int .u8 0) 1 1 Tryd.underlying37 info5 zero5 size5 bytes5 (by rfl) (by omega) (by omega) w base v l.length m.length cap (nc l) (nc m) a h.out hs (by simp [nc]) (by intro x hx; unfold nc at hx; rw [List.mem_map] at hx; obtain ⟨c, _, rfl⟩ := hx; rfl) (by omega) h2 hb
  refine ⟨v', W, hr, ?_, ?_⟩
  · show W.ownsRow _ _ _ _ _ _
    rw [nc_append, List.length_append]; exact hown
  · exact Mv.mono (Mv.of_grown hgr) (fun j hj e => (ow_blk h.out j e).1)
theorem step_join {ops : Array Oper} {o : Oper} {a : Act} {w : World} {K : Act → World → Prop} {Q : Exit → Act → World → Prop} {E : Prop} (hgd : o.guard = none) (s x : Operand)
    (ho : o.op = .call { callee := .builtin .append, args := #[s, x], argTypes := #[37, 37] }) (hty : o.type = 37)
    {base b2 : Nat} {v u : Value} {l m : List Nat} (hs : a.eval s = v) (hx : a.eval x = u) (h : Hid (Ol w base v l)) (k : Hid (Ol w b2 u m)) (hb : base ≤ w.heap.size) (hl : l.length + m.length < 90000)
    (H : ∀ v' W, Hid (Ol W base v' (l ++ m)) → Hid (Mv (fun j => base ≤ j) w W) → K (a.put o.dst v') W) :
    if Region.wanted o (yielded ops a.tmps) = true then Oper.wp Tryd.prog o a w K Q else E := by
  have hw : Region.wanted o (yielded ops a.tmps) = true := by simp [Region.wanted, hgd]
  rw [if_pos hw]
  obtain ⟨v', W, hr, h1, h2⟩ := join_ol h k hb hl
  exact wp_append_given s x 37 ho v u v' W hs hx (by rw [hty]; exact hr) (H v' W h1 h2)

theorem hold8m {W w' : World} {S : Nat → Prop} {g0 g1 : Nat} {p q : Nat → Bool} (h0 : Hid (Bk g0 p W)) (h1 : Hid (Bk g1 q W)) (n0 : ¬ S g0) (n1 : ¬ S g1) (m : Hid (Mv S W w')) :
    w'.cell? ⟨g0, 0, none⟩ = some (.int .u64 (limb p 0)) ∧ w'.cell? ⟨g0, 1, none⟩ = some (.int .u64 (limb p 1)) ∧ w'.cell? ⟨g0, 2, none⟩ = some (.int .u64 (limb p 2)) ∧ w'.cell? ⟨g0, 3, none⟩ = some (.int .u64 (limb p 3)) ∧ w'.cell? ⟨g1, 0, none⟩ = some (.int .u64 (limb q 0)) ∧ w'.cell? ⟨g1, 1, none⟩ = some (.int .u64 (limb q 1)) ∧ w'.cell? ⟨g1, 2, none⟩ = some (.int .u64 (limb q 2)) ∧ w'.cell? ⟨g1, 3, none⟩ = some (.int .u64 (limb q 3)) ∧ Hid (Mv S W w') := by
  obtain ⟨a0, a1, a2, a3, _⟩ := Bk.facts (Bk.mv h0 m.out n0)
  obtain ⟨b0, b1, b2, b3, _⟩ := Bk.facts (Bk.mv h1 m.out n1)
  exact ⟨a0, a1, a2, a3, b0, b1, b2, b3, m⟩
theorem inl_ou (p q : Nat → Bool) : Like (inl (upl p 256 ++ upl q 256)) (ou p q) := by
  intro b hb
  have h1 := inl_upl p b hb
  have h2 := inl_upl q b hb
  unfold inl at *
  unfold ou
  rw [← h1, ← h2, Bool.eq_iff_iff]
  simp

theorem list_in (p : Nat → Bool) (W0 : World) (B : Nat) (hB : B + 1 ≤ W0.heap.size) (X : World) (m : Hid (Mv (fun j => B ≤ j) W0 X)) : Calls Tryd.prog 59 #[.agg #[.int .u64 (limb p 0), .int .u64 (limb p 1), .int .u64 (limb p 2), .int .u64 (limb p 3)]] X fun e w' => ∃ v, e = .returned v ∧ Hid (Ol w' (B + 1) v (upl p 256)) ∧ Hid (Mv (fun j => B ≤ j) W0 w') ∧ Hid (Qt X w') := by
  refine (rlist_any p X).mono ?_
  rintro e w' ⟨v, rfl, o, k⟩
  exact ⟨v, rfl, ow_mono o (fun j hj => Nat.le_trans (Nat.le_trans hB m.out.size) (ow_blk o j hj).1), m.out.trans k (fun j hj h => h.elim), k⟩

end Go.Proofs.YtkclkhfcmjhogaaDoor
