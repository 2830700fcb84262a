/- Brackets around a whole; a bar between two; the rows that the statement appends. -/
import Derived.Test.YtkclkhfcmjhogaaDoorRM
import Derived.Test.YtkclkhfcmjhogaaDoorX3
import Derived.Test.YtkclkhfcmjhogaaDoorCT
namespace Go.Proofs.YtkclkhfcmjhogaaDoor
open Go.RowKit
set_option linter.unusedVariables false

variable {g : (Nat → Bool) → List Nat}
theorem whole_of {T : List Nat} {x : RX} (h : Rdd (altS (inn 13)) shut T x) (hm : may x = 0) : ∃ x', sameX x' x = true ∧ prsX T = .ok x' := by
  obtain ⟨x', hs, hr⟩ := h [] (.inl rfl)
  refine ⟨x', hs, ?_⟩
  rw [List.append_nil] at hr
  have hw : wholeS T = .ok x' := by
    unfold wholeS
    rw [altN_inn, hr]
  unfold prsX
  rw [hw]
  show (if may x' = 0 then Except.ok x' else .error (may x')) = _
  rw [same_may hs, if_pos hm]
/-- In one pair of brackets, in two. -/
theorem prs_group (hg : Gd g) {x : RX} (hm : may x = 0) : ∃ x', sameX x' x = true ∧ prsX (40 :: (x.sh g ++ [41])) = .ok x' := by
  obtain ⟨h1, h2, h3⟩ := may_small hm
  exact whole_of (up_alt (up_cat (up_rep (in_brackets ((bk_all hg x h1).2 12 (by omega)).alt)))) hm
theorem prs_group2 (hg : Gd g) {x : RX} (hm : may x = 0) : ∃ x', sameX x' x = true ∧ prsX (40 :: 40 :: (x.sh g ++ [41, 41])) = .ok x' := by
  obtain ⟨h1, h2, h3⟩ := may_small hm
  have h := whole_of (up_alt (up_cat (up_rep (in_brackets (up_alt (up_cat (up_rep (in_brackets ((bk_all hg x h1).2 11 (by omega)).alt)))))))) hm
  have e : 40 :: (40 :: (x.sh g ++ [41]) ++ [41]) = 40 :: 40 :: (x.sh g ++ [41, 41]) := by simp
  rw [e] at h
  exact h
/-- The parts that a bar joins. -/
def alts (x : RX) : List RX := if x.kind = 3 then x.args else [x]
theorem alts_ne {x : RX} (hf : x.formed = true) : alts x ≠ [] := by
  unfold alts
  split
  · next h => have := (formed_kd hf).2.2.2.1 (.inr h); intro e; rw [e] at this; simp at this
  · simp
theorem alts_kids {x : RX} (hf : x.formed = true) : ∀ a ∈ alts x, a.formed = true ∧ lvl a.kind ≠ 1 := by
  intro a ha
  unfold alts at ha
  split at ha
  · next h =>
    have := (formed_pts hf).2 a ha
    rw [h] at this
    exact this
  · next h =>
    have e : a = x := by simpa using ha
    rw [e]
    have := lvl_of (formed_kd hf).1
    exact ⟨hf, by omega⟩
theorem alts_text {x : RX} (hf : x.formed = true) : [124].intercalate (texts g 3 (alts x)) = x.sh g := by
  unfold alts
  split
  · next h => rw [sh_at, if_neg (by omega), h]; rfl
  · next h =>
    show [124].intercalate [brk1 3 x (x.sh g)] = _
    rw [inter_one]
    unfold brk1
    have := lvl_of (formed_kd hf).1
    have h3 : lvl 3 = 1 := rfl
    rw [if_neg (by rw [h3]; omega)]
theorem inter_app {U V : List (List Nat)} (hU : U ≠ []) (hV : V ≠ []) : [124].intercalate (U ++ V) = [124].intercalate U ++ 124 :: [124].intercalate V := by
  match U, V, hU, hV with
  | T :: U, R :: V, _, _ =>
    rw [List.cons_append, inter_flat, inter_flat, inter_flat, List.flatMap_append, List.flatMap_cons, List.append_assoc]
    simp
theorem alts_nodes {x : RX} : ((alts x).map RX.nodes).sum ≤ x.nodes := by
  unfold alts
  split
  · rw [nodes_at]; omega
  · simp
theorem alts_depth {x : RX} : ∀ a ∈ alts x, a.depth ≤ x.depth := by
  intro a ha
  unfold alts at ha
  split at ha
  · have h1 := depth_at x
    have := le_maxl (List.mem_map.2 ⟨a, ha, rfl⟩ : a.depth ∈ x.args.map RX.depth)
    omega
  · have e : a = x := by simpa using ha
    rw [e]; exact Nat.le_refl _
/-- What a bar makes of two. -/
def barX (x y : RX) : RX := ⟨3, fun _ => false, alts x ++ alts y⟩
theorem bar_may {x y : RX} (hx : x.formed = true) (hy : y.formed = true) (hn : x.nodes + y.nodes ≤ 39) (hd : x.depth ≤ 11 ∧ y.depth ≤ 11) : may (barX x y) = 0 := by
  have n1 := alts_nodes (x := x)
  have n2 := alts_nodes (x := y)
  refine may_of ?_ ?_ ?_
  · unfold barX
    rw [formed_eq, Bool.and_eq_true, Bool.and_eq_true, List.all_eq_true, List.all_eq_true]
    have h1 := List.length_pos_iff.2 (alts_ne hx)
    have h2 := List.length_pos_iff.2 (alts_ne hy)
    refine ⟨?_, fun a ha => ?_, fun a ha => ?_⟩
    · unfold node
      rw [any_none, if_pos (.inl rfl), List.length_append]
      simp; omega
    · rw [decide_eq_true_iff]
      have h3 : lvl 3 = 1 := rfl
      rw [h3]
      rcases List.mem_append.1 ha with h | h
      · exact (alts_kids hx a h).2
      · exact (alts_kids hy a h).2
    · rcases List.mem_append.1 ha with h | h
      · exact (alts_kids hx a h).1
      · exact (alts_kids hy a h).1
  · unfold barX
    rw [nodes_eq, List.map_append, List.sum_append]
    omega
  · unfold barX
    rw [depth_eq]
    have : maxl ((alts x ++ alts y).map RX.depth) ≤ 11 := maxl_le.2 (fun n hn => by
      obtain ⟨a, ha, rfl⟩ := List.mem_map.1 hn
      rcases List.mem_append.1 ha with h | h
      · have := alts_depth a h; omega
      · have := alts_depth a h; omega)
    omega
theorem prs_bar (hg : Gd g) {x y : RX} (hx : x.formed = true) (hy : y.formed = true) (hn : x.nodes + y.nodes ≤ 39) (hd : x.depth ≤ 11 ∧ y.depth ≤ 11) : ∃ r, sameX r (barX x y) = true ∧ prsX (x.sh g ++ 124 :: y.sh g) = .ok r := by
  have h := prsX_sh hg (bar_may hx hy hn hd)
  have e : (barX x y).sh g = x.sh g ++ 124 :: y.sh g := by
    unfold barX
    rw [sh_eq, if_neg (by decide)]
    show [124].intercalate (texts g 3 (alts x ++ alts y)) = _
    have ht : texts g 3 (alts x ++ alts y) = texts g 3 (alts x) ++ texts g 3 (alts y) := by unfold texts; rw [List.map_append]
    have ne : ∀ {z : RX}, z.formed = true → texts g 3 (alts z) ≠ [] := fun hz e => alts_ne hz (by unfold texts at e; simpa using e)
    rw [ht, inter_app (ne hx) (ne hy), alts_text hx, alts_text hy]
  rw [e] at h
  exact h
/-- A bracket that is not shut; one that was not opened. -/
theorem prs_open (hg : Gd g) {x : RX} (hm : may x = 0) : prsX (40 :: x.sh g) = .error 2 := by
  obtain ⟨h1, h2, h3⟩ := may_small hm
  obtain ⟨x', hs, hr⟩ := ((bk_all hg x h1).2 12 (by omega)).alt [] (.inl rfl)
  rw [List.append_nil] at hr
  have ha : atomS (inn 13) (40 :: x.sh g) = .error 2 := by
    have e2 : inn 13 (x.sh g) = .ok (x', []) := by
      show altN 12 _ = _
      rw [altN_inn]; exact hr
    simp [atomS, e2]
  have hrp : repS (inn 13) (40 :: x.sh g) = .error 2 := by unfold repS; rw [ha]
  have hct : catS (inn 13) (40 :: x.sh g) = .error 2 := by unfold catS; rw [hrp]
  have hat : altS (inn 13) (40 :: x.sh g) = .error 2 := by unfold altS; rw [hct]
  have hw : wholeS (40 :: x.sh g) = .error 2 := by unfold wholeS; rw [altN_inn, hat]
  unfold prsX
  rw [hw]
theorem prs_shut (hg : Gd g) {x : RX} (hm : may x = 0) : prsX (x.sh g ++ [41]) = .error 2 := by
  obtain ⟨h1, h2, h3⟩ := may_small hm
  obtain ⟨x', hs, hr⟩ := ((bk_all hg x h1).2 13 (by omega)).alt [41] (.inr ⟨[], rfl⟩)
  have hw : wholeS (x.sh g ++ [41]) = .error 2 := by unfold wholeS; rw [altN_inn, hr]
  unfold prsX
  rw [hw]

theorem row_one' {K : Nat → Prop} {w : World} : ∀ {l : List RX} {ys : List Value}, RX.lies.row l K w ys → ∀ u ∈ ys, u.oneCell' = true
  | [], ys, h, u, hu => by rw [RX.lies.row] at h; subst h; cases hu
  | x :: l, ys, h, u, hu => by
    rw [RX.lies.row] at h
    obtain ⟨cs, zs, rfl, h1, h2⟩ := h
    rcases List.mem_append.1 hu with hu | hu
    · obtain ⟨k, p, m⟩ := x
      obtain ⟨a, c, rfl, _⟩ := RX.lies_iff.1 h1
      exact cells6_one _ _ _ _ _ u hu
    · exact row_one' h2 u hu
/-- Many more. -/
theorem Ro.cat {base : Nat} {K : Nat → Prop} {w : World} {v : Value} {l m : List RX} {a : Option Addr} {c : Nat} (h : Ro base K w v l) (hb : base ≤ w.heap.size) (hl : l.length + m.length < 90000) (hK : ∀ j, K j → j < w.heap.size) (hm : Parts m K w a c) :
    ∃ v' W, (Builtin.append_ #[26, 26] 26 #[v, .slice a m.length c]).run Tryd.prog w = .ok v' W ∧ Hid (Ro base K W v' (l ++ m)) ∧ Hid (Mv (fun j => v.ownBlock = some j) w W) ∧ Hid (v'.ownBlock = v.ownBlock ∨ ∃ g, v'.ownBlock = some g ∧ w.heap.size ≤ g) := by
  obtain ⟨ys, h1, h2⟩ := h.ow
  obtain ⟨zs, p1, p2, p3, p4, p5⟩ := hm
  obtain ⟨v', W, hr, hown, hgr, hnb⟩ := append_ow 26 26 28 Tryd.t28 _ 6 64 Tryd.underlying26 info28' zero28 size28' bytes28 rfl (by decide) (by decide) w base v l.length m.length c ys zs a h1 p4 (row_len p5) (row_one' p5) (by omega) (fun e => ⟨by rw [(p3.2 e).1]; rfl, (p3.2 e).2⟩) hb
  have hmv : Mv (fun j => v.ownBlock = some j) w W := Mv.of_grown hgr
  refine ⟨v', W, hr, ⟨⟨ys ++ zs, ?_, ?_⟩, ?_⟩, hmv, hnb⟩
  · rw [List.length_append]; exact hown
  · exact row_append (row_mv hmv (fun j hj e => h.off j hj e) h2) (row_mv hmv (fun j hj e => h.off j hj e) p5)
  · intro j hj e
    rcases hnb with e2 | ⟨g, e2, hg⟩
    · exact h.off j hj (e2.symm.trans e)
    · have hg2 : g = j := by rw [e2] at e; exact Option.some.inj e
      have := hK j hj
      omega

/-- While what is wanted is made: gw its box, v its row; R the row of the two, behind the box. -/
structure Wt (w0 : World) (gw : Nat) (R : Array Value) (wr : World) (v : Value) (acc : List RX) : Prop where
  ro : Ro (gw + 2) (fun j => j < w0.heap.size) wr v acc
  r : B6 gw (.int .i64 3) (.int .u64 0) (.int .u64 0) (.int .u64 0) (.int .u64 0) v wr
  row : wr.heap[gw + 1]? = some (.cells R 28 (0, 0))
  mv : Qt w0 wr
  hg : w0.heap.size ≤ gw
theorem Wt.lt {w0 wr : World} {gw : Nat} {R : Array Value} {v : Value} {acc : List RX} (h : Wt w0 gw R wr v acc) : gw + 2 ≤ wr.heap.size := by
  have := (Array.getElem?_eq_some_iff.1 h.row).1
  omega
theorem Wt.blk {w0 wr : World} {gw : Nat} {R : Array Value} {v : Value} {acc : List RX} (h : Wt w0 gw R wr v acc) : ∀ j, v.ownBlock = some j → gw + 2 ≤ j ∧ j < wr.heap.size := by
  obtain ⟨ys, h1, _⟩ := h.ro.ow
  exact ow_blk h1
theorem Wt.qt {w0 wr wr' : World} {gw : Nat} {R : Array Value} {v : Value} {acc : List RX} (h : Wt w0 gw R wr v acc) (q : Qt wr wr') : Wt w0 gw R wr' v acc :=
  ⟨h.ro.mv q (fun _ _ h => h) (fun _ _ h => h), (B6.mv h.r q (fun h => h)).out, (q.block _ (Array.getElem?_eq_some_iff.1 h.row).1 (fun h => h)).trans h.row, h.mv.comp q, h.hg⟩
theorem Wt.put {w0 wr W : World} {gw : Nat} {R : Array Value} {v v' : Value} {acc acc' : List RX} (h : Wt w0 gw R wr v acc) (hr : Ro (gw + 2) (fun j => j < w0.heap.size) W v' acc') (m : Mv (fun j => v.ownBlock = some j) wr W) : Hid (B6 gw (.int .i64 3) (.int .u64 0) (.int .u64 0) (.int .u64 0) (.int .u64 0) v W) ∧ Hid (Wt w0 gw R (W.setCell ⟨gw, 5, none⟩ v') v' acc') := by
  have hb := h.blk
  have hg := h.hg
  have hR := B6.mv h.r m (fun e => by have := hb gw e; omega)
  have mg := Mv.setCell W ⟨gw, 5, none⟩ v'
  have hv' : ∀ j, v'.ownBlock = some j → gw + 2 ≤ j ∧ j < W.heap.size := by
    obtain ⟨ys, h1, _⟩ := hr.ow
    exact ow_blk h1
  have hrow : W.heap[gw + 1]? = some (.cells R 28 (0, 0)) := (m.block _ (Array.getElem?_eq_some_iff.1 h.row).1 (fun e => by have := hb _ e; omega)).trans h.row
  refine ⟨hR, ⟨hr.mv mg (fun j hj e => by simp at e; omega) (fun j hj e => by have := hv' j hj; simp at e; omega), heap_set hR.out, (mg.block _ (Array.getElem?_eq_some_iff.1 hrow).1 (by simp)).trans hrow, ?_, hg⟩⟩
  exact (h.mv.trans m (fun j hj e => by have := hb j e; omega)).trans mg (fun j hj e => by simp at e; omega)
theorem Wt.new {w0 : World} {R : Array Value} : Hid (Wt w0 w0.heap.size R ((w0.alloc (.cells #[.int .i64 3, .int .u64 0, .int .u64 0, .int .u64 0, .int .u64 0, .slice none 0 0] 28)).alloc (.cells R 28)) (.slice none 0 0) []) := by
  have h := heap_alloc_new (w0.alloc (.cells #[.int .i64 3, .int .u64 0, .int .u64 0, .int .u64 0, .int .u64 0, .slice none 0 0] 28)) (.cells R 28)
  rw [show (w0.alloc (.cells #[.int .i64 3, .int .u64 0, .int .u64 0, .int .u64 0, .int .u64 0, .slice none 0 0] 28)).heap.size = w0.heap.size + 1 from by simp] at h
  exact ⟨⟨⟨[], ow_nil _ _ _ _, rfl⟩, (fun j hj e => nomatch e)⟩, (B6.mv (heap_alloc_new w0 _) (Mv.alloc (fun _ => False) _ _) (fun h => h)).out, h, ((Qt.refl w0).alloc _).alloc _, Nat.le_refl _⟩
/-- All of a part's parts. -/
theorem Wt.cat {w0 wr : World} {gw : Nat} {R : Array Value} {v : Value} {acc m : List RX} {a : Option Addr} {c : Nat} (h : Wt w0 gw R wr v acc) (hl : acc.length + m.length < 90000) (hm : Parts m (fun j => j < w0.heap.size) wr a c) :
    ∃ v' W, (Builtin.append_ #[26, 26] 26 #[v, .slice a m.length c]).run Tryd.prog wr = .ok v' W ∧ (∃ va vc, v' = .slice va (acc ++ m).length vc) ∧ Hid (B6 gw (.int .i64 3) (.int .u64 0) (.int .u64 0) (.int .u64 0) (.int .u64 0) v W) ∧ Hid (Wt w0 gw R (W.setCell ⟨gw, 5, none⟩ v') v' (acc ++ m)) := by
  obtain ⟨v', W, hr, ro, m2, _⟩ := h.ro.cat h.lt hl (fun j hj => Nat.lt_of_lt_of_le hj h.mv.size) hm
  refine ⟨v', W, hr, ?_, h.put ro.out m2.out⟩
  obtain ⟨ys, h1, _⟩ := ro.out.ow
  obtain ⟨va, vc, e, _⟩ := ow_ls h1
  exact ⟨va, vc, e⟩
/-- One part. -/
theorem Wt.one {w0 wr : World} {gw : Nat} {R : Array Value} {v : Value} {acc : List RX} {x : RX} {a : Option Addr} {c : Nat} (h : Wt w0 gw R wr v acc) (hl : acc.length < 90000) (hm : Parts x.args (fun j => j < w0.heap.size) wr a c) :
    ∃ v' W, (Builtin.append_ #[26, 26] 26 #[v, .slice (some ⟨wr.heap.size, 0, none⟩) 1 1]).run Tryd.prog (wr.alloc (.cells #[.int .i64 x.kind, .int .u64 (limb x.set 0), .int .u64 (limb x.set 1), .int .u64 (limb x.set 2), .int .u64 (limb x.set 3), .slice a x.args.length c] 28)) = .ok v' W ∧ (∃ va vc, v' = .slice va (acc ++ [x]).length vc) ∧ Hid (B6 gw (.int .i64 3) (.int .u64 0) (.int .u64 0) (.int .u64 0) (.int .u64 0) v W) ∧ Hid (Wt w0 gw R (W.setCell ⟨gw, 5, none⟩ v') v' (acc ++ [x])) := by
  obtain ⟨v', W, hr, ro, m2, _⟩ := h.ro.push h.lt hl (fun j hj => Nat.lt_of_lt_of_le hj h.mv.size) hm
  refine ⟨v', W, hr, ?_, h.put ro.out m2.out⟩
  obtain ⟨ys, h1, _⟩ := ro.out.ow
  obtain ⟨va, vc, e, _⟩ := ow_ls h1
  exact ⟨va, vc, e⟩
/-- It is made. -/
theorem Wt.tr {w0 wr : World} {gw : Nat} {R : Array Value} {va : Option Addr} {vn vc : Nat} {acc : List RX} (h : Wt w0 gw R wr (.slice va vn vc) acc) (hl : acc.length < 90000) (hT : Tab wr) : Hid (Tr ⟨3, fun _ => false, acc⟩ va vc gw wr) := by
  obtain ⟨a, c, hv, hp, _⟩ := h.ro.sl (by omega)
  obtain ⟨rfl, rfl, rfl⟩ := Value.slice.inj hv
  refine ⟨hp.mono (fun j hj => ?_), ?_, hT⟩
  · rcases hj with hj | hj
    · exact Nat.lt_of_lt_of_le hj h.mv.size
    · exact (h.blk j hj).2
  · have := h.r
    show wr.heap[gw]? = some (.cells #[.int .i64 3, .int .u64 (limb (fun _ => false) 0), .int .u64 (limb (fun _ => false) 1), .int .u64 (limb (fun _ => false) 2), .int .u64 (limb (fun _ => false) 3), .slice va acc.length vc] 28 (0, 0))
    rw [limb_none, limb_none, limb_none, limb_none]
    exact this
theorem Wt.cells {w0 wr : World} {gw : Nat} {u0 u1 u2 u3 u4 u5 u6 u7 u8 u9 u10 u11 v : Value} {acc : List RX} (h : Hid (Wt w0 gw #[u0, u1, u2, u3, u4, u5, u6, u7, u8, u9, u10, u11] wr v acc)) :
    wr.cell? ⟨gw + 1, 0, none⟩ = some u0 ∧ wr.cell? ⟨gw + 1, 1, none⟩ = some u1 ∧ wr.cell? ⟨gw + 1, 2, none⟩ = some u2 ∧ wr.cell? ⟨gw + 1, 3, none⟩ = some u3 ∧ wr.cell? ⟨gw + 1, 4, none⟩ = some u4 ∧ wr.cell? ⟨gw + 1, 5, none⟩ = some u5 ∧ wr.cell? ⟨gw + 1, 6, none⟩ = some u6 ∧ wr.cell? ⟨gw + 1, 7, none⟩ = some u7 ∧ wr.cell? ⟨gw + 1, 8, none⟩ = some u8 ∧ wr.cell? ⟨gw + 1, 9, none⟩ = some u9 ∧ wr.cell? ⟨gw + 1, 10, none⟩ = some u10 ∧ wr.cell? ⟨gw + 1, 11, none⟩ = some u11 := by
  have hr := h.out.row
  refine ⟨?_, ?_, ?_, ?_, ?_, ?_, ?_, ?_, ?_, ?_, ?_, ?_⟩ <;> simp [World.cell?, hr]
def accs (x y : RX) : Nat → List RX
  | 0 => []
  | 1 => alts x
  | _ => alts x ++ alts y
/-- An append whose end is known, in a region that draws. -/
theorem step_given {P : Program} {ops : Array Oper} {o : Oper} {a : Act} {w : World} {K : Act → World → Prop} {Q : Exit → Act → World → Prop} {E : Prop}
    (hg : o.guard = none) (s x : Operand) (t : TypeId) (hop : o.op = Op.call { callee := Callee.builtin Builtin.append, args := #[s, x], argTypes := #[t, t] })
    (sv xv v' : Value) (hs : a.eval s = sv) (hx : a.eval x = xv) (W : World) (hr : (Builtin.append_ #[t, t] o.type #[sv, xv]).run P w = .ok v' W)
    (hK : K (a.put o.dst v') W) : if Region.wanted o (yielded ops a.tmps) = true then Oper.wp P o a w K Q else E := by
  have hw : Region.wanted o (yielded ops a.tmps) = true := by simp [Region.wanted, hg]
  rw [if_pos hw]
  unfold Oper.wp
  simp [execOp, hop, resolve, invoke, builtin, hs, hx, hr, Result.andThen]
  exact hK

end Go.Proofs.YtkclkhfcmjhogaaDoor
