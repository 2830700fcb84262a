/- One piece more: put. -/
import Derived.Test.YtjelclomigmlmaaC1
import Derived.Deep.RegionWith
import Derived.Deep.RegionHeld3
namespace Go.Proofs.Ytjelclomigmlmaa
open Go.RowKit

theorem info50 : Try.prog.info? 50 = some Try.t50 := by kernel_rfl

/-- A row of pieces of its own. -/
abbrev Op3 (w : World) (base : Nat) (v : Value) (ps : List Pc) : Prop := w.ownsRow base 50 3 v ps.length (cellsP ps)

theorem append_pc (ty : TypeId) (w : World) (base : Nat) (v : Value) (ps qs : List Pc) (s : Option Addr) (c : Nat) (h : Op3 w base v ps) (hs : Ls w s (cellsP qs)) (hn : ps.length + qs.length < 100000) (hnone : s = none → qs.length = 0 ∧ c = 0) (hb : base ≤ w.heap.size) :
    ∃ v' W, (Builtin.append_ #[41, 41] ty #[v, .slice s qs.length c]).run Try.prog w = .ok v' W ∧ Op3 W base v' (ps ++ qs) ∧ w.grownBy W v.ownBlock ∧ (v'.ownBlock = v.ownBlock ∨ ∃ g, v'.ownBlock = some g ∧ w.heap.size ≤ g) := by
  obtain ⟨v', W, h1, h2, h3⟩ := append_ow 41 ty 50 Try.t50 (.agg #[.bool false, .int .i64 0, .int .i64 0]) 3 24 Try.underlying41 info50 (by kernel_rfl) (by kernel_rfl) (by kernel_rfl) (by rfl) (by omega) (by omega) w base v ps.length qs.length c (cellsP ps) (cellsP qs) s h hs (cellsP_length qs) (cellsP_one qs) hn hnone hb
  refine ⟨v', W, h1, ?_, h3⟩
  rw [← cellsP_append, ← List.length_append] at h2
  exact h2

/-- What put leaves. -/
def PutLeft (w w' : World) (base : Nat) (v v' : Value) (qs : List Pc) : Prop := Op3 w' base v' qs ∧ Mv (fun k => v.ownBlock = some k) w w' ∧ (v'.ownBlock = v.ownBlock ∨ ∃ g, v'.ownBlock = some g ∧ w.heap.size ≤ g)

set_option maxHeartbeats 1000000 in
theorem put_none (v : Value) (base : Nat) (ps : List Pc) (a : Bool) (f : Nat) (w : World) (h : Hid (Op3 w base v ps)) (hb : f < 1000000) :
    Calls Try.prog 34 #[v, .agg #[.bool a, .int .i64 f, .int .i64 f]] w fun e w' => ∃ v', e = .returned v' ∧ Hid (PutLeft w w' base v v' ps) := by
  obtain ⟨s, c, rfl, _⟩ := ow_ls h.out
  have hz : ((f - f : Nat) : Int) = 0 := by omega
  have Z : Hid _ := hz
  clear hz
  go_enter Try.func34, Try.ntmps34
  go_wp2_with fail
  refine (size_any a f f _ (Nat.le_refl _) hb).mono ?_
  rintro e w1 ⟨rfl, q1⟩
  rw [Z.out]
  go_wp2_with fail
  go_ret
  have Q : Qt w w1 := ((Qt.refl w).alloc _).comp q1.out
  exact ⟨_, rfl, Q.owns h.out (fun _ _ h => h), Q.mono (fun _ _ h => h.elim), .inl rfl⟩

theorem op3_last {w : World} {base : Nat} {v : Value} {l : List Pc} {q : Pc} (h : Op3 w base v (l ++ [q])) : ∃ g c, v = .slice (some ⟨g, 0, none⟩) (l.length + 1) c ∧ w.cell? ⟨g, l.length * 3, none⟩ = some (.bool q.ad) ∧ w.cell? ⟨g, l.length * 3 + 1, none⟩ = some (.int .i64 q.fr) ∧ w.cell? ⟨g, l.length * 3 + 2, none⟩ = some (.int .i64 q.to) ∧ w.frozen? ⟨g, l.length * 3 + 2, none⟩ = false := by
  have h' := h
  rcases h.2 with ⟨_, h0⟩ | ⟨g, cap, cur, rfl, _, hg, hnc, _⟩
  · simp at h0
  · have hc := cellsP_get (l ++ [q]) l.length q (by simp)
    have hl : (l ++ [q]).length = l.length + 1 := by simp
    have fr : w.frozen? ⟨g, l.length * 3 + 2, none⟩ = false := World.ownsRow.frozenAt h' _
    refine ⟨g, cap, by rw [hl], ?_, ?_, ?_, fr⟩
    · rw [h'.cellAt _ (by rw [hl]; omega)]; exact hc.1
    · rw [h'.cellAt _ (by rw [hl]; omega)]; exact hc.2.1
    · rw [h'.cellAt _ (by rw [hl]; omega)]; exact hc.2.2

theorem cells_ext (l : List Pc) (a : Bool) (f t u : Nat) : (cellsP (l ++ [⟨a, f, t⟩])).set (l.length * 3 + 2) (.int .i64 u) = cellsP (l ++ [⟨a, f, u⟩]) := by
  rw [cellsP_append, cellsP_append, List.set_append_right _ _ (by rw [cellsP_length]; omega), cellsP_length, show l.length * 3 + 2 - l.length * 3 = 2 by omega]
  rfl

set_option maxHeartbeats 1000000 in
theorem put_touch (v : Value) (base : Nat) (l : List Pc) (a : Bool) (f t u : Nat) (w : World) (h : Hid (Op3 w base v (l ++ [⟨a, f, t⟩]))) (hb : u < 1000000) (hl : l.length < 100000) (hu : t < u) :
    Calls Try.prog 34 #[v, .agg #[.bool a, .int .i64 t, .int .i64 u]] w fun e w' => ∃ v', e = .returned v' ∧ Hid (PutLeft w w' base v v' (l ++ [⟨a, f, u⟩])) := by
  obtain ⟨g, c, rfl, c0, c1, c2, fz⟩ := op3_last h.out
  generalize hn : l.length = n at *
  have N : Hid _ := hn
  clear hn
  have hz : ((u - t : Nat) : Int) ≠ 0 := by omega
  have hi : (n : Int) < (n : Int) + 1 := by omega
  have hi0 : (0 : Int) ≤ (n : Int) := by omega
  have hz' : (((u - t : Nat) : Int) == 0) = false := by simp; omega
  clear hz
  simp only at c0 c1 c2
  go_enter Try.func34, Try.ntmps34
  go_wp2_with fail
  refine (size_any a t u _ (by omega) hb).mono ?_
  rintro e w1 ⟨rfl, q1⟩
  have Q : Hid (Qt w w1) := ((Qt.refl w).alloc _).comp q1.out
  go_wp2_with fail
  have d0 := Q.out.cell c0 (fun h => h)
  have d1 := Q.out.cell c1 (fun h => h)
  have d2 := Q.out.cell c2 (fun h => h)
  have b0 := q1.out.cell (alloc_new w #[.bool a, .int .i64 t, .int .i64 u] 50 0 _ rfl).1 (fun h => h)
  have b1 := q1.out.cell (alloc_new w #[.bool a, .int .i64 t, .int .i64 u] 50 1 _ rfl).1 (fun h => h)
  have b2 := q1.out.cell (alloc_new w #[.bool a, .int .i64 t, .int .i64 u] 50 2 _ rfl).1 (fun h => h)
  clear c0 c1 c2
  go_region_held3 (fun w' => w'.cell? ⟨g, n * 3, none⟩ = some (.bool a) ∧ w'.cell? ⟨g, n * 3 + 1, none⟩ = some (.int .i64 f) ∧ w'.cell? ⟨g, n * 3 + 2, none⟩ = some (.int .i64 t) ∧ w'.cell? ⟨w.heap.size, 0, none⟩ = some (.bool a) ∧ w'.cell? ⟨w.heap.size, 1, none⟩ = some (.int .i64 t) ∧ w'.cell? ⟨w.heap.size, 2, none⟩ = some (.int .i64 u)) (first | go_keep | (exact ⟨q2.out.cell d0 (fun h => h), q2.out.cell d1 (fun h => h), q2.out.cell d2 (fun h => h), q2.out.cell b0 (fun h => h), q2.out.cell b1 (fun h => h), q2.out.cell b2 (fun h => h)⟩))
    ((first
      | (go_at_call 36; refine (touch_yes a f t u _).mono ?_; rintro e w2 ⟨rfl, q2⟩)))
  have fz2 : w2.frozen? ⟨g, n * 3 + 2, none⟩ = false := by
    have hg := World.block_lt_of_cell? _ _ d0
    rw [q2.out.frozen (p := ⟨g, n * 3 + 2, none⟩) hg (fun h => h)]
    show w1.frozen? _ = _
    rw [Q.out.frozen (p := ⟨g, n * 3 + 2, none⟩) (ow_blk h.out g rfl).2 (fun h => h)]; exact fz
  have Q2 : Hid (Qt w w2) := (Q.out.comp (Mv.drewN _ w1 1)).comp q2.out
  have e0 := q2.out.cell d2 (fun h => h)
  have e2 := q2.out.cell b2 (fun h => h)
  go_wp2_with fail
  go_ret
  refine ⟨_, rfl, ?_, ?_, .inl rfl⟩
  · have h2 := Q2.out.owns h.out (fun _ _ h => h)
    have e : (l ++ [⟨a, f, u⟩] : List Pc).length = n + 1 := by rw [List.length_append, N.out]; rfl
    have e' : (l ++ [⟨a, f, t⟩] : List Pc).length = n + 1 := by rw [List.length_append, N.out]; rfl
    rw [e'] at h2
    have h3 := (World.ownsRow.stored h2 (n * 3 + 2) (.int .i64 u)).1
    show World.ownsRow _ base 50 3 _ _ _
    rw [e, ← cells_ext l a f t u, N.out]
    exact h3
  · exact (Q2.out.mono (fun _ _ h => h.elim)).trans (Mv.setCell w2 ⟨g, n * 3 + 2, none⟩ (.int .i64 u)) (fun j _ h => by simp [Value.ownBlock, h])

/-- What append makes of one piece more. -/
theorem append_one (w1 : World) (base : Nat) (v : Value) (ps : List Pc) (a : Bool) (f t : Nat) (h : Op3 w1 base v ps) (hl : ps.length < 90000) (hb : base ≤ w1.heap.size) :
    ∃ v' W, (Builtin.append_ #[41, 41] 41 #[v, .slice (some ⟨w1.heap.size, 0, none⟩) 1 1]).run Try.prog (w1.alloc (.cells #[.bool a, .int .i64 f, .int .i64 t] 50)).drew = .ok v' W ∧ PutLeft w1 W base v v' (ps ++ [⟨a, f, t⟩]) := by
  have q : Qt w1 (w1.alloc (.cells #[.bool a, .int .i64 f, .int .i64 t] 50)).drew := ((Qt.refl w1).alloc _).comp (Mv.drewN _ _ 1)
  have hs : Ls (w1.alloc (.cells #[.bool a, .int .i64 f, .int .i64 t] 50)).drew (some ⟨w1.heap.size, 0, none⟩) (cellsP [⟨a, f, t⟩]) := (Ls.new w1 #[.bool a, .int .i64 f, .int .i64 t] 50).qt (Mv.drewN _ _ 1)
  obtain ⟨v', W, h1, h2, h3, h4⟩ := append_pc 41 _ base v ps [⟨a, f, t⟩] (some ⟨w1.heap.size, 0, none⟩) 1 (q.owns h (fun _ _ h => h)) hs (by simp; omega) (fun e => by cases e) (Nat.le_trans hb q.size)
  refine ⟨v', W, h1, h2, (q.mono (fun _ _ h => h.elim)).trans (Mv.of_grown h3) (fun _ _ h => h), ?_⟩
  rcases h4 with h4 | ⟨g, h4, h5⟩
  · exact .inl h4
  · exact .inr ⟨g, h4, Nat.le_trans q.size h5⟩
theorem append_two (w1 : World) (base : Nat) (v : Value) (ps : List Pc) (a : Bool) (f t : Nat) (h : Op3 w1 base v ps) (hl : ps.length < 90000) (hb : base ≤ w1.heap.size) :
    ∃ v' W, (Builtin.append_ #[41, 41] 41 #[v, .slice (some ⟨w1.heap.size, 0, none⟩) 1 1]).run Try.prog (w1.alloc (.cells #[.bool a, .int .i64 f, .int .i64 t] 50)) = .ok v' W ∧ PutLeft w1 W base v v' (ps ++ [⟨a, f, t⟩]) := by
  have q : Qt w1 (w1.alloc (.cells #[.bool a, .int .i64 f, .int .i64 t] 50)) := (Qt.refl w1).alloc _
  have hs : Ls (w1.alloc (.cells #[.bool a, .int .i64 f, .int .i64 t] 50)) (some ⟨w1.heap.size, 0, none⟩) (cellsP [⟨a, f, t⟩]) := (Ls.new w1 #[.bool a, .int .i64 f, .int .i64 t] 50)
  obtain ⟨v', W, h1, h2, h3, h4⟩ := append_pc 41 _ base v ps [⟨a, f, t⟩] (some ⟨w1.heap.size, 0, none⟩) 1 (q.owns h (fun _ _ h => h)) hs (by simp; omega) (fun e => by cases e) (Nat.le_trans hb q.size)
  refine ⟨v', W, h1, h2, (q.mono (fun _ _ h => h.elim)).trans (Mv.of_grown h3) (fun _ _ h => h), ?_⟩
  rcases h4 with h4 | ⟨g, h4, h5⟩
  · exact .inl h4
  · exact .inr ⟨g, h4, Nat.le_trans q.size h5⟩
theorem PutLeft.from {w w1 W : World} {base : Nat} {v v' : Value} {qs : List Pc} (q : Qt w w1) (h : PutLeft w1 W base v v' qs) : PutLeft w W base v v' qs := by
  refine ⟨h.1, (q.mono (fun _ _ h => h.elim)).trans h.2.1 (fun _ _ h => h), ?_⟩
  rcases h.2.2 with h4 | ⟨g, h4, h5⟩
  · exact .inl h4
  · exact .inr ⟨g, h4, Nat.le_trans q.size h5⟩

set_option maxHeartbeats 1000000 in
theorem put_first (a : Bool) (f t : Nat) (base : Nat) (w : World) (hb : t < 1000000) (hu : f < t) (hbase : base ≤ w.heap.size) :
    Calls Try.prog 34 #[.slice none 0 0, .agg #[.bool a, .int .i64 f, .int .i64 t]] w fun e w' => ∃ v', e = .returned v' ∧ Hid (PutLeft w w' base (.slice none 0 0) v' [⟨a, f, t⟩]) := by
  have hz' : (((t - f : Nat) : Int) == 0) = false := by simp; omega
  go_enter Try.func34, Try.ntmps34
  go_wp2_with fail
  refine (size_any a f t _ (by omega) hb).mono ?_
  rintro e w1 ⟨rfl, q1⟩
  have Q : Hid (Qt w w1) := ((Qt.refl w).alloc _).comp q1.out
  have b0 := q1.out.cell (alloc_new w #[.bool a, .int .i64 f, .int .i64 t] 50 0 _ rfl).1 (fun h => h)
  have b1 := q1.out.cell (alloc_new w #[.bool a, .int .i64 f, .int .i64 t] 50 1 _ rfl).1 (fun h => h)
  have b2 := q1.out.cell (alloc_new w #[.bool a, .int .i64 f, .int .i64 t] 50 2 _ rfl).1 (fun h => h)
  obtain ⟨v', W, hr, hp⟩ := append_one w1 base (.slice none 0 0) [] a f t (ow_nil _ _ _ _) (by simp) (Nat.le_trans hbase Q.out.size)
  have P : Hid _ := hp
  clear hp
  go_wp2_with fail
  go_region
  all_goals (go_wp2_with (at_builtin; first | (refine wpList_append_given rfl _ _ 41 rfl _ _ _ W rfl rfl hr ?_)))
  all_goals (go_ret; exact ⟨v', rfl, PutLeft.from Q.out P.out⟩)

set_option maxHeartbeats 1000000 in
theorem put_zero (g c : Nat) (a : Bool) (f t : Nat) (base : Nat) (w : World) (h : Hid (Op3 w base (.slice (some ⟨g, 0, none⟩) 0 c) [])) (hb : t < 1000000) (hu : f < t) (hbase : base ≤ w.heap.size) :
    Calls Try.prog 34 #[.slice (some ⟨g, 0, none⟩) 0 c, .agg #[.bool a, .int .i64 f, .int .i64 t]] w fun e w' => ∃ v', e = .returned v' ∧ Hid (PutLeft w w' base (.slice (some ⟨g, 0, none⟩) 0 c) v' [⟨a, f, t⟩]) := by
  have hz' : (((t - f : Nat) : Int) == 0) = false := by simp; omega
  go_enter Try.func34, Try.ntmps34
  go_wp2_with fail
  refine (size_any a f t _ (by omega) hb).mono ?_
  rintro e w1 ⟨rfl, q1⟩
  have Q : Hid (Qt w w1) := ((Qt.refl w).alloc _).comp q1.out
  have b0 := q1.out.cell (alloc_new w #[.bool a, .int .i64 f, .int .i64 t] 50 0 _ rfl).1 (fun h => h)
  have b1 := q1.out.cell (alloc_new w #[.bool a, .int .i64 f, .int .i64 t] 50 1 _ rfl).1 (fun h => h)
  have b2 := q1.out.cell (alloc_new w #[.bool a, .int .i64 f, .int .i64 t] 50 2 _ rfl).1 (fun h => h)
  obtain ⟨v', W, hr, hp⟩ := append_one w1 base (.slice (some ⟨g, 0, none⟩) 0 c) [] a f t (Q.out.owns h.out (fun _ _ h => h)) (by simp) (Nat.le_trans hbase Q.out.size)
  have P : Hid _ := hp
  clear hp
  go_wp2_with fail
  go_region
  all_goals (go_wp2_with (at_builtin; first | (refine wpList_append_given rfl _ _ 41 rfl _ _ _ W rfl rfl hr ?_)))
  all_goals (go_ret; exact ⟨v', rfl, PutLeft.from Q.out P.out⟩)

set_option maxHeartbeats 1000000 in
theorem put_app (v : Value) (base : Nat) (l : List Pc) (a a' : Bool) (f t f' t' : Nat) (w : World) (h : Hid (Op3 w base v (l ++ [⟨a', f', t'⟩]))) (hno : ¬ (a' = a ∧ t' = f)) (hb : t < 1000000) (hl : l.length < 80000) (hu : f < t) (hbase : base ≤ w.heap.size) :
    Calls Try.prog 34 #[v, .agg #[.bool a, .int .i64 f, .int .i64 t]] w fun e w' => ∃ v', e = .returned v' ∧ Hid (PutLeft w w' base v v' (l ++ [⟨a', f', t'⟩] ++ [⟨a, f, t⟩])) := by
  obtain ⟨g, c, rfl, c0, c1, c2, fz⟩ := op3_last h.out
  clear fz
  generalize hn : l.length = n at *
  have N : Hid _ := hn
  clear hn
  have hz' : (((t - f : Nat) : Int) == 0) = false := by simp; omega
  have hi : (n : Int) < (n : Int) + 1 := by omega
  have hi0 : (0 : Int) ≤ (n : Int) := by omega
  have NO : Hid _ := hno
  clear hno
  simp only at c0 c1 c2
  go_enter Try.func34, Try.ntmps34
  go_wp2_with fail
  refine (size_any a f t _ (by omega) hb).mono ?_
  rintro e w1 ⟨rfl, q1⟩
  have Q : Hid (Qt w w1) := ((Qt.refl w).alloc _).comp q1.out
  have d0 := Q.out.cell c0 (fun h => h)
  have d1 := Q.out.cell c1 (fun h => h)
  have d2 := Q.out.cell c2 (fun h => h)
  have b0 := q1.out.cell (alloc_new w #[.bool a, .int .i64 f, .int .i64 t] 50 0 _ rfl).1 (fun h => h)
  have b1 := q1.out.cell (alloc_new w #[.bool a, .int .i64 f, .int .i64 t] 50 1 _ rfl).1 (fun h => h)
  have b2 := q1.out.cell (alloc_new w #[.bool a, .int .i64 f, .int .i64 t] 50 2 _ rfl).1 (fun h => h)
  clear c0 c1 c2
  go_wp2_with fail
  go_region_held3 (fun w' => w'.cell? ⟨g, n * 3, none⟩ = some (.bool a') ∧ w'.cell? ⟨g, n * 3 + 1, none⟩ = some (.int .i64 f') ∧ w'.cell? ⟨g, n * 3 + 2, none⟩ = some (.int .i64 t') ∧ w'.cell? ⟨w.heap.size, 0, none⟩ = some (.bool a) ∧ w'.cell? ⟨w.heap.size, 1, none⟩ = some (.int .i64 f) ∧ w'.cell? ⟨w.heap.size, 2, none⟩ = some (.int .i64 t)) (first | go_keep | (exact ⟨q2.out.cell d0 (fun h => h), q2.out.cell d1 (fun h => h), q2.out.cell d2 (fun h => h), q2.out.cell b0 (fun h => h), q2.out.cell b1 (fun h => h), q2.out.cell b2 (fun h => h)⟩))
    ((first
      | (go_at_call 36; refine (touch_no a' a f' t' f t _ NO.out).mono ?_; rintro e w2 ⟨rfl, q2⟩)))
  have Q2 : Hid (Qt w w2) := (Q.out.comp (Mv.drewN _ w1 1)).comp q2.out
  have e0 := q2.out.cell b0 (fun h => h)
  have e1 := q2.out.cell b1 (fun h => h)
  have e2 := q2.out.cell b2 (fun h => h)
  have hL : (l ++ [⟨a', f', t'⟩] : List Pc).length = n + 1 := by rw [List.length_append, N.out]; rfl
  obtain ⟨v', W, hr, hp⟩ := append_two w2 base _ _ a f t (Q2.out.owns h.out (fun _ _ h => h)) (by rw [hL]; omega) (Nat.le_trans hbase Q2.out.size)
  have P : Hid _ := hp
  clear hp hL
  go_wp2_with (at_builtin; first | (refine wpList_append_given rfl _ _ 41 rfl _ _ _ W rfl rfl hr ?_))
  go_ret
  exact ⟨v', rfl, PutLeft.from Q2.out P.out⟩

theorem put_any (v : Value) (base : Nat) (ps : List Pc) (p : Pc) (w : World) (h : Hid (Op3 w base v ps)) (hb : p.to < 1000000) (hl : ps.length < 80000) (hle : p.fr ≤ p.to) (hbase : base ≤ w.heap.size) :
    Calls Try.prog 34 #[v, .agg #[.bool p.ad, .int .i64 p.fr, .int .i64 p.to]] w fun e w' => ∃ v', e = .returned v' ∧ Hid (PutLeft w w' base v v' (putP ps p)) := by
  obtain ⟨a, f, t⟩ := p
  simp only at hb hle
  by_cases e : t = f
  · subst e
    rw [putP_none _ _ rfl]
    exact put_none v base ps a t w h hb
  · rcases last_cases ps with rfl | ⟨l, ⟨a', f', t'⟩, rfl⟩
    · rw [putP_nil _ e]
      have hv : v = .slice none 0 0 ∨ ∃ g c, v = .slice (some ⟨g, 0, none⟩) 0 c := by
        rcases h.out.2 with ⟨rfl, _⟩ | ⟨g, c, cur, rfl, _⟩
        · exact .inl rfl
        · exact .inr ⟨g, c, rfl⟩
      rcases hv with rfl | ⟨g, c, rfl⟩
      · exact put_first a f t base w hb (by omega) hbase
      · exact put_zero g c a f t base w h hb (by omega) hbase
    · rw [putP_snoc _ _ _ e]
      by_cases c : a' = a ∧ t' = f
      · rw [if_pos c]
        obtain ⟨rfl, rfl⟩ := c
        exact put_touch v base l a' f' t' t w h hb (by rw [List.length_append] at hl; simp at hl; omega) (by omega)
      · rw [if_neg c]
        exact put_app v base l a a' f t f' t' w h c hb (by rw [List.length_append] at hl; simp at hl; omega) (by omega) hbase
end Go.Proofs.Ytjelclomigmlmaa
