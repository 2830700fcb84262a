/- The reader: a part. -/
import Derived.Test.YtkclkhfcmjhogaaDoorL2
namespace Go.Proofs.YtkclkhfcmjhogaaDoor
open Go.RowKit
set_option linter.unusedVariables false

/-- A new set's block. -/
def zeros : Obj := .cells #[.int .u64 0, .int .u64 0, .int .u64 0, .int .u64 0] 25
def Zr (g : Nat) (w : World) : Prop := w.heap[g]? = some (.cells #[.int .u64 0, .int .u64 0, .int .u64 0, .int .u64 0] 25 (0, 0))
theorem Zr.mv {g : Nat} {w w' : World} {X : Nat → Prop} (h : Hid (Zr g w)) (k : Mv X w w') (hx : ¬ X g) : Hid (Zr g w') := by
  have := (Array.getElem?_eq_some_iff.1 h.out).1
  show w'.heap[g]? = _
  rw [k.block g this hx]; exact h.out
theorem Zr.facts {g : Nat} {w : World} (h : Hid (Zr g w)) : w.cell? ⟨g, 0, none⟩ = some (.int .u64 0) ∧ w.cell? ⟨g, 1, none⟩ = some (.int .u64 0) ∧ w.cell? ⟨g, 2, none⟩ = some (.int .u64 0) ∧ w.cell? ⟨g, 3, none⟩ = some (.int .u64 0) ∧ w.frozen? ⟨g, 0, none⟩ = false ∧ w.frozen? ⟨g, 1, none⟩ = false ∧ w.frozen? ⟨g, 2, none⟩ = false ∧ w.frozen? ⟨g, 3, none⟩ = false := by
  have e : w.heap[g]? = some (.cells #[.int .u64 0, .int .u64 0, .int .u64 0, .int .u64 0] 25 (0, 0)) := h.out
  exact ⟨by simp [World.cell?, e], by simp [World.cell?, e], by simp [World.cell?, e], by simp [World.cell?, e], by simp [World.frozen?, e], by simp [World.frozen?, e], by simp [World.frozen?, e], by simp [World.frozen?, e]⟩
/-- A set stored. -/
abbrev put4 (w : World) (g : Nat) (v0 v1 v2 v3 : Value) : World := (((w.setCell ⟨g, 0, none⟩ v0).setCell ⟨g, 1, none⟩ v1).setCell ⟨g, 2, none⟩ v2).setCell ⟨g, 3, none⟩ v3
theorem put4_heap {w : World} {g : Nat} {c0 c1 c2 c3 : Value} (h : w.heap[g]? = some (.cells #[c0, c1, c2, c3] 25 (0, 0))) (v0 v1 v2 v3 : Value) : (put4 w g v0 v1 v2 v3).heap[g]? = some (.cells #[v0, v1, v2, v3] 25 (0, 0)) :=
  heap_set (heap_set (heap_set (heap_set h)))
theorem put4_mv (w : World) (g : Nat) (v0 v1 v2 v3 : Value) : Mv (fun k => k = g) w (put4 w g v0 v1 v2 v3) :=
  (((Mv.setCell w ⟨g, 0, none⟩ v0).trans (Mv.setCell _ ⟨g, 1, none⟩ v1) (fun _ _ h => h)).trans (Mv.setCell _ ⟨g, 2, none⟩ v2) (fun _ _ h => h)).trans (Mv.setCell _ ⟨g, 3, none⟩ v3) (fun _ _ h => h)
theorem Rd.al {q : Nat} {S : ByteArray} {l : List Nat} {w : World} (h : Hid (Rd q S l w)) (o : Obj) : Hid (Rd q S l (w.alloc o)) := h.out.mv (Mv.alloc (fun _ => False) w o) (fun h => h)
/-- A reader's call out of a function that has laid its result. -/
theorem up1 {q : Nat} {w w' : World} {o : Obj} (h : Hid (Mv (fun k => k = q) (w.alloc o) w')) : Hid (Mv (fun k => k = q) w w') := (Mv.alloc (fun k => k = q) w o).trans h.out (fun _ _ h => h)
theorem ends4 {q : Nat} {S : ByteArray} {l : List Nat} {w w1 w2 : World} {o : Obj} (hq : q < w.heap.size) (m : Hid (Mv (fun k => k = q) (w.alloc o) w1)) (g : Hid (Rd q S l w1)) (k : Hid (Qt w1 w2)) (v0 v1 v2 v3 : Value) : Go1 q S l w (put4 w2 w.heap.size v0 v1 v2 v3) := by
  refine ⟨(g.out.mv k.out (fun h => h)).mv (put4_mv w2 w.heap.size v0 v1 v2 v3) (by omega), ?_⟩
  refine Mv.trans (T := fun k => k = w.heap.size) ((up1 m).out.trans k.out (fun _ _ h => h.elim)) (put4_mv w2 w.heap.size v0 v1 v2 v3) (fun j hj e => by omega)

set_option maxHeartbeats 1000000 in
theorem part_n1 (q : Nat) (S : ByteArray) (l : List Nat) (w : World) (hs : sgn l = none) (R : Hid (Rd q S l w)) :
    Calls Tryd.prog 118 #[.pointer (some ⟨q, 0, none⟩)] w fun e w' => e = .panicked badChain ∧ Hid (Mv (fun k => k = q) w w') := by
  have HQ : Hid (q < w.heap.size) := R.out.lt
  have HS : Hid _ := hs
  clear hs
  go_enter Tryd.func118, Tryd.ntmps118
  go_wp2_with fail
  refine (sign_none HS.out (Rd.al R _)).mono ?_
  rintro e w1 ⟨rfl, g1⟩
  exact ⟨rfl, rfl, up1 g1⟩
set_option maxHeartbeats 1000000 in
theorem part_one (q : Nat) (S : ByteArray) (a : Nat) (l t : List Nat) (w : World) (hs : sgn l = some (a, t)) (ht : skp 45 t = (false, t)) (R : Hid (Rd q S l w)) :
    Calls Tryd.prog 118 #[.pointer (some ⟨q, 0, none⟩)] w fun e w' => e = .returned (sv (btw a a)) ∧ Hid (Go1 q S t w w') := by
  have HQ : Hid (q < w.heap.size) := R.out.lt
  have ha := (sgn_len hs).2
  have hk := fun W R => skip_any q S 45 t W R
  rw [ht] at hk
  clear ht
  have HS : Hid _ := hs
  clear hs
  go_enter Tryd.func118, Tryd.ntmps118
  go_wp2_with fail
  refine (sign_some HS.out (Rd.al R _)).mono ?_
  rintro e w1 ⟨rfl, g1⟩
  go_wp2_with fail
  refine (hk _ g1.out.rd).mono ?_
  rintro e w2 ⟨rfl, g2⟩
  go_wp2_with fail
  refine (must_ok _).mono ?_
  rintro e w2 ⟨rfl, rfl⟩
  go_wp2_with fail
  refine (set_any a a ha ha _).mono ?_
  rintro e w3 ⟨rfl, g3⟩
  rw [sv_cells]
  have M : Hid (Mv (fun k => k = q) (w.alloc zeros) w2) := bad2 (gm g1) (gm g2)
  have Z : Hid (Zr w.heap.size w3) := Zr.mv (Zr.mv (w := w.alloc zeros) (heap_alloc_new w zeros) M.out (fun h => Nat.ne_of_lt HQ.out h.symm)) g3.out (fun h => h)
  obtain ⟨k0, k1, k2, k3, l0, l1, l2, l3⟩ := Zr.facts Z
  go_wp2_with fail
  refine bodyPost_ret (results_cell_row (p := 2) (ty := 25) rfl _ _ w.heap.size 25 _ (0, 0) _ rfl (put4_heap Z.out _ _ _ _) Tryd.underlying25 rfl (by kernel_rfl)) rfl ?_
  exact ⟨rfl, ends4 HQ.out M g2.out.rd g3 _ _ _ _⟩
set_option maxHeartbeats 1000000 in
theorem part_n2 (q : Nat) (S : ByteArray) (a : Nat) (l t t2 : List Nat) (w : World) (hs : sgn l = some (a, t)) (ht : skp 45 t = (true, t2)) (hu : sgn t2 = none) (R : Hid (Rd q S l w)) :
    Calls Tryd.prog 118 #[.pointer (some ⟨q, 0, none⟩)] w fun e w' => e = .panicked badChain ∧ Hid (Mv (fun k => k = q) w w') := by
  have HQ : Hid (q < w.heap.size) := R.out.lt
  have ha := (sgn_len hs).2
  have hk := fun W R => skip_any q S 45 t W R
  rw [ht] at hk
  have HU : Hid _ := hu
  clear ht hu
  have HS : Hid _ := hs
  clear hs
  go_enter Tryd.func118, Tryd.ntmps118
  go_wp2_with fail
  refine (sign_some HS.out (Rd.al R _)).mono ?_
  rintro e w1 ⟨rfl, g1⟩
  go_wp2_with fail
  refine (hk _ g1.out.rd).mono ?_
  rintro e w2 ⟨rfl, g2⟩
  go_wp2_with fail
  refine (sign_none HU.out g2.out.rd).mono ?_
  rintro e w3 ⟨rfl, g3⟩
  exact ⟨rfl, rfl, up1 (bad2 (bad2 (gm g1) (gm g2)) g3)⟩
set_option maxHeartbeats 1000000 in
theorem part_n3 (q : Nat) (S : ByteArray) (a b : Nat) (l t t2 t3 : List Nat) (w : World) (hs : sgn l = some (a, t)) (ht : skp 45 t = (true, t2)) (hu : sgn t2 = some (b, t3)) (hab : ¬ a ≤ b) (R : Hid (Rd q S l w)) :
    Calls Tryd.prog 118 #[.pointer (some ⟨q, 0, none⟩)] w fun e w' => e = .panicked badChain ∧ Hid (Mv (fun k => k = q) w w') := by
  have HQ : Hid (q < w.heap.size) := R.out.lt
  have ha := (sgn_len hs).2
  have hb := (sgn_len hu).2
  have hk := fun W R => skip_any q S 45 t W R
  rw [ht] at hk
  have HU : Hid _ := hu
  clear ht hu
  have HS : Hid _ := hs
  clear hs
  go_enter Tryd.func118, Tryd.ntmps118
  go_wp2_with fail
  refine (sign_some HS.out (Rd.al R _)).mono ?_
  rintro e w1 ⟨rfl, g1⟩
  go_wp2_with fail
  refine (hk _ g1.out.rd).mono ?_
  rintro e w2 ⟨rfl, g2⟩
  go_wp2_with fail
  refine (sign_some HU.out g2.out.rd).mono ?_
  rintro e w3 ⟨rfl, g3⟩
  go_wp2_with fail
  refine (must_bad _).mono ?_
  rintro e w4 ⟨rfl, rfl⟩
  exact ⟨rfl, rfl, up1 (bad2 (bad2 (gm g1) (gm g2)) (gm g3))⟩
set_option maxHeartbeats 1000000 in
theorem part_two (q : Nat) (S : ByteArray) (a b : Nat) (l t t2 t3 : List Nat) (w : World) (hs : sgn l = some (a, t)) (ht : skp 45 t = (true, t2)) (hu : sgn t2 = some (b, t3)) (hab : a ≤ b) (R : Hid (Rd q S l w)) :
    Calls Tryd.prog 118 #[.pointer (some ⟨q, 0, none⟩)] w fun e w' => e = .returned (sv (btw a b)) ∧ Hid (Go1 q S t3 w w') := by
  have HQ : Hid (q < w.heap.size) := R.out.lt
  have ha := (sgn_len hs).2
  have hb := (sgn_len hu).2
  have hk := fun W R => skip_any q S 45 t W R
  rw [ht] at hk
  have HU : Hid _ := hu
  clear ht hu
  have HS : Hid _ := hs
  clear hs
  go_enter Tryd.func118, Tryd.ntmps118
  go_wp2_with fail
  refine (sign_some HS.out (Rd.al R _)).mono ?_
  rintro e w1 ⟨rfl, g1⟩
  go_wp2_with fail
  refine (hk _ g1.out.rd).mono ?_
  rintro e w2 ⟨rfl, g2⟩
  go_wp2_with fail
  refine (sign_some HU.out g2.out.rd).mono ?_
  rintro e w3 ⟨rfl, g3⟩
  go_wp2_with fail
  refine (must_ok _).mono ?_
  rintro e w3 ⟨rfl, rfl⟩
  go_wp2_with fail
  refine (set_any a b ha hb _).mono ?_
  rintro e w4 ⟨rfl, g4⟩
  rw [sv_cells]
  have M : Hid (Mv (fun k => k = q) (w.alloc zeros) w3) := bad2 (bad2 (gm g1) (gm g2)) (gm g3)
  have Z : Hid (Zr w.heap.size w4) := Zr.mv (Zr.mv (w := w.alloc zeros) (heap_alloc_new w zeros) M.out (fun h => Nat.ne_of_lt HQ.out h.symm)) g4.out (fun h => h)
  obtain ⟨k0, k1, k2, k3, l0, l1, l2, l3⟩ := Zr.facts Z
  go_wp2_with fail
  refine bodyPost_ret (results_cell_row (p := 2) (ty := 25) rfl _ _ w.heap.size 25 _ (0, 0) _ rfl (put4_heap Z.out _ _ _ _) Tryd.underlying25 rfl (by kernel_rfl)) rfl ?_
  exact ⟨rfl, ends4 HQ.out M g3.out.rd g4 _ _ _ _⟩

theorem part_some {q : Nat} {S : ByteArray} {l t : List Nat} {a b : Nat} {w : World} (h : prt l = some ((a, b), t)) (R : Hid (Rd q S l w)) : Calls Tryd.prog 118 #[.pointer (some ⟨q, 0, none⟩)] w fun e w' => e = .returned (sv (btw a b)) ∧ Hid (Go1 q S t w w') := by
  unfold prt at h
  split at h
  · cases h
  · rename_i a' t' hs
    match t', hs, h with
    | [], hs, h =>
      simp [prt2] at h
      obtain ⟨⟨rfl, rfl⟩, rfl⟩ := h
      exact part_one q S a' l [] w hs rfl R
    | c :: u, hs, h =>
      by_cases hc : c = 45
      · subst hc
        rw [prt2, if_pos rfl] at h
        split at h
        · cases h
        · rename_i b' t2 hu
          split at h
          · rename_i hab
            simp at h
            obtain ⟨⟨rfl, rfl⟩, rfl⟩ := h
            exact part_two q S a' b' l _ u t2 w hs (by simp [skp]) hu hab R
          · cases h
      · rw [prt2, if_neg hc] at h
        simp at h
        obtain ⟨⟨rfl, rfl⟩, rfl⟩ := h
        exact part_one q S a' l _ w hs (by simp [skp, hc]) R
theorem part_none {q : Nat} {S : ByteArray} {l : List Nat} {w : World} (h : prt l = none) (R : Hid (Rd q S l w)) : Calls Tryd.prog 118 #[.pointer (some ⟨q, 0, none⟩)] w fun e w' => e = .panicked badChain ∧ Hid (Mv (fun k => k = q) w w') := by
  unfold prt at h
  split at h
  · rename_i hs
    exact part_n1 q S l w hs R
  · rename_i a' t' hs
    match t', hs, h with
    | [], hs, h => simp [prt2] at h
    | c :: u, hs, h =>
      by_cases hc : c = 45
      · subst hc
        rw [prt2, if_pos rfl] at h
        split at h
        · rename_i hu
          exact part_n2 q S a' l _ u w hs (by simp [skp]) hu R
        · rename_i b' t2 hu
          split at h
          · cases h
          · rename_i hab
            exact part_n3 q S a' b' l _ u t2 w hs (by simp [skp]) hu hab R
      · rw [prt2, if_neg hc] at h
        cases h

end Go.Proofs.YtkclkhfcmjhogaaDoor
