/- The reference: Class, without brackets. -/
import Derived.Test.YtkclkhfcmjhogaaDoorR4
namespace Go.Proofs.YtkclkhfcmjhogaaDoor
open Go.RowKit
set_option linter.unusedVariables false
set_option linter.unusedSimpArgs false

theorem resA (tmps : Array Value) (w : World) (g : Nat) (v0 v1 v2 v3 x y : Value) (h0 : tmps.getD 2 undef = .pointer (some ⟨g, 0, none⟩)) (h1 : tmps.getD 3 undef = x) (h2 : tmps.getD 4 undef = y)
    (hg : w.heap[g]? = some (.cells #[v0, v1, v2, v3] 25 (0, 0))) :
    (results Tryd.f100 tmps).run Tryd.prog w = .ok (.tuple #[.agg #[v0, v1, v2, v3], x, y]) w := by
  have h0' : tmps[2]?.getD undef = .pointer (some ⟨g, 0, none⟩) := by simpa using h0
  have h1' : tmps[3]?.getD undef = x := by simpa using h1
  have h2' : tmps[4]?.getD undef = y := by simpa using h2
  have e0 : w.cell? ⟨g, 0, none⟩ = some v0 := by simp [World.cell?, hg]
  have e1 : w.cell? ⟨g, 1, none⟩ = some v1 := by simp [World.cell?, hg]
  have e2 : w.cell? ⟨g, 2, none⟩ = some v2 := by simp [World.cell?, hg]
  have e3 : w.cell? ⟨g, 3, none⟩ = some v3 := by simp [World.cell?, hg]
  simp [results, Tryd.results100, h0', h1', h2', asAddr, go_sem, e0, e1, e2, e3]

/-- What a class's reading comes to. -/
def ptv (S : ByteArray) (o : Option ((Nat → Bool) × List Nat)) : Value := match o with
  | none => .tuple #[.agg #[.int .u64 0, .int .u64 0, .int .u64 0, .int .u64 0], .int .i64 0, .int .i64 2]
  | some (p, t) => .tuple #[.agg #[.int .u64 (limb p 0), .int .u64 (limb p 1), .int .u64 (limb p 2), .int .u64 (limb p 3)], .int .i64 ((S.size - t.length : Nat) : Int), .int .i64 0]
theorem rnot_zero (w : World) : Calls Tryd.prog 55 #[.agg #[.int .u64 0, .int .u64 0, .int .u64 0, .int .u64 0]] w fun e w' => e = .returned (sv (fun _ => true)) ∧ Hid (Qt w w') := by
  have h := rnot_any (fun _ => false) w
  rw [limb_none, limb_none, limb_none, limb_none] at h
  exact h
theorem sl1r {w : World} {a : Nat} : Sl (w.alloc (.cells #[.int .u8 (a : Int)] 5)) (some ⟨w.heap.size, 0, none⟩) 1 (Bn (fun _ => a)) := by
  intro i hi
  obtain rfl : i = 0 := by omega
  exact ⟨_, _, rfl, by simp, by simp [Bn]⟩
theorem rof_one (a : Nat) (ha : a < 256) (w : World) : Calls Tryd.prog 28 #[.slice (some ⟨w.heap.size, 0, none⟩) 1 1] (w.alloc (.cells #[.int .u8 (a : Int)] 5)) fun e w' => e = .returned (sv (btw a a)) ∧ Hid (Qt (w.alloc (.cells #[.int .u8 (a : Int)] 5)) w') := by
  have h := rof_f (some ⟨w.heap.size, 0, none⟩) 1 1 (fun _ => a) (w.alloc (.cells #[.int .u8 (a : Int)] 5)) sl1r (fun _ _ => ha) (by omega)
  rw [sv_like (q := btw a a) (fun b _ => by unfold btw ofl; rw [Bool.eq_iff_iff]; simp; omega)] at h
  exact h
/-- Behind the last store. -/
theorem Qt.put {w W : World} (h : Hid (Qt w W)) (v0 v1 v2 v3 : Value) : Hid (Qt w (put4 W w.heap.size v0 v1 v2 v3)) := Mv.trans h.out (put4_mv W w.heap.size v0 v1 v2 v3) (fun j hj e => by omega)

set_option maxRecDepth 20000 in
set_option maxHeartbeats 2000000 in
theorem rclass_dot (S : ByteArray) (t : List Nat) (F : Hid (Sf S 0 (46 :: t))) (hs : S.size < 1000000) (w : World) :
    Calls Tryd.prog 100 #[.string S] w fun e w' => e = .returned (ptv S (some (fun _ => true, t))) ∧ Hid (Qt w w') := by
  obtain ⟨ic, _⟩ := F.out.at
  have ic2 : ∀ w, (Instr.index 9 (.string S) (.int .i64 0)).run Tryd.prog w = .ok (.int .u8 46) w := ic
  have hz := F.out.size
  simp only [List.length_cons] at hz
  have HF : Hid ((1 : Int) = ((S.size - t.length : Nat) : Int)) := by show _ = _; omega
  have g0 : (0 : Int) < (S.size : Int) := by omega
  clear ic hz
  go_enter Tryd.func100, Tryd.ntmps100
  go_wp2_with fail
  refine (rnot_zero _).mono ?_
  rintro e w1 ⟨rfl, q1⟩
  rw [sv_cells]
  have Z : Hid (Zr w.heap.size w1) := Zr.mv (w := w.alloc zeros) (heap_alloc_new w zeros) q1.out (fun h => h)
  obtain ⟨k0, k1, k2, k3, l0, l1, l2, l3⟩ := Zr.facts Z
  have Q : Hid (Qt w w1) := ((Qt.refl w).alloc _).comp q1.out
  go_wp2_with fail
  refine bodyPost_ret (resA _ _ w.heap.size _ _ _ _ _ _ rfl rfl rfl (put4_heap Z.out _ _ _ _)) rfl ?_
  refine ⟨?_, Qt.put Q _ _ _ _⟩
  unfold ptv
  simp only
  rw [← HF.out]
  rfl

/-- The text opens neither with a point nor with a bracket. -/
def Plain (S : ByteArray) (l : List Nat) : Prop := l = [] ∨ ∃ c t, l = c :: t ∧ c ≠ 46 ∧ c ≠ 91
set_option maxRecDepth 20000 in
set_option maxHeartbeats 2000000 in
theorem rclass_e (S : ByteArray) (F : Hid (Sf S 0 [])) (hs : S.size < 1000000) (w : World) :
    Calls Tryd.prog 100 #[.string S] w fun e w' => e = .returned (ptv S none) ∧ Hid (Qt w w') := by
  have hz := F.out.size
  simp only [List.length_nil] at hz
  have hS : (S.size : Int) = 0 := by omega
  have hR : ∀ w, Calls Tryd.prog 107 #[.string S, .int .i64 0] w fun e w' => e = .returned (.tuple #[.int .u8 0, .int .i64 (-1)]) ∧ Hid (Qt w w') := fun w => rsign_any S 0 [] w F hs
  clear hz
  go_enter Tryd.func100, Tryd.ntmps100
  go_wp2_with fail
  refine (hR _).mono ?_
  rintro e w1 ⟨rfl, q1⟩
  have Z : Hid (Zr w.heap.size w1) := Zr.mv (w := w.alloc zeros) (heap_alloc_new w zeros) q1.out (fun h => h)
  obtain ⟨k0, k1, k2, k3, l0, l1, l2, l3⟩ := Zr.facts Z
  have Q : Hid (Qt w w1) := ((Qt.refl w).alloc _).comp q1.out
  go_wp2_with fail
  refine bodyPost_ret (resA _ _ w.heap.size _ _ _ _ _ _ rfl rfl rfl (put4_heap Z.out _ _ _ _)) rfl ?_
  exact ⟨rfl, Qt.put Q _ _ _ _⟩
set_option maxRecDepth 20000 in
set_option maxHeartbeats 2000000 in
theorem rclass_sn (S : ByteArray) (c : Nat) (t : List Nat) (h46 : c ≠ 46) (h91 : c ≠ 91) (hn : sgn (c :: t) = none) (F : Hid (Sf S 0 (c :: t))) (hs : S.size < 1000000) (w : World) :
    Calls Tryd.prog 100 #[.string S] w fun e w' => e = .returned (ptv S none) ∧ Hid (Qt w w') := by
  obtain ⟨ic, hc⟩ := F.out.at
  have ic2 : ∀ w, (Instr.index 9 (.string S) (.int .i64 0)).run Tryd.prog w = .ok (.int .u8 (c : Int)) w := ic
  have hz := F.out.size
  simp only [List.length_cons] at hz
  have g0 : (0 : Int) < (S.size : Int) := by omega
  have g1 : ((S.size : Int) == 0) = false := beq_eq_false_iff_ne.2 (by omega)
  have g2 : ((c : Int) == 46) = false := by simp; omega
  have g3 : ((c : Int) != 91) = true := by have h : ((c : Int) == 91) = false := (by simp; omega); rw [bne, h]; rfl
  have hR := fun w => rsign_any S 0 (c :: t) w F hs
  rw [hn] at hR
  have hR2 : ∀ w, Calls Tryd.prog 107 #[.string S, .int .i64 0] w fun e w' => e = .returned (.tuple #[.int .u8 0, .int .i64 (-1)]) ∧ Hid (Qt w w') := hR
  clear ic hz hR hn
  go_enter Tryd.func100, Tryd.ntmps100
  go_wp2_with fail
  refine (hR2 _).mono ?_
  rintro e w1 ⟨rfl, q1⟩
  have Z : Hid (Zr w.heap.size w1) := Zr.mv (w := w.alloc zeros) (heap_alloc_new w zeros) q1.out (fun h => h)
  obtain ⟨k0, k1, k2, k3, l0, l1, l2, l3⟩ := Zr.facts Z
  have Q : Hid (Qt w w1) := ((Qt.refl w).alloc _).comp q1.out
  go_wp2_with fail
  refine bodyPost_ret (resA _ _ w.heap.size _ _ _ _ _ _ rfl rfl rfl (put4_heap Z.out _ _ _ _)) rfl ?_
  exact ⟨rfl, Qt.put Q _ _ _ _⟩
set_option maxRecDepth 20000 in
set_option maxHeartbeats 2000000 in
theorem rclass_ss (S : ByteArray) (c a : Nat) (t u : List Nat) (h46 : c ≠ 46) (h91 : c ≠ 91) (hn : sgn (c :: t) = some (a, u)) (F : Hid (Sf S 0 (c :: t))) (hs : S.size < 1000000) (w : World) :
    Calls Tryd.prog 100 #[.string S] w fun e w' => e = .returned (ptv S (some (btw a a, u))) ∧ Hid (Qt w w') := by
  obtain ⟨ic, hc⟩ := F.out.at
  have ic2 : ∀ w, (Instr.index 9 (.string S) (.int .i64 0)).run Tryd.prog w = .ok (.int .u8 (c : Int)) w := ic
  have hz := F.out.size
  have hl := sgn_len hn
  simp only [List.length_cons] at hz hl
  have g0 : (0 : Int) < (S.size : Int) := by omega
  have g1 : ((S.size : Int) == 0) = false := beq_eq_false_iff_ne.2 (by omega)
  have g2 : ((c : Int) == 46) = false := by simp; omega
  have g3 : ((c : Int) != 91) = true := by have h : ((c : Int) == 91) = false := (by simp; omega); rw [bne, h]; rfl
  have hR := fun w => rsign_any S 0 (c :: t) w F hs
  rw [hn] at hR
  have hR2 : ∀ w, Calls Tryd.prog 107 #[.string S, .int .i64 0] w fun e w' => e = .returned (.tuple #[.int .u8 (a : Int), .int .i64 ((S.size - u.length : Nat) : Int)]) ∧ Hid (Qt w w') := hR
  have ha := hl.2
  have HN : Hid (S.size - u.length = S.size - u.length) := rfl
  clear ic hz hR hn hl
  unfold ptv
  simp only
  generalize S.size - u.length = n at *
  go_enter Tryd.func100, Tryd.ntmps100
  go_wp2_with fail
  refine (hR2 _).mono ?_
  rintro e w1 ⟨rfl, q1⟩
  go_wp2_with fail
  refine (rof_one a ha w1).mono ?_
  rintro e w2 ⟨rfl, q2⟩
  rw [sv_cells]
  have Z : Hid (Zr w.heap.size w2) := Zr.mv (Zr.mv (Zr.mv (w := w.alloc zeros) (heap_alloc_new w zeros) q1.out (fun h => h)) (Mv.alloc (fun _ => False) _ _) (fun h => h)) q2.out (fun h => h)
  obtain ⟨k0, k1, k2, k3, l0, l1, l2, l3⟩ := Zr.facts Z
  have Q : Hid (Qt w w2) := ((((Qt.refl w).alloc _).comp q1.out).alloc _).comp q2.out
  go_wp2_with fail
  refine bodyPost_ret (resA _ _ w.heap.size _ _ _ _ _ _ rfl rfl rfl (put4_heap Z.out _ _ _ _)) rfl ?_
  exact ⟨rfl, Qt.put Q _ _ _ _⟩

end Go.Proofs.YtkclkhfcmjhogaaDoor
