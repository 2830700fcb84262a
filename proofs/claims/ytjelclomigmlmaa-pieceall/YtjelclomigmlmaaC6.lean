/- A list of pieces in two, within a piece. -/
import Derived.Test.YtjelclomigmlmaaC5
namespace Go.Proofs.Ytjelclomigmlmaa
open Go.RowKit

theorem wrap_small {x : Int} (h1 : -1000000 ≤ x) (h2 : x ≤ 1000000) : IntKind.i64.wrap x = x := by
  simp [IntKind.wrap, IntKind.signed, IntKind.bits]
  omega

set_option maxHeartbeats 4000000 in
theorem split_cut (sa : Option Addr) (sc : Nat) (ps : List Pc) (at' : Nat) (w : World) (h : Hid (Li w sa sc ps)) (F : Hid (Fit ps)) (hl : ps.length < 40000) (hat : at' < 1000000) (h0 : (plc ps at').2 ≠ 0) :
    Calls Try.prog 28 #[.slice sa ps.length sc, .int .i64 at'] w fun e w' => ∃ v, e = .returned v ∧ Hid (Told2 w w' sa (spl ps) at' ps.length v) := by
  have PC := place_any sa sc ps at' w h.out.ls F (by omega) hat
  obtain ⟨p, e1, e2, e3, e4⟩ := (plc_split ps at' (fit_le F.out)).2 h0
  have ho := (plc_le ps at').2
  generalize (plc ps at').1 = i at PC e1 e3 e4
  generalize (plc ps at').2 = o at PC e2 e3 e4 h0 ho
  have hil : i < ps.length := (List.getElem?_eq_some_iff.1 e1).1
  obtain ⟨b, off, rfl, hb, c0, c1, c2⟩ := ls_get h.out.ls e1
  have ft := F.out p (List.mem_of_getElem? e1)
  obtain ⟨a, f, t⟩ := p
  simp only at c0 c1 c2 ft e2 e3 e4
  obtain ⟨p1, k1, r1, L1', -⟩ := slice_to w _ sc ps h.out i (by omega)
  obtain ⟨p2, k2, r2, L2', -⟩ := slice_from w _ sc ps h.out (i + 1) (by omega)
  have L1 : Hid (Li w p1 k1 (ps.take i)) := L1'
  have L2 : Hid (Li w p2 k2 (ps.drop (i + 1))) := L2'
  clear L1' L2'
  have r2' : ∀ w, (Instr.slice 41 (.slice (some ⟨b, off, none⟩) ps.length sc) (some (.int .i64 ((i : Int) + 1))) none none).run Try.prog w = .ok (.slice p2 (ps.length - (i + 1)) k2) w := by
    intro w; have := r2 w; rw [show ((i + 1 : Nat) : Int) = (i : Int) + 1 by omega] at this; exact this
  clear r2
  have FIN : Hid (∀ W v1 v2, Qt w W → Op3 W w.heap.size v1 (ps.take i ++ [⟨a, f, f + o⟩]) → Op3 W w.heap.size v2 (⟨a, f + o, t⟩ :: ps.drop (i + 1)) → Told2 w W (some ⟨b, off, none⟩) (spl ps) at' ps.length (.tuple #[v1, v2])) := by
    intro W v1 v2 q o1 o2
    obtain ⟨a1, k1, rfl, l1, n1, z1, g1⟩ := ow_ls o1
    obtain ⟨a2, k2, rfl, l2, n2, z2, g2⟩ := ow_ls o2
    refine ⟨a1, k1, _, a2, k2, _, rfl, ⟨l1, n1, z1⟩, ⟨l2, n2, z2⟩, ?_, ?_, e3, e4, ?_, ?_, q, fun q e => .inr (ow_blk o1 _ (g1 q e)).1, fun q e => .inr (ow_blk o2 _ (g2 q e)).1⟩
    · intro p hp
      rcases List.mem_append.1 hp with h1 | h1
      · exact F.out p (List.mem_of_mem_take h1)
      · simp at h1
        subst h1
        exact ⟨by show f ≤ f + o; omega, by show f + o < _; omega⟩
    · intro p hp
      rcases List.mem_cons.1 hp with h1 | h1
      · subst h1
        exact ⟨by show f + o ≤ t; omega, ft.2⟩
      · exact F.out p (List.mem_of_mem_drop h1)
    · rw [List.length_append, List.length_take]; simp; omega
    · rw [List.length_cons, List.length_drop]; omega
  have N1 : Hid ((ps.take i).length = i) := by show _ = _; rw [List.length_take]; omega
  have N2 : Hid ((ps.drop (i + 1)).length = ps.length - (i + 1)) := by show _ = _; rw [List.length_drop]
  have hof : f < 1000000 := by omega
  have hoo : o < 1000000 := by omega
  have hoz : ((o : Int) == 0) = false := by simp; omega
  have hfo : Hid (f + o ≤ t ∧ t < 1000000) := by show _ ∧ _; omega
  clear e1 e3 e4 e2 ho ft h0 hat
  generalize hn : ps.length = n at *
  have hilz : (i : Int) < (n : Int) := by omega
  have hil1 : (i : Int) + 1 ≤ (n : Int) := by omega
  clear hn
  have hwr : IntKind.i64.wrap ((i : Int) + 1) = (i : Int) + 1 := wrap_small (by omega) (by omega)
  go_enter Try.func28, Try.ntmps28
  go_wp2_with fail
  refine PC.mono ?_
  rintro e w1 ⟨rfl, q1⟩
  have d0 := q1.out.cell c0 (fun h => h)
  have d1 := q1.out.cell c1 (fun h => h)
  have d2 := q1.out.cell c2 (fun h => h)
  clear c0 c1 c2 PC
  go_wp2_with fail
  refine (cut_any a f t o w1 hof hoo).mono ?_
  rintro e w2 ⟨rfl, q2⟩
  have Q2 : Hid (Qt w w2) := q1.out.comp q2.out
  clear d0 d1 d2 q1 q2
  go_wp2_with fail
  obtain ⟨W3, hW3⟩ : ∃ W3, W3 = ((w2.alloc (.cells #[.bool a, .int .i64 f, .int .i64 ((f : Int) + o)] 50)).alloc (.cells #[.bool a, .int .i64 ((f : Int) + o), .int .i64 t] 50)) := ⟨_, rfl⟩
  have BA : Hid (Below W3.heap.size W3 ((w2.alloc (.cells #[.bool a, .int .i64 f, .int .i64 ((f : Int) + o)] 50)).alloc (.cells #[.bool a, .int .i64 ((f : Int) + o), .int .i64 t] 50))) := by rw [← hW3]; exact Below.refl _ _
  have LE : Hid (W3.heap.size ≤ ((w2.alloc (.cells #[.bool a, .int .i64 f, .int .i64 ((f : Int) + o)] 50)).alloc (.cells #[.bool a, .int .i64 ((f : Int) + o), .int .i64 t] 50)).heap.size) := BA.out.size
  have q3 : Qt w2 W3 := by rw [hW3]; exact Qt.two _ _ _
  have Q3 : Hid (Qt w W3) := Q2.out.comp q3
  have SA : Hid (Ls W3 p1 (cellsP (ps.take i))) := L1.out.ls.qt Q3.out
  have NA : Hid (p1 = none → (ps.take i).length = 0 ∧ k1 = 0) := L1.out.none
  have SB : Hid (Ls W3 p2 (cellsP (ps.drop (i + 1)))) := L2.out.ls.qt Q3.out
  have NB : Hid (p2 = none → (ps.drop (i + 1)).length = 0 ∧ k2 = 0) := L2.out.none
  have lbL : w2.heap.size < W3.heap.size := by rw [hW3]; simp; omega
  have lbR : w2.heap.size + 1 < W3.heap.size := by rw [hW3]; simp
  have kk : ∀ j v, (#[.bool a, .int .i64 f, .int .i64 ((f : Int) + o)] : Array Value)[j]? = some v → W3.cell? ⟨w2.heap.size, j, none⟩ = some v := by
    intro j v hj; rw [hW3]; exact (Mv.alloc (fun _ => False) _ _).cell (alloc_new w2 _ 50 j v hj).1 (fun h => h)
  have rk : ∀ j v, (#[.bool a, .int .i64 ((f : Int) + o), .int .i64 t] : Array Value)[j]? = some v → W3.cell? ⟨w2.heap.size + 1, j, none⟩ = some v := by
    intro j v hj; rw [hW3]
    have := (alloc_new (w2.alloc (.cells #[.bool a, .int .i64 f, .int .i64 ((f : Int) + o)] 50)) _ 50 j v hj).1
    simp only [World.size_alloc] at this
    exact this
  have k0 : Hid _ := kk 0 _ rfl
  have k1' : Hid _ := kk 1 _ rfl
  have k2' : Hid _ := kk 2 _ rfl
  have r0 : Hid _ := rk 0 _ rfl
  have r1'' : Hid _ := rk 1 _ rfl
  have r2'' : Hid _ := rk 2 _ rfl
  clear kk rk hW3 q3
  go_region_held3 (fun w' => w'.cell? ⟨w2.heap.size, 0, none⟩ = some (.bool a) ∧ w'.cell? ⟨w2.heap.size, 1, none⟩ = some (.int .i64 f) ∧ w'.cell? ⟨w2.heap.size, 2, none⟩ = some (.int .i64 ((f : Int) + o))) (first | go_keep | exact ⟨(bel2.cell (p := ⟨w2.heap.size, 0, none⟩) lbL).trans k0.out, (bel2.cell (p := ⟨w2.heap.size, 1, none⟩) lbL).trans k1'.out, (bel2.cell (p := ⟨w2.heap.size, 2, none⟩) lbL).trans k2'.out⟩ | exact ⟨(bel1.cell (p := ⟨w2.heap.size, 0, none⟩) lbL).trans k0.out, (bel1.cell (p := ⟨w2.heap.size, 1, none⟩) lbL).trans k1'.out, (bel1.cell (p := ⟨w2.heap.size, 2, none⟩) lbL).trans k2'.out⟩)
    ((first
      | (refine step_append_pc (by rfl) (.tmp 33) (.tmp 36) (by rfl) W3.heap.size W3 (.slice none 0 0) [] p1 i k1 (ps.take i) (by rfl) (by rfl) N1.out.symm (ow_nil _ _ _ _) (SA.out.below (by first | exact BA.out.drew | exact (BA.out.alloc LE.out _).drew | exact BA.out | exact (BA.out.alloc LE.out _))) (by have := N1.out; simp only [List.length_nil]; omega) NA.out (by first | exact BA.out.drew | exact (BA.out.alloc LE.out _).drew | exact BA.out | exact (BA.out.alloc LE.out _)) (Nat.le_refl _) ?_; intro v1 W1 own1 gr1 bel1)
      | (refine step_append_pc (by rfl) (.tmp 37) (.tmp 39) (by rfl) W3.heap.size W3 v1 ([] ++ ps.take i) (some ⟨_, 0, none⟩) 1 1 [⟨a, f, f + o⟩] (by rfl) (by rfl) rfl (by first | exact own1 | exact (Mv.alloc (fun _ => False) _ _).owns own1 (fun _ _ h => h)) (by first | exact ls_one _ _ _ _ _ _ _ (by simp) rfl (by simp) | exact Ls.grown (ls_one_drew _ _ _ _ _ _ _ (by simp) rfl (by simp)) gr1 (by intro p hp; cases hp; simp [Value.ownBlock])) (by have := N1.out; simp only [List.nil_append, List.length_cons, List.length_nil]; omega) (fun h => by cases h) (by first | exact bel1 | exact bel1.alloc bel1.size _) (Nat.le_refl _) ?_; intro v2 W2 own2 gr2 bel2)))
  all_goals (clear own1 gr1 bel1 gr2)
  all_goals (have e0 := (bel2.cell (p := ⟨w2.heap.size + 1, 0, none⟩) lbR).trans r0.out)
  all_goals (have e1 := (bel2.cell (p := ⟨w2.heap.size + 1, 1, none⟩) lbR).trans r1''.out)
  all_goals (have e2 := (bel2.cell (p := ⟨w2.heap.size + 1, 2, none⟩) lbR).trans r2''.out)
  all_goals (have B0 : Below W2.heap.size W2 W2 := Below.refl _ _)
  all_goals (have lb2 : w2.heap.size + 1 < W2.heap.size := Nat.lt_of_lt_of_le lbR bel2.size)
  all_goals (have SB2 : Hid (Ls W2 p2 (cellsP (ps.drop (i + 1)))) := SB.out.below bel2)
  all_goals (have Q4 : Hid (Qt w W2) := Q3.out.comp ((Mv.of_below bel2).mono (fun j hj hh => by omega)))
  all_goals (have FIN2 : Hid (∀ W v, Below W2.heap.size W2 W → Op3 W W2.heap.size v ([] ++ [⟨a, f + o, t⟩] ++ ps.drop (i + 1)) → Told2 w W (some ⟨b, off, none⟩) (spl ps) at' n (.tuple #[v2, v])) := fun W v hb ho => FIN.out W v2 v (Q4.out.comp ((Mv.of_below hb).mono (fun j hj hh => by omega))) (ow_mono (base := W3.heap.size) (by
      have := (Mv.of_below hb).owns own2 (fun j hj hh => by have := (ow_blk own2 j hj).2; omega)
      exact this) (fun j hj => Nat.le_trans Q3.out.size (ow_blk own2 j hj).1)) (ow_mono ho (fun j hj => Nat.le_trans Q4.out.size (ow_blk ho j hj).1)))
  all_goals (clear own2 bel2 BA LE SA SB)
  all_goals (go_wp2_with fail)
  all_goals (go_region_held3 (fun w' => w'.cell? ⟨w2.heap.size + 1, 0, none⟩ = some (.bool a) ∧ w'.cell? ⟨w2.heap.size + 1, 1, none⟩ = some (.int .i64 ((f : Int) + o)) ∧ w'.cell? ⟨w2.heap.size + 1, 2, none⟩ = some (.int .i64 t)) (first | go_keep | exact ⟨(bel4.cell (p := ⟨w2.heap.size + 1, 0, none⟩) lb2).trans e0, (bel4.cell (p := ⟨w2.heap.size + 1, 1, none⟩) lb2).trans e1, (bel4.cell (p := ⟨w2.heap.size + 1, 2, none⟩) lb2).trans e2⟩ | exact ⟨(bel3.cell (p := ⟨w2.heap.size + 1, 0, none⟩) lb2).trans e0, (bel3.cell (p := ⟨w2.heap.size + 1, 1, none⟩) lb2).trans e1, (bel3.cell (p := ⟨w2.heap.size + 1, 2, none⟩) lb2).trans e2⟩)
    ((first
      | (refine step_append_pc (by rfl) (.tmp 41) (.tmp 43) (by rfl) W2.heap.size W2 (.slice none 0 0) [] (some ⟨_, 0, none⟩) 1 1 [⟨a, f + o, t⟩] (by rfl) (by rfl) rfl (ow_nil _ _ _ _) (by first | exact ls_one _ _ _ _ _ _ _ (by simp) (by simp) rfl | exact ls_one_drew _ _ _ _ _ _ _ (by simp) (by simp) rfl) (by simp) (fun h => by cases h) (by first | exact B0.drew | exact (B0.alloc (Nat.le_refl _) _).drew | exact B0 | exact (B0.alloc (Nat.le_refl _) _)) (Nat.le_refl _) ?_; intro v3 W5 own3 gr3 bel3)
      | (refine step_append_pc (by rfl) (.tmp 44) (.tmp 48) (by rfl) W2.heap.size W2 v3 ([] ++ [⟨a, f + o, t⟩]) p2 (n - (i + 1)) k2 (ps.drop (i + 1)) (by rfl) (by rfl) N2.out.symm own3 (SB2.out.below bel3) (by have := N2.out; simp only [List.nil_append, List.length_cons, List.length_nil]; omega) NB.out bel3 (Nat.le_refl _) ?_; intro v4 W6 own4 gr4 bel4))))
  all_goals (go_wp2_with fail)
  all_goals (go_ret2; exact ⟨_, rfl, FIN2.out _ _ bel4 own4⟩)

theorem split_any (sa : Option Addr) (sc : Nat) (ps : List Pc) (at' : Nat) (w : World) (h : Hid (Li w sa sc ps)) (F : Hid (Fit ps)) (hl : ps.length < 40000) (hat : at' < 1000000) :
    Calls Try.prog 28 #[.slice sa ps.length sc, .int .i64 at'] w fun e w' => ∃ v, e = .returned v ∧ Hid (Told2 w w' sa (spl ps) at' ps.length v) := by
  by_cases h0 : (plc ps at').2 = 0
  · exact split_whole sa sc ps at' w h F hl hat h0
  · exact split_cut sa sc ps at' w h F hl hat h0
end Go.Proofs.Ytjelclomigmlmaa
