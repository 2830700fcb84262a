/- The reader: a class. -/
import Derived.Test.YtkclkhfcmjhogaaDoorL4
namespace Go.Proofs.YtkclkhfcmjhogaaDoor
open Go.RowKit
set_option linter.unusedVariables false

theorem sv_none : sv (fun _ => false) = .agg #[.int .u64 0, .int .u64 0, .int .u64 0, .int .u64 0] := by
  rw [sv_cells, limb_none, limb_none, limb_none, limb_none]; rfl
theorem not_none (w : World) : Calls Tryd.prog 74 #[.agg #[.int .u64 0, .int .u64 0, .int .u64 0, .int .u64 0]] w fun e w' => e = .returned (sv (fun _ => true)) ∧ Hid (Qt w w') := by
  rw [← sv_none]
  exact not_any (fun _ => false) w

set_option maxHeartbeats 2000000 in
theorem class_any (q : Nat) (S : ByteArray) (l : List Nat) (w : World) (R : Hid (Rd q S l w)) :
    Calls Tryd.prog 110 #[.pointer (some ⟨q, 0, none⟩)] w fun e w' => Cl q S w (cls0 l) e w' := by
  have HQ : Hid (q < w.heap.size) := R.out.lt
  have Z0 : Hid (Zr w.heap.size (w.alloc zeros)) := heap_alloc_new w zeros
  match l, R with
  | [], R =>
    go_enter Tryd.func110, Tryd.ntmps110
    go_wp2_with fail
    refine (skip_end q S 46 _ (Rd.al R _).out).mono ?_
    rintro e w1 ⟨rfl, g1⟩
    go_wp2_with fail
    refine (skip_end q S 91 _ g1.out.rd).mono ?_
    rintro e w2 ⟨rfl, g2⟩
    go_wp2_with fail
    refine (sign_none (l := []) rfl g2.out.rd).mono ?_
    rintro e w3 ⟨rfl, g3⟩
    exact ⟨rfl, rfl, up1 (bad2 (bad2 (gm g1) (gm g2)) g3)⟩
  | c :: l, R =>
    by_cases h46 : c = 46
    · subst h46
      rw [cls0, if_pos rfl]
      go_enter Tryd.func110, Tryd.ntmps110
      go_wp2_with fail
      refine (skip_yes q S 46 l _ (Rd.al R _).out).mono ?_
      rintro e w1 ⟨rfl, g1⟩
      go_wp2_with fail
      refine (not_none _).mono ?_
      rintro e w2 ⟨rfl, g2⟩
      rw [sv_cells]
      have M : Hid (Mv (fun k => k = q) (w.alloc zeros) w1) := gm g1
      have Z : Hid (Zr w.heap.size w2) := Zr.mv (Zr.mv Z0 M.out (fun h => Nat.ne_of_lt HQ.out h.symm)) g2.out (fun h => h)
      obtain ⟨k0, k1, k2, k3, l0, l1, l2, l3⟩ := Zr.facts Z
      go_wp2_with fail
      refine bodyPost_ret (results_cell_row (p := 2) (ty := 25) rfl _ _ w.heap.size 25 _ (0, 0) _ rfl (put4_heap Z.out _ _ _ _) Tryd.underlying25 rfl (by kernel_rfl)) rfl ?_
      exact ⟨rfl, ends4 HQ.out M g1.out.rd g2 _ _ _ _⟩
    · by_cases h91 : c = 91
      · subst h91
        have hb := fun W R => brackets_any q S l W R
        rw [cls0, if_neg h46, if_pos rfl]
        obtain ⟨o, ho⟩ : ∃ o, o = bks l := ⟨_, rfl⟩
        rw [← ho] at hb
        rw [← ho]
        clear ho
        cases o with
        | none =>
          go_enter Tryd.func110, Tryd.ntmps110
          go_wp2_with fail
          refine (skip_no q S 46 91 l _ (by decide) (Rd.al R _).out).mono ?_
          rintro e w1 ⟨rfl, g1⟩
          go_wp2_with fail
          refine (skip_yes q S 91 l _ g1.out.rd).mono ?_
          rintro e w2 ⟨rfl, g2⟩
          go_wp2_with fail
          refine (hb _ g2.out.rd).mono ?_
          rintro e w3 ⟨rfl, g3⟩
          exact ⟨rfl, rfl, up1 (bad2 (bad2 (gm g1) (gm g2)) g3)⟩
        | some r =>
          obtain ⟨p, t⟩ := r
          go_enter Tryd.func110, Tryd.ntmps110
          go_wp2_with fail
          refine (skip_no q S 46 91 l _ (by decide) (Rd.al R _).out).mono ?_
          rintro e w1 ⟨rfl, g1⟩
          go_wp2_with fail
          refine (skip_yes q S 91 l _ g1.out.rd).mono ?_
          rintro e w2 ⟨rfl, g2⟩
          go_wp2_with fail
          refine (hb _ g2.out.rd).mono ?_
          rintro e w3 ⟨rfl, g3⟩
          have g4 : Hid (Qt w3 w3) := Qt.refl w3
          rw [sv_cells]
          have M : Hid (Mv (fun k => k = q) (w.alloc zeros) w3) := bad2 (bad2 (gm g1) (gm g2)) (gm g3)
          have Z : Hid (Zr w.heap.size w3) := Zr.mv (Zr.mv Z0 M.out (fun h => Nat.ne_of_lt HQ.out h.symm)) g4.out (fun h => h)
          obtain ⟨k0, k1, k2, k3, l0, l1, l2, l3⟩ := Zr.facts Z
          go_wp2_with fail
          refine bodyPost_ret (results_cell_row (p := 2) (ty := 25) rfl _ _ w.heap.size 25 _ (0, 0) _ rfl (put4_heap Z.out _ _ _ _) Tryd.underlying25 rfl (by kernel_rfl)) rfl ?_
          exact ⟨rfl, ends4 HQ.out M g3.out.rd g4 _ _ _ _⟩
      · rw [cls0, if_neg h46, if_neg h91]
        cases hs : sgn (c :: l) with
        | none =>
          have HS : Hid _ := hs
          clear hs
          go_enter Tryd.func110, Tryd.ntmps110
          go_wp2_with fail
          refine (skip_no q S 46 c l _ h46 (Rd.al R _).out).mono ?_
          rintro e w1 ⟨rfl, g1⟩
          go_wp2_with fail
          refine (skip_no q S 91 c l _ h91 g1.out.rd).mono ?_
          rintro e w2 ⟨rfl, g2⟩
          go_wp2_with fail
          refine (sign_none HS.out g2.out.rd).mono ?_
          rintro e w3 ⟨rfl, g3⟩
          exact ⟨rfl, rfl, up1 (bad2 (bad2 (gm g1) (gm g2)) g3)⟩
        | some r =>
          obtain ⟨a, t⟩ := r
          have ha := (sgn_len hs).2
          have HS : Hid _ := hs
          clear hs
          go_enter Tryd.func110, Tryd.ntmps110
          go_wp2_with fail
          refine (skip_no q S 46 c l _ h46 (Rd.al R _).out).mono ?_
          rintro e w1 ⟨rfl, g1⟩
          go_wp2_with fail
          refine (skip_no q S 91 c l _ h91 g1.out.rd).mono ?_
          rintro e w2 ⟨rfl, g2⟩
          go_wp2_with fail
          refine (sign_some HS.out g2.out.rd).mono ?_
          rintro e w3 ⟨rfl, g3⟩
          go_wp2_with fail
          refine (set_any a a ha ha _).mono ?_
          rintro e w4 ⟨rfl, g4⟩
          rw [sv_cells]
          have M : Hid (Mv (fun k => k = q) (w.alloc zeros) w3) := bad2 (bad2 (gm g1) (gm g2)) (gm g3)
          have Z : Hid (Zr w.heap.size w4) := Zr.mv (Zr.mv Z0 M.out (fun h => Nat.ne_of_lt HQ.out h.symm)) g4.out (fun h => h)
          obtain ⟨k0, k1, k2, k3, l0, l1, l2, l3⟩ := Zr.facts Z
          go_wp2_with fail
          refine bodyPost_ret (results_cell_row (p := 2) (ty := 25) rfl _ _ w.heap.size 25 _ (0, 0) _ rfl (put4_heap Z.out _ _ _ _) Tryd.underlying25 rfl (by kernel_rfl)) rfl ?_
          exact ⟨rfl, ends4 HQ.out M g3.out.rd g4 _ _ _ _⟩

end Go.Proofs.YtkclkhfcmjhogaaDoor
