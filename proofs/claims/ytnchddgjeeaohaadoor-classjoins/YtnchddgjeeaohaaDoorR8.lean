/- The reference: list, And, Or. -/
import Derived.Test.YtnchddgjeeaohaaDoorR3
namespace Go.Proofs.YtnchddgjeeaohaaDoor
open Go.RowKit
set_option linter.unusedVariables false

/-- What list tells. -/
def Lt (p : Nat → Bool) (w : World) (e : Ending) (w' : World) : Prop := ∃ v, e = .returned v ∧ Ol w' w.heap.size v (upl p 256) ∧ Qt w w'
set_option maxRecDepth 20000 in
set_option maxHeartbeats 4000000 in
theorem rlist_any (p : Nat → Bool) (w : World) : Calls Tryd.prog 33 #[.agg #[.int .u64 (limb p 0), .int .u64 (limb p 1), .int .u64 (limb p 2), .int .u64 (limb p 3)]] w fun e w' => Lt p w e w' := by
  go_enter Tryd.func33, Tryd.ntmps33
  go_wp2_with fail
  have HB : Hid (Bk w.heap.size p (w.alloc (.cells #[.int .u64 (limb p 0), .int .u64 (limb p 1), .int .u64 (limb p 2), .int .u64 (limb p 3)] 25))) := heap_alloc_new _ _
  have HS : Hid (w.heap.size + 1 ≤ (w.alloc (.cells #[.int .u64 (limb p 0), .int .u64 (limb p 1), .int .u64 (limb p 2), .int .u64 (limb p 3)] 25)).heap.size) := by show _ ≤ _; simp
  have HQ : Hid (Qt w (w.alloc (.cells #[.int .u64 (limb p 0), .int .u64 (limb p 1), .int .u64 (limb p 2), .int .u64 (limb p 3)] 25))) := (Qt.refl w).alloc _
  generalize w.alloc (.cells #[.int .u64 (limb p 0), .int .u64 (limb p 1), .int .u64 (limb p 2), .int .u64 (limb p 3)] 25) = W0 at *
  go_loopw [3, 4] (fun s3 s4 wr => ∃ i : Nat, i ≤ 256 ∧ s4 = .int .i64 i ∧ Hid (Rn W0 wr (w.heap.size + 1) s3 (upl p i))) (fun _ s4 _ => 256 - (intOf s4).toNat)
  case atStart => exact ⟨0, by omega, rfl, (Ol.nil _ _).out, Mv.refl _ _⟩
  case round =>
    obtain ⟨i, hi, rfl, B⟩ := hrel
    obtain ⟨v, hv⟩ : ∃ v, v = u3 := ⟨_, rfl⟩
    subst hv
    by_cases hlt : i < 256
    · obtain ⟨k0, k1, k2, k3, _⟩ := Bk.facts (Rn.bk B HB (by omega))
      have wz : IntKind.u8.wrap (i : Int) = (i : Int) := by rw [IntKind.wrap_u8]; omega
      have hh := rhas_any p i hlt
      cases hp : p i with
      | false =>
        have HU : Hid (upl p (i + 1) = upl p i) := upl_no hp
        rw [hp] at hh
        clear hp
        go_wp2_with fail
        refine (hh _).mono ?_
        rintro e w2 ⟨rfl, q2⟩
        go_wp2_with fail
        refine ⟨⟨i + 1, by omega, by go_num, ?_⟩, by simp [intOf]; omega⟩
        rw [HU.out]; exact Rn.qt B q2
      | true =>
        have HU : Hid (upl p (i + 1) = upl p i ++ [i]) := upl_yes hp
        rw [hp] at hh
        clear hp
        go_wp2_with fail
        refine (hh _).mono ?_
        rintro e w2 ⟨rfl, q2⟩
        obtain ⟨v', W, hr, B2⟩ := Rn.push (Rn.qt B q2) HS.out (Nat.lt_of_le_of_lt (upl_len _ _) (by omega)) i
        clear k0 k1 k2 k3 hh
        go_wp2_with (at_builtin; first | (refine wpList_append_given rfl _ _ 30 rfl _ _ _ W rfl rfl hr ?_))
        refine ⟨⟨i + 1, by omega, by go_num, ?_⟩, by simp [intOf]; omega⟩
        rw [HU.out]; exact B2
    · obtain rfl : i = 256 := by omega
      go_wp2_with fail
      go_ret
      exact ⟨v, rfl, ow_mono B.out.own (fun j hj => Nat.le_of_succ_le (ow_blk B.out.own j hj).1), Mv.trans HQ.out B.out.mv (fun j hj h => by omega)⟩

set_option maxRecDepth 20000 in
set_option maxHeartbeats 4000000 in
theorem rand_any (p q : Nat → Bool) (w : World) : Calls Tryd.prog 19 #[.agg #[.int .u64 (limb p 0), .int .u64 (limb p 1), .int .u64 (limb p 2), .int .u64 (limb p 3)], .agg #[.int .u64 (limb q 0), .int .u64 (limb q 1), .int .u64 (limb q 2), .int .u64 (limb q 3)]] w fun e w' => e = .returned (sv (et p q)) ∧ Hid (Qt w w') := by
  go_enter Tryd.func19, Tryd.ntmps19
  go_wp2_with fail
  have HB : Hid (Bk w.heap.size p (((w.alloc (.cells #[.int .u64 (limb p 0), .int .u64 (limb p 1), .int .u64 (limb p 2), .int .u64 (limb p 3)] 25)).alloc (.cells #[.int .u64 (limb q 0), .int .u64 (limb q 1), .int .u64 (limb q 2), .int .u64 (limb q 3)] 25)).alloc (.cells #[.int .u64 0, .int .u64 0, .int .u64 0, .int .u64 0] 25))) := Bk.mv (Bk.mv (w := w.alloc (.cells #[.int .u64 (limb p 0), .int .u64 (limb p 1), .int .u64 (limb p 2), .int .u64 (limb p 3)] 25)) (heap_alloc_new _ _) (Mv.alloc (fun _ => False) _ _) (fun h => h)) (Mv.alloc (fun _ => False) _ _) (fun h => h)
  have HB2 : Hid (Bk (w.heap.size + 1) q (((w.alloc (.cells #[.int .u64 (limb p 0), .int .u64 (limb p 1), .int .u64 (limb p 2), .int .u64 (limb p 3)] 25)).alloc (.cells #[.int .u64 (limb q 0), .int .u64 (limb q 1), .int .u64 (limb q 2), .int .u64 (limb q 3)] 25)).alloc (.cells #[.int .u64 0, .int .u64 0, .int .u64 0, .int .u64 0] 25))) := Bk.mv (w := (w.alloc (.cells #[.int .u64 (limb p 0), .int .u64 (limb p 1), .int .u64 (limb p 2), .int .u64 (limb p 3)] 25)).alloc (.cells #[.int .u64 (limb q 0), .int .u64 (limb q 1), .int .u64 (limb q 2), .int .u64 (limb q 3)] 25)) (heap_alloc2_new _ _ _) (Mv.alloc (fun _ => False) _ _) (fun h => h)
  have HZ : Hid (Zr (w.heap.size + 2) (((w.alloc (.cells #[.int .u64 (limb p 0), .int .u64 (limb p 1), .int .u64 (limb p 2), .int .u64 (limb p 3)] 25)).alloc (.cells #[.int .u64 (limb q 0), .int .u64 (limb q 1), .int .u64 (limb q 2), .int .u64 (limb q 3)] 25)).alloc (.cells #[.int .u64 0, .int .u64 0, .int .u64 0, .int .u64 0] 25))) := heap3 _ _ _ _
  have HS : Hid (w.heap.size + 3 ≤ (((w.alloc (.cells #[.int .u64 (limb p 0), .int .u64 (limb p 1), .int .u64 (limb p 2), .int .u64 (limb p 3)] 25)).alloc (.cells #[.int .u64 (limb q 0), .int .u64 (limb q 1), .int .u64 (limb q 2), .int .u64 (limb q 3)] 25)).alloc (.cells #[.int .u64 0, .int .u64 0, .int .u64 0, .int .u64 0] 25)).heap.size) := by show _ ≤ _; simp
  have HQ : Hid (Qt w (((w.alloc (.cells #[.int .u64 (limb p 0), .int .u64 (limb p 1), .int .u64 (limb p 2), .int .u64 (limb p 3)] 25)).alloc (.cells #[.int .u64 (limb q 0), .int .u64 (limb q 1), .int .u64 (limb q 2), .int .u64 (limb q 3)] 25)).alloc (.cells #[.int .u64 0, .int .u64 0, .int .u64 0, .int .u64 0] 25))) := (((Qt.refl w).alloc _).alloc _).alloc _
  generalize ((w.alloc (.cells #[.int .u64 (limb p 0), .int .u64 (limb p 1), .int .u64 (limb p 2), .int .u64 (limb p 3)] 25)).alloc (.cells #[.int .u64 (limb q 0), .int .u64 (limb q 1), .int .u64 (limb q 2), .int .u64 (limb q 3)] 25)).alloc (.cells #[.int .u64 0, .int .u64 0, .int .u64 0, .int .u64 0] 25) = W0 at *
  go_loopw [5, 6] (fun s5 s6 wr => ∃ i : Nat, i ≤ 256 ∧ s6 = .int .i64 i ∧ Hid (Rn W0 wr (w.heap.size + 3) s5 (upl (et p q) i))) (fun _ s6 _ => 256 - (intOf s6).toNat)
  case atStart => exact ⟨0, by omega, rfl, (Ol.nil _ _).out, Mv.refl _ _⟩
  case round =>
    obtain ⟨i, hi, rfl, B⟩ := hrel
    obtain ⟨v, hv⟩ : ∃ v, v = u5 := ⟨_, rfl⟩
    subst hv
    by_cases hlt : i < 256
    · obtain ⟨k0, k1, k2, k3, _⟩ := Bk.facts (Rn.bk B HB (by omega))
      have wz : IntKind.u8.wrap (i : Int) = (i : Int) := by rw [IntKind.wrap_u8]; omega
      have hh := rhas_any p i hlt
      have hh2 := rhas_any q i hlt
      cases hp : p i with
      | false =>
        have HU : Hid (upl (et p q) (i + 1) = upl (et p q) i) := upl_no (by unfold et; rw [hp]; rfl)
        rw [hp] at hh
        clear hp
        go_wp2_with fail
        refine (hh _).mono ?_
        rintro e w2 ⟨rfl, q2⟩
        go_wp2_with fail
        refine ⟨⟨i + 1, by omega, by go_num, ?_⟩, by simp [intOf]; omega⟩
        rw [HU.out]; exact Rn.qt B q2
      | true =>
        rw [hp] at hh
        cases hq : q i with
        | false =>
          have HU : Hid (upl (et p q) (i + 1) = upl (et p q) i) := upl_no (by unfold et; rw [hp, hq]; rfl)
          rw [hq] at hh2
          clear hp hq
          go_wp2_with fail
          refine (hh _).mono ?_
          rintro e w2 ⟨rfl, q2⟩
          obtain ⟨j0, j1, j2, j3, _⟩ := Bk.facts (Rn.bk (Rn.qt B q2) HB2 (by omega))
          go_wp2_with fail
          refine (hh2 _).mono ?_
          rintro e w3 ⟨rfl, q3⟩
          go_wp2_with fail
          refine ⟨⟨i + 1, by omega, by go_num, ?_⟩, by simp [intOf]; omega⟩
          rw [HU.out]; exact Rn.qt (Rn.qt B q2) q3
        | true =>
          have HU : Hid (upl (et p q) (i + 1) = upl (et p q) i ++ [i]) := upl_yes (by unfold et; rw [hp, hq]; rfl)
          rw [hq] at hh2
          clear hp hq
          go_wp2_with fail
          refine (hh _).mono ?_
          rintro e w2 ⟨rfl, q2⟩
          obtain ⟨j0, j1, j2, j3, _⟩ := Bk.facts (Rn.bk (Rn.qt B q2) HB2 (by omega))
          go_wp2_with fail
          refine (hh2 _).mono ?_
          rintro e w3 ⟨rfl, q3⟩
          obtain ⟨v', W, hr, B2⟩ := Rn.push (Rn.qt (Rn.qt B q2) q3) HS.out (Nat.lt_of_le_of_lt (upl_len _ _) (by omega)) i
          clear k0 k1 k2 k3 hh j0 j1 j2 j3 hh2
          go_wp2_with (at_builtin; first | (refine wpList_append_given rfl _ _ 30 rfl _ _ _ W rfl rfl hr ?_))
          refine ⟨⟨i + 1, by omega, by go_num, ?_⟩, by simp [intOf]; omega⟩
          rw [HU.out]; exact B2
    · obtain rfl : i = 256 := by omega
      have HL : Hid (sv (inl (upl (et p q) 256)) = sv (et p q)) := sv_like (inl_upl (et p q))
      go_wp2_with fail
      refine (rof_l B.out.own upl_lt (Nat.lt_of_le_of_lt (upl_len _ _) (by omega))).mono ?_
      rintro e w2 ⟨rfl, q2⟩
      rw [HL.out, sv_cells]
      have Z2 : Hid (Zr (w.heap.size + 2) w2) := Zr.mv (Zr.mv HZ B.out.mv (by omega)) q2.out (fun h => h)
      obtain ⟨k0, k1, k2, k3, l0, l1, l2, l3⟩ := Zr.facts Z2
      have QW : Hid (Qt w w2) := Qt.comp (Mv.trans HQ.out B.out.mv (fun j hj h => by omega)) q2.out
      go_wp2_with fail
      refine bodyPost_ret (results_cell_row (p := 4) (ty := 25) rfl _ _ (w.heap.size + 2) 25 _ (0, 0) _ rfl (put4_heap Z2.out _ _ _ _) Tryd.underlying25 rfl (by kernel_rfl)) rfl ?_
      exact ⟨rfl, Mv.trans QW.out (put4_mv w2 (w.heap.size + 2) _ _ _ _) (fun j hj e => by omega)⟩


end Go.Proofs.YtnchddgjeeaohaaDoor
