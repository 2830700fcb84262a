/- CacheFull. -/
import Derived.Test.YtaiengohfgbfhaaC3
import Derived.Test.YtaiengohfgbfhaaUS
import Derived.Test.YtaiengohfgbfhaaQS
namespace Go.Proofs.Ytaiengohfgbfhaa
open Go.RowKit

set_option maxHeartbeats 4000000 in
set_option maxRecDepth 100000 in
theorem full_any (w : World) (x : Int) (hx : 0 ≤ x ∧ x ≤ 255) (y : Int) (hy : 0 ≤ y ∧ y ≤ 255) (a : Option Addr) (n c : Nat) (f : Nat → Int) (hn : n ≤ 40) (hf : Hid (∀ i, 0 ≤ f i ∧ f i ≤ 255)) (hl : Hid (Sl w a n (By f))) :
    Calls Try.prog 7 #[.int .u8 x, .slice a n c, .int .u8 y] w fun e w' => e = .returned (.bool true) ∧ Below w.heap.size w w' := by
  have hnz : (n : Int) ≤ 40 := by omega
  go_enter Try.func7, Try.ntmps7
  go_wp2_with fail
  refine (begun_any w).mono ?_
  rintro e w1 ⟨rfl, b1⟩
  have B1 : Hid _ := b1
  clear b1
  go_wp2_with fail
  obtain ⟨N, hN⟩ : ∃ N : Nat, (1 : Int) + x % 8 = N := ⟨(1 + x % 8).toNat, by omega⟩
  have hN1 : 1 ≤ N ∧ N ≤ 8 := by omega
  have HN : Hid _ := hN
  rw [HN.out]
  clear hN
  have hmo : Hid ((N : Int) = max (N : Int) 1) := by show _ = _; omega
  refine (snew (N : Int) w1).mono ?_
  rintro e w2 ⟨rfl, hw⟩
  obtain rfl := hw.symm
  clear hw
  have fit : ∀ i, fits (f i) := fun i => WalkArith.wf_i64 (by have := hf.out i; omega)
  have C0 : Hid (Ch (w1.alloc (.cells #[.int .i64 N, .map none, .pointer none, .pointer none] 43)) w1.heap.size 2 N [] (fun j => j < w.heap.size)) := Ch.new w1 2 N 43 _ (fun j h => by have := B1.out.size; omega) (by omega)
  have B2 : Hid (Below w.heap.size w (w1.alloc (.cells #[.int .i64 N, .map none, .pointer none, .pointer none] 43))) := B1.out.alloc B1.out.size _
  go_wp2_with fail
  go_loopw [9] (fun vi wr => ∃ (i : Nat) (S : List Kw), i ≤ n ∧ vi = .int .i64 i ∧ Hid (Ch wr w1.heap.size 2 N S (fun j => j < w.heap.size) ∧ S.length ≤ N ∧ (0 < i → 0 < S.length) ∧ (i = 0 → S = []) ∧ Below w.heap.size w wr ∧ ∀ k, k ∈ ks S → fits k ∧ k ≠ 1000)) (fun vi _ => n - (intOf vi).toNat)
  case atStart => exact ⟨0, [], by omega, rfl, C0.out, by simp, by omega, fun _ => rfl, B2.out, fun k hk => by cases hk⟩
  case round =>
    obtain ⟨i, S, hi, rfl, H⟩ := hrel
    by_cases hlt : i < n
    · have hltz : (i : Int) < (n : Int) := by omega
      go_wp2_with fail
      refine (skeys H.out.1 (by have := H.out.2.1; omega)).mono ?_
      rintro e w3 ⟨a3, cap3, rfl, O3⟩
      have B3 : Hid (Below w.heap.size w w3) := H.out.2.2.2.2.1.trans (O3.out.2.mono H.out.2.2.2.2.1.size)
      have H3 : Hid (Ch w3 w1.heap.size 2 N S (fun j => j < w.heap.size ∨ (wr.heap.size ≤ j ∧ j < w3.heap.size))) := (H.out.1.below O3.out.2).mono (fun j hj => by
        rcases hj with h | h
        · exact .inl h
        · exact .inr h.1)
      have hX3 : Hid (∀ j, (j < w.heap.size ∨ (wr.heap.size ≤ j ∧ j < w3.heap.size)) → j < w3.heap.size) := by
        intro j hj
        have := B3.out.size
        omega
      obtain ⟨m, hm⟩ : ∃ m, m = S.length := ⟨_, rfl⟩
      have hmN : m ≤ N := by have := H.out.2.1; omega
      have HM : Hid _ := hm
      rw [← HM.out] at O3 ⊢
      clear hm
      obtain ⟨b1, o1, rfl, _, hc1⟩ := (hl.out.below B3.out) i hlt
      have hd1 : w3.cell? ⟨b1, o1 + i, none⟩ = some (.int .u8 (f i)) := hc1
      have hb1 : Hid (b1 < w.heap.size) := by
        obtain ⟨b', o', e', h', _⟩ := hl.out i hlt
        cases e'
        exact h'
      have hfi := hf.out i
      clear hc1
      go_wp2_with fail
      cases hfd : sfnd S (f i) with
      | some p =>
        have FD : Hid _ := hfd
        clear hfd
        refine (sget_some H3.out (fit i) FD.out).mono ?_
        rintro e w4 ⟨rfl, H4⟩
        have hd4 : w4.cell? ⟨b1, o1 + i, none⟩ = some (.int .u8 (f i)) := H4.out.2.cell (p := ⟨b1, o1 + i, none⟩) hd1 (fun h => h (.inl hb1.out))
        have hp1 : Hid (sfnd (p :: sdel S (f i)) (f i) = some p) := by
          show _ = _
          unfold sfnd
          rw [List.find?_cons]
          simp [(sfnd_key FD.out).2]
        go_wp2_with fail
        refine (sput_has H4.out.1 (fit i) hp1.out ⟨#[120]⟩).mono ?_
        rintro e w5 ⟨rfl, H5⟩
        obtain ⟨S2, hS2⟩ : ∃ S2, S2 = (f i, fun _ => Value.string ⟨#[120]⟩) :: sdel (p :: sdel S (f i)) (f i) := ⟨_, rfl⟩
        have C5 : Hid (Ch w5 w1.heap.size 2 N S2 (fun j => j < w.heap.size ∨ (wr.heap.size ≤ j ∧ j < w3.heap.size))) := by
          have := H5.out.1
          rw [← hS2] at this
          exact this
        have M5 : Hid (Mv (fun j => ¬ (j < w.heap.size ∨ (wr.heap.size ≤ j ∧ j < w3.heap.size))) w3 w5) := H4.out.2.trans H5.out.2 (fun _ _ h => h)
        have L5 : Hid (S2.length ≤ N ∧ 0 < S2.length ∧ kof S2 0 = f i ∧ ∀ k, k ∈ ks S2 → fits k ∧ k ≠ 1000) := by
          have e1 := sdel_length H.out.1.nodup FD.out
          have e2 : (sdel (p :: sdel S (f i)) (f i)).length ≤ (sdel S (f i)).length := by
            unfold sdel
            rw [List.filter_cons_of_neg (by simp [(sfnd_key FD.out).2])]
            exact List.length_filter_le _ _
          have e3 := HM.out
          refine ⟨by rw [hS2, List.length_cons]; omega, by rw [hS2]; simp, by rw [hS2]; rfl, ?_⟩
          rw [hS2]
          intro k hk
          rcases List.mem_cons.1 (show k ∈ f i :: ks (sdel (p :: sdel S (f i)) (f i)) from hk) with rfl | hk
          · exact ⟨fit i, by omega⟩
          · rw [ks_sdel] at hk
            have h1 := (mem_wo.1 hk)
            rcases List.mem_cons.1 (show k ∈ p.1 :: ks (sdel S (f i)) from h1.1) with e | h2
            · exact (h1.2 (e.trans (sfnd_key FD.out).2)).elim
            · rw [ks_sdel] at h2
              exact H.out.2.2.2.2.2 k (mem_wo.1 h2).1
        clear H4 H5 hS2
        go_wp2_with fail
        have B5 : Hid (Below w.heap.size w w5) := below_mv B3.out M5.out (Nat.le_refl _) (fun j hj h => h (.inl hj))
        have H5 : Hid (Ch w5 w1.heap.size 2 N S2 (fun j => j < w.heap.size)) := C5.out.mono (fun j hj => .inl hj)
        refine (skeys H5.out (by have := L5.out.1; omega)).mono ?_
        rintro e w6 ⟨a6, cap6, rfl, O6⟩
        obtain ⟨m2, hm2⟩ : ∃ m2, m2 = S2.length := ⟨_, rfl⟩
        have hm2N : m2 ≤ N := by have := L5.out.1; omega
        have hm20 : 0 < m2 := by have := L5.out.2.1; omega
        have HM2 : Hid _ := hm2
        rw [← HM2.out] at O6 ⊢
        clear hm2
        obtain ⟨g6, rfl⟩ : ∃ g, a6 = some ⟨g, 0, none⟩ := by
          rcases O6.out.1.slice with ⟨_, h⟩ | ⟨g, c', h, h2⟩
          · omega
          · cases h; exact ⟨g, rfl⟩
        have hg6 : w6.cell? ⟨g6, 0, none⟩ = some (.int .i64 (f i)) := by
          have := (O6.out.1.at hm20).1
          rw [this]
          show some (Value.int .i64 (kof S2 0)) = _
          rw [L5.out.2.2.1]
        have B6 : Hid (Below w.heap.size w w6) := B5.out.trans (O6.out.2.mono B5.out.size)
        have hd6 : w6.cell? ⟨b1, o1 + i, none⟩ = some (.int .u8 (f i)) := by
          obtain ⟨b', o', e', _, h'⟩ := (hl.out.below B6.out) i hlt
          cases e'
          exact h'
        have H6 : Hid (Ch w6 w1.heap.size 2 N S2 (fun j => j < w.heap.size)) := (H5.out.below O6.out.2).mono (fun j hj => .inl hj)
        have hdec1 : decide ((N : Int) < (m2 : Int)) = false := decide_eq_false (by omega)
        have hdec2 : ((m2 : Int) == 0) = false := by rw [beq_eq_false_iff_ne]; omega
        have hposz : (0 : Int) < (m2 : Int) := by omega
        have hwf : IntKind.i64.wrap (f i) = f i := by
          simp [IntKind.wrap, IntKind.signed, IntKind.bits]
          omega
        clear O6
        go_wp2_with fail
        go_quiet (fail)
        go_wp2_with fail
        have H7 : Hid (Ch (w6.drewN nq) w1.heap.size 2 N S2 (fun j => j < w.heap.size) ∧ S2.length ≤ N ∧ (0 < i + 1 → 0 < S2.length) ∧ (i + 1 = 0 → S2 = []) ∧ Below w.heap.size w (w6.drewN nq) ∧ ∀ k, k ∈ ks S2 → fits k ∧ k ≠ 1000) := by
          refine ⟨(H6.out.mv (Mv.drewN (fun _ => False) _ _) (fun _ h => h.elim)).mono (fun j hj => .inl hj), L5.out.1, fun _ => L5.out.2.1, fun h => ?_, below_mv B6.out (Mv.drewN (fun _ => False) _ _) (Nat.le_refl _) (fun _ _ h => h), L5.out.2.2.2⟩
          omega
        exact ⟨⟨i + 1, S2, by omega, by go_num, H7⟩, by simp [intOf]; omega⟩
      | none =>
        have FD : Hid _ := hfd
        clear hfd
        refine (sget_none H3.out (fit i) FD.out).mono ?_
        rintro e w4 ⟨rfl, hw⟩
        obtain rfl := hw.symm
        clear hw
        go_wp2_with fail
        by_cases hroom : m + 1 ≤ N
        · refine (sput_room H3.out (fit i) FD.out hX3.out (by rw [← HM.out]; omega) (by rw [← HM.out]; omega) ⟨#[120]⟩).mono ?_
          rintro e w5 ⟨rfl, H5⟩
          obtain ⟨S2, hS2⟩ : ∃ S2, S2 = (f i, fun _ => Value.string ⟨#[120]⟩) :: S := ⟨_, rfl⟩
          have C5 : Hid (Ch w5 w1.heap.size 2 N S2 (fun j => j < w.heap.size ∨ (wr.heap.size ≤ j ∧ j < w3.heap.size))) := by
            have := H5.out.1
            rw [← hS2] at this
            exact this
          have M5 : Hid (Mv (fun j => ¬ (j < w.heap.size ∨ (wr.heap.size ≤ j ∧ j < w3.heap.size))) w3 w5) := H5.out.2
          have L5 : Hid (S2.length ≤ N ∧ 0 < S2.length ∧ kof S2 0 = f i ∧ ∀ k, k ∈ ks S2 → fits k ∧ k ≠ 1000) := by
            have e3 := HM.out
            refine ⟨by rw [hS2, List.length_cons]; omega, by rw [hS2]; simp, by rw [hS2]; rfl, ?_⟩
            rw [hS2]
            intro k hk
            rcases List.mem_cons.1 (show k ∈ f i :: ks S from hk) with rfl | hk
            · exact ⟨fit i, by omega⟩
            · exact H.out.2.2.2.2.2 k hk
          have hmNb : ((m : Int) == (N : Int)) = false := by rw [beq_eq_false_iff_ne]; omega
          clear H5 hS2
          go_wp2_with fail
          have B5 : Hid (Below w.heap.size w w5) := below_mv B3.out M5.out (Nat.le_refl _) (fun j hj h => h (.inl hj))
          have H5 : Hid (Ch w5 w1.heap.size 2 N S2 (fun j => j < w.heap.size)) := C5.out.mono (fun j hj => .inl hj)
          refine (skeys H5.out (by have := L5.out.1; omega)).mono ?_
          rintro e w6 ⟨a6, cap6, rfl, O6⟩
          obtain ⟨m2, hm2⟩ : ∃ m2, m2 = S2.length := ⟨_, rfl⟩
          have hm2N : m2 ≤ N := by have := L5.out.1; omega
          have hm20 : 0 < m2 := by have := L5.out.2.1; omega
          have HM2 : Hid _ := hm2
          rw [← HM2.out] at O6 ⊢
          clear hm2
          obtain ⟨g6, rfl⟩ : ∃ g, a6 = some ⟨g, 0, none⟩ := by
            rcases O6.out.1.slice with ⟨_, h⟩ | ⟨g, c', h, h2⟩
            · omega
            · cases h; exact ⟨g, rfl⟩
          have hg6 : w6.cell? ⟨g6, 0, none⟩ = some (.int .i64 (f i)) := by
            have := (O6.out.1.at hm20).1
            rw [this]
            show some (Value.int .i64 (kof S2 0)) = _
            rw [L5.out.2.2.1]
          have B6 : Hid (Below w.heap.size w w6) := B5.out.trans (O6.out.2.mono B5.out.size)
          have hd6 : w6.cell? ⟨b1, o1 + i, none⟩ = some (.int .u8 (f i)) := by
            obtain ⟨b', o', e', _, h'⟩ := (hl.out.below B6.out) i hlt
            cases e'
            exact h'
          have H6 : Hid (Ch w6 w1.heap.size 2 N S2 (fun j => j < w.heap.size)) := (H5.out.below O6.out.2).mono (fun j hj => .inl hj)
          have hdec1 : decide ((N : Int) < (m2 : Int)) = false := decide_eq_false (by omega)
          have hdec2 : ((m2 : Int) == 0) = false := by rw [beq_eq_false_iff_ne]; omega
          have hposz : (0 : Int) < (m2 : Int) := by omega
          have hwf : IntKind.i64.wrap (f i) = f i := by
            simp [IntKind.wrap, IntKind.signed, IntKind.bits]
            omega
          clear O6
          go_wp2_with fail
          go_quiet (fail)
          go_wp2_with fail
          have H7 : Hid (Ch (w6.drewN nq) w1.heap.size 2 N S2 (fun j => j < w.heap.size) ∧ S2.length ≤ N ∧ (0 < i + 1 → 0 < S2.length) ∧ (i + 1 = 0 → S2 = []) ∧ Below w.heap.size w (w6.drewN nq) ∧ ∀ k, k ∈ ks S2 → fits k ∧ k ≠ 1000) := by
            refine ⟨(H6.out.mv (Mv.drewN (fun _ => False) _ _) (fun _ h => h.elim)).mono (fun j hj => .inl hj), L5.out.1, fun _ => L5.out.2.1, fun h => ?_, below_mv B6.out (Mv.drewN (fun _ => False) _ _) (Nat.le_refl _) (fun _ _ h => h), L5.out.2.2.2⟩
            omega
          exact ⟨⟨i + 1, S2, by omega, by go_num, H7⟩, by simp [intOf]; omega⟩
        · have hmNe : m = N := by omega
          have hm0 : 0 < m := by omega
          obtain ⟨g3, rfl⟩ : ∃ g, a3 = some ⟨g, 0, none⟩ := by
            rcases O3.out.1.slice with ⟨_, h⟩ | ⟨g, c', h, h2⟩
            · omega
            · cases h; exact ⟨g, rfl⟩
          refine (sput_full H3.out (fit i) FD.out hX3.out (by rw [← HM.out]; omega) (by rw [← HM.out]; omega) ⟨#[120]⟩).mono ?_
          rintro e w5 ⟨rfl, H5⟩
          obtain ⟨S2, hS2⟩ : ∃ S2, S2 = ((f i, fun _ => Value.string ⟨#[120]⟩) :: S).dropLast := ⟨_, rfl⟩
          have C5 : Hid (Ch w5 w1.heap.size 2 N S2 (fun j => j < w.heap.size ∨ (wr.heap.size ≤ j ∧ j < w3.heap.size))) := by
            have := H5.out.1
            rw [← hS2] at this
            exact this
          have M5 : Hid (Mv (fun j => ¬ (j < w.heap.size ∨ (wr.heap.size ≤ j ∧ j < w3.heap.size))) w3 w5) := H5.out.2
          have L5 : Hid (S2.length ≤ N ∧ 0 < S2.length ∧ kof S2 0 = f i ∧ ∀ k, k ∈ ks S2 → fits k ∧ k ≠ 1000) := by
            have e3 := HM.out
            have hne : S ≠ [] := by intro e; rw [e] at e3; simp at e3; omega
            have e4 : S2 = (f i, fun _ => Value.string ⟨#[120]⟩) :: S.dropLast := by rw [hS2]; exact List.dropLast_cons_of_ne_nil hne
            refine ⟨by rw [e4, List.length_cons, List.length_dropLast]; omega, by rw [e4]; simp, by rw [e4]; rfl, ?_⟩
            rw [e4]
            intro k hk
            rcases List.mem_cons.1 (show k ∈ f i :: ks S.dropLast from hk) with rfl | hk
            · exact ⟨fit i, by omega⟩
            · refine H.out.2.2.2.2.2 k ?_
              obtain ⟨q, hq, e⟩ := List.mem_map.1 hk
              exact e ▸ List.mem_map_of_mem (List.dropLast_subset _ hq)
          have hlast : Hid (((((f i, fun _ => Value.string ⟨#[120]⟩) :: S).getLast?).map Prod.fst).getD 0 = kof S (m - 1)) := by
            show _ = _
            have e3 := HM.out
            have hne : S ≠ [] := by intro e; rw [e] at e3; simp at e3; omega
            rw [List.getLast?_cons, List.getLast?_eq_some_getLast hne]
            unfold kof
            rw [e3, ← List.getLast?_eq_getElem?, List.getLast?_eq_some_getLast hne]
            rfl
          rw [hlast.out]
          have hgw : w5.cell? ⟨g3, m - 1, none⟩ = some (.int .i64 (kof S (m - 1))) := by
            have h1 := (O3.out.1.at (show m - 1 < m by omega)).1
            refine M5.out.cell (p := ⟨g3, m - 1, none⟩) h1 (fun h => h (.inr ?_))
            exact O3.out.1.blk g3 rfl
          generalize kof S (m - 1) = lst at hgw ⊢
          have hmNb : ((m : Int) == (N : Int)) = true := by rw [hmNe]; simp
          have hm0b : ((m : Int) == 0) = false := by rw [beq_eq_false_iff_ne]; omega
          have hm0z : (0 : Int) < m := by omega
          have hm1z : (1 : Int) ≤ m := by omega
          have HNE : Hid _ := hmNe
          clear H5 hS2 hmNe hlast
          go_wp2_with fail
          have B5 : Hid (Below w.heap.size w w5) := below_mv B3.out M5.out (Nat.le_refl _) (fun j hj h => h (.inl hj))
          have H5 : Hid (Ch w5 w1.heap.size 2 N S2 (fun j => j < w.heap.size)) := C5.out.mono (fun j hj => .inl hj)
          refine (skeys H5.out (by have := L5.out.1; omega)).mono ?_
          rintro e w6 ⟨a6, cap6, rfl, O6⟩
          obtain ⟨m2, hm2⟩ : ∃ m2, m2 = S2.length := ⟨_, rfl⟩
          have hm2N : m2 ≤ N := by have := L5.out.1; omega
          have hm20 : 0 < m2 := by have := L5.out.2.1; omega
          have HM2 : Hid _ := hm2
          rw [← HM2.out] at O6 ⊢
          clear hm2
          obtain ⟨g6, rfl⟩ : ∃ g, a6 = some ⟨g, 0, none⟩ := by
            rcases O6.out.1.slice with ⟨_, h⟩ | ⟨g, c', h, h2⟩
            · omega
            · cases h; exact ⟨g, rfl⟩
          have hg6 : w6.cell? ⟨g6, 0, none⟩ = some (.int .i64 (f i)) := by
            have := (O6.out.1.at hm20).1
            rw [this]
            show some (Value.int .i64 (kof S2 0)) = _
            rw [L5.out.2.2.1]
          have B6 : Hid (Below w.heap.size w w6) := B5.out.trans (O6.out.2.mono B5.out.size)
          have hd6 : w6.cell? ⟨b1, o1 + i, none⟩ = some (.int .u8 (f i)) := by
            obtain ⟨b', o', e', _, h'⟩ := (hl.out.below B6.out) i hlt
            cases e'
            exact h'
          have H6 : Hid (Ch w6 w1.heap.size 2 N S2 (fun j => j < w.heap.size)) := (H5.out.below O6.out.2).mono (fun j hj => .inl hj)
          have hdec1 : decide ((N : Int) < (m2 : Int)) = false := decide_eq_false (by omega)
          have hdec2 : ((m2 : Int) == 0) = false := by rw [beq_eq_false_iff_ne]; omega
          have hposz : (0 : Int) < (m2 : Int) := by omega
          have hwf : IntKind.i64.wrap (f i) = f i := by
            simp [IntKind.wrap, IntKind.signed, IntKind.bits]
            omega
          clear O6
          go_wp2_with fail
          go_quiet (fail)
          go_wp2_with fail
          have H7 : Hid (Ch (w6.drewN nq) w1.heap.size 2 N S2 (fun j => j < w.heap.size) ∧ S2.length ≤ N ∧ (0 < i + 1 → 0 < S2.length) ∧ (i + 1 = 0 → S2 = []) ∧ Below w.heap.size w (w6.drewN nq) ∧ ∀ k, k ∈ ks S2 → fits k ∧ k ≠ 1000) := by
            refine ⟨(H6.out.mv (Mv.drewN (fun _ => False) _ _) (fun _ h => h.elim)).mono (fun j hj => .inl hj), L5.out.1, fun _ => L5.out.2.1, fun h => ?_, below_mv B6.out (Mv.drewN (fun _ => False) _ _) (Nat.le_refl _) (fun _ _ h => h), L5.out.2.2.2⟩
            omega
          exact ⟨⟨i + 1, S2, by omega, by go_num, H7⟩, by simp [intOf]; omega⟩
    · obtain rfl : i = n := by omega
      obtain ⟨w5, h5⟩ : ∃ w5, w5 = wr := ⟨wr, rfl⟩
      subst h5
      go_wp2_with fail
      refine (skeys H.out.1 (by have := H.out.2.1; omega)).mono ?_
      rintro e w6 ⟨a6, cap6, rfl, O6⟩
      have B6 : Hid (Below w.heap.size w w6) := H.out.2.2.2.2.1.trans (O6.out.2.mono H.out.2.2.2.2.1.size)
      by_cases hi0 : i = 0
      · subst hi0
        have e0 : Hid (S = []) := H.out.2.2.2.1 rfl
        rw [e0.out, List.length_nil] at O6 ⊢
        go_wp2_with fail
        go_ret
        exact ⟨rfl, B6.out⟩
      · obtain ⟨m, hm⟩ : ∃ m, m = S.length := ⟨_, rfl⟩
        have hm0 : 0 < m := by have := H.out.2.2.1 (by omega); omega
        have hmN : m ≤ N := by have := H.out.2.1; omega
        have HM : Hid _ := hm
        rw [← HM.out] at O6 ⊢
        clear hm
        have hmz : ((m : Int) == 0) = false := by rw [beq_eq_false_iff_ne]; omega
        have hmpos : (0 : Int) < m := by omega
        obtain ⟨t, ht⟩ : ∃ t : Nat, y % m = t := ⟨(y % m).toNat, by have := Int.emod_nonneg y (show (m : Int) ≠ 0 by omega); omega⟩
        have htm : t < m := by have := Int.emod_lt_of_pos y hmpos; omega
        have HT : Hid _ := ht
        clear ht
        obtain ⟨g, rfl⟩ : ∃ g, a6 = some ⟨g, 0, none⟩ := by
          rcases O6.out.1.slice with ⟨_, h⟩ | ⟨g, c', h, h2⟩
          · omega
          · cases h; exact ⟨g, rfl⟩
        have hg6 : w6.cell? ⟨g, t, none⟩ = some (.int .i64 (kof S t)) := (O6.out.1.at htm).1
        have H6 : Hid (Ch w6 w1.heap.size 2 N S (fun j => j < w.heap.size)) := (H.out.1.below O6.out.2).mono (fun j hj => .inl hj)
        have hkm : Hid (kof S t ∈ ks S) := by
          show _ ∈ _
          rw [kof_lof]
          unfold lof
          rw [List.getElem?_eq_getElem (by rw [ks_length, ← HM.out]; exact htm)]
          exact List.getElem_mem _
        obtain ⟨p, hp⟩ := sfnd_at (S := S) (t := t) (by rw [← HM.out]; exact htm)
        have HP : Hid _ := hp
        clear hp
        have hfk := (H.out.2.2.2.2.2 _ hkm.out).1
        obtain ⟨k, hk⟩ : ∃ k, k = kof S t := ⟨_, rfl⟩
        rw [← hk] at hg6 hfk HP hkm
        clear hk
        have hx0 : 0 ≤ y % (m : Int) := by rw [HT.out]; omega
        have hx1 : y % (m : Int) < m := by rw [HT.out]; omega
        have hg6x : w6.cell? ⟨g, (y % (m : Int)).toNat, none⟩ = some (.int .i64 k) := by rw [HT.out, Int.toNat_natCast]; exact hg6
        have hlen : Hid ((sdel S k).length + 1 = m) := by
          show _ = _
          have := sdel_length H.out.1.nodup HP.out
          rw [← HM.out] at this
          exact this
        have h1000 : Hid (sfnd (sdel S k) 1000 = none) := by
          show _ = _
          rw [sfnd_none_iff, ks_sdel]
          intro h
          exact (H.out.2.2.2.2.2 _ (mem_wo.1 h).1).2 rfl
        go_wp2_with fail
        clear hx0 hx1 hg6x
        rw [HT.out]
        refine (sdrop_some H6.out hfk HP.out).mono ?_
        rintro e w7 ⟨rfl, H7⟩
        have B7 : Hid (Below w.heap.size w w7) := mvb B6.out H7.out.2
        go_wp2_with fail
        refine (sdrop_none H7.out.1 hfk (sfnd_sdel S k)).mono ?_
        rintro e w8 ⟨rfl, hw⟩
        obtain rfl := hw.symm
        clear hw
        go_wp2_with fail
        refine (sput_room H7.out.1 (k := 1000) rfl h1000.out (fun j hj => by have := B7.out.size; omega) (by have := hlen.out; omega) (by have := hlen.out; omega) ⟨#[121]⟩).mono ?_
        rintro e w9 ⟨rfl, H9⟩
        have B9 : Hid (Below w.heap.size w w9) := mvb B7.out H9.out.2
        go_wp2_with fail
        refine (sget_some H9.out.1 (k := 1000) rfl (p := (1000, fun _ => .string ⟨#[121]⟩)) rfl).mono ?_
        rintro e w10 ⟨rfl, H10⟩
        have B10 : Hid (Below w.heap.size w w10) := mvb B9.out H10.out.2
        have hl10 : Hid (((1000, fun _ => .string ⟨#[121]⟩) :: sdel ((1000, fun _ => .string ⟨#[121]⟩) :: sdel S k) 1000 : List Kw).length = m) := by
          show _ = _
          have h1 : sfnd ((1000, fun _ => .string ⟨#[121]⟩) :: sdel S k) 1000 = some (1000, fun _ => .string ⟨#[121]⟩) := rfl
          have := sdel_length H9.out.1.nodup h1
          rw [List.length_cons] at this ⊢
          have := hlen.out
          omega
        go_wp2_with fail
        refine (skeys H10.out.1 (by rw [hl10.out]; omega)).mono ?_
        rintro e w11 ⟨a11, cap11, rfl, O11⟩
        have B11 : Hid (Below w.heap.size w w11) := B10.out.trans (O11.out.2.mono B10.out.size)
        rw [hl10.out]
        clear O11
        go_wp2_with fail
        go_ret
        exact ⟨rfl, B11.out⟩

set_option maxHeartbeats 1000000 in
theorem full_out (w : World) (x y : Int) (a : Option Addr) (n c : Nat) (hn : 40 < n) :
    Calls Try.prog 7 #[.int .u8 x, .slice a n c, .int .u8 y] w fun e w' => e = .returned (.bool true) ∧ Below w.heap.size w w' := by
  have hnz : (40 : Int) < n := by omega
  go_enter Try.func7, Try.ntmps7
  go_wp2_with fail
  refine (begun_any w).mono ?_
  rintro e w1 ⟨rfl, b1⟩
  have B1 : Hid _ := b1
  clear b1
  go_wp2_with fail
  go_ret
  exact ⟨rfl, B1.out⟩

theorem cacheFull_row (W : World) (x : Int) (wx : (Lit.int .u8 x).wf = true) (a : Option Addr) (n c : Nat) (f : Nat → Int) (s : Sl W a n (fun i => .int .u8 (f i))) (o : ∀ i, (Lit.int .u8 (f i)).wf = true) (_e : a = none → n = 0 ∧ c = 0) (y : Int) (wy : (Lit.int .u8 y).wf = true) :
    Calls Try.prog 7 #[.int .u8 x, .slice a n c, .int .u8 y] W fun e w' => e = .returned (.bool true) ∧ Below W.heap.size W w' := by
  by_cases h : 40 < n
  · exact full_out W x y a n c h
  · exact full_any W x (u8_wf' wx) y (u8_wf' wy) a n c f (by omega) (fun i => u8_wf' (o i)) s

end Go.Proofs.Ytaiengohfgbfhaa
