/- CacheDrops. -/
import Derived.Test.YtaiengohfgbfhaaC3
namespace Go.Proofs.Ytaiengohfgbfhaa
open Go.RowKit

set_option maxHeartbeats 4000000 in
set_option maxRecDepth 100000 in
theorem drops_any (w : World) (x : Int) (hx : 0 ≤ x ∧ x ≤ 255) (a : Option Addr) (n c : Nat) (f : Nat → Int) (hn0 : 0 < n) (hn : n ≤ 20) (hf : Hid (∀ i, 0 ≤ f i ∧ f i ≤ 255)) (hl : Hid (Sl w a n (By f))) :
    Calls Try.prog 5 #[.slice a n c, .int .u8 x] w fun e w' => e = .returned (.bool true) ∧ Below w.heap.size w w' := by
  have hnz : (n : Int) ≤ 20 := by omega
  have hnz0 : ((n : Int) == 0) = false := by rw [beq_eq_false_iff_ne]; omega
  go_enter Try.func5, Try.ntmps5
  go_wp2_with fail
  refine (begun_any w).mono ?_
  rintro e w1 ⟨rfl, b1⟩
  have B1 : Hid _ := b1
  clear b1
  go_wp2_with fail
  refine (inew 30 w1).mono ?_
  rintro e w2 ⟨rfl, hw⟩
  obtain rfl := hw.symm
  clear hw
  have fit : ∀ i, fits (f i) := fun i => WalkArith.wf_i64 (by have := hf.out i; omega)
  have C0 : Hid (Ch (w1.alloc (.cells #[.int .i64 30, .map none, .pointer none, .pointer none] 66)) w1.heap.size 2 30 [] (fun j => j < w.heap.size)) := Ch.new w1 2 30 66 _ (fun j h => by have := B1.out.size; omega) (by omega)
  have B2 : Hid (Below w.heap.size w (w1.alloc (.cells #[.int .i64 30, .map none, .pointer none, .pointer none] 66))) := B1.out.alloc B1.out.size _
  go_wp2_with fail
  go_loopw [6] (fun vi wr => ∃ (i : Nat) (S : List Kw), i ≤ n ∧ vi = .int .i64 i ∧ Hid (Ch wr w1.heap.size 2 30 S (fun j => j < w.heap.size) ∧ S.length ≤ i ∧ (0 < i → 0 < S.length) ∧ Below w.heap.size w wr ∧ ∀ k, k ∈ ks S → fits k)) (fun vi _ => n - (intOf vi).toNat)
  case atStart => exact ⟨0, [], by omega, rfl, C0.out, by simp, by omega, B2.out, fun k hk => by cases hk⟩
  case round =>
    obtain ⟨i, S, hi, rfl, H⟩ := hrel
    by_cases hlt : i < n
    · have hltz : (i : Int) < (n : Int) := by omega
      obtain ⟨b1, o1, rfl, _, hc1⟩ := (hl.out.below H.out.2.2.2.1) i hlt
      have hd1 : wr.cell? ⟨b1, o1 + i, none⟩ = some (.int .u8 (f i)) := hc1
      have hfi := hf.out i
      clear hc1
      go_wp2_with fail
      refine (iput H.out.1 (fit i) (fun j h => by have := H.out.2.2.2.1.size; omega) (by have := H.out.2.1; omega) (by have := H.out.2.1; omega) i).mono ?_
      rintro e w3 ⟨rfl, H3⟩
      have hS : Hid (pS 30 S (f i) (fun _ => .int .i64 i) = (f i, fun _ => .int .i64 i) :: sdel S (f i)) := by
        show _ = _
        unfold pS
        rw [if_pos]
        unfold pOk
        rw [decide_eq_true_iff]
        have h1 : (sdel S (f i)).length ≤ S.length := List.length_filter_le _ _
        have := H.out.2.1
        omega
      go_wp2_with fail
      refine ⟨⟨i + 1, pS 30 S (f i) (fun _ => .int .i64 i), by omega, by go_num, H3.out.1, ?_, ?_, mvb H.out.2.2.2.1 H3.out.2, ?_⟩, by simp [intOf]; omega⟩
      · have := pS_length H.out.1.nodup (mo := 30) (k := f i) (by have := H.out.2.1; omega) (fun _ => .int .i64 i)
        have := H.out.2.1
        omega
      · intro _
        rw [hS.out]; simp
      · rw [hS.out]
        intro k hk
        rcases List.mem_cons.1 (show k ∈ f i :: ks (sdel S (f i)) from hk) with rfl | hk
        · exact fit i
        · rw [ks_sdel] at hk
          exact H.out.2.2.2.2 k (mem_wo.1 hk).1
    · obtain rfl : i = n := by omega
      obtain ⟨w5, h5⟩ : ∃ w5, w5 = wr := ⟨wr, rfl⟩
      subst h5
      go_wp2_with fail
      refine (ikeys H.out.1 (by have := H.out.2.1; omega)).mono ?_
      rintro e w6 ⟨a6, cap6, rfl, O6⟩
      obtain ⟨m, hm⟩ : ∃ m, m = S.length := ⟨_, rfl⟩
      have hm0 : 0 < m := by have := H.out.2.2.1 hn0; omega
      have hm20 : m ≤ 20 := by have := H.out.2.1; omega
      have HM : Hid _ := hm
      rw [← HM.out] at O6 ⊢
      clear hm
      have hmz : ((m : Int) == 0) = false := by rw [beq_eq_false_iff_ne]; omega
      have hmpos : (0 : Int) < m := by omega
      obtain ⟨t, ht⟩ : ∃ t : Nat, x % m = t := ⟨(x % m).toNat, by have := Int.emod_nonneg x (show (m : Int) ≠ 0 by omega); omega⟩
      have htm : t < m := by have := Int.emod_lt_of_pos x hmpos; omega
      have htz : (t : Int) < m := by omega
      have HT : Hid _ := ht
      clear ht
      obtain ⟨g, rfl, hcp⟩ : ∃ g, a6 = some ⟨g, 0, none⟩ ∧ m ≤ cap6 := by
        rcases O6.out.1.slice with ⟨_, h⟩ | ⟨g, c', h, h2⟩
        · omega
        · cases h; exact ⟨g, rfl, h2⟩
      have B6 : Hid (Below w.heap.size w w6) := H.out.2.2.2.1.trans (O6.out.2.mono H.out.2.2.2.1.size)
      have hcz : (m : Int) ≤ cap6 := by omega
      have hg6 : w6.cell? ⟨g, t, none⟩ = some (.int .i64 (kof S t)) := (O6.out.1.at htm).1
      have hgb : Hid (w5.heap.size ≤ g ∧ g < w6.heap.size) := O6.out.1.blk g rfl
      have H6 : Hid (Ch w6 w1.heap.size 2 30 S (fun j => j < w.heap.size ∨ w5.heap.size ≤ j)) := H.out.1.below O6.out.2
      have hkm : Hid (kof S t ∈ ks S) := by
        show _ ∈ _
        rw [kof_lof]
        unfold lof
        rw [List.getElem?_eq_getElem (by rw [ks_length, ← HM.out]; exact htm)]
        exact List.getElem_mem _
      obtain ⟨p, hp⟩ := sfnd_at (S := S) (t := t) (by rw [← HM.out]; exact htm)
      have HP : Hid _ := hp
      clear hp
      have hfk := H.out.2.2.2.2 _ hkm.out
      have hwb : Hid (w.heap.size ≤ w5.heap.size) := H.out.2.2.2.1.size
      obtain ⟨k, hk⟩ : ∃ k, k = kof S t := ⟨_, rfl⟩
      rw [← hk] at hg6 hfk HP hkm
      have HK : Hid _ := hk
      clear hk
      have hx0 : 0 ≤ x % (m : Int) := by rw [HT.out]; omega
      have hx1 : x % (m : Int) < m := by rw [HT.out]; omega
      have hg6x : w6.cell? ⟨g, (x % (m : Int)).toNat, none⟩ = some (.int .i64 k) := by rw [HT.out, Int.toNat_natCast]; exact hg6
      go_wp2_with fail
      clear hx0 hx1 hg6x
      rw [HT.out]
      refine (idrop_some H6.out hfk HP.out).mono ?_
      rintro e w7 ⟨rfl, H7⟩
      have hg7 : w7.cell? ⟨g, t, none⟩ = some (.int .i64 k) := H7.out.2.cell (p := ⟨g, t, none⟩) hg6 (fun h => h (.inr hgb.out.1))
      have O7 : Hid (Own w7 w5.heap.size 3 (.slice (some ⟨g, 0, none⟩) m cap6) m (In (kof S))) := O6.out.1.mv H7.out.2 (fun j hj h => h (.inr (by cases hj; exact hgb.out.1)))
      have B7 : Hid (Below w.heap.size w w7) := below_mv B6.out H7.out.2 (Nat.le_refl _) (fun j hj h => h (.inl hj))
      go_wp2_with fail
      have S1 : Sl w7.drew (some ⟨g, 0, none⟩) t (In (kof S)) := by
        obtain ⟨a8, c8, e8, s8, _⟩ := O7.out.sl
        cases e8
        intro j hj
        exact s8 j (by omega)
      obtain ⟨s, hs⟩ : ∃ s, s = t + 1 := ⟨_, rfl⟩
      have htc : t ≤ cap6 := by omega
      have htcz : (t : Int) ≤ cap6 := by omega
      have hsm : s ≤ m := by omega
      have hsmz : (s : Int) ≤ m := by omega
      have hwt : IntKind.i64.wrap ((t : Int) + 1) = (s : Int) := by
        rw [hs]
        simp [IntKind.wrap, IntKind.signed, IntKind.bits]
        omega
      obtain ⟨p2, hp2, S2⟩ : ∃ p2 : Addr, (if cap6 = s then some (⟨g, 0, none⟩ : Addr) else some ⟨g, s, none⟩) = some p2 ∧ Sl w7.drew (some p2) (m - s) (In fun i => kof S (s + i)) := by
        by_cases hct : cap6 = s
        · refine ⟨_, if_pos hct, ?_⟩
          intro j hj
          omega
        · refine ⟨_, if_neg hct, ?_⟩
          intro j hj
          have hc := (O7.out.at (show s + j < m by omega)).1
          exact ⟨g, s, rfl, by have := hgb.out.2; exact Nat.lt_of_lt_of_le this H7.out.2.size, hc⟩
      obtain ⟨a1, c1, W1, a2, c2, W2, hr1, hr2, o2, b2, _⟩ := parts w7.drew ⟨g, 0, none⟩ p2 cap6 t (m - s) (cap6 - s) s _ S1 S2 (by omega)
      have e2 : Hid (t + (m - s) = (sdel S k).length) := by
        show _ = _
        have := sdel_length H.out.1.nodup HP.out
        rw [← HM.out] at this
        omega
      have O2 : Hid (Own W2 w7.heap.size 3 (.slice a2 (t + (m - s)) c2) (t + (m - s)) (In (kof (sdel S k)))) := by
        refine o2.congr (fun i hi => ?_)
        have h1 : kof (sdel S k) = lof ((ks S).eraseIdx t) := by
          rw [kof_lof, ks_sdel, HK.out, kof_lof, wo_erase (show (ks S).Nodup from H.out.1.nodup) (by rw [ks_length, ← HM.out]; exact htm)]
        show Value.int .i64 (if i < t then kof S i else kof S (s + (i - t))) = Value.int .i64 (kof (sdel S k) i)
        rw [h1, lof_erase, kof_lof]
        by_cases h : i < t
        · rw [if_pos h, if_pos h]
        · rw [if_neg h, if_neg h]
          congr 2
          omega
      have B8 : Hid (Below w7.heap.size w7 W2) := ⟨b2.os, b2.tape, b2.output, b2.size, b2.block⟩
      have B9 : Hid (Below w.heap.size w W2) := B7.out.trans (B8.out.mono B7.out.size)
      have hg8 : W2.cell? ⟨g, t, none⟩ = some (.int .i64 k) := (B8.out.cell (p := ⟨g, t, none⟩) (World.block_lt_of_cell? _ _ hg7)).trans hg7
      have H8 : Hid (Ch W2 w1.heap.size 2 30 (sdel S k) (fun j => (j < w.heap.size ∨ w5.heap.size ≤ j) ∨ w7.heap.size ≤ j)) := H7.out.1.below B8.out
      clear S1 S2 o2 b2 hs
      go_region_law (first | (refine step_append_given rfl (.tmp 56) (.tmp 59) 27 rfl _ _ _ rfl rfl W1 hr1 ?_) | (refine step_append_given rfl (.tmp 60) (.tmp 64) 27 rfl _ _ _ rfl rfl W2 hr2 ?_))
      clear hr1 hr2 hp2
      go_wp2_with fail
      refine (iget_none H8.out hfk (sfnd_sdel S k)).mono ?_
      rintro e w9 ⟨rfl, hw⟩
      obtain rfl := hw.symm
      clear hw
      go_wp2_with fail
      refine (ikeys H8.out (by rw [← e2.out]; omega)).mono ?_
      rintro e w9 ⟨a9, cap9, rfl, O9⟩
      rw [← e2.out] at O9 ⊢
      have S9 : Hid (Sl w9 a9 (t + (m - s)) (In (kof (sdel S k)))) := by
        obtain ⟨a', c', e', s', _⟩ := O9.out.1.sl
        cases e'
        exact s'
      have S8 : Hid (Sl w9 a2 (t + (m - s)) (In (kof (sdel S k)))) := by
        obtain ⟨a', c', e', s', _⟩ := O2.out.sl
        cases e'
        exact s'.below O9.out.2
      have H9 : Hid (Ch w9 w1.heap.size 2 30 (sdel S k) (fun j => j < w.heap.size)) := (H8.out.below O9.out.2).mono (fun j hj => .inl (.inl (.inl hj)))
      have B10 : Hid (Below w.heap.size w w9) := B9.out.trans (O9.out.2.mono B9.out.size)
      go_wp2_with fail
      refine (same_true a9 a2 (t + (m - s)) cap9 c2 _ w9 (by omega) S9 S8).mono ?_
      rintro e w10 ⟨rfl, M10⟩
      have B11 : Hid (Below w.heap.size w w10) := below_mv B10.out M10.out (Nat.le_refl _) (fun _ _ h => h)
      have H10 : Hid (Ch w10 w1.heap.size 2 30 (sdel S k) (fun j => j < w.heap.size)) := (H9.out.mv M10.out (fun _ h => h.elim)).mono (fun j hj => .inl hj)
      clear S8 S9 O9 H9 M10
      go_wp2_with fail
      refine (iclear H10.out).mono ?_
      rintro e w11 ⟨rfl, H11⟩
      have B12 : Hid (Below w.heap.size w w11) := mvb B11.out H11.out.2
      obtain ⟨b1, o1, rfl, _, hc1⟩ := (hl.out.below B12.out) 0 hn0
      have hd1 : w11.cell? ⟨b1, o1, none⟩ = some (.int .u8 (f 0)) := hc1
      have hfi := hf.out 0
      have hizz : (0 : Int) < (i : Int) := by omega
      clear hc1
      go_wp2_with fail
      refine (iget_none H11.out.1 (fit 0) rfl).mono ?_
      rintro e w12 ⟨rfl, hw⟩
      obtain rfl := hw.symm
      clear hw
      go_wp2_with fail
      refine (ikeys H11.out.1 (by simp)).mono ?_
      rintro e w13 ⟨a13, cap13, rfl, O13⟩
      have B13 : Hid (Below w.heap.size w w13) := B12.out.trans (O13.out.2.mono B12.out.size)
      go_wp2_with fail
      go_ret
      exact ⟨rfl, B13.out⟩

set_option maxHeartbeats 1000000 in
theorem drops_out (w : World) (x : Int) (a : Option Addr) (n c : Nat) (hn : n = 0 ∨ 20 < n) :
    Calls Try.prog 5 #[.slice a n c, .int .u8 x] w fun e w' => e = .returned (.bool true) ∧ Below w.heap.size w w' := by
  rcases hn with rfl | hn
  · go_enter Try.func5, Try.ntmps5
    go_wp2_with fail
    refine (begun_any w).mono ?_
    rintro e w1 ⟨rfl, b1⟩
    have B1 : Hid _ := b1
    clear b1
    go_wp2_with fail
    go_ret
    exact ⟨rfl, B1.out⟩
  · have hnz : (20 : Int) < n := by omega
    have hnz0 : ((n : Int) == 0) = false := by rw [beq_eq_false_iff_ne]; omega
    go_enter Try.func5, Try.ntmps5
    go_wp2_with fail
    refine (begun_any w).mono ?_
    rintro e w1 ⟨rfl, b1⟩
    have B1 : Hid _ := b1
    clear b1
    go_wp2_with fail
    go_ret
    exact ⟨rfl, B1.out⟩

theorem cacheDrops_row (W : World) (a : Option Addr) (n c : Nat) (f : Nat → Int) (s : Sl W a n (fun i => .int .u8 (f i))) (o : ∀ i, (Lit.int .u8 (f i)).wf = true) (_e : a = none → n = 0 ∧ c = 0) (x : Int) (wx : (Lit.int .u8 x).wf = true) :
    Calls Try.prog 5 #[.slice a n c, .int .u8 x] W fun e w' => e = .returned (.bool true) ∧ Below W.heap.size W w' := by
  by_cases h : n = 0 ∨ 20 < n
  · exact drops_out W x a n c h
  · exact drops_any W x (u8_wf' wx) a n c f (by omega) (by omega) (fun i => u8_wf' (o i)) s

end Go.Proofs.Ytaiengohfgbfhaa
