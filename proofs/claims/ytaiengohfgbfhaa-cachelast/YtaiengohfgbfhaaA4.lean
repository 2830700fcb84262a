/- CacheLast. -/
import Derived.Test.YtaiengohfgbfhaaN9
import Derived.Test.YtaiengohfgbfhaaC2
namespace Go.Proofs.Ytaiengohfgbfhaa
open Go.RowKit

set_option maxHeartbeats 4000000 in
set_option maxRecDepth 100000 in
theorem last_any (w : World) (x : Int) (hx : 0 ≤ x ∧ x ≤ 255) (a : Option Addr) (n c : Nat) (f : Nat → Int) (hn : n ≤ 80) (hf : Hid (∀ i, 0 ≤ f i ∧ f i ≤ 255)) (hl : Hid (Sl w a n (By f))) :
    Calls Try.prog 4 #[.int .u8 x, .slice a n c] w fun e w' => e = .returned (.bool true) ∧ Below w.heap.size w w' := by
  have hnz : (n : Int) ≤ 80 := by omega
  go_enter Try.func4, Try.ntmps4
  go_wp2_with fail
  refine (begun_any w).mono ?_
  rintro e w1 ⟨rfl, b1⟩
  have B1 : Hid _ := b1
  clear b1
  go_wp2_with fail
  obtain ⟨N, hN⟩ : ∃ N : Nat, (1 : Int) + x % 10 = N := ⟨(1 + x % 10).toNat, by omega⟩
  have hN1 : 1 ≤ N ∧ N ≤ 10 := by omega
  have HN : Hid _ := hN
  rw [HN.out]
  clear hN
  have hmo : Hid ((N : Int) = max (N : Int) 1) := by show _ = _; omega
  refine (inew (N : Int) w1).mono ?_
  rintro e w2 ⟨rfl, hw⟩
  obtain rfl := hw.symm
  clear hw
  obtain ⟨q, hq⟩ : ∃ q : Nat → Int, q = fun i => f i % 16 := ⟨_, rfl⟩
  have HQ : Hid (∀ i, f i % 16 = q i ∧ 0 ≤ q i ∧ q i < 16) := by
    intro i
    have := hf.out i
    rw [hq]
    refine ⟨rfl, ?_, ?_⟩
    · show 0 ≤ f i % 16
      omega
    · show f i % 16 < 16
      omega
  have fit : ∀ i, fits (q i) := fun i => WalkArith.wf_i64 (by have := HQ.out i; omega)
  have C0 : Hid (Ch (w1.alloc (.cells #[.int .i64 N, .map none, .pointer none, .pointer none] 66)) w1.heap.size 2 N [] (fun j => j < w.heap.size)) := Ch.new w1 2 N 66 _ (fun j h => by have := B1.out.size; omega) (by omega)
  have B2 : Hid (Below w.heap.size w (w1.alloc (.cells #[.int .i64 N, .map none, .pointer none, .pointer none] 66))) := B1.out.alloc B1.out.size _
  have mvb : ∀ a b : World, Below w.heap.size w a → Mv (fun j => ¬ j < w.heap.size) a b → Below w.heap.size w b := fun a b h k => below_mv h k (Nat.le_refl _) (fun j hj h => h hj)
  clear hq
  go_wp2_with fail
  go_loopw [7] (fun vi wr => ∃ (i : Nat) (S : List Kw), i ≤ n ∧ vi = .int .i64 i ∧ Hid (Ch wr w1.heap.size 2 N S (fun j => j < w.heap.size) ∧ S.length ≤ N ∧ ks S = (rcn (rv q i)).take N ∧ Below w.heap.size w wr)) (fun vi _ => n - (intOf vi).toNat)
  case atStart => exact ⟨0, [], by omega, rfl, C0.out, by simp, by simp [ks, rv, rcn], B2.out⟩
  case round =>
    obtain ⟨i, S, hi, rfl, H⟩ := hrel
    by_cases hlt : i < n
    · have hltz : (i : Int) < (n : Int) := by omega
      obtain ⟨b1, o1, rfl, _, hc1⟩ := (hl.out.below H.out.2.2.2) i hlt
      have hd1 : wr.cell? ⟨b1, o1 + i, none⟩ = some (.int .u8 (f i)) := hc1
      have hfi := hf.out i
      clear hc1
      go_wp2_with fail
      rw [(HQ.out i).1]
      have hstep : Hid (step N (ks S) (q i) = (rcn (rv q (i + 1))).take N) := by
        show _ = _
        rw [H.out.2.2.1, step_take (nodup_rcn _) _ _ (by omega)]; rfl
      cases hfd : sfnd S (q i) with
      | none =>
        have FD : Hid _ := hfd
        clear hfd
        refine (iget_none H.out.1 (fit i) FD.out).mono ?_
        rintro e w3 ⟨rfl, hw⟩
        obtain rfl := hw.symm
        clear hw
        go_wp2_with fail
        refine (iput H.out.1 (fit i) (fun j h => by have := H.out.2.2.2.size; omega) (by have := H.out.2.1; omega) (by have := H.out.2.1; omega) i).mono ?_
        rintro e w3 ⟨rfl, H3⟩
        go_wp2_with fail
        refine ⟨⟨i + 1, pS N S (q i) (fun _ => .int .i64 i), by omega, by go_num, H3.out.1, ?_, ?_, mvb _ _ H.out.2.2.2 H3.out.2⟩, by simp [intOf]; omega⟩
        · have := pS_length H.out.1.nodup (mo := N) (k := q i) (by have := H.out.2.1; omega) (fun _ => .int .i64 i)
          omega
        · rw [ks_pS H.out.1.nodup hmo.out H.out.2.1, hstep.out]
      | some p =>
        have FD : Hid _ := hfd
        clear hfd
        refine (iget_some H.out.1 (fit i) FD.out).mono ?_
        rintro e w3 ⟨rfl, H3⟩
        go_wp2_with fail
        refine ⟨⟨i + 1, p :: sdel S (q i), by omega, by go_num, H3.out.1, ?_, ?_, mvb _ _ H.out.2.2.2 H3.out.2⟩, by simp [intOf]; omega⟩
        · have := sdel_length H.out.1.nodup FD.out
          have := H.out.2.1
          rw [List.length_cons]; omega
        · rw [ks_get H.out.1.nodup H.out.2.1 FD.out, hstep.out]
    · obtain rfl : i = n := by omega
      go_wp2_with fail
      obtain ⟨w5, h5⟩ : ∃ w5, w5 = wr := ⟨wr, rfl⟩
      subst h5
      go_loopw [11, 12] (fun vw vi wr => ∃ (j m : Nat) (z : Int) (a5 : Option Addr) (cap5 : Nat), vw = .slice a5 m cap5 ∧ vi = .int .i64 z ∧ z + j + 1 = i ∧ j ≤ i ∧ m ≤ N ∧ Hid (m = (rcn ((rv q i).take j)).length) ∧ Hid (Own wr w5.heap.size 3 (.slice a5 m cap5) m (In (lof (rcn ((rv q i).take j))))) ∧ Hid (Below w5.heap.size w5 wr)) (fun _ vi _ => ((intOf vi) + 1).toNat)
      case atStart => exact ⟨0, 0, (i : Int) - 1, none, 0, rfl, rfl, by omega, by omega, by omega, rfl, own_nil _ _ _ _, Below.refl _ _⟩
      case round =>
        obtain ⟨j, m, z, a5, cap5, rfl, rfl, hz, hj, hm, L5, O5, B5⟩ := hrel
        have B7 : Hid (Below w.heap.size w wr) := H.out.2.2.2.trans (B5.out.mono H.out.2.2.2.size)
        by_cases hgo : 0 ≤ z ∧ m < N
        · obtain ⟨i', rfl⟩ : ∃ i' : Nat, z = i' := ⟨z.toNat, by omega⟩
          have hi' : i' < i := by omega
          have hiz : (i' : Int) < (i : Int) := by omega
          have hmN : (m : Int) < (N : Int) := by omega
          obtain ⟨b1, o1, rfl, _, hc1⟩ := (hl.out.below B7.out) i' hi'
          have hd1 : wr.cell? ⟨b1, o1 + i', none⟩ = some (.int .u8 (f i')) := hc1
          have hfi := hf.out i'
          clear hc1
          go_wp2_with fail
          rw [(HQ.out i').1]
          obtain ⟨w6, h6⟩ : ∃ w6, w6 = wr := ⟨wr, rfl⟩
          subst h6
          have hK : Hid (q (i - 1 - j) = q i') := by
            show _ = _
            congr 1
            omega
          have hT : Hid ((rv q i).take (j + 1) = (rv q i).take j ++ [q i']) := by
            show _ = _
            rw [rv_take q i j (by omega), hK.out]
          have hqi := HQ.out i'
          go_loopw [14, 15] (fun vb vt wr => ∃ (t : Nat) (bb : Bool), vt = .int .i64 t ∧ vb = .bool bb ∧ t ≤ m ∧ Hid (bb = decide (q i' ∈ (rcn ((rv q i).take j)).take t)) ∧ wr = w6) (fun _ vt _ => m - (intOf vt).toNat)
          case atStart => exact ⟨0, false, rfl, rfl, by omega, (by show false = _; simp), by trivial⟩
          case round =>
            obtain ⟨t, bb, rfl, rfl, ht, hb, rfl⟩ := hrel
            by_cases htm : t < m
            · have htz : (t : Int) < (m : Int) := by omega
              obtain ⟨a8, cap8, e8, s8, _⟩ := O5.out.sl
              cases e8
              obtain ⟨b2, o2, rfl, _, hc2⟩ := s8 t htm
              have hd2 : wr.cell? ⟨b2, o2 + t, none⟩ = some (.int .i64 (lof (rcn ((rv q i).take j)) t)) := hc2
              have htl : Hid ((rcn ((rv q i).take j)).take (t + 1) = (rcn ((rv q i).take j)).take t ++ [lof (rcn ((rv q i).take j)) t]) := by
                show _ = _
                have hlt : t < (rcn ((rv q i).take j)).length := by rw [← L5.out]; exact htm
                rw [List.take_add_one]
                unfold lof
                rw [List.getElem?_eq_getElem hlt]; rfl
              clear hc2 s8
              generalize lof (rcn ((rv q i).take j)) t = y at hd2 htl
              cases bb with
              | true =>
                go_wp2_with fail
                exact ⟨⟨t + 1, true, by go_num, rfl, by omega, by
                  show true = _
                  rw [htl.out]
                  have := hb.out
                  symm at this
                  rw [decide_eq_true_iff] at this
                  symm
                  rw [decide_eq_true_iff, List.mem_append]
                  exact .inl this, by trivial⟩, by simp [intOf]; omega⟩
              | false =>
                by_cases hy : y = q i'
                · have hye : (y == q i') = true := by rw [hy]; simp
                  have hb2 : Hid (true = decide (q i' ∈ (rcn ((rv q i).take j)).take (t + 1))) := by
                    show _ = _
                    symm
                    rw [htl.out, decide_eq_true_iff, hy]
                    simp
                  clear hy
                  go_wp2_with fail
                  exact ⟨⟨t + 1, true, by go_num, rfl, by omega, hb2, by trivial⟩, by simp [intOf]; omega⟩
                · have hye : (y == q i') = false := by rw [beq_eq_false_iff_ne]; exact hy
                  have hb2 : Hid (false = decide (q i' ∈ (rcn ((rv q i).take j)).take (t + 1))) := by
                    show _ = _
                    have := hb.out
                    symm at this ⊢
                    rw [decide_eq_false_iff_not] at this ⊢
                    rw [htl.out, List.mem_append]
                    rintro (h | h)
                    · exact this h
                    · exact hy (List.mem_singleton.1 h).symm
                  clear hy
                  go_wp2_with fail
                  exact ⟨⟨t + 1, false, by go_num, rfl, by omega, hb2, by trivial⟩, by simp [intOf]; omega⟩
            · obtain rfl : t = m := by omega
              have hall : Hid ((rcn ((rv q i).take j)).take t = rcn ((rv q i).take j)) := List.take_of_length_le (by rw [← L5.out]; omega)
              cases bb with
              | true =>
                have hin : Hid (rcn ((rv q i).take (j + 1)) = rcn ((rv q i).take j)) := by
                  show _ = _
                  have := hb.out.symm
                  rw [decide_eq_true_iff, hall.out] at this
                  rw [hT.out, rcn_snoc, if_pos this]
                go_wp2_with fail
                exact ⟨⟨j + 1, t, (i' : Int) - 1, a5, cap5, rfl, by go_num, by omega, by omega, by omega, by rw [hin.out]; exact L5, by rw [hin.out]; exact O5, B5⟩, by simp [intOf]⟩
              | false =>
                have hin : Hid (rcn ((rv q i).take (j + 1)) = rcn ((rv q i).take j) ++ [q i']) := by
                  show _ = _
                  have := hb.out.symm
                  rw [decide_eq_false_iff_not, hall.out] at this
                  rw [hT.out, rcn_snoc, if_neg this]
                have O8 : Hid (Own wr w5.heap.size 3 (.slice a5 t cap5) t (In (lof (rcn ((rv q i).take (j + 1)))))) := O5.out.congr (fun y hy => by
                  unfold In lof
                  rw [hin.out, List.getElem?_append_left (by rw [← L5.out]; exact hy)])
                obtain ⟨a9, cap9, W9, hr9, O9, _, _, B9⟩ := more wr w5.heap.size a5 t cap5 _ O8.out (by omega) (q i') (by
                  unfold lof
                  rw [hin.out, L5.out, List.getElem?_concat_length]; rfl) B5.out.size wr.heap.size rfl
                have P9 : Hid _ := O9
                have Q9 : Hid (Below w5.heap.size w5 W9) := B5.out.trans B9
                have L9 : Hid (t + 1 = (rcn ((rv q i).take (j + 1))).length) := by
                  show _ = _
                  rw [hin.out, List.length_append, ← L5.out]; rfl
                clear O9 B9
                go_wp2_with (at_builtin; first | (refine wpList_append_given rfl _ _ 27 rfl _ _ _ W9 rfl rfl hr9 ?_))
                go_wp2_with fail
                exact ⟨⟨j + 1, t + 1, (i' : Int) - 1, a9, cap9, rfl, by go_num, by omega, by omega, by omega, L9, P9, Q9⟩, by simp [intOf]⟩
        · have hfin : Hid (rcn ((rv q i).take j) = ks S) := by
            show _ = _
            rw [H.out.2.2.1]
            obtain ⟨r, hr⟩ := rcn_pre ((rv q i).take j) ((rv q i).drop j)
            rw [List.take_append_drop] at hr
            have hL := L5.out
            by_cases hjn : j = i
            · have e1 : (rv q i).take j = rv q i := List.take_of_length_le (by rw [rv_length]; omega)
              rw [e1] at hL ⊢
              rw [List.take_of_length_le (by omega)]
            · have hmN : m = N := by omega
              rw [hr, ← hmN, hL, List.take_left]
          have hlen : Hid (S.length = m) := by show _ = _; rw [L5.out, hfin.out, ks_length]
          by_cases hz0 : 0 ≤ z
          · have hmN : (N : Int) ≤ (m : Int) := by omega
            go_wp2_with fail
            refine (ikeys (H.out.1.below B5.out) (by have := H.out.2.1; omega)).mono ?_
            rintro e w6 ⟨a6, cap6, rfl, O6⟩
            go_wp2_with fail
            rw [hlen.out] at O6 ⊢
            obtain ⟨a7, cap7, e7, s7, _⟩ := O6.out.1.sl
            cases e7
            have s8 : Hid (Sl w6 a6 m (In (lof (rcn ((rv q i).take j))))) := by
              have := s7
              rw [kof_lof, ← hfin.out] at this
              exact this
            have s9 : Hid (Sl w6 a5 m (In (lof (rcn ((rv q i).take j))))) := by
              obtain ⟨a8, cap8, e8, s8, _⟩ := O5.out.sl
              cases e8
              exact s8.below O6.out.2
            have B6 : Hid (Below w.heap.size w w6) := B7.out.trans (O6.out.2.mono B7.out.size)
            clear s7 O6
            refine (same_true a6 a5 m cap6 cap5 _ w6 (by omega) s8 s9).mono ?_
            rintro e w7 ⟨rfl, M7⟩
            go_wp2_with fail
            go_ret
            exact ⟨rfl, below_mv B6.out M7.out (Nat.le_refl _) (fun _ _ h => h)⟩
          · have hz1 : z < 0 := by omega
            go_wp2_with fail
            refine (ikeys (H.out.1.below B5.out) (by have := H.out.2.1; omega)).mono ?_
            rintro e w6 ⟨a6, cap6, rfl, O6⟩
            go_wp2_with fail
            rw [hlen.out] at O6 ⊢
            obtain ⟨a7, cap7, e7, s7, _⟩ := O6.out.1.sl
            cases e7
            have s8 : Hid (Sl w6 a6 m (In (lof (rcn ((rv q i).take j))))) := by
              have := s7
              rw [kof_lof, ← hfin.out] at this
              exact this
            have s9 : Hid (Sl w6 a5 m (In (lof (rcn ((rv q i).take j))))) := by
              obtain ⟨a8, cap8, e8, s8, _⟩ := O5.out.sl
              cases e8
              exact s8.below O6.out.2
            have B6 : Hid (Below w.heap.size w w6) := B7.out.trans (O6.out.2.mono B7.out.size)
            clear s7 O6
            refine (same_true a6 a5 m cap6 cap5 _ w6 (by omega) s8 s9).mono ?_
            rintro e w7 ⟨rfl, M7⟩
            go_wp2_with fail
            go_ret
            exact ⟨rfl, below_mv B6.out M7.out (Nat.le_refl _) (fun _ _ h => h)⟩

set_option maxHeartbeats 1000000 in
theorem last_out (w : World) (x : Int) (a : Option Addr) (n c : Nat) (hn : 80 < n) :
    Calls Try.prog 4 #[.int .u8 x, .slice a n c] w fun e w' => e = .returned (.bool true) ∧ Below w.heap.size w w' := by
  have hnz : (80 : Int) < n := by omega
  go_enter Try.func4, Try.ntmps4
  go_wp2_with fail
  refine (begun_any w).mono ?_
  rintro e w1 ⟨rfl, b1⟩
  have B1 : Hid _ := b1
  clear b1
  go_wp2_with fail
  go_ret
  exact ⟨rfl, B1.out⟩

theorem cacheLast_row (W : World) (x : Int) (wx : (Lit.int .u8 x).wf = true) (a : Option Addr) (n c : Nat) (f : Nat → Int) (s : Sl W a n (fun i => .int .u8 (f i))) (o : ∀ i, (Lit.int .u8 (f i)).wf = true) (_e : a = none → n = 0 ∧ c = 0) :
    Calls Try.prog 4 #[.int .u8 x, .slice a n c] W fun e w' => e = .returned (.bool true) ∧ Below W.heap.size W w' := by
  by_cases h : 80 < n
  · exact last_out W x a n c h
  · exact last_any W x (u8_wf' wx) a n c f (by omega) (fun i => u8_wf' (o i)) s

end Go.Proofs.Ytaiengohfgbfhaa
