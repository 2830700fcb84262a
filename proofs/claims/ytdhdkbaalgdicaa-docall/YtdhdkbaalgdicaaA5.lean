/- DocParts. -/
import Derived.Test.YtdhdkbaalgdicaaLB1
namespace Go.Proofs.Ytdhdkbaalgdicaa
open Go.RowKit
set_option linter.unusedVariables false

theorem parts_cat {α : Type} (L : List α) (a b c : Nat) (h1 : a ≤ b) (h2 : b ≤ c) (h3 : b ≤ L.length) : (L.take b).drop a ++ (L.take c).drop b = (L.take c).drop a := by
  have e : L.take b = (L.take c).take b := by rw [List.take_take, Nat.min_eq_left h2]
  rw [e]
  generalize L.take c = M at *
  conv => rhs; rw [← List.take_append_drop b M]
  rw [List.drop_append]
  by_cases hl : b ≤ M.length
  · rw [List.length_take, Nat.min_eq_left hl, show a - b = 0 by omega, List.drop_zero]
  · rw [List.drop_eq_nil_of_le (show M.length ≤ b by omega)]; simp
theorem str_cat (a b : List Int) : strOfNums a ++ strOfNums b = strOfNums (a ++ b) := by
  unfold strOfNums
  apply ByteArray.ext
  rw [ByteArray.data_append]
  simp
/-- The text of a row that was told. -/
theorem conv_row {w : World} {base n : Nat} {a : Option Addr} {c : Nat} {l : List Int} (h : OB w base (.slice a n c) l) (hl : l.length = n) : (convert 22 9 (.slice a n c)).run Try.prog w = .ok (.string (strOfNums l)) w := by
  obtain ⟨a2, c2, e2, h2⟩ := conv_list _ _ _ _ h
  rw [hl] at e2 h2
  cases e2
  exact h2
theorem mid_len {α : Type} (L : List α) (a b : Nat) (h2 : b ≤ L.length) : ((L.take b).drop a).length = b - a := by rw [List.length_drop, List.length_take]; omega

set_option maxHeartbeats 2000000 in
set_option maxRecDepth 20000 in
theorem partsD_out (a0 : Option Addr) (n c0 : Nat) (a1 : Option Addr) (k c1 : Nat) (x y u v z : Int) (w : World) (h : 100 < n ∨ 20 < k ∨ n + k = 0) :
    Calls Try.prog 5 #[.slice a0 n c0, .slice a1 k c1, .int .u8 x, .int .u8 y, .int .u8 u, .int .u8 v, .int .u8 z] w fun e w' => e = .returned (.bool true) ∧ Below w.heap.size w w' := by
  by_cases h1 : 100 < n
  · have z1 : (100 : Int) < n := by omega
    clear h h1
    go_enter Try.func5, Try.ntmps5
    go_wp2_with fail
    refine (begun7 w).mono ?_
    rintro e w1 ⟨rfl, B⟩
    go_wp2_with fail
    go_ret
    exact ⟨rfl, B.out⟩
  · have z1 : (n : Int) ≤ 100 := by omega
    by_cases h2 : 20 < k
    · have z2 : (20 : Int) < k := by omega
      clear h h1 h2
      go_enter Try.func5, Try.ntmps5
      go_wp2_with fail
      refine (begun7 w).mono ?_
      rintro e w1 ⟨rfl, B⟩
      go_wp2_with fail
      go_ret
      exact ⟨rfl, B.out⟩
    · obtain ⟨rfl, rfl⟩ : n = 0 ∧ k = 0 := by omega
      clear h h1 h2
      go_enter Try.func5, Try.ntmps5
      go_wp2_with fail
      refine (begun7 w).mono ?_
      rintro e w1 ⟨rfl, B⟩
      go_wp2_with fail
      go_ret
      exact ⟨rfl, B.out⟩

set_option maxHeartbeats 8000000 in
set_option maxRecDepth 20000 in
theorem partsD_walk (w : World) (a0 : Option Addr) (n c0 : Nat) (f0 : Nat → Int) (s0 : Hid (Sl w a0 n (By f0))) (a1 : Option Addr) (k c1 : Nat) (f1 : Nat → Int) (s1 : Hid (Sl w a1 k (By f1))) (e1 : Hid (a1 = none → k = 0 ∧ c1 = 0)) (x y u v z : Int) (hx0 : 0 ≤ x) (hx1 : x ≤ 255) (hy0 : 0 ≤ y) (hy1 : y ≤ 255) (hu0 : 0 ≤ u) (hu1 : u ≤ 255) (hv0 : 0 ≤ v) (hv1 : v ≤ 255) (hz0 : 0 ≤ z) (hz1 : z ≤ 255) (hn : n ≤ 100) (hk : k ≤ 20) (hnk : ¬ n + k = 0) :
    Calls Try.prog 5 #[.slice a0 n c0, .slice a1 k c1, .int .u8 x, .int .u8 y, .int .u8 u, .int .u8 v, .int .u8 z] w fun e w' => e = .returned (.bool true) ∧ Below w.heap.size w w' := by
  have z2 : (n : Int) ≤ 100 := by omega
  have z4 : (k : Int) ≤ 20 := by omega
  obtain ⟨N, hN⟩ : ∃ N : Nat, (n : Int) + k = N := ⟨n + k, by omega⟩
  have HNN : Hid (N = n + k) := by show _ = _; omega
  have hN0 : ¬ N = 0 := by have := HNN.out; omega
  have hN1 : ((N : Int) == 0) = false := by rw [beq_eq_false_iff_ne]; omega
  have hN2 : (N : Int) ≤ 120 := by omega
  obtain ⟨sz, hsz⟩ : ∃ sz : Nat, (1 : Int) + y % 20 = sz := ⟨(1 + y % 20).toNat, by omega⟩
  have hsz0 : 0 < sz := by omega
  have hsz1 : sz ≤ 20 := by omega
  obtain ⟨t, ht⟩ : ∃ t : Nat, x % ((n : Int) + 1) = t := ⟨(x % ((n : Int) + 1)).toNat, by have := Int.emod_nonneg x (show ((n : Int) + 1) ≠ 0 by omega); omega⟩
  have htn : t ≤ n := by have := Int.emod_lt_of_pos x (show (0 : Int) < (n : Int) + 1 by omega); omega
  obtain ⟨fr, hfr⟩ : ∃ fr : Nat, u % (N : Int) = fr := ⟨(u % (N : Int)).toNat, by have := Int.emod_nonneg u (show (N : Int) ≠ 0 by omega); omega⟩
  have hfn : fr < N := by have := Int.emod_lt_of_pos u (show (0 : Int) < (N : Int) by omega); omega
  obtain ⟨md, hmd⟩ : ∃ md : Nat, (if (N : Int) < (fr : Int) + v then (N : Int) else (fr : Int) + v) = md := ⟨(if (N : Int) < (fr : Int) + v then (N : Int) else (fr : Int) + v).toNat, by split <;> omega⟩
  have hm1 : fr ≤ md ∧ md ≤ N := by split at hmd <;> omega
  obtain ⟨en, hen⟩ : ∃ en : Nat, (if (N : Int) < (md : Int) + z then (N : Int) else (md : Int) + z) = en := ⟨(if (N : Int) < (md : Int) + z then (N : Int) else (md : Int) + z).toNat, by split <;> omega⟩
  have hm2 : md ≤ en ∧ en ≤ N := by split at hen <;> omega
  have HMD : Hid (fr ≤ md ∧ md ≤ N ∧ md ≤ en ∧ en ≤ N) := ⟨hm1.1, hm1.2, hm2.1, hm2.2⟩
  clear hm1 hm2 hnk
  go_enter Try.func5, Try.ntmps5
  go_wp2_with fail
  refine (begun7 w).mono ?_
  rintro e w1 ⟨rfl, B0⟩
  have S0 : Hid (Sl w1 a0 n (By f0)) := s0.out.below B0.out
  go_wp2_with fail
  refine (new_ok a0 n c0 sz f0 w1 (by omega) hsz0 (by omega) S0).mono ?_
  rintro e W1 ⟨d, rfl, hd, P1, B1⟩
  have B2 : Hid (Below w.heap.size w W1) := B0.out.trans (B1.out.mono B0.out.size)
  have D0 : Hid (w.heap.size ≤ d.base) := by show _ ≤ _; rw [hd.out.1]; exact B0.out.size
  have DN : Hid (d.n = n) := hd.out.2.2.1
  have DT : Hid (d.top = W1.heap.size) := hd.out.2.1
  clear B1 B0 S0 s0 hd
  go_wp2_with fail
  refine (new_any n (by omega) W1).mono ?_
  rintro e w2 ⟨q, rfl, hq, T2⟩
  have PR : Hid (Pre w w2 d q (sp1 ⟨false, 0, n⟩) 0 (fun _ => 0)) := Pre.new P1.out B2.out D0.out DT.out (by rw [DN.out]; exact T2.out.1) T2.out.2
  clear T2 P1 B2 D0 DT hq
  have LF : Hid ((sp1 ⟨false, 0, n⟩).length = n) := by show _ = _; rw [sp1_length]; show n - 0 = n; omega
  have S1 : Hid (Sl w2 a1 k (By f1)) := s1.out.below PR.out.B
  have ED := edit_ok (h := (PR.out.T : Hid _)) t t a1 k c1 f1 (Nat.le_refl _) (by rw [LF.out]; exact htn) (by omega) S1 e1 (by omega) (by rw [LF.out]; omega)
  go_wp2_with fail
  refine ED.mono ?_
  rintro e w3 ⟨rfl, T3⟩
  have PR3 : Hid (Pre w w3 d q (ins (sp1 ⟨false, 0, n⟩) t t 0 k) (0 + k) (catI (fun _ => 0) 0 f1)) := PR.out.edit T3.out.1 T3.out.2
  clear T3 PR ED S1 LF
  have LL : Hid ((ins (sp1 ⟨false, 0, n⟩) t t 0 k).length = N) := by show _ = _; rw [put_length n t k htn, HNN.out]
  generalize ins (sp1 ⟨false, 0, n⟩) t t 0 k = L at *
  generalize catI (fun _ => 0) 0 f1 = A at *
  have FC := PR3.out.file 2
  go_wp2_with fail
  refine FC.mono ?_
  rintro e w4 ⟨fq, rfl, D4⟩
  clear FC PR3
  go_wp2_with fail
  refine (dnew_any _ _ w4).mono ?_
  rintro e w5 ⟨rfl, hw⟩
  obtain ⟨dp, hdp⟩ : ∃ dp, dp = w4.heap.size := ⟨_, rfl⟩
  rw [← hdp, ← hw] at D4
  rw [← hdp]
  clear hw hdp
  have BY := Dd.bytes D4 fr md (by have := HMD.out; omega) (by have := HMD.out; rw [LL.out]; omega) (by have := HMD.out; simp; omega) (gd_none _ _)
  obtain ⟨l1, hl1⟩ : ∃ l1, l1 = md - fr := ⟨_, rfl⟩
  have HL1 : Hid (l1 = md - fr) := hl1
  rw [← hl1] at BY
  clear hl1
  go_wp2_with fail
  refine BY.mono ?_
  rintro e w6 ⟨xa, xc, rfl, T6⟩
  clear BY D4
  obtain ⟨l6, R6, D60, O60, _, rd6⟩ := T6.out
  have D6 : Hid (Dd w w6 dp fq q d 2 l6 (fun _ => false) R6 L (0 + k) A (fun j => False ∨ bk xa = some j)) := D60
  have O6 : Hid (OB w6 w5.heap.size (.slice xa l1 xc) (((L.take md).drop fr).map (bt d.f A))) := O60
  have R6L : Hid (R6.length ≤ 120) := by
    have h1 := rd6.2
    rw [mid_len L fr md (by have := HMD.out; rw [LL.out]; omega)] at h1
    have := HMD.out
    simp at h1
    show _ ≤ _
    omega
  clear D60 O60 rd6 T6
  have BY := Dd.bytes D6 md en (by have := HMD.out; omega) (by have := HMD.out; rw [LL.out]; omega) (by have := HMD.out; have := R6L.out; omega) (gd_none _ _)
  obtain ⟨l2, hl2⟩ : ∃ l2, l2 = en - md := ⟨_, rfl⟩
  have HL2 : Hid (l2 = en - md) := hl2
  rw [← hl2] at BY
  clear hl2
  go_wp2_with fail
  refine BY.mono ?_
  rintro e w7 ⟨ya, yc, rfl, T7⟩
  clear BY D6
  obtain ⟨l7, R7, D70, O70, M7, rd7⟩ := T7.out
  have D7 : Hid (Dd w w7 dp fq q d 2 l7 (fun _ => false) R7 L (0 + k) A (fun j => (False ∨ bk xa = some j) ∨ bk ya = some j)) := D70
  have X7 : Hid (OB w7 w5.heap.size (.slice xa l1 xc) (((L.take md).drop fr).map (bt d.f A))) := M7.owns O6.out (fun j hj e => e (.inr (by rw [own_blk] at hj; exact hj)))
  have O7 : Hid (OB w7 w6.heap.size (.slice ya l2 yc) (((L.take en).drop md).map (bt d.f A))) := O70
  have R7L : Hid (R7.length ≤ 240) := by
    have h1 := rd7.2
    rw [mid_len L md en (by have := HMD.out; rw [LL.out]; omega)] at h1
    have := HMD.out
    have := R6L.out
    show _ ≤ _
    omega
  clear D70 O70 rd7 T7 M7 O6 R6L
  have BY := Dd.bytes D7 fr en (by have := HMD.out; omega) (by have := HMD.out; rw [LL.out]; omega) (by have := HMD.out; have := R7L.out; omega) (gd_none _ _)
  obtain ⟨l3, hl3⟩ : ∃ l3, l3 = en - fr := ⟨_, rfl⟩
  have HL3 : Hid (l3 = en - fr) := hl3
  rw [← hl3] at BY
  clear hl3
  go_wp2_with fail
  refine BY.mono ?_
  rintro e w8 ⟨za, zc, rfl, T8⟩
  clear BY D7
  obtain ⟨l8, R8, D80, O80, M8, rd8⟩ := T8.out
  have D8 : Hid (Dd w w8 dp fq q d 2 l8 (fun _ => false) R8 L (0 + k) A (fun j => ((False ∨ bk xa = some j) ∨ bk ya = some j) ∨ bk za = some j)) := D80
  have X8 : Hid (OB w8 w5.heap.size (.slice xa l1 xc) (((L.take md).drop fr).map (bt d.f A))) := M8.owns X7.out (fun j hj e => e (.inl (.inr (by rw [own_blk] at hj; exact hj))))
  have Y8 : Hid (OB w8 w6.heap.size (.slice ya l2 yc) (((L.take en).drop md).map (bt d.f A))) := M8.owns O7.out (fun j hj e => e (.inr (by rw [own_blk] at hj; exact hj)))
  have O8 : Hid (OB w8 w7.heap.size (.slice za l3 zc) (((L.take en).drop fr).map (bt d.f A))) := O80
  have R8L : Hid (R8.length ≤ 360) := by
    have h1 := rd8.2
    rw [mid_len L fr en (by have := HMD.out; rw [LL.out]; omega)] at h1
    have := HMD.out
    have := R7L.out
    show _ ≤ _
    omega
  clear D80 O80 rd8 T8 M8 O7 R7L X7
  obtain ⟨b0, hb0⟩ : ∃ b, L[fr]? = some b := ⟨L[fr]'(by rw [LL.out]; exact hfn), List.getElem?_eq_getElem _⟩
  have HB0 : Hid (L[fr]? = some b0) := hb0
  clear hb0
  obtain ⟨g, hg⟩ : ∃ g, g = bt d.f A b0 := ⟨_, rfl⟩
  have HG : Hid (g = bt d.f A b0) := hg
  have AT := Dd.at D8 fr b0 HB0.out (by have := R8L.out; omega) (gd_none _ _)
  rw [← hg] at AT
  clear hg
  go_wp2_with fail
  refine AT.mono ?_
  rintro e w9 ⟨rfl, T9⟩
  clear AT D8
  obtain ⟨l9, R9, D90, M9, rd9⟩ := T9.out
  have D9 : Hid (Dd w w9 dp fq q d 2 l9 (fun _ => false) R9 L (0 + k) A (fun j => ((False ∨ bk xa = some j) ∨ bk ya = some j) ∨ bk za = some j)) := D90
  have X9 : Hid (OB w9 w5.heap.size (.slice xa l1 xc) (((L.take md).drop fr).map (bt d.f A))) := M9.owns X8.out (fun j hj e => e (.inl (.inl (.inr (by rw [own_blk] at hj; exact hj)))))
  have Y9 : Hid (OB w9 w6.heap.size (.slice ya l2 yc) (((L.take en).drop md).map (bt d.f A))) := M9.owns Y8.out (fun j hj e => e (.inl (.inr (by rw [own_blk] at hj; exact hj))))
  have O9 : Hid (OB w9 w7.heap.size (.slice za l3 zc) (((L.take en).drop fr).map (bt d.f A))) := M9.owns O8.out (fun j hj e => e (.inr (by rw [own_blk] at hj; exact hj)))
  have R9L : Hid (R9.length ≤ 361) := by
    have h1 := rd9.2
    have := R8L.out
    simp at h1
    show _ ≤ _
    omega
  clear D90 rd9 T9 M9 O8 R8L X8 Y8
  have BY := Dd.bytes D9 fr (fr + 1) (by omega) (by rw [LL.out]; omega) (by have := R9L.out; omega) (gd_none _ _)
  rw [take_one L fr b0 HB0.out, show fr + 1 - fr = 1 by omega, show ((fr + 1 : Nat) : Int) = (fr : Int) + 1 by omega] at BY
  go_wp2_with fail
  refine BY.mono ?_
  rintro e wa ⟨va, vc, rfl, Ta⟩
  clear BY D9
  obtain ⟨la, Ra, Da0, Oa, Ma, rda⟩ := Ta.out
  have Ba : Hid (Below w.heap.size w wa) := Dd.B Da0
  have Xa := Ma.owns X9.out (fun j hj e => e (.inl (.inl (.inr (by rw [own_blk] at hj; exact hj)))))
  have Ya := Ma.owns Y9.out (fun j hj e => e (.inl (.inr (by rw [own_blk] at hj; exact hj))))
  have Za := Ma.owns O9.out (fun j hj e => e (.inr (by rw [own_blk] at hj; exact hj)))
  have mdl : ∀ a b, b ≤ N → (((L.take b).drop a).map (bt d.f A)).length = b - a := fun a b hb => by rw [List.length_map, mid_len L a b (by rw [LL.out]; exact hb)]
  have CX := conv_row Xa (by rw [HL1.out]; exact mdl _ _ (by have := HMD.out; omega))
  have CY := conv_row Ya (by rw [HL2.out]; exact mdl _ _ (by have := HMD.out; omega))
  have CZ := conv_row Za (by rw [HL3.out]; exact mdl _ _ (by have := HMD.out; omega))
  have ss : ∀ a b, b ≤ N → (strOfNums (((L.take b).drop a).map (bt d.f A))).size ≤ 120 := fun a b hb => by rw [strOfNums_size, mdl a b hb]; omega
  have s1 := ss fr md (by have := HMD.out; omega)
  have s2 := ss md en (by have := HMD.out; omega)
  have SC : strOfNums (((L.take md).drop fr).map (bt d.f A)) ++ strOfNums (((L.take en).drop md).map (bt d.f A)) = strOfNums (((L.take en).drop fr).map (bt d.f A)) := by
    rw [str_cat, ← List.map_append, parts_cat L fr md en (by have := HMD.out; omega) (by have := HMD.out; omega) (by have := HMD.out; rw [LL.out]; omega)]
  obtain ⟨gb, go, rfl, hgc⟩ : ∃ gb go, va = some ⟨gb, go, none⟩ ∧ wa.cell? ⟨gb, go, none⟩ = some (.int .u8 g) := by
    obtain ⟨a2, c2, e2, s2, _⟩ := ow_ls Oa
    cases e2
    obtain ⟨b1, o1, e3, _, hc⟩ := s2 0 (.int .u8 (bt d.f A b0)) rfl
    exact ⟨b1, o1, e3, by rw [HG.out]; exact hc⟩
  clear Da0 Oa Ma rda Ta X9 Y9 O9 Xa Ya Za mdl ss R9L
  generalize strOfNums (((L.take md).drop fr).map (bt d.f A)) = t1 at *
  generalize strOfNums (((L.take en).drop md).map (bt d.f A)) = t2 at *
  generalize strOfNums (((L.take en).drop fr).map (bt d.f A)) = t3 at *
  go_wp2_with fail
  go_ret
  exact ⟨by simp, Ba.out⟩

theorem docParts_row (W : World) (a0 : Option Addr) (n c0 : Nat) (f0 : Nat → Int) (s0 : Sl W a0 n (fun i => .int .u8 (f0 i))) (_o0 : ∀ i, (Lit.int .u8 (f0 i)).wf = true) (_e0 : a0 = none → n = 0 ∧ c0 = 0) (a1 : Option Addr) (k c1 : Nat) (f1 : Nat → Int) (s1 : Sl W a1 k (fun i => .int .u8 (f1 i))) (_o1 : ∀ i, (Lit.int .u8 (f1 i)).wf = true) (e1 : a1 = none → k = 0 ∧ c1 = 0) (x0 : Int) (w0 : (Lit.int .u8 x0).wf = true) (x1 : Int) (w1 : (Lit.int .u8 x1).wf = true) (x2 : Int) (w2 : (Lit.int .u8 x2).wf = true) (x3 : Int) (w3 : (Lit.int .u8 x3).wf = true) (x4 : Int) (w4 : (Lit.int .u8 x4).wf = true) :
    Calls Try.prog 5 #[.slice a0 n c0, .slice a1 k c1, .int .u8 x0, .int .u8 x1, .int .u8 x2, .int .u8 x3, .int .u8 x4] W fun e w' => e = .returned (.bool true) ∧ Below W.heap.size W w' := by
  by_cases h : 100 < n ∨ 20 < k ∨ n + k = 0
  · exact partsD_out a0 n c0 a1 k c1 x0 x1 x2 x3 x4 W h
  · have h0 := b8 w0
    have h1 := b8 w1
    have h2 := b8 w2
    have h3 := b8 w3
    have h4 := b8 w4
    exact partsD_walk W a0 n c0 f0 s0 a1 k c1 f1 s1 e1 x0 x1 x2 x3 x4 h0.1 h0.2 h1.1 h1.2 h2.1 h2.2 h3.1 h3.2 h4.1 h4.2 (by omega) (by omega) (by omega)
end Go.Proofs.Ytdhdkbaalgdicaa
