/- The walk of FileParts. -/
import Derived.Test.YtjlnmkoggobbgaaH2
namespace Go.Proofs.Ytjlnmkoggobbgaa
open Go.RowKit

set_option maxHeartbeats 1000000 in
set_option maxRecDepth 20000 in
theorem parts_out (a : Option Addr) (n c : Nat) (s m x y z : Int) (w : World) (hn : n = 0 ∨ 200 < n) :
    Calls Try.prog 9 #[.slice a n c, .int .u8 s, .int .u8 m, .int .u8 x, .int .u8 y, .int .u8 z] w fun e w' => e = .returned (.bool true) ∧ Below w.heap.size w w' := by
  by_cases h0 : n = 0
  · subst h0
    go_enter Try.func9, Try.ntmps9
    go_wp2_with fail
    refine (begun5 w).mono ?_
    rintro e W ⟨rfl, B⟩
    have B' : Hid _ := B
    clear B hn
    go_wp2_with fail
    go_ret
    exact ⟨rfl, B'.out⟩
  · have hz : (200 : Int) < n := by omega
    have hz0 : ((n : Int) == 0) = false := by rw [beq_eq_false_iff_ne]; omega
    clear hn
    go_enter Try.func9, Try.ntmps9
    go_wp2_with fail
    refine (begun5 w).mono ?_
    rintro e W ⟨rfl, B⟩
    have B' : Hid _ := B
    clear B
    go_wp2_with fail
    go_ret
    exact ⟨rfl, B'.out⟩

set_option maxRecDepth 100000 in
set_option maxHeartbeats 4000000 in
theorem parts_walk1 (a : Option Addr) (n c : Nat) (f : Nat → Int) (s m x y z : Int) (w : World) (hn0 : ¬ n = 0) (hn : n ≤ 200) (hs0 : 0 ≤ s) (hs1 : s ≤ 255) (hm0 : 0 ≤ m) (hm1 : m ≤ 255) (hx0 : 0 ≤ x) (hx1 : x ≤ 255) (hy0 : 0 ≤ y) (hy1 : y ≤ 255) (hz0 : 0 ≤ z) (hz1 : z ≤ 255) (hl : Hid (Sl w a n (By f))) (h1 : x % (n : Int) + y ≤ n) (h2 : min (x % (n : Int) + y) n + z ≤ n) :
    Calls Try.prog 9 #[.slice a n c, .int .u8 s, .int .u8 m, .int .u8 x, .int .u8 y, .int .u8 z] w fun e w' => e = .returned (.bool true) ∧ Below w.heap.size w w' := by
  have hz : (n : Int) ≤ 200 := by omega
  have hnz0 : ((n : Int) == 0) = false := by rw [beq_eq_false_iff_ne]; omega
  obtain ⟨k, hk⟩ : ∃ k : Nat, (1 : Int) + s % 30 = k := ⟨(1 + s % 30).toNat, by omega⟩
  have hk1 : 1 ≤ k ∧ k ≤ 30 := by omega
  have HK : Hid _ := hk
  clear hk
  obtain ⟨fr, hfr⟩ : ∃ fr : Nat, x % (n : Int) = fr := ⟨(x % n).toNat, by have := Int.emod_nonneg x (show (n : Int) ≠ 0 by omega); omega⟩
  have hfn : fr < n := by have := Int.emod_lt_of_pos x (show (0 : Int) < n by omega); omega
  rw [hfr] at h1 h2
  obtain ⟨mi, hmi⟩ : ∃ mi : Nat, (fr : Int) + y = mi := ⟨(fr + y).toNat, by omega⟩
  have hmn : (mi : Int) ≤ n := by omega
  have hmm : mi ≤ n ∧ fr ≤ mi := by omega
  obtain ⟨to, hto⟩ : ∃ to : Nat, (mi : Int) + z = to := ⟨(mi + z).toNat, by omega⟩
  have htn : (to : Int) ≤ n := by omega
  have htt : to ≤ n ∧ mi ≤ to := by omega
  have HMM : Hid _ := hmm
  have HTT : Hid _ := htt
  have HFN : Hid _ := hfn
  have hfnz : (fr : Int) < n := by omega
  clear h2 hmm htt
  go_enter Try.func9, Try.ntmps9
  go_wp2_with fail
  refine (begun5 w).mono ?_
  rintro e W ⟨rfl, B⟩
  have B0 : Hid (Below w.heap.size w W) := B
  clear B
  go_wp2_with fail
  rw [HK.out]
  refine (new_ok a n c k f W (by omega) (by omega) (by omega) (hl.out.below B0.out)).mono ?_
  rintro e W1 ⟨d, rfl, hd, P1, B1⟩
  have B2 : Hid (Below w.heap.size w W1) := B0.out.trans (B1.out.mono B0.out.size)
  have DB : Hid (w.heap.size ≤ d.base) := by show _ ≤ _; rw [hd.out.1]; exact B0.out.size
  obtain ⟨-, -, dn, dz, df⟩ := hd.out
  have DN : Hid (d.n = n) := dn
  have DF : Hid (d.f = f) := df
  clear dn dz df hd B1 HK
  go_wp2_with fail
  refine (fnew_of (Y := fun j => j < w.heap.size) P1.out (fun j hj => ⟨Nat.lt_of_lt_of_le hj B2.out.size, .inl (by have := DB.out; omega)⟩)).mono ?_
  rintro e W2 ⟨rfl, F2⟩
  have B3 : Hid (Below w.heap.size w W2) := B2.out.trans (F2.out.2.mono B2.out.size)
  generalize W1.heap.size + 1 = q at *
  have T1 := bytes_well F2.out.1 fr mi (by have := HMM.out; omega) (by rw [DN.out]; exact HMM.out.1) (by simp)
  go_wp2_with fail
  refine T1.mono ?_
  rintro e W3 ⟨xa, xc, rfl, G3⟩
  clear T1
  obtain ⟨l3, R3, r3, T3⟩ := G3.out
  have B4 : Hid (Below w.heap.size w W3) := below_mv B3.out T3.2.2 (Nat.le_refl _) (fun j hj h => h hj)
  have T1 := bytes_well T3.1 mi to (by have := HTT.out; omega) (by rw [DN.out]; exact HTT.out.1) (by simp at r3; omega)
  obtain ⟨k2, hk2⟩ : ∃ k2, k2 = to - mi := ⟨_, rfl⟩
  rw [← hk2] at T1
  have HK2 : Hid _ := hk2
  clear hk2
  have H3 : Hid _ := T3
  have E3 : Hid _ := r3
  clear T3 r3 G3
  go_wp2_with fail
  refine T1.mono ?_
  rintro e W4 ⟨ya, yc, rfl, G4⟩
  clear T1
  obtain ⟨l4, R4, r4, T4⟩ := G4.out
  have B5 : Hid (Below w.heap.size w W4) := below_mv B4.out T4.2.2 (Nat.le_refl _) (fun j hj h => h (.inl hj))
  have X4 := keepB (show Hid _ from H3.out.2.1) T4.2.2 (fun j hj => .inr hj)
  have T1 := bytes_well T4.1 fr to (by have := HTT.out; have := HMM.out; omega) (by rw [DN.out]; exact HTT.out.1) (by have := E3.out; simp at this; omega)
  have H4 : Hid _ := T4
  have E4 : Hid _ := r4
  clear T4 r4 G4
  go_wp2_with fail
  refine T1.mono ?_
  rintro e W5 ⟨za, zc, rfl, G5⟩
  clear T1
  obtain ⟨l5, R5, r5, T5⟩ := G5.out
  have B6 : Hid (Below w.heap.size w W5) := below_mv B5.out T5.2.2 (Nat.le_refl _) (fun j hj h => h (.inl (.inl hj)))
  have X5 := keepB X4 T5.2.2 (fun j hj => .inl (.inr hj))
  have Y5 := keepB (show Hid _ from H4.out.2.1) T5.2.2 (fun j hj => .inr hj)
  have A1 := at_well T5.1 fr (by rw [DN.out]; exact HFN.out) (by have h3 := E3.out; have h4 := E4.out; simp at h3; omega)
  have H5 : Hid _ := T5
  have E5 : Hid _ := r5
  obtain ⟨v, hv⟩ : ∃ v, v = f fr := ⟨_, rfl⟩
  have HV : Hid _ := hv
  rw [show d.f fr = v by rw [DF.out, hv]] at A1
  clear T5 r5 G5 hv
  go_wp2_with fail
  refine A1.mono ?_
  rintro e W6 ⟨rfl, G6⟩
  clear A1
  obtain ⟨l6, R6, r6, T6⟩ := G6.out
  have B7 : Hid (Below w.heap.size w W6) := below_mv B6.out T6.2 (Nat.le_refl _) (fun j hj h => h (.inl (.inl (.inl hj))))
  have X6 := keepB X5 T6.2 (fun j hj => .inl (.inl (.inr hj)))
  have Y6 := keepB Y5 T6.2 (fun j hj => .inl (.inr hj))
  have Z6 := keepB (show Hid _ from H5.out.2.1) T6.2 (fun j hj => .inr hj)
  have T1 := bytes_well T6.1 fr (fr + 1) (by omega) (by rw [DN.out]; exact HFN.out) (by have h3 := E3.out; have h4 := E4.out; have h5 := E5.out; simp at h3; omega)
  rw [show ((fr + 1 : Nat) : Int) = (fr : Int) + 1 by omega, show fr + 1 - fr = 1 by omega] at T1
  clear T6 r6 G6
  go_wp2_with fail
  refine T1.mono ?_
  rintro e W7 ⟨da, dc, rfl, G7⟩
  clear T1
  obtain ⟨l7, R7, r7, T7⟩ := G7.out
  have B8 : Hid (Below w.heap.size w W7) := below_mv B7.out T7.2.2 (Nat.le_refl _) (fun j hj h => h (.inl (.inl (.inl hj))))
  have X7 := keepB X6 T7.2.2 (fun j hj => .inl (.inl (.inr hj)))
  have Y7 := keepB Y6 T7.2.2 (fun j hj => .inl (.inr hj))
  have Z7 := keepB Z6 T7.2.2 (fun j hj => .inr hj)
  have hv1 := conv_any xa (mi - fr) xc _ W7 (own_sl' X7.out).1
  have hv2 := conv_any ya k2 yc _ W7 (own_sl' Y7.out).1
  have hv3 := conv_any za (to - fr) zc _ W7 (own_sl' Z7.out).1
  have hsum : txt (fun j => d.f (fr + j)) (mi - fr) ++ txt (fun j => d.f (mi + j)) k2 = txt (fun j => d.f (fr + j)) (to - fr) := by
    rw [HK2.out]
    have h1 := HMM.out
    have h2 := HTT.out
    have e := txt_append (fun j => d.f (fr + j)) (mi - fr) (to - mi)
    rw [show mi - fr + (to - mi) = to - fr by omega] at e
    rw [← e]
    congr 2
    funext j
    congr 1
    omega
  have z1 := txt_size (fun j => d.f (fr + j)) (mi - fr)
  have z2 := txt_size (fun j => d.f (mi + j)) k2
  have y1 : (txt (fun j => d.f (fr + j)) (mi - fr)).size ≤ 200 := by rw [z1]; have := HMM.out; omega
  have y2 : (txt (fun j => d.f (mi + j)) k2).size ≤ 200 := by rw [z2, HK2.out]; have := HTT.out; omega
  obtain ⟨b1, o1, rfl, hc⟩ : ∃ b1 o1, da = some ⟨b1, o1, none⟩ ∧ W7.cell? ⟨b1, o1, none⟩ = some (.int .u8 v) := by
    obtain ⟨b1, o1, e, _, hc⟩ := (own_sl' T7.2.1).1 0 (by omega)
    refine ⟨b1, o1, e, ?_⟩
    rw [Nat.add_zero] at hc
    rw [hc, HV.out, ← DF.out]
    rfl
  obtain ⟨b2, o2, rfl, hc2⟩ : ∃ b2 o2, a = some ⟨b2, o2, none⟩ ∧ W7.cell? ⟨b2, o2 + fr, none⟩ = some (.int .u8 v) := by
    obtain ⟨b1, o1, e, _, hc⟩ := (hl.out.below B8.out) fr HFN.out
    exact ⟨b1, o1, e, by rw [hc, HV.out]; rfl⟩
  clear X7 Y7 Z7 T7 r7 G7 z1 z2
  generalize txt (fun j => d.f (fr + j)) (mi - fr) = t1 at *
  generalize txt (fun j => d.f (mi + j)) k2 = t2 at *
  generalize txt (fun j => d.f (fr + j)) (to - fr) = t3 at *
  go_wp2_with fail
  go_ret
  exact ⟨rfl, B8.out⟩

set_option maxRecDepth 100000 in
set_option maxHeartbeats 4000000 in
theorem parts_walk2 (a : Option Addr) (n c : Nat) (f : Nat → Int) (s m x y z : Int) (w : World) (hn0 : ¬ n = 0) (hn : n ≤ 200) (hs0 : 0 ≤ s) (hs1 : s ≤ 255) (hm0 : 0 ≤ m) (hm1 : m ≤ 255) (hx0 : 0 ≤ x) (hx1 : x ≤ 255) (hy0 : 0 ≤ y) (hy1 : y ≤ 255) (hz0 : 0 ≤ z) (hz1 : z ≤ 255) (hl : Hid (Sl w a n (By f))) (h1 : x % (n : Int) + y ≤ n) (h2 : (n : Int) < min (x % (n : Int) + y) n + z) :
    Calls Try.prog 9 #[.slice a n c, .int .u8 s, .int .u8 m, .int .u8 x, .int .u8 y, .int .u8 z] w fun e w' => e = .returned (.bool true) ∧ Below w.heap.size w w' := by
  have hz : (n : Int) ≤ 200 := by omega
  have hnz0 : ((n : Int) == 0) = false := by rw [beq_eq_false_iff_ne]; omega
  obtain ⟨k, hk⟩ : ∃ k : Nat, (1 : Int) + s % 30 = k := ⟨(1 + s % 30).toNat, by omega⟩
  have hk1 : 1 ≤ k ∧ k ≤ 30 := by omega
  have HK : Hid _ := hk
  clear hk
  obtain ⟨fr, hfr⟩ : ∃ fr : Nat, x % (n : Int) = fr := ⟨(x % n).toNat, by have := Int.emod_nonneg x (show (n : Int) ≠ 0 by omega); omega⟩
  have hfn : fr < n := by have := Int.emod_lt_of_pos x (show (0 : Int) < n by omega); omega
  rw [hfr] at h1 h2
  obtain ⟨mi, hmi⟩ : ∃ mi : Nat, (fr : Int) + y = mi := ⟨(fr + y).toNat, by omega⟩
  have hmn : (mi : Int) ≤ n := by omega
  have hmm : mi ≤ n ∧ fr ≤ mi := by omega
  have htn : (n : Int) < (mi : Int) + z := by omega
  have htt : n ≤ n ∧ mi ≤ n := by omega
  have HMM : Hid _ := hmm
  have HTT : Hid _ := htt
  have HFN : Hid _ := hfn
  have hfnz : (fr : Int) < n := by omega
  clear h2 hmm htt
  go_enter Try.func9, Try.ntmps9
  go_wp2_with fail
  refine (begun5 w).mono ?_
  rintro e W ⟨rfl, B⟩
  have B0 : Hid (Below w.heap.size w W) := B
  clear B
  go_wp2_with fail
  rw [HK.out]
  refine (new_ok a n c k f W (by omega) (by omega) (by omega) (hl.out.below B0.out)).mono ?_
  rintro e W1 ⟨d, rfl, hd, P1, B1⟩
  have B2 : Hid (Below w.heap.size w W1) := B0.out.trans (B1.out.mono B0.out.size)
  have DB : Hid (w.heap.size ≤ d.base) := by show _ ≤ _; rw [hd.out.1]; exact B0.out.size
  obtain ⟨-, -, dn, dz, df⟩ := hd.out
  have DN : Hid (d.n = n) := dn
  have DF : Hid (d.f = f) := df
  clear dn dz df hd B1 HK
  go_wp2_with fail
  refine (fnew_of (Y := fun j => j < w.heap.size) P1.out (fun j hj => ⟨Nat.lt_of_lt_of_le hj B2.out.size, .inl (by have := DB.out; omega)⟩)).mono ?_
  rintro e W2 ⟨rfl, F2⟩
  have B3 : Hid (Below w.heap.size w W2) := B2.out.trans (F2.out.2.mono B2.out.size)
  generalize W1.heap.size + 1 = q at *
  have T1 := bytes_well F2.out.1 fr mi (by have := HMM.out; omega) (by rw [DN.out]; exact HMM.out.1) (by simp)
  go_wp2_with fail
  refine T1.mono ?_
  rintro e W3 ⟨xa, xc, rfl, G3⟩
  clear T1
  obtain ⟨l3, R3, r3, T3⟩ := G3.out
  have B4 : Hid (Below w.heap.size w W3) := below_mv B3.out T3.2.2 (Nat.le_refl _) (fun j hj h => h hj)
  have T1 := bytes_well T3.1 mi n (by have := HTT.out; omega) (by rw [DN.out]; exact HTT.out.1) (by simp at r3; omega)
  obtain ⟨k2, hk2⟩ : ∃ k2, k2 = n - mi := ⟨_, rfl⟩
  rw [← hk2] at T1
  have HK2 : Hid _ := hk2
  clear hk2
  have H3 : Hid _ := T3
  have E3 : Hid _ := r3
  clear T3 r3 G3
  go_wp2_with fail
  refine T1.mono ?_
  rintro e W4 ⟨ya, yc, rfl, G4⟩
  clear T1
  obtain ⟨l4, R4, r4, T4⟩ := G4.out
  have B5 : Hid (Below w.heap.size w W4) := below_mv B4.out T4.2.2 (Nat.le_refl _) (fun j hj h => h (.inl hj))
  have X4 := keepB (show Hid _ from H3.out.2.1) T4.2.2 (fun j hj => .inr hj)
  have T1 := bytes_well T4.1 fr n (by have := HTT.out; have := HMM.out; omega) (by rw [DN.out]; exact HTT.out.1) (by have := E3.out; simp at this; omega)
  have H4 : Hid _ := T4
  have E4 : Hid _ := r4
  clear T4 r4 G4
  go_wp2_with fail
  refine T1.mono ?_
  rintro e W5 ⟨za, zc, rfl, G5⟩
  clear T1
  obtain ⟨l5, R5, r5, T5⟩ := G5.out
  have B6 : Hid (Below w.heap.size w W5) := below_mv B5.out T5.2.2 (Nat.le_refl _) (fun j hj h => h (.inl (.inl hj)))
  have X5 := keepB X4 T5.2.2 (fun j hj => .inl (.inr hj))
  have Y5 := keepB (show Hid _ from H4.out.2.1) T5.2.2 (fun j hj => .inr hj)
  have A1 := at_well T5.1 fr (by rw [DN.out]; exact HFN.out) (by have h3 := E3.out; have h4 := E4.out; simp at h3; omega)
  have H5 : Hid _ := T5
  have E5 : Hid _ := r5
  obtain ⟨v, hv⟩ : ∃ v, v = f fr := ⟨_, rfl⟩
  have HV : Hid _ := hv
  rw [show d.f fr = v by rw [DF.out, hv]] at A1
  clear T5 r5 G5 hv
  go_wp2_with fail
  refine A1.mono ?_
  rintro e W6 ⟨rfl, G6⟩
  clear A1
  obtain ⟨l6, R6, r6, T6⟩ := G6.out
  have B7 : Hid (Below w.heap.size w W6) := below_mv B6.out T6.2 (Nat.le_refl _) (fun j hj h => h (.inl (.inl (.inl hj))))
  have X6 := keepB X5 T6.2 (fun j hj => .inl (.inl (.inr hj)))
  have Y6 := keepB Y5 T6.2 (fun j hj => .inl (.inr hj))
  have Z6 := keepB (show Hid _ from H5.out.2.1) T6.2 (fun j hj => .inr hj)
  have T1 := bytes_well T6.1 fr (fr + 1) (by omega) (by rw [DN.out]; exact HFN.out) (by have h3 := E3.out; have h4 := E4.out; have h5 := E5.out; simp at h3; omega)
  rw [show ((fr + 1 : Nat) : Int) = (fr : Int) + 1 by omega, show fr + 1 - fr = 1 by omega] at T1
  clear T6 r6 G6
  go_wp2_with fail
  refine T1.mono ?_
  rintro e W7 ⟨da, dc, rfl, G7⟩
  clear T1
  obtain ⟨l7, R7, r7, T7⟩ := G7.out
  have B8 : Hid (Below w.heap.size w W7) := below_mv B7.out T7.2.2 (Nat.le_refl _) (fun j hj h => h (.inl (.inl (.inl hj))))
  have X7 := keepB X6 T7.2.2 (fun j hj => .inl (.inl (.inr hj)))
  have Y7 := keepB Y6 T7.2.2 (fun j hj => .inl (.inr hj))
  have Z7 := keepB Z6 T7.2.2 (fun j hj => .inr hj)
  have hv1 := conv_any xa (mi - fr) xc _ W7 (own_sl' X7.out).1
  have hv2 := conv_any ya k2 yc _ W7 (own_sl' Y7.out).1
  have hv3 := conv_any za (n - fr) zc _ W7 (own_sl' Z7.out).1
  have hsum : txt (fun j => d.f (fr + j)) (mi - fr) ++ txt (fun j => d.f (mi + j)) k2 = txt (fun j => d.f (fr + j)) (n - fr) := by
    rw [HK2.out]
    have h1 := HMM.out
    have h2 := HTT.out
    have e := txt_append (fun j => d.f (fr + j)) (mi - fr) (n - mi)
    rw [show mi - fr + (n - mi) = n - fr by omega] at e
    rw [← e]
    congr 2
    funext j
    congr 1
    omega
  have z1 := txt_size (fun j => d.f (fr + j)) (mi - fr)
  have z2 := txt_size (fun j => d.f (mi + j)) k2
  have y1 : (txt (fun j => d.f (fr + j)) (mi - fr)).size ≤ 200 := by rw [z1]; have := HMM.out; omega
  have y2 : (txt (fun j => d.f (mi + j)) k2).size ≤ 200 := by rw [z2, HK2.out]; have := HTT.out; omega
  obtain ⟨b1, o1, rfl, hc⟩ : ∃ b1 o1, da = some ⟨b1, o1, none⟩ ∧ W7.cell? ⟨b1, o1, none⟩ = some (.int .u8 v) := by
    obtain ⟨b1, o1, e, _, hc⟩ := (own_sl' T7.2.1).1 0 (by omega)
    refine ⟨b1, o1, e, ?_⟩
    rw [Nat.add_zero] at hc
    rw [hc, HV.out, ← DF.out]
    rfl
  obtain ⟨b2, o2, rfl, hc2⟩ : ∃ b2 o2, a = some ⟨b2, o2, none⟩ ∧ W7.cell? ⟨b2, o2 + fr, none⟩ = some (.int .u8 v) := by
    obtain ⟨b1, o1, e, _, hc⟩ := (hl.out.below B8.out) fr HFN.out
    exact ⟨b1, o1, e, by rw [hc, HV.out]; rfl⟩
  clear X7 Y7 Z7 T7 r7 G7 z1 z2
  generalize txt (fun j => d.f (fr + j)) (mi - fr) = t1 at *
  generalize txt (fun j => d.f (mi + j)) k2 = t2 at *
  generalize txt (fun j => d.f (fr + j)) (n - fr) = t3 at *
  go_wp2_with fail
  go_ret
  exact ⟨rfl, B8.out⟩

set_option maxRecDepth 100000 in
set_option maxHeartbeats 4000000 in
theorem parts_walk3 (a : Option Addr) (n c : Nat) (f : Nat → Int) (s m x y z : Int) (w : World) (hn0 : ¬ n = 0) (hn : n ≤ 200) (hs0 : 0 ≤ s) (hs1 : s ≤ 255) (hm0 : 0 ≤ m) (hm1 : m ≤ 255) (hx0 : 0 ≤ x) (hx1 : x ≤ 255) (hy0 : 0 ≤ y) (hy1 : y ≤ 255) (hz0 : 0 ≤ z) (hz1 : z ≤ 255) (hl : Hid (Sl w a n (By f))) (h1 : (n : Int) < x % (n : Int) + y) (h2 : min (x % (n : Int) + y) n + z ≤ n) :
    Calls Try.prog 9 #[.slice a n c, .int .u8 s, .int .u8 m, .int .u8 x, .int .u8 y, .int .u8 z] w fun e w' => e = .returned (.bool true) ∧ Below w.heap.size w w' := by
  have hz : (n : Int) ≤ 200 := by omega
  have hnz0 : ((n : Int) == 0) = false := by rw [beq_eq_false_iff_ne]; omega
  obtain ⟨k, hk⟩ : ∃ k : Nat, (1 : Int) + s % 30 = k := ⟨(1 + s % 30).toNat, by omega⟩
  have hk1 : 1 ≤ k ∧ k ≤ 30 := by omega
  have HK : Hid _ := hk
  clear hk
  obtain ⟨fr, hfr⟩ : ∃ fr : Nat, x % (n : Int) = fr := ⟨(x % n).toNat, by have := Int.emod_nonneg x (show (n : Int) ≠ 0 by omega); omega⟩
  have hfn : fr < n := by have := Int.emod_lt_of_pos x (show (0 : Int) < n by omega); omega
  rw [hfr] at h1 h2
  have hmm : n ≤ n ∧ fr ≤ n := by omega
  obtain ⟨to, hto⟩ : ∃ to : Nat, (n : Int) + z = to := ⟨(n + z).toNat, by omega⟩
  have htn : (to : Int) ≤ n := by omega
  have htt : to ≤ n ∧ n ≤ to := by omega
  have HMM : Hid _ := hmm
  have HTT : Hid _ := htt
  have HFN : Hid _ := hfn
  have hfnz : (fr : Int) < n := by omega
  clear h2 hmm htt
  go_enter Try.func9, Try.ntmps9
  go_wp2_with fail
  refine (begun5 w).mono ?_
  rintro e W ⟨rfl, B⟩
  have B0 : Hid (Below w.heap.size w W) := B
  clear B
  go_wp2_with fail
  rw [HK.out]
  refine (new_ok a n c k f W (by omega) (by omega) (by omega) (hl.out.below B0.out)).mono ?_
  rintro e W1 ⟨d, rfl, hd, P1, B1⟩
  have B2 : Hid (Below w.heap.size w W1) := B0.out.trans (B1.out.mono B0.out.size)
  have DB : Hid (w.heap.size ≤ d.base) := by show _ ≤ _; rw [hd.out.1]; exact B0.out.size
  obtain ⟨-, -, dn, dz, df⟩ := hd.out
  have DN : Hid (d.n = n) := dn
  have DF : Hid (d.f = f) := df
  clear dn dz df hd B1 HK
  go_wp2_with fail
  refine (fnew_of (Y := fun j => j < w.heap.size) P1.out (fun j hj => ⟨Nat.lt_of_lt_of_le hj B2.out.size, .inl (by have := DB.out; omega)⟩)).mono ?_
  rintro e W2 ⟨rfl, F2⟩
  have B3 : Hid (Below w.heap.size w W2) := B2.out.trans (F2.out.2.mono B2.out.size)
  generalize W1.heap.size + 1 = q at *
  have T1 := bytes_well F2.out.1 fr n (by have := HMM.out; omega) (by rw [DN.out]; exact HMM.out.1) (by simp)
  go_wp2_with fail
  refine T1.mono ?_
  rintro e W3 ⟨xa, xc, rfl, G3⟩
  clear T1
  obtain ⟨l3, R3, r3, T3⟩ := G3.out
  have B4 : Hid (Below w.heap.size w W3) := below_mv B3.out T3.2.2 (Nat.le_refl _) (fun j hj h => h hj)
  have T1 := bytes_well T3.1 n to (by have := HTT.out; omega) (by rw [DN.out]; exact HTT.out.1) (by simp at r3; omega)
  obtain ⟨k2, hk2⟩ : ∃ k2, k2 = to - n := ⟨_, rfl⟩
  rw [← hk2] at T1
  have HK2 : Hid _ := hk2
  clear hk2
  have H3 : Hid _ := T3
  have E3 : Hid _ := r3
  clear T3 r3 G3
  go_wp2_with fail
  refine T1.mono ?_
  rintro e W4 ⟨ya, yc, rfl, G4⟩
  clear T1
  obtain ⟨l4, R4, r4, T4⟩ := G4.out
  have B5 : Hid (Below w.heap.size w W4) := below_mv B4.out T4.2.2 (Nat.le_refl _) (fun j hj h => h (.inl hj))
  have X4 := keepB (show Hid _ from H3.out.2.1) T4.2.2 (fun j hj => .inr hj)
  have T1 := bytes_well T4.1 fr to (by have := HTT.out; have := HMM.out; omega) (by rw [DN.out]; exact HTT.out.1) (by have := E3.out; simp at this; omega)
  have H4 : Hid _ := T4
  have E4 : Hid _ := r4
  clear T4 r4 G4
  go_wp2_with fail
  refine T1.mono ?_
  rintro e W5 ⟨za, zc, rfl, G5⟩
  clear T1
  obtain ⟨l5, R5, r5, T5⟩ := G5.out
  have B6 : Hid (Below w.heap.size w W5) := below_mv B5.out T5.2.2 (Nat.le_refl _) (fun j hj h => h (.inl (.inl hj)))
  have X5 := keepB X4 T5.2.2 (fun j hj => .inl (.inr hj))
  have Y5 := keepB (show Hid _ from H4.out.2.1) T5.2.2 (fun j hj => .inr hj)
  have A1 := at_well T5.1 fr (by rw [DN.out]; exact HFN.out) (by have h3 := E3.out; have h4 := E4.out; simp at h3; omega)
  have H5 : Hid _ := T5
  have E5 : Hid _ := r5
  obtain ⟨v, hv⟩ : ∃ v, v = f fr := ⟨_, rfl⟩
  have HV : Hid _ := hv
  rw [show d.f fr = v by rw [DF.out, hv]] at A1
  clear T5 r5 G5 hv
  go_wp2_with fail
  refine A1.mono ?_
  rintro e W6 ⟨rfl, G6⟩
  clear A1
  obtain ⟨l6, R6, r6, T6⟩ := G6.out
  have B7 : Hid (Below w.heap.size w W6) := below_mv B6.out T6.2 (Nat.le_refl _) (fun j hj h => h (.inl (.inl (.inl hj))))
  have X6 := keepB X5 T6.2 (fun j hj => .inl (.inl (.inr hj)))
  have Y6 := keepB Y5 T6.2 (fun j hj => .inl (.inr hj))
  have Z6 := keepB (show Hid _ from H5.out.2.1) T6.2 (fun j hj => .inr hj)
  have T1 := bytes_well T6.1 fr (fr + 1) (by omega) (by rw [DN.out]; exact HFN.out) (by have h3 := E3.out; have h4 := E4.out; have h5 := E5.out; simp at h3; omega)
  rw [show ((fr + 1 : Nat) : Int) = (fr : Int) + 1 by omega, show fr + 1 - fr = 1 by omega] at T1
  clear T6 r6 G6
  go_wp2_with fail
  refine T1.mono ?_
  rintro e W7 ⟨da, dc, rfl, G7⟩
  clear T1
  obtain ⟨l7, R7, r7, T7⟩ := G7.out
  have B8 : Hid (Below w.heap.size w W7) := below_mv B7.out T7.2.2 (Nat.le_refl _) (fun j hj h => h (.inl (.inl (.inl hj))))
  have X7 := keepB X6 T7.2.2 (fun j hj => .inl (.inl (.inr hj)))
  have Y7 := keepB Y6 T7.2.2 (fun j hj => .inl (.inr hj))
  have Z7 := keepB Z6 T7.2.2 (fun j hj => .inr hj)
  have hv1 := conv_any xa (n - fr) xc _ W7 (own_sl' X7.out).1
  have hv2 := conv_any ya k2 yc _ W7 (own_sl' Y7.out).1
  have hv3 := conv_any za (to - fr) zc _ W7 (own_sl' Z7.out).1
  have hsum : txt (fun j => d.f (fr + j)) (n - fr) ++ txt (fun j => d.f (n + j)) k2 = txt (fun j => d.f (fr + j)) (to - fr) := by
    rw [HK2.out]
    have h1 := HMM.out
    have h2 := HTT.out
    have e := txt_append (fun j => d.f (fr + j)) (n - fr) (to - n)
    rw [show n - fr + (to - n) = to - fr by omega] at e
    rw [← e]
    congr 2
    funext j
    congr 1
    omega
  have z1 := txt_size (fun j => d.f (fr + j)) (n - fr)
  have z2 := txt_size (fun j => d.f (n + j)) k2
  have y1 : (txt (fun j => d.f (fr + j)) (n - fr)).size ≤ 200 := by rw [z1]; have := HMM.out; omega
  have y2 : (txt (fun j => d.f (n + j)) k2).size ≤ 200 := by rw [z2, HK2.out]; have := HTT.out; omega
  obtain ⟨b1, o1, rfl, hc⟩ : ∃ b1 o1, da = some ⟨b1, o1, none⟩ ∧ W7.cell? ⟨b1, o1, none⟩ = some (.int .u8 v) := by
    obtain ⟨b1, o1, e, _, hc⟩ := (own_sl' T7.2.1).1 0 (by omega)
    refine ⟨b1, o1, e, ?_⟩
    rw [Nat.add_zero] at hc
    rw [hc, HV.out, ← DF.out]
    rfl
  obtain ⟨b2, o2, rfl, hc2⟩ : ∃ b2 o2, a = some ⟨b2, o2, none⟩ ∧ W7.cell? ⟨b2, o2 + fr, none⟩ = some (.int .u8 v) := by
    obtain ⟨b1, o1, e, _, hc⟩ := (hl.out.below B8.out) fr HFN.out
    exact ⟨b1, o1, e, by rw [hc, HV.out]; rfl⟩
  clear X7 Y7 Z7 T7 r7 G7 z1 z2
  generalize txt (fun j => d.f (fr + j)) (n - fr) = t1 at *
  generalize txt (fun j => d.f (n + j)) k2 = t2 at *
  generalize txt (fun j => d.f (fr + j)) (to - fr) = t3 at *
  go_wp2_with fail
  go_ret
  exact ⟨rfl, B8.out⟩

set_option maxRecDepth 100000 in
set_option maxHeartbeats 4000000 in
theorem parts_walk4 (a : Option Addr) (n c : Nat) (f : Nat → Int) (s m x y z : Int) (w : World) (hn0 : ¬ n = 0) (hn : n ≤ 200) (hs0 : 0 ≤ s) (hs1 : s ≤ 255) (hm0 : 0 ≤ m) (hm1 : m ≤ 255) (hx0 : 0 ≤ x) (hx1 : x ≤ 255) (hy0 : 0 ≤ y) (hy1 : y ≤ 255) (hz0 : 0 ≤ z) (hz1 : z ≤ 255) (hl : Hid (Sl w a n (By f))) (h1 : (n : Int) < x % (n : Int) + y) (h2 : (n : Int) < min (x % (n : Int) + y) n + z) :
    Calls Try.prog 9 #[.slice a n c, .int .u8 s, .int .u8 m, .int .u8 x, .int .u8 y, .int .u8 z] w fun e w' => e = .returned (.bool true) ∧ Below w.heap.size w w' := by
  have hz : (n : Int) ≤ 200 := by omega
  have hnz0 : ((n : Int) == 0) = false := by rw [beq_eq_false_iff_ne]; omega
  obtain ⟨k, hk⟩ : ∃ k : Nat, (1 : Int) + s % 30 = k := ⟨(1 + s % 30).toNat, by omega⟩
  have hk1 : 1 ≤ k ∧ k ≤ 30 := by omega
  have HK : Hid _ := hk
  clear hk
  obtain ⟨fr, hfr⟩ : ∃ fr : Nat, x % (n : Int) = fr := ⟨(x % n).toNat, by have := Int.emod_nonneg x (show (n : Int) ≠ 0 by omega); omega⟩
  have hfn : fr < n := by have := Int.emod_lt_of_pos x (show (0 : Int) < n by omega); omega
  rw [hfr] at h1 h2
  have hmm : n ≤ n ∧ fr ≤ n := by omega
  have htn : (n : Int) < (n : Int) + z := by omega
  have htt : n ≤ n ∧ n ≤ n := by omega
  have HMM : Hid _ := hmm
  have HTT : Hid _ := htt
  have HFN : Hid _ := hfn
  have hfnz : (fr : Int) < n := by omega
  clear h2 hmm htt
  go_enter Try.func9, Try.ntmps9
  go_wp2_with fail
  refine (begun5 w).mono ?_
  rintro e W ⟨rfl, B⟩
  have B0 : Hid (Below w.heap.size w W) := B
  clear B
  go_wp2_with fail
  rw [HK.out]
  refine (new_ok a n c k f W (by omega) (by omega) (by omega) (hl.out.below B0.out)).mono ?_
  rintro e W1 ⟨d, rfl, hd, P1, B1⟩
  have B2 : Hid (Below w.heap.size w W1) := B0.out.trans (B1.out.mono B0.out.size)
  have DB : Hid (w.heap.size ≤ d.base) := by show _ ≤ _; rw [hd.out.1]; exact B0.out.size
  obtain ⟨-, -, dn, dz, df⟩ := hd.out
  have DN : Hid (d.n = n) := dn
  have DF : Hid (d.f = f) := df
  clear dn dz df hd B1 HK
  go_wp2_with fail
  refine (fnew_of (Y := fun j => j < w.heap.size) P1.out (fun j hj => ⟨Nat.lt_of_lt_of_le hj B2.out.size, .inl (by have := DB.out; omega)⟩)).mono ?_
  rintro e W2 ⟨rfl, F2⟩
  have B3 : Hid (Below w.heap.size w W2) := B2.out.trans (F2.out.2.mono B2.out.size)
  generalize W1.heap.size + 1 = q at *
  have T1 := bytes_well F2.out.1 fr n (by have := HMM.out; omega) (by rw [DN.out]; exact HMM.out.1) (by simp)
  go_wp2_with fail
  refine T1.mono ?_
  rintro e W3 ⟨xa, xc, rfl, G3⟩
  clear T1
  obtain ⟨l3, R3, r3, T3⟩ := G3.out
  have B4 : Hid (Below w.heap.size w W3) := below_mv B3.out T3.2.2 (Nat.le_refl _) (fun j hj h => h hj)
  have T1 := bytes_well T3.1 n n (by have := HTT.out; omega) (by rw [DN.out]; exact HTT.out.1) (by simp at r3; omega)
  obtain ⟨k2, hk2⟩ : ∃ k2, k2 = n - n := ⟨_, rfl⟩
  rw [← hk2] at T1
  have HK2 : Hid _ := hk2
  clear hk2
  have H3 : Hid _ := T3
  have E3 : Hid _ := r3
  clear T3 r3 G3
  go_wp2_with fail
  refine T1.mono ?_
  rintro e W4 ⟨ya, yc, rfl, G4⟩
  clear T1
  obtain ⟨l4, R4, r4, T4⟩ := G4.out
  have B5 : Hid (Below w.heap.size w W4) := below_mv B4.out T4.2.2 (Nat.le_refl _) (fun j hj h => h (.inl hj))
  have X4 := keepB (show Hid _ from H3.out.2.1) T4.2.2 (fun j hj => .inr hj)
  have T1 := bytes_well T4.1 fr n (by have := HTT.out; have := HMM.out; omega) (by rw [DN.out]; exact HTT.out.1) (by have := E3.out; simp at this; omega)
  have H4 : Hid _ := T4
  have E4 : Hid _ := r4
  clear T4 r4 G4
  go_wp2_with fail
  refine T1.mono ?_
  rintro e W5 ⟨za, zc, rfl, G5⟩
  clear T1
  obtain ⟨l5, R5, r5, T5⟩ := G5.out
  have B6 : Hid (Below w.heap.size w W5) := below_mv B5.out T5.2.2 (Nat.le_refl _) (fun j hj h => h (.inl (.inl hj)))
  have X5 := keepB X4 T5.2.2 (fun j hj => .inl (.inr hj))
  have Y5 := keepB (show Hid _ from H4.out.2.1) T5.2.2 (fun j hj => .inr hj)
  have A1 := at_well T5.1 fr (by rw [DN.out]; exact HFN.out) (by have h3 := E3.out; have h4 := E4.out; simp at h3; omega)
  have H5 : Hid _ := T5
  have E5 : Hid _ := r5
  obtain ⟨v, hv⟩ : ∃ v, v = f fr := ⟨_, rfl⟩
  have HV : Hid _ := hv
  rw [show d.f fr = v by rw [DF.out, hv]] at A1
  clear T5 r5 G5 hv
  go_wp2_with fail
  refine A1.mono ?_
  rintro e W6 ⟨rfl, G6⟩
  clear A1
  obtain ⟨l6, R6, r6, T6⟩ := G6.out
  have B7 : Hid (Below w.heap.size w W6) := below_mv B6.out T6.2 (Nat.le_refl _) (fun j hj h => h (.inl (.inl (.inl hj))))
  have X6 := keepB X5 T6.2 (fun j hj => .inl (.inl (.inr hj)))
  have Y6 := keepB Y5 T6.2 (fun j hj => .inl (.inr hj))
  have Z6 := keepB (show Hid _ from H5.out.2.1) T6.2 (fun j hj => .inr hj)
  have T1 := bytes_well T6.1 fr (fr + 1) (by omega) (by rw [DN.out]; exact HFN.out) (by have h3 := E3.out; have h4 := E4.out; have h5 := E5.out; simp at h3; omega)
  rw [show ((fr + 1 : Nat) : Int) = (fr : Int) + 1 by omega, show fr + 1 - fr = 1 by omega] at T1
  clear T6 r6 G6
  go_wp2_with fail
  refine T1.mono ?_
  rintro e W7 ⟨da, dc, rfl, G7⟩
  clear T1
  obtain ⟨l7, R7, r7, T7⟩ := G7.out
  have B8 : Hid (Below w.heap.size w W7) := below_mv B7.out T7.2.2 (Nat.le_refl _) (fun j hj h => h (.inl (.inl (.inl hj))))
  have X7 := keepB X6 T7.2.2 (fun j hj => .inl (.inl (.inr hj)))
  have Y7 := keepB Y6 T7.2.2 (fun j hj => .inl (.inr hj))
  have Z7 := keepB Z6 T7.2.2 (fun j hj => .inr hj)
  have hv1 := conv_any xa (n - fr) xc _ W7 (own_sl' X7.out).1
  have hv2 := conv_any ya k2 yc _ W7 (own_sl' Y7.out).1
  have hv3 := conv_any za (n - fr) zc _ W7 (own_sl' Z7.out).1
  have hsum : txt (fun j => d.f (fr + j)) (n - fr) ++ txt (fun j => d.f (n + j)) k2 = txt (fun j => d.f (fr + j)) (n - fr) := by
    rw [HK2.out]
    have h1 := HMM.out
    have h2 := HTT.out
    have e := txt_append (fun j => d.f (fr + j)) (n - fr) (n - n)
    rw [show n - fr + (n - n) = n - fr by omega] at e
    rw [← e]
    congr 2
    funext j
    congr 1
    omega
  have z1 := txt_size (fun j => d.f (fr + j)) (n - fr)
  have z2 := txt_size (fun j => d.f (n + j)) k2
  have y1 : (txt (fun j => d.f (fr + j)) (n - fr)).size ≤ 200 := by rw [z1]; have := HMM.out; omega
  have y2 : (txt (fun j => d.f (n + j)) k2).size ≤ 200 := by rw [z2, HK2.out]; have := HTT.out; omega
  obtain ⟨b1, o1, rfl, hc⟩ : ∃ b1 o1, da = some ⟨b1, o1, none⟩ ∧ W7.cell? ⟨b1, o1, none⟩ = some (.int .u8 v) := by
    obtain ⟨b1, o1, e, _, hc⟩ := (own_sl' T7.2.1).1 0 (by omega)
    refine ⟨b1, o1, e, ?_⟩
    rw [Nat.add_zero] at hc
    rw [hc, HV.out, ← DF.out]
    rfl
  obtain ⟨b2, o2, rfl, hc2⟩ : ∃ b2 o2, a = some ⟨b2, o2, none⟩ ∧ W7.cell? ⟨b2, o2 + fr, none⟩ = some (.int .u8 v) := by
    obtain ⟨b1, o1, e, _, hc⟩ := (hl.out.below B8.out) fr HFN.out
    exact ⟨b1, o1, e, by rw [hc, HV.out]; rfl⟩
  clear X7 Y7 Z7 T7 r7 G7 z1 z2
  generalize txt (fun j => d.f (fr + j)) (n - fr) = t1 at *
  generalize txt (fun j => d.f (n + j)) k2 = t2 at *
  generalize txt (fun j => d.f (fr + j)) (n - fr) = t3 at *
  go_wp2_with fail
  go_ret
  exact ⟨rfl, B8.out⟩

theorem fileParts_row (W : World) (a : Option Addr) (n c : Nat) (f : Nat → Int) (s : Sl W a n (fun i => .int .u8 (f i))) (_o : ∀ i, (Lit.int .u8 (f i)).wf = true) (_e : a = none → n = 0 ∧ c = 0) (x0 : Int) (w0 : (Lit.int .u8 x0).wf = true) (x1 : Int) (w1 : (Lit.int .u8 x1).wf = true) (x2 : Int) (w2 : (Lit.int .u8 x2).wf = true) (x3 : Int) (w3 : (Lit.int .u8 x3).wf = true) (x4 : Int) (w4 : (Lit.int .u8 x4).wf = true) :
    Calls Try.prog 9 #[.slice a n c, .int .u8 x0, .int .u8 x1, .int .u8 x2, .int .u8 x3, .int .u8 x4] W fun e w' => e = .returned (.bool true) ∧ Below W.heap.size W w' := by
  by_cases h : n = 0 ∨ 200 < n
  · exact parts_out a n c x0 x1 x2 x3 x4 W h
  · by_cases h1 : x2 % (n : Int) + x3 ≤ n
    · by_cases h2 : min (x2 % (n : Int) + x3) n + x4 ≤ n
      · exact parts_walk1 a n c f x0 x1 x2 x3 x4 W (by omega) (by omega) (b8 w0).1 (b8 w0).2 (b8 w1).1 (b8 w1).2 (b8 w2).1 (b8 w2).2 (b8 w3).1 (b8 w3).2 (b8 w4).1 (b8 w4).2 s h1 h2
      · exact parts_walk2 a n c f x0 x1 x2 x3 x4 W (by omega) (by omega) (b8 w0).1 (b8 w0).2 (b8 w1).1 (b8 w1).2 (b8 w2).1 (b8 w2).2 (b8 w3).1 (b8 w3).2 (b8 w4).1 (b8 w4).2 s h1 (by omega)
    · by_cases h2 : min (x2 % (n : Int) + x3) n + x4 ≤ n
      · exact parts_walk3 a n c f x0 x1 x2 x3 x4 W (by omega) (by omega) (b8 w0).1 (b8 w0).2 (b8 w1).1 (b8 w1).2 (b8 w2).1 (b8 w2).2 (b8 w3).1 (b8 w3).2 (b8 w4).1 (b8 w4).2 s (by omega) h2
      · exact parts_walk4 a n c f x0 x1 x2 x3 x4 W (by omega) (by omega) (b8 w0).1 (b8 w0).2 (b8 w1).1 (b8 w1).2 (b8 w2).1 (b8 w2).2 (b8 w3).1 (b8 w3).2 (b8 w4).1 (b8 w4).2 s (by omega) (by omega)
end Go.Proofs.Ytjlnmkoggobbgaa
