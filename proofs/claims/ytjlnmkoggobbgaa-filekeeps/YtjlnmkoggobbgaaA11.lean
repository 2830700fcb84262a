/- The walk of FileKeeps. -/
import Derived.Test.YtjlnmkoggobbgaaH4
import Derived.Deep.RegionHeld3
namespace Go.Proofs.Ytjlnmkoggobbgaa
open Go.RowKit

set_option maxHeartbeats 1000000 in
set_option maxRecDepth 20000 in
theorem keeps_out (a : Option Addr) (n c : Nat) (s x y : Int) (w : World) (hn : n = 0 ∨ 300 < n) :
    Calls Try.prog 11 #[.slice a n c, .int .u8 s, .int .u16 x, .int .u16 y] w fun e w' => e = .returned (.bool true) ∧ Below w.heap.size w w' := by
  by_cases h0 : n = 0
  · subst h0
    go_enter Try.func11, Try.ntmps11
    go_wp2_with fail
    refine (begun5 w).mono ?_
    rintro e W ⟨rfl, B⟩
    have B' : Hid _ := B
    clear B hn
    go_wp2_with fail
    go_ret
    exact ⟨rfl, B'.out⟩
  · have hz : (300 : Int) < n := by omega
    have hz0 : ((n : Int) == 0) = false := by rw [beq_eq_false_iff_ne]; omega
    clear hn
    go_enter Try.func11, Try.ntmps11
    go_wp2_with fail
    refine (begun5 w).mono ?_
    rintro e W ⟨rfl, B⟩
    have B' : Hid _ := B
    clear B
    go_wp2_with fail
    go_ret
    exact ⟨rfl, B'.out⟩

set_option maxRecDepth 100000 in
set_option maxHeartbeats 8000000 in
theorem keeps_walk1 (a : Option Addr) (n c : Nat) (f : Nat → Int) (s x y : Int) (w : World) (hn0 : ¬ n = 0) (hn : n ≤ 300) (hs0 : 0 ≤ s) (hs1 : s ≤ 255) (hx0 : 0 ≤ x) (hx1 : x ≤ 65535) (hy0 : 0 ≤ y) (hy1 : y ≤ 65535) (hl : Hid (Sl w a n (By f))) (h1 : x % (n : Int) + 1 + y ≤ n) :
    Calls Try.prog 11 #[.slice a n c, .int .u8 s, .int .u16 x, .int .u16 y] w fun e w' => e = .returned (.bool true) ∧ Below w.heap.size w w' := by
  have hz : (n : Int) ≤ 300 := by omega
  have hnz0 : ((n : Int) == 0) = false := by rw [beq_eq_false_iff_ne]; omega
  obtain ⟨k, hk⟩ : ∃ k : Nat, (5 : Int) + s % 30 = k := ⟨(5 + s % 30).toNat, by omega⟩
  have hk1 : 5 ≤ k ∧ k ≤ 34 := by omega
  obtain ⟨fr, hfr⟩ : ∃ fr : Nat, x % (n : Int) = fr := ⟨(x % n).toNat, by have := Int.emod_nonneg x (show (n : Int) ≠ 0 by omega); omega⟩
  have hfn : fr < n := by have := Int.emod_lt_of_pos x (show (0 : Int) < n by omega); omega
  rw [hfr] at h1
  obtain ⟨to, hto⟩ : ∃ to : Nat, (fr : Int) + 1 + y = to := ⟨(fr + 1 + y).toNat, by omega⟩
  have htn : (to : Int) ≤ n := by omega
  have HTT : Hid (to ≤ n ∧ fr < to) := by show _ ∧ _; omega
  have HFN : Hid _ := hfn
  have hfnz : (fr : Int) < n := by omega
  go_enter Try.func11, Try.ntmps11
  go_wp2_with fail
  refine (begun5 w).mono ?_
  rintro e W ⟨rfl, B⟩
  have B0 : Hid (Below w.heap.size w W) := B
  clear B
  go_wp2_with fail
  refine (new_ok a n c k f W (by omega) (by omega) (by omega) (hl.out.below B0.out)).mono ?_
  rintro e W1 ⟨d, rfl, hd, P1, B1⟩
  have B2 : Hid (Below w.heap.size w W1) := B0.out.trans (B1.out.mono B0.out.size)
  have DB : Hid (w.heap.size ≤ d.base) := by show _ ≤ _; rw [hd.out.1]; exact B0.out.size
  obtain ⟨-, -, dn, dz, df⟩ := hd.out
  have DN : Hid (d.n = n) := dn
  have DF : Hid (d.f = f) := df
  have DZ : Hid (d.sz = k) := dz
  clear dn dz df hd B1
  go_wp2_with fail
  refine (fnew_of (mo := 100) (Y := fun j => j < w.heap.size) P1.out (fun j hj => ⟨Nat.lt_of_lt_of_le hj B2.out.size, .inl (by have := DB.out; omega)⟩)).mono ?_
  rintro e W2 ⟨rfl, F2⟩
  have B3 : Hid (Below w.heap.size w W2) := B2.out.trans (F2.out.2.mono B2.out.size)
  generalize W1.heap.size + 1 = q at *
  have T1 := bytes_ok F2.out.1 fr to (by have := HTT.out; omega) (by rw [DN.out]; exact HTT.out.1) (by simp) (fun s _ => none_fails _ _ _ s)
  have L3 : Hid (∀ s, s < cntp d.sz fr to → ((fr / d.sz + s : Nat) : Int) ∈ rk (cap 100) [] (fr / d.sz) (cntp d.sz fr to)) := fun s hs => by
    have hc := cntp_few (sz := d.sz) (a := fr) (b := to) (by rw [DZ.out]; exact hk1.1) (by omega)
    rw [rk_new (cap 100) _ _ (Nat.le_trans hc (by decide))]
    exact rv_mem (fun j => ((fr / d.sz + j : Nat) : Int)) _ s hs
  have R3 : Hid (([] ++ rr (cap 100) [] (fr / d.sz) (cntp d.sz fr to)).length ≤ 5001) := rr_small _ _ _ _ _ _ (by omega)
  generalize rk (cap 100) [] (fr / d.sz) (cntp d.sz fr to) = l3 at *
  generalize [] ++ rr (cap 100) [] (fr / d.sz) (cntp d.sz fr to) = R at *
  go_wp2_with fail
  refine T1.mono ?_
  rintro e W3 ⟨xa, xc, rfl, T3⟩
  clear T1
  have B4 : Hid (Below w.heap.size w W3) := below_mv B3.out T3.out.2.2 (Nat.le_refl _) (fun j hj h => h hj)
  have TPP : Hid (d.top ≤ W3.heap.size) := T3.out.1.top
  have hm300 : d.m ≤ 300 := by have := F2.out.1.small; have := DN.out; omega
  have hm300z : (d.m : Int) ≤ 300 := by omega
  have X3 : Hid (Own W3 W2.heap.size 5 (.slice xa (to - fr) xc) (to - fr) (By fun j => d.f (fr + j))) := T3.out.2.1
  have F3 : Hid (Fs W3 q d 100 l3 (fun _ => false) R (fun j => (j < w.heap.size ∨ bk xa = some j) ∨ bk none = some j)) := T3.out.1.mono (fun j hj => by rcases hj with hj | hj; exact hj; cases hj)
  go_wp2_with fail
  go_loopw [17, 18] (fun va vi wr => ∃ (i : Nat) (aa : Option Addr) (ac : Nat), va = .slice aa i ac ∧ vi = .int .i64 i ∧ i ≤ d.m ∧ Hid (Own wr W3.heap.size 3 (.slice aa i ac) i (In fun j => (j : Int))) ∧ Hid (Fs wr q d 100 l3 (fun _ => false) R (fun j => (j < w.heap.size ∨ bk xa = some j) ∨ bk aa = some j)) ∧ Hid (Own wr W2.heap.size 5 (.slice xa (to - fr) xc) (to - fr) (By fun j => d.f (fr + j))) ∧ Hid (Below w.heap.size w wr ∧ W3.heap.size ≤ wr.heap.size)) (fun _ vi _ => d.m - (intOf vi).toNat)
  case atStart => exact ⟨0, none, 0, rfl, rfl, Nat.zero_le _, own_nil _ _ _ _, F3, X3, B4.out, Nat.le_refl _⟩
  case round =>
    obtain ⟨i, aa, ac, rfl, rfl, hi, O, F, X, B⟩ := hrel
    by_cases hlt : i < d.m
    · have hltz : (i : Int) < d.m := by omega
      have CT := count_fs F.out
      obtain ⟨aa', ac', W4, hr, O2, M2, K2, _⟩ := more wr W3.heap.size aa i ac (fun j => (j : Int)) O.out (by omega) i rfl B.out.2 wr.heap.size rfl
      have F4 : Hid (Fs W4 q d 100 l3 (fun _ => false) R (fun j => (j < w.heap.size ∨ bk xa = some j) ∨ bk aa' = some j)) := F.out.more M2 K2 (base := W3.heap.size) (fun j hj => (O.out.blk j (by rw [own_blk]; exact hj)).1) (fun j hj => (O2.blk j (by rw [own_blk]; exact hj)).2) TPP.out
      have X4 : Hid (Own W4 W2.heap.size 5 (.slice xa (to - fr) xc) (to - fr) (By fun j => d.f (fr + j))) := X.out.mv M2 (fun j hj e => by
        have h1 := (X3.out.blk j hj).2
        have h2 := (O.out.blk j (by rw [own_blk]; exact e)).1
        omega)
      have B5 : Hid (Below w.heap.size w W4 ∧ W3.heap.size ≤ W4.heap.size) := ⟨below_mv B.out.1 M2 (Nat.le_refl _) (fun j hj e => by have h2 := (O.out.blk j (by rw [own_blk]; exact e)).1; have := B4.out.size; omega), Nat.le_trans B.out.2 M2.size⟩
      have O3 : Hid _ := O2
      clear O2 M2 K2
      go_wp2_with fail
      refine CT.mono ?_
      rintro e w' ⟨rfl, hw⟩
      obtain rfl := hw.symm
      clear hw CT
      go_wp2_with (at_builtin; first | (refine wpList_append_given rfl _ _ 31 rfl _ _ _ W4 rfl rfl hr ?_))
      go_wp2_with fail
      exact ⟨⟨i + 1, aa', ac', rfl, by go_num, by omega, O3, F4, X4, B5⟩, by simp [intOf]; omega⟩
    · obtain rfl : i = d.m := by omega
      have CT := count_fs F.out
      go_wp2_with fail
      refine CT.mono ?_
      rintro e w' ⟨rfl, hw⟩
      obtain rfl := hw.symm
      clear hw CT
      have FT := fault_fs F.out aa d.m ac (fun j => (j : Int)) (by omega) (own_sl' O.out).1 (fun p hp e => by
        have h1 := (O.out.blk p.block (by rw [own_blk, hp]; rfl)).1
        have h2 := F.out.blk
        have := TPP.out
        omega)
      go_wp2_with fail
      refine FT.mono ?_
      rintro e W5 ⟨rfl, F5⟩
      clear FT
      have X5 := keepB X F5.out.2 (fun j hj => .inl (.inr hj))
      have B5 : Hid (Below w.heap.size w W5) := below_mv B.out.1 F5.out.2 (Nat.le_refl _) (fun j hj h => h (.inl (.inl hj)))
      have CL := clear_fs F5.out.1
      go_wp2_with fail
      refine CL.mono ?_
      rintro e W6 ⟨rfl, F6⟩
      clear CL
      have X6 := keepB X5 F6.out.2 (fun j hj => .inl (.inr hj))
      have B6 : Hid (Below w.heap.size w W6) := below_mv B5.out F6.out.2 (Nat.le_refl _) (fun j hj h => h (.inl (.inl hj)))
      have T1 := bytes_hit F6.out.1 fr to (by have := HTT.out; omega) (by rw [DN.out]; exact HTT.out.1) (by simp) L3.out
      go_wp2_with fail
      refine T1.mono ?_
      rintro e W7 ⟨ya, yc, rfl, G7⟩
      clear T1
      obtain ⟨l7, m7, T7⟩ := G7.out
      have X7 := keepB X6 T7.2.2 (fun j hj => .inl (.inr hj))
      have Y7 : Hid (Own W7 W6.heap.size 5 (.slice ya (to - fr) yc) (to - fr) (By fun j => d.f (fr + j))) := T7.2.1
      have B7 : Hid (Below w.heap.size w W7) := below_mv B6.out T7.2.2 (Nat.le_refl _) (fun j hj h => h (.inl (.inl hj)))
      have A1 := at_hit T7.1 fr (by rw [DN.out]; exact HFN.out) (by simp) (m7 0 (cntp_pos HTT.out.2))
      obtain ⟨v, hv⟩ : ∃ v, v = f fr := ⟨_, rfl⟩
      have HV : Hid _ := hv
      rw [show d.f fr = v by rw [DF.out, hv]] at A1
      clear T7 m7 G7 hv
      go_wp2_with fail
      refine A1.mono ?_
      rintro e W8 ⟨rfl, G8⟩
      clear A1
      obtain ⟨l8, T8⟩ := G8.out
      have X8 := keepB X7 T8.2 (fun j hj => .inl (.inl (.inr hj)))
      have Y8 := keepB Y7 T8.2 (fun j hj => .inr hj)
      have B8 : Hid (Below w.heap.size w W8) := below_mv B7.out T8.2 (Nat.le_refl _) (fun j hj h => h (.inl (.inl (.inl hj))))
      have RD := reads_fs T8.1 (by simp)
      have H8 : Hid _ := T8
      clear T8 G8
      go_wp2_with fail
      refine RD.mono ?_
      rintro e W9 ⟨rfl, G9⟩
      clear RD
      have B9 : Hid (Below w.heap.size w W9) := B8.out.trans (G9.out.2.mono B8.out.size)
      have F9 : Hid (Fs W9 q d 100 l8 (among (fun j => (j : Int)) d.m) [] (fun j => j < w.heap.size)) := (H8.out.1.below G9.out.2).mono (fun j hj => .inl (.inl (.inl (.inl hj))))
      have M9 : Mv (fun _ => False) W8 W9 := (Mv.of_below G9.out.2).mono (fun k hk e => by omega)
      have hv1 := conv_any xa (to - fr) xc _ W9 ((own_sl' X8.out).1.mv M9 (fun _ _ h => h))
      have hv2 := conv_any ya (to - fr) yc _ W9 ((own_sl' Y8.out).1.mv M9 (fun _ _ h => h))
      obtain ⟨b2, o2, rfl, hc2⟩ : ∃ b2 o2, a = some ⟨b2, o2, none⟩ ∧ W9.cell? ⟨b2, o2 + fr, none⟩ = some (.int .u8 v) := by
        obtain ⟨b1, o1, e, _, hc⟩ := (hl.out.below B9.out) fr HFN.out
        exact ⟨b1, o1, e, by rw [hc, HV.out]; rfl⟩
      generalize txt (fun j => d.f (fr + j)) (to - fr) = t at *
      have EV := evict_any F9.out
      clear M9
      go_wp2_with fail
      refine EV.mono ?_
      rintro e W10 ⟨rfl, G10⟩
      clear EV hc2 hv1 hv2
      have B10 : Hid (Below w.heap.size w W10) := below_mv B9.out G10.out.2 (Nat.le_refl _) (fun j hj h => h hj)
      have BF := bytes_fail G10.out.1 fr to HTT.out.2 (by rw [DN.out]; exact HTT.out.1) (by simp) (by simp) (by
        rw [among_all, decide_eq_true_iff]
        have := cntp_pages (sz := d.sz) (n := d.n) (m := d.m) (by rw [DZ.out]; omega) HTT.out.2 (by rw [DN.out]; exact HTT.out.1) F9.out.cnt 0 (cntp_pos HTT.out.2)
        exact this)
      go_wp2_with fail
      refine BF.mono ?_
      rintro e W11 ⟨rfl, G11⟩
      clear BF
      have B11 : Hid (Below w.heap.size w W11) := below_mv B10.out G11.out.2 (Nat.le_refl _) (fun j hj h => h hj)
      have BE := bytes_empty G11.out.1 fr (by rw [DN.out]; exact Nat.le_of_lt HFN.out) (by simp)
      go_wp2_with fail
      refine BE.mono ?_
      rintro e W12 ⟨ua, uc, rfl, G12⟩
      clear BE
      have B12 : Hid (Below w.heap.size w W12) := below_mv B11.out G12.out.2 (Nat.le_refl _) (fun j hj h => h hj)
      have RD := reads_fs G12.out.1 (by simp)
      go_wp2_with fail
      refine RD.mono ?_
      rintro e W13 ⟨rfl, G13⟩
      clear RD
      have B13 : Hid (Below w.heap.size w W13) := B12.out.trans (G13.out.2.mono B12.out.size)
      have F13 := G12.out.1.below G13.out.2
      obtain ⟨i0, hi0⟩ : ∃ i0 : Nat, i0 = fr / d.sz := ⟨_, rfl⟩
      have hcr : W13.cell? ⟨W12.heap.size, 0, none⟩ = some (.int .i64 i0) := by
        have := (G13.out.1.at (show 0 < _ by simp)).1
        rw [this, hi0]
        rfl
      have hq1 : (fr : Int) / (k : Int) = i0 := by rw [hi0, DZ.out]; rfl
      have hq2 : (fr : Int).tdiv (k : Int) = i0 := by rw [Int.tdiv_eq_ediv_of_nonneg (by omega)]; exact hq1
      have hib : (i0 : Int) ≤ 300 := by rw [hi0]; have := Nat.div_le_self fr d.sz; omega
      have hw1 : IntKind.i64.wrap (i0 : Int) = i0 := by
        simp [IntKind.wrap, IntKind.signed, IntKind.bits]
        omega
      have hk0 : ((k : Int) == 0) = false := by rw [beq_eq_false_iff_ne]; omega
      have hk0' : ¬ k = 0 := by omega
      have hlt13 : W12.heap.size < W13.heap.size := World.block_lt_of_cell? _ _ hcr
      have KP : Hid (Calls Try.prog 30 #[.pointer (some ⟨q, 0, none⟩)] W13.drew fun e w' => e = .returned (.int .i64 0) ∧ Hid (Below W13.drew.heap.size W13.drew w')) := kept_len (F13.mv (w' := W13.drew) (T := fun _ => False) ⟨rfl, rfl, rfl, Nat.le_refl _, fun _ _ _ => rfl⟩ (fun _ h => h.elim))
      clear hi0 F13
      go_wp2_with fail
      go_region_held3 (fun w' => w'.cell? ⟨W12.heap.size, 0, none⟩ = some (.int .i64 i0)) (first | go_keep | (exact (hb6.out.cell (p := ⟨W12.heap.size, 0, none⟩) hlt13).trans hcr))
        ((first
          | (go_at_call 30; refine KP.out.mono ?_; rintro e W14 ⟨rfl, hb6⟩)))
      all_goals (have BF : Hid (Below w.heap.size w W14) := B13.out.drew.trans (hb6.out.mono B13.out.size))
      all_goals go_wp2_with fail
      all_goals go_ret
      all_goals exact ⟨rfl, BF.out⟩

set_option maxRecDepth 100000 in
set_option maxHeartbeats 8000000 in
theorem keeps_walk2 (a : Option Addr) (n c : Nat) (f : Nat → Int) (s x y : Int) (w : World) (hn0 : ¬ n = 0) (hn : n ≤ 300) (hs0 : 0 ≤ s) (hs1 : s ≤ 255) (hx0 : 0 ≤ x) (hx1 : x ≤ 65535) (hy0 : 0 ≤ y) (hy1 : y ≤ 65535) (hl : Hid (Sl w a n (By f))) (h1 : (n : Int) < x % (n : Int) + 1 + y) :
    Calls Try.prog 11 #[.slice a n c, .int .u8 s, .int .u16 x, .int .u16 y] w fun e w' => e = .returned (.bool true) ∧ Below w.heap.size w w' := by
  have hz : (n : Int) ≤ 300 := by omega
  have hnz0 : ((n : Int) == 0) = false := by rw [beq_eq_false_iff_ne]; omega
  obtain ⟨k, hk⟩ : ∃ k : Nat, (5 : Int) + s % 30 = k := ⟨(5 + s % 30).toNat, by omega⟩
  have hk1 : 5 ≤ k ∧ k ≤ 34 := by omega
  obtain ⟨fr, hfr⟩ : ∃ fr : Nat, x % (n : Int) = fr := ⟨(x % n).toNat, by have := Int.emod_nonneg x (show (n : Int) ≠ 0 by omega); omega⟩
  have hfn : fr < n := by have := Int.emod_lt_of_pos x (show (0 : Int) < n by omega); omega
  rw [hfr] at h1
  have HTT : Hid (n ≤ n ∧ fr < n) := by show _ ∧ _; omega
  have HFN : Hid _ := hfn
  have hfnz : (fr : Int) < n := by omega
  go_enter Try.func11, Try.ntmps11
  go_wp2_with fail
  refine (begun5 w).mono ?_
  rintro e W ⟨rfl, B⟩
  have B0 : Hid (Below w.heap.size w W) := B
  clear B
  go_wp2_with fail
  refine (new_ok a n c k f W (by omega) (by omega) (by omega) (hl.out.below B0.out)).mono ?_
  rintro e W1 ⟨d, rfl, hd, P1, B1⟩
  have B2 : Hid (Below w.heap.size w W1) := B0.out.trans (B1.out.mono B0.out.size)
  have DB : Hid (w.heap.size ≤ d.base) := by show _ ≤ _; rw [hd.out.1]; exact B0.out.size
  obtain ⟨-, -, dn, dz, df⟩ := hd.out
  have DN : Hid (d.n = n) := dn
  have DF : Hid (d.f = f) := df
  have DZ : Hid (d.sz = k) := dz
  clear dn dz df hd B1
  go_wp2_with fail
  refine (fnew_of (mo := 100) (Y := fun j => j < w.heap.size) P1.out (fun j hj => ⟨Nat.lt_of_lt_of_le hj B2.out.size, .inl (by have := DB.out; omega)⟩)).mono ?_
  rintro e W2 ⟨rfl, F2⟩
  have B3 : Hid (Below w.heap.size w W2) := B2.out.trans (F2.out.2.mono B2.out.size)
  generalize W1.heap.size + 1 = q at *
  have T1 := bytes_ok F2.out.1 fr n (by have := HTT.out; omega) (by rw [DN.out]; exact HTT.out.1) (by simp) (fun s _ => none_fails _ _ _ s)
  have L3 : Hid (∀ s, s < cntp d.sz fr n → ((fr / d.sz + s : Nat) : Int) ∈ rk (cap 100) [] (fr / d.sz) (cntp d.sz fr n)) := fun s hs => by
    have hc := cntp_few (sz := d.sz) (a := fr) (b := n) (by rw [DZ.out]; exact hk1.1) (by omega)
    rw [rk_new (cap 100) _ _ (Nat.le_trans hc (by decide))]
    exact rv_mem (fun j => ((fr / d.sz + j : Nat) : Int)) _ s hs
  have R3 : Hid (([] ++ rr (cap 100) [] (fr / d.sz) (cntp d.sz fr n)).length ≤ 5001) := rr_small _ _ _ _ _ _ (by omega)
  generalize rk (cap 100) [] (fr / d.sz) (cntp d.sz fr n) = l3 at *
  generalize [] ++ rr (cap 100) [] (fr / d.sz) (cntp d.sz fr n) = R at *
  go_wp2_with fail
  refine T1.mono ?_
  rintro e W3 ⟨xa, xc, rfl, T3⟩
  clear T1
  have B4 : Hid (Below w.heap.size w W3) := below_mv B3.out T3.out.2.2 (Nat.le_refl _) (fun j hj h => h hj)
  have TPP : Hid (d.top ≤ W3.heap.size) := T3.out.1.top
  have hm300 : d.m ≤ 300 := by have := F2.out.1.small; have := DN.out; omega
  have hm300z : (d.m : Int) ≤ 300 := by omega
  have X3 : Hid (Own W3 W2.heap.size 5 (.slice xa (n - fr) xc) (n - fr) (By fun j => d.f (fr + j))) := T3.out.2.1
  have F3 : Hid (Fs W3 q d 100 l3 (fun _ => false) R (fun j => (j < w.heap.size ∨ bk xa = some j) ∨ bk none = some j)) := T3.out.1.mono (fun j hj => by rcases hj with hj | hj; exact hj; cases hj)
  go_wp2_with fail
  go_loopw [17, 18] (fun va vi wr => ∃ (i : Nat) (aa : Option Addr) (ac : Nat), va = .slice aa i ac ∧ vi = .int .i64 i ∧ i ≤ d.m ∧ Hid (Own wr W3.heap.size 3 (.slice aa i ac) i (In fun j => (j : Int))) ∧ Hid (Fs wr q d 100 l3 (fun _ => false) R (fun j => (j < w.heap.size ∨ bk xa = some j) ∨ bk aa = some j)) ∧ Hid (Own wr W2.heap.size 5 (.slice xa (n - fr) xc) (n - fr) (By fun j => d.f (fr + j))) ∧ Hid (Below w.heap.size w wr ∧ W3.heap.size ≤ wr.heap.size)) (fun _ vi _ => d.m - (intOf vi).toNat)
  case atStart => exact ⟨0, none, 0, rfl, rfl, Nat.zero_le _, own_nil _ _ _ _, F3, X3, B4.out, Nat.le_refl _⟩
  case round =>
    obtain ⟨i, aa, ac, rfl, rfl, hi, O, F, X, B⟩ := hrel
    by_cases hlt : i < d.m
    · have hltz : (i : Int) < d.m := by omega
      have CT := count_fs F.out
      obtain ⟨aa', ac', W4, hr, O2, M2, K2, _⟩ := more wr W3.heap.size aa i ac (fun j => (j : Int)) O.out (by omega) i rfl B.out.2 wr.heap.size rfl
      have F4 : Hid (Fs W4 q d 100 l3 (fun _ => false) R (fun j => (j < w.heap.size ∨ bk xa = some j) ∨ bk aa' = some j)) := F.out.more M2 K2 (base := W3.heap.size) (fun j hj => (O.out.blk j (by rw [own_blk]; exact hj)).1) (fun j hj => (O2.blk j (by rw [own_blk]; exact hj)).2) TPP.out
      have X4 : Hid (Own W4 W2.heap.size 5 (.slice xa (n - fr) xc) (n - fr) (By fun j => d.f (fr + j))) := X.out.mv M2 (fun j hj e => by
        have h1 := (X3.out.blk j hj).2
        have h2 := (O.out.blk j (by rw [own_blk]; exact e)).1
        omega)
      have B5 : Hid (Below w.heap.size w W4 ∧ W3.heap.size ≤ W4.heap.size) := ⟨below_mv B.out.1 M2 (Nat.le_refl _) (fun j hj e => by have h2 := (O.out.blk j (by rw [own_blk]; exact e)).1; have := B4.out.size; omega), Nat.le_trans B.out.2 M2.size⟩
      have O3 : Hid _ := O2
      clear O2 M2 K2
      go_wp2_with fail
      refine CT.mono ?_
      rintro e w' ⟨rfl, hw⟩
      obtain rfl := hw.symm
      clear hw CT
      go_wp2_with (at_builtin; first | (refine wpList_append_given rfl _ _ 31 rfl _ _ _ W4 rfl rfl hr ?_))
      go_wp2_with fail
      exact ⟨⟨i + 1, aa', ac', rfl, by go_num, by omega, O3, F4, X4, B5⟩, by simp [intOf]; omega⟩
    · obtain rfl : i = d.m := by omega
      have CT := count_fs F.out
      go_wp2_with fail
      refine CT.mono ?_
      rintro e w' ⟨rfl, hw⟩
      obtain rfl := hw.symm
      clear hw CT
      have FT := fault_fs F.out aa d.m ac (fun j => (j : Int)) (by omega) (own_sl' O.out).1 (fun p hp e => by
        have h1 := (O.out.blk p.block (by rw [own_blk, hp]; rfl)).1
        have h2 := F.out.blk
        have := TPP.out
        omega)
      go_wp2_with fail
      refine FT.mono ?_
      rintro e W5 ⟨rfl, F5⟩
      clear FT
      have X5 := keepB X F5.out.2 (fun j hj => .inl (.inr hj))
      have B5 : Hid (Below w.heap.size w W5) := below_mv B.out.1 F5.out.2 (Nat.le_refl _) (fun j hj h => h (.inl (.inl hj)))
      have CL := clear_fs F5.out.1
      go_wp2_with fail
      refine CL.mono ?_
      rintro e W6 ⟨rfl, F6⟩
      clear CL
      have X6 := keepB X5 F6.out.2 (fun j hj => .inl (.inr hj))
      have B6 : Hid (Below w.heap.size w W6) := below_mv B5.out F6.out.2 (Nat.le_refl _) (fun j hj h => h (.inl (.inl hj)))
      have T1 := bytes_hit F6.out.1 fr n (by have := HTT.out; omega) (by rw [DN.out]; exact HTT.out.1) (by simp) L3.out
      go_wp2_with fail
      refine T1.mono ?_
      rintro e W7 ⟨ya, yc, rfl, G7⟩
      clear T1
      obtain ⟨l7, m7, T7⟩ := G7.out
      have X7 := keepB X6 T7.2.2 (fun j hj => .inl (.inr hj))
      have Y7 : Hid (Own W7 W6.heap.size 5 (.slice ya (n - fr) yc) (n - fr) (By fun j => d.f (fr + j))) := T7.2.1
      have B7 : Hid (Below w.heap.size w W7) := below_mv B6.out T7.2.2 (Nat.le_refl _) (fun j hj h => h (.inl (.inl hj)))
      have A1 := at_hit T7.1 fr (by rw [DN.out]; exact HFN.out) (by simp) (m7 0 (cntp_pos HTT.out.2))
      obtain ⟨v, hv⟩ : ∃ v, v = f fr := ⟨_, rfl⟩
      have HV : Hid _ := hv
      rw [show d.f fr = v by rw [DF.out, hv]] at A1
      clear T7 m7 G7 hv
      go_wp2_with fail
      refine A1.mono ?_
      rintro e W8 ⟨rfl, G8⟩
      clear A1
      obtain ⟨l8, T8⟩ := G8.out
      have X8 := keepB X7 T8.2 (fun j hj => .inl (.inl (.inr hj)))
      have Y8 := keepB Y7 T8.2 (fun j hj => .inr hj)
      have B8 : Hid (Below w.heap.size w W8) := below_mv B7.out T8.2 (Nat.le_refl _) (fun j hj h => h (.inl (.inl (.inl hj))))
      have RD := reads_fs T8.1 (by simp)
      have H8 : Hid _ := T8
      clear T8 G8
      go_wp2_with fail
      refine RD.mono ?_
      rintro e W9 ⟨rfl, G9⟩
      clear RD
      have B9 : Hid (Below w.heap.size w W9) := B8.out.trans (G9.out.2.mono B8.out.size)
      have F9 : Hid (Fs W9 q d 100 l8 (among (fun j => (j : Int)) d.m) [] (fun j => j < w.heap.size)) := (H8.out.1.below G9.out.2).mono (fun j hj => .inl (.inl (.inl (.inl hj))))
      have M9 : Mv (fun _ => False) W8 W9 := (Mv.of_below G9.out.2).mono (fun k hk e => by omega)
      have hv1 := conv_any xa (n - fr) xc _ W9 ((own_sl' X8.out).1.mv M9 (fun _ _ h => h))
      have hv2 := conv_any ya (n - fr) yc _ W9 ((own_sl' Y8.out).1.mv M9 (fun _ _ h => h))
      obtain ⟨b2, o2, rfl, hc2⟩ : ∃ b2 o2, a = some ⟨b2, o2, none⟩ ∧ W9.cell? ⟨b2, o2 + fr, none⟩ = some (.int .u8 v) := by
        obtain ⟨b1, o1, e, _, hc⟩ := (hl.out.below B9.out) fr HFN.out
        exact ⟨b1, o1, e, by rw [hc, HV.out]; rfl⟩
      generalize txt (fun j => d.f (fr + j)) (n - fr) = t at *
      have EV := evict_any F9.out
      clear M9
      go_wp2_with fail
      refine EV.mono ?_
      rintro e W10 ⟨rfl, G10⟩
      clear EV hc2 hv1 hv2
      have B10 : Hid (Below w.heap.size w W10) := below_mv B9.out G10.out.2 (Nat.le_refl _) (fun j hj h => h hj)
      have BF := bytes_fail G10.out.1 fr n HTT.out.2 (by rw [DN.out]; exact HTT.out.1) (by simp) (by simp) (by
        rw [among_all, decide_eq_true_iff]
        have := cntp_pages (sz := d.sz) (n := d.n) (m := d.m) (by rw [DZ.out]; omega) HTT.out.2 (by rw [DN.out]; exact HTT.out.1) F9.out.cnt 0 (cntp_pos HTT.out.2)
        exact this)
      go_wp2_with fail
      refine BF.mono ?_
      rintro e W11 ⟨rfl, G11⟩
      clear BF
      have B11 : Hid (Below w.heap.size w W11) := below_mv B10.out G11.out.2 (Nat.le_refl _) (fun j hj h => h hj)
      have BE := bytes_empty G11.out.1 fr (by rw [DN.out]; exact Nat.le_of_lt HFN.out) (by simp)
      go_wp2_with fail
      refine BE.mono ?_
      rintro e W12 ⟨ua, uc, rfl, G12⟩
      clear BE
      have B12 : Hid (Below w.heap.size w W12) := below_mv B11.out G12.out.2 (Nat.le_refl _) (fun j hj h => h hj)
      have RD := reads_fs G12.out.1 (by simp)
      go_wp2_with fail
      refine RD.mono ?_
      rintro e W13 ⟨rfl, G13⟩
      clear RD
      have B13 : Hid (Below w.heap.size w W13) := B12.out.trans (G13.out.2.mono B12.out.size)
      have F13 := G12.out.1.below G13.out.2
      obtain ⟨i0, hi0⟩ : ∃ i0 : Nat, i0 = fr / d.sz := ⟨_, rfl⟩
      have hcr : W13.cell? ⟨W12.heap.size, 0, none⟩ = some (.int .i64 i0) := by
        have := (G13.out.1.at (show 0 < _ by simp)).1
        rw [this, hi0]
        rfl
      have hq1 : (fr : Int) / (k : Int) = i0 := by rw [hi0, DZ.out]; rfl
      have hq2 : (fr : Int).tdiv (k : Int) = i0 := by rw [Int.tdiv_eq_ediv_of_nonneg (by omega)]; exact hq1
      have hib : (i0 : Int) ≤ 300 := by rw [hi0]; have := Nat.div_le_self fr d.sz; omega
      have hw1 : IntKind.i64.wrap (i0 : Int) = i0 := by
        simp [IntKind.wrap, IntKind.signed, IntKind.bits]
        omega
      have hk0 : ((k : Int) == 0) = false := by rw [beq_eq_false_iff_ne]; omega
      have hk0' : ¬ k = 0 := by omega
      have hlt13 : W12.heap.size < W13.heap.size := World.block_lt_of_cell? _ _ hcr
      have KP : Hid (Calls Try.prog 30 #[.pointer (some ⟨q, 0, none⟩)] W13.drew fun e w' => e = .returned (.int .i64 0) ∧ Hid (Below W13.drew.heap.size W13.drew w')) := kept_len (F13.mv (w' := W13.drew) (T := fun _ => False) ⟨rfl, rfl, rfl, Nat.le_refl _, fun _ _ _ => rfl⟩ (fun _ h => h.elim))
      clear hi0 F13
      go_wp2_with fail
      go_region_held3 (fun w' => w'.cell? ⟨W12.heap.size, 0, none⟩ = some (.int .i64 i0)) (first | go_keep | (exact (hb6.out.cell (p := ⟨W12.heap.size, 0, none⟩) hlt13).trans hcr))
        ((first
          | (go_at_call 30; refine KP.out.mono ?_; rintro e W14 ⟨rfl, hb6⟩)))
      all_goals (have BF : Hid (Below w.heap.size w W14) := B13.out.drew.trans (hb6.out.mono B13.out.size))
      all_goals go_wp2_with fail
      all_goals go_ret
      all_goals exact ⟨rfl, BF.out⟩

theorem fileKeeps_row (W : World) (a : Option Addr) (n c : Nat) (f : Nat → Int) (s : Sl W a n (fun i => .int .u8 (f i))) (_o : ∀ i, (Lit.int .u8 (f i)).wf = true) (_e : a = none → n = 0 ∧ c = 0) (x0 : Int) (w0 : (Lit.int .u8 x0).wf = true) (x1 : Int) (w1 : (Lit.int .u16 x1).wf = true) (x2 : Int) (w2 : (Lit.int .u16 x2).wf = true) :
    Calls Try.prog 11 #[.slice a n c, .int .u8 x0, .int .u16 x1, .int .u16 x2] W fun e w' => e = .returned (.bool true) ∧ Below W.heap.size W w' := by
  by_cases h : n = 0 ∨ 300 < n
  · exact keeps_out a n c x0 x1 x2 W h
  · by_cases h1 : x1 % (n : Int) + 1 + x2 ≤ n
    · exact keeps_walk1 a n c f x0 x1 x2 W (by omega) (by omega) (b8 w0).1 (b8 w0).2 (b16 w1).1 (b16 w1).2 (b16 w2).1 (b16 w2).2 s h1
    · exact keeps_walk2 a n c f x0 x1 x2 W (by omega) (by omega) (b8 w0).1 (b8 w0).2 (b16 w1).1 (b16 w1).2 (b16 w2).1 (b16 w2).2 s (by omega)
end Go.Proofs.Ytjlnmkoggobbgaa
