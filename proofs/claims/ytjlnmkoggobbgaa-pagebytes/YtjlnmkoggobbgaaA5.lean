/- The walk of PageBytes. -/
import Derived.Test.YtjlnmkoggobbgaaD1
import Derived.Deep.RegionHeld3
namespace Go.Proofs.Ytjlnmkoggobbgaa
open Go.RowKit

set_option maxHeartbeats 1000000 in
theorem bytes_out (a : Option Addr) (n c : Nat) (s t : Int) (w : World) (hn : n = 0 ∨ 300 < n) :
    Calls Try.prog 5 #[.slice a n c, .int .u8 s, .int .u16 t] w fun e w' => e = .returned (.bool true) ∧ Below w.heap.size w w' := by
  rcases hn with rfl | hn
  · go_enter Try.func5, Try.ntmps5
    go_wp2_with fail
    refine (begun_any w).mono ?_
    rintro e W ⟨rfl, B⟩
    have B' : Hid _ := B
    clear B
    go_wp2_with fail
    go_ret
    exact ⟨rfl, B'.out⟩
  · have hz : (300 : Int) < n := by omega
    have hz0 : ((n : Int) == 0) = false := by
      rw [beq_eq_false_iff_ne]; omega
    go_enter Try.func5, Try.ntmps5
    go_wp2_with fail
    refine (begun_any w).mono ?_
    rintro e W ⟨rfl, B⟩
    have B' : Hid _ := B
    clear B
    go_wp2_with fail
    go_ret
    exact ⟨rfl, B'.out⟩

theorem wrap_small {x : Int} (h1 : -1000000 ≤ x) (h2 : x ≤ 1000000) : IntKind.i64.wrap x = x := by
  simp [IntKind.wrap, IntKind.signed, IntKind.bits]
  omega

set_option maxRecDepth 100000 in
set_option maxHeartbeats 4000000 in
theorem bytes_any (a : Option Addr) (n c : Nat) (f : Nat → Int) (s t : Int) (w : World) (hn0 : 0 < n) (hn : n ≤ 300) (hs0 : 0 ≤ s) (hs1 : s ≤ 255) (ht0 : 0 ≤ t) (ht1 : t ≤ 65535) (hl : Hid (Sl w a n (By f))) :
    Calls Try.prog 5 #[.slice a n c, .int .u8 s, .int .u16 t] w fun e w' => e = .returned (.bool true) ∧ Below w.heap.size w w' := by
  have hz : (n : Int) ≤ 300 := by omega
  have hz0 : ((n : Int) == 0) = false := by rw [beq_eq_false_iff_ne]; omega
  obtain ⟨k, hk⟩ : ∃ k : Nat, (1 : Int) + s % 40 = k := ⟨(1 + s % 40).toNat, by omega⟩
  have hk1 : 1 ≤ k ∧ k ≤ 40 := by omega
  have hkz : (k : Int) ≤ 40 := by omega
  have hkz0 : (0 : Int) < k := by omega
  have HK : Hid _ := hk
  clear hk
  have hnz : (0 : Int) < n := by omega
  obtain ⟨i, hi⟩ : ∃ i : Nat, t % n = i := ⟨(t % n).toNat, by have := Int.emod_nonneg t (show (n : Int) ≠ 0 by omega); omega⟩
  have hin : i < n := by have := Int.emod_lt_of_pos t hnz; omega
  have hinz : (i : Int) < n := by omega
  have HI : Hid _ := hi
  clear hi
  go_enter Try.func5, Try.ntmps5
  go_wp2_with fail
  refine (begun_any w).mono ?_
  rintro e W ⟨rfl, B⟩
  have B0 : Hid (Below w.heap.size w W) := B
  clear B
  go_wp2_with fail
  rw [HK.out]
  refine (new_ok a n c k f W (by omega) (by omega) (by omega) (hl.out.below B0.out)).mono ?_
  rintro e W1 ⟨d, rfl, hd, P1, B1⟩
  have B2 : Hid (Below w.heap.size w W1) := B0.out.trans (B1.out.mono B0.out.size)
  have DB : Hid (w.heap.size ≤ d.base) := by show _ ≤ _; rw [hd.out.1]; exact B0.out.size
  obtain ⟨-, -, dn, dz, df⟩ := hd.out
  have DN : Hid (d.n = n) := dn
  have DZ : Hid (d.sz = k) := dz
  have DF : Hid (d.f = f) := df
  clear dn dz df hd B1 HK
  go_wp2_with fail
  rw [HI.out]
  have hQ : wrap64 ((i : Int).tdiv (k : Int)) = ((i / k : Nat) : Int) := by
    have h1 : (i : Int).tdiv (k : Int) = ((i / k : Nat) : Int) := by rw [Int.tdiv_eq_ediv_of_nonneg (by omega)]; exact (Int.natCast_ediv i k).symm
    rw [h1]
    have h2 : i / k ≤ i := Nat.div_le_self _ _
    clear h1
    generalize i / k = y at h2 ⊢
    unfold wrap64
    omega
  rw [hQ]
  obtain ⟨q, hq⟩ : ∃ q, q = i / k := ⟨_, rfl⟩
  obtain ⟨r, hr⟩ : ∃ r, r = i % k := ⟨_, rfl⟩
  have hrk : r < k := by rw [hr]; exact Nat.mod_lt _ (by omega)
  have hqr : q * k + r = i := by rw [hq, hr, Nat.mul_comm]; exact Nat.div_add_mod i k
  rw [← hq]
  have RM : Hid ((i : Int) % (k : Int) = (r : Int)) := by show _ = _; rw [hr]; exact (Int.natCast_emod i k).symm
  have QR : Hid _ := hqr
  have hqm : q < d.m := by
    have := P1.out.cnt q
    rw [DN.out, DZ.out] at this
    omega
  clear hQ hq hr hqr HI
  refine (read_ok d q none 0 0 _ _ W1 P1 (by omega) hqm rfl).mono ?_
  rintro e W2 ⟨g, rfl, ra', rc', P2, K2, M2, N2, O2⟩
  generalize hL2 : min d.sz (d.n - q * d.sz) = l2 at O2 ⊢
  have hl2 : r < l2 := by
    have h1 := DN.out; have h2 := DZ.out; have h3 := QR.out
    rw [← hL2, h1, h2]
    omega
  have L2 : Hid _ := hL2
  clear hL2
  have B3 : Hid (Below w.heap.size w W2) := below_mv B2.out M2.out (Nat.le_refl _) (fun j hj => P1.out.low j (by have := DB.out; omega))
  have hlt2 : d.bp < W2.heap.size := World.block_lt_of_cell? _ _ P2.out.c1
  go_wp2_with fail
  refine (count_any d.bp d.pa d.m d.pc W2 P2.out.c1).mono ?_
  rintro e w' ⟨rfl, hw⟩
  obtain rfl := hw.symm
  clear hw
  go_wp2_with fail
  refine (read_none d.bp d.m d.pa d.m d.pc W2 P2.out.c1 hlt2 (by unfold has; rw [decide_eq_false (show ¬ ((d.m : Int) < d.m) by omega), Bool.and_false])).mono ?_
  rintro e W3 ⟨rfl, b3⟩
  have P3 : Hid (Pg W3 d ra' rc' (fun _ => false) 1 (app (fun _ => 0) 0 q)) := P2.out.mv (Mv.of_below b3 |>.mono (T := fun _ => False) (fun j h1 h2 => by omega)) (fun j hj => hj.elim)
  have B4 : Hid (Below w.heap.size w W3) := B3.out.trans (b3.mono B3.out.size)
  have O3 : Hid (Own W3 W1.heap.size 5 (.slice (some ⟨g, 0, none⟩) l2 l2) l2 (By fun j => d.f (q * d.sz + j))) := O2.out.mv (Mv.of_below b3 |>.mono (T := fun _ => False) (fun j h1 h2 => by omega)) (fun _ _ h => h)
  clear b3
  have hlt3 : d.bp < W3.heap.size := World.block_lt_of_cell? _ _ P3.out.c1
  go_wp2_with fail
  refine (read_none d.bp (-1) d.pa d.m d.pc W3 P3.out.c1 hlt3 (by unfold has; rfl)).mono ?_
  rintro e W4 ⟨rfl, b4⟩
  have P4 : Hid (Pg W4 d ra' rc' (fun _ => false) 1 (app (fun _ => 0) 0 q)) := P3.out.mv (Mv.of_below b4 |>.mono (T := fun _ => False) (fun j h1 h2 => by omega)) (fun j hj => hj.elim)
  have B5 : Hid (Below w.heap.size w W4) := B4.out.trans (b4.mono B4.out.size)
  have O4 : Hid (Own W4 W1.heap.size 5 (.slice (some ⟨g, 0, none⟩) l2 l2) l2 (By fun j => d.f (q * d.sz + j))) := O3.out.mv (Mv.of_below b4 |>.mono (T := fun _ => False) (fun j h1 h2 => by omega)) (fun _ _ h => h)
  clear b4
  obtain ⟨bb, off, rfl, hbb, hc2⟩ := (hl.out.below B5.out) i hin
  have hcb : W4.cell? ⟨bb, off + i, none⟩ = some (.int .u8 (f i)) := hc2
  have hcg : W4.cell? ⟨g, r, none⟩ = some (.int .u8 (f i)) := by
    have h1 := (O4.out.at hl2).1
    unfold By at h1
    rw [DF.out, DZ.out] at h1
    have h2 : W4.cell? ⟨g, r, none⟩ = some (.int .u8 (f (q * k + r))) := h1
    rw [QR.out] at h2
    exact h2
  clear hc2
  generalize f i = x at hcb hcg
  have hc1 := P4.out.c1
  have hrl : (r : Int) < l2 := by omega
  have hm1 : ((d.m : Int) - 1) * k < n := by
    have h1 := (P4.out.cnt (d.m - 1)).2 (by omega)
    rw [DN.out, DZ.out] at h1
    have h2 : ((d.m : Int) - 1) * k = (((d.m - 1) * k : Nat) : Int) := by rw [Int.natCast_mul]; congr 1; omega
    rw [h2]; omega
  have hm2 : (n : Int) ≤ (d.m : Int) * k := by
    have h1 := mt (P4.out.cnt d.m).1 (by omega)
    rw [DN.out, DZ.out] at h1
    have h2 : (d.m : Int) * k = ((d.m * k : Nat) : Int) := by rw [Int.natCast_mul]
    rw [h2]; omega
  have hmn : d.m ≤ n := by have h1 := P4.out.small; have h2 := DN.out; omega
  have hmz : (d.m : Int) ≤ 300 := by omega
  have hmz1 : (0 : Int) < d.m := by omega
  have hsl : Hid (Sl W4 ra' 1 (In (app (fun _ => 0) 0 q))) := by
    obtain ⟨a, c, e, h, _⟩ := P4.out.reads.sl
    cases e
    exact h
  have hc3 := P4.out.c3
  have hrm : (i : Int) % (k : Int) = r := RM.out
  have htm : (i : Int).tmod (k : Int) = r := by rw [Int.tmod_eq_emod_of_nonneg (by omega)]; exact RM.out
  have hk0 : ((k : Int) == 0) = false := by rw [beq_eq_false_iff_ne]; omega
  have hk0' : ¬ k = 0 := by omega
  have hr0 : (0 : Int) ≤ r := by omega
  have hw0 : (0 : Int) ≤ ((d.m : Int) - 1) * k := Int.mul_nonneg (by omega) (by omega)
  have hw9 : (d.m : Int) * k ≤ 300 * 40 := Int.mul_le_mul hmz hkz (by omega) (by omega)
  have hw1 : IntKind.i64.wrap ((d.m : Int) - 1) = (d.m : Int) - 1 := wrap_small (by omega) (by omega)
  have hw2 : IntKind.i64.wrap (((d.m : Int) - 1) * k) = ((d.m : Int) - 1) * k := wrap_small (by omega) (by omega)
  have hw3 : IntKind.i64.wrap ((d.m : Int) * k) = (d.m : Int) * k := wrap_small (by omega) (by omega)
  have hdd1 : decide (((d.m : Int) - 1) * k < n) = true := decide_eq_true hm1
  have hdd2 : decide ((n : Int) ≤ (d.m : Int) * k) = true := decide_eq_true hm2
  have hgk : g < W4.heap.size := World.block_lt_of_cell? _ _ hcg
  clear P1 P2 P3 B2 B3 B4 O2 O3 K2 M2 N2 hlt2 hlt3
  go_wp2_with fail
  go_region_held3 (fun w' => w'.cell? ⟨g, r, none⟩ = some (.int .u8 x) ∧ w'.cell? ⟨bb, off + i, none⟩ = some (.int .u8 x) ∧ w'.cell? ⟨d.bp, 2, none⟩ = some (.slice d.pa d.m d.pc)) (first | go_keep | (exact ⟨(hb6.out.cell (p := ⟨g, r, none⟩) hgk).trans hcg, (hb6.out.cell (p := ⟨bb, off + i, none⟩) hbb).trans hcb, (hb6.out.cell (p := ⟨d.bp, 2, none⟩) (World.block_lt_of_cell? _ _ hc1)).trans hc1⟩))
    ((first
      | (go_at_call 23; refine (count_any d.bp d.pa d.m d.pc _ ?_).mono ?_; (simp [*]); rintro e w' ⟨rfl, rfl⟩)
      | (go_at_call 21; refine (reads_any d.bp ra' 1 rc' _ W4.drew hc3 (by omega) hsl).mono ?_; rintro e W6 ⟨rfl, hO6, hb6⟩)))
  all_goals (have BF : Hid (Below w.heap.size w W6) := B5.out.drew.trans (hb6.out.mono B5.out.size))
  all_goals go_wp2_with fail
  all_goals go_ret
  all_goals exact ⟨rfl, BF.out⟩

theorem u8_wf' {x : Int} (h : (Lit.int .u8 x).wf = true) : 0 ≤ x ∧ x ≤ 255 := by
  simpa [Lit.wf, IntKind.min, IntKind.max, IntKind.signed, IntKind.bits] using h
theorem u16_wf {x : Int} (h : (Lit.int .u16 x).wf = true) : 0 ≤ x ∧ x ≤ 65535 := by
  simpa [Lit.wf, IntKind.min, IntKind.max, IntKind.signed, IntKind.bits] using h

theorem pageBytes_row (W : World) (a : Option Addr) (n c : Nat) (f : Nat → Int) (s : Sl W a n (fun i => .int .u8 (f i))) (_o : ∀ i, (Lit.int .u8 (f i)).wf = true) (_e : a = none → n = 0 ∧ c = 0) (x : Int) (wx : (Lit.int .u8 x).wf = true) (y : Int) (wy : (Lit.int .u16 y).wf = true) :
    Calls Try.prog 5 #[.slice a n c, .int .u8 x, .int .u16 y] W fun e w' => e = .returned (.bool true) ∧ Below W.heap.size W w' := by
  by_cases h : n = 0 ∨ 300 < n
  · exact bytes_out a n c x y W h
  · exact bytes_any a n c f x y W (by omega) (by omega) (u8_wf' wx).1 (u8_wf' wx).2 (u16_wf wy).1 (u16_wf wy).2 s
end Go.Proofs.Ytjlnmkoggobbgaa
