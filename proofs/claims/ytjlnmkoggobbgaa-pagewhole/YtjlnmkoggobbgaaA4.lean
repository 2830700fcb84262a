/- The walk of PageWhole. -/
import Derived.Test.YtjlnmkoggobbgaaD1
namespace Go.Proofs.Ytjlnmkoggobbgaa
open Go.RowKit

set_option maxHeartbeats 1000000 in
theorem whole_long (a : Option Addr) (n c : Nat) (s : Int) (w : World) (hn : 400 < n) :
    Calls Try.prog 4 #[.slice a n c, .int .u8 s] w fun e w' => e = .returned (.bool true) ∧ Below w.heap.size w w' := by
  have hz : (400 : Int) < n := by omega
  go_enter Try.func4, Try.ntmps4
  go_wp2_with fail
  refine (begun_any w).mono ?_
  rintro e W ⟨rfl, B⟩
  have B' : Hid _ := B
  clear B
  go_wp2_with fail
  go_ret
  exact ⟨rfl, B'.out⟩

set_option maxRecDepth 100000 in
set_option maxHeartbeats 4000000 in
theorem whole_any (a : Option Addr) (n c : Nat) (f : Nat → Int) (s : Int) (w : World) (hn : n ≤ 400) (hs0 : 0 ≤ s) (hs1 : s ≤ 255) (hl : Hid (Sl w a n (By f))) :
    Calls Try.prog 4 #[.slice a n c, .int .u8 s] w fun e w' => e = .returned (.bool true) ∧ Below w.heap.size w w' := by
  have hz : (n : Int) ≤ 400 := by omega
  obtain ⟨k, hk⟩ : ∃ k : Nat, (1 : Int) + s % 60 = k := ⟨(1 + s % 60).toNat, by omega⟩
  have hk1 : 1 ≤ k ∧ k ≤ 60 := by omega
  have hkz : (k : Int) ≤ 60 := by omega
  have HK : Hid _ := hk
  clear hk
  go_enter Try.func4, Try.ntmps4
  go_wp2_with fail
  refine (begun_any w).mono ?_
  rintro e W ⟨rfl, B⟩
  have B0 : Hid (Below w.heap.size w W) := B
  clear B
  go_wp2_with fail
  rw [HK.out]
  refine (new_ok a n c k f W (by omega) (by omega) (by omega) (hl.out.below B0.out)).mono ?_
  rintro e W1 ⟨d, rfl, hd, P1, B1⟩
  have B2 : Hid (Below w.heap.size w W1) := B0.out.trans (B1.out.mono B0.out.size)
  have DB : Hid (w.heap.size ≤ d.base) := by show _ ≤ _; rw [hd.out.1]; exact B0.out.size
  obtain ⟨-, -, dn, dz, df⟩ := hd.out
  have DN : Hid (d.n = n) := dn
  have DZ : Hid (d.sz = k) := dz
  have DF : Hid (d.f = f) := df
  have hmn : d.m ≤ 400 := by have := P1.out.small; omega
  have hmz : (d.m : Int) ≤ 400 := by omega
  clear dn dz df hd B1 HK
  go_wp2_with fail
  go_loopw [8, 9] (fun vb vi wr => ∃ (i l : Nat) (oa : Option Addr) (oc : Nat) (ra : Option Addr) (rc : Nat) (rd : Nat → Int), i ≤ d.m ∧ l ≤ n ∧ vb = .slice oa l oc ∧ vi = .int .i64 i ∧ Hid (l = min (i * d.sz) d.n) ∧ Hid (Own wr d.top 5 (.slice oa l oc) l (By f)) ∧ Hid (Pg wr d ra rc (fun _ => false) i rd) ∧ Hid (Sep oa ra) ∧ Hid (Below w.heap.size w wr)) (fun _ vi _ => d.m - (intOf vi).toNat)
  case atStart => exact ⟨0, 0, none, 0, none, 0, _, by omega, by omega, rfl, rfl, by show 0 = _; rw [Nat.zero_mul, Nat.zero_min], own_nil _ _ _ _, P1, sep_nil _, B2⟩
  case round =>
    obtain ⟨i, l, oa, oc, ra, rc, rd, hi, hln, rfl, rfl, L, O, P, S, B⟩ := hrel
    by_cases hlt : i < d.m
    · have hltz : (i : Int) < d.m := by omega
      have hlt500 : (i : Int) < 500 := by omega
      have hcnt := P.out.c1
      obtain ⟨q1, q2, q3, q4⟩ := whole_len P.out hlt
      have Q1 : Hid _ := q1
      have Q3 : Hid _ := q3
      have Q4 : Hid _ := q4
      clear q1 q3 q4
      go_wp2_with fail
      refine (count_any d.bp d.pa d.m d.pc wr hcnt).mono ?_
      rintro e w' ⟨rfl, hw⟩
      obtain rfl := hw.symm
      clear hw
      go_wp2_with fail
      refine (read_ok d i ra rc i _ rd wr P (by omega) hlt rfl).mono ?_
      rintro e W2 ⟨g, rfl, ra', rc', P2, K2, M2, N2, O2⟩
      generalize hL2 : min d.sz (d.n - i * d.sz) = l2 at O2 q2 Q3 Q4 ⊢
      have L2 : Hid _ := hL2
      clear hL2
      have O3 : Hid (Own W2 d.top 5 (.slice oa l oc) l (By f)) := O.out.past P.out S.out M2.out
      have S3 : Hid (Sep oa ra') := sep_read O.out S.out K2.out (Nat.le_refl _)
      have B3 : Hid (Below w.heap.size w W2) := below_mv B.out M2.out (Nat.le_refl _) (fun j hj => P.out.low j (by have := DB.out; omega))
      have Q4' : l + l2 = min ((i + 1) * d.sz) d.n := by rw [L.out]; exact Q4.out
      have NL : l + l2 ≤ n := by rw [Q4', DN.out]; exact Nat.min_le_right _ _
      have Q4 : Hid (l + l2 = min ((i + 1) * d.sz) d.n) := Q4'
      clear Q4'
      have hk2 : l2 ≤ k := by have h1 := L2.out; have h2 := DZ.out; omega
      have hk2z : (l2 : Int) ≤ k := by omega
      have hk3z : (1 : Int) ≤ l2 := by omega
      obtain ⟨oa', oc', W3, hr, h4, h5, h6, h7, -, -⟩ := grow_row 22 22 5 Try.t5 (.int .u8 0) 1 Try.underlying22 info5 (by kernel_rfl) (by kernel_rfl) (by kernel_rfl) rfl (by omega) (c := l2) P2.out O3.out S3.out (s := some ⟨g, 0, none⟩) (m := l2) (U := By fun j => d.f (i * d.sz + j)) (by
        obtain ⟨a, c, e, h, _⟩ := O2.out.sl
        cases e
        exact h) (fun _ => rfl) (by omega) (fun h => by cases h)
      have O4 : Hid (Own W3 d.top 5 (.slice oa' (l + l2) oc') (l + l2) (By f)) := h4.congr (fun j hj => by
        unfold cat By
        by_cases h : j < l
        · rw [if_pos h]
        · rw [if_neg h, DF.out]
          show Value.int .u8 (f (i * d.sz + (j - l))) = _
          rw [show i * d.sz + (j - l) = j by have h1 := L.out; have h2 := Q1.out; omega])
      have P4 : Hid (Pg W3 d ra' rc' (fun _ => false) (i + 1) (app rd i i)) := h5
      have S4 : Hid (Sep oa' ra') := h6
      have B4 : Hid (Below w.heap.size w W3) := below_mv B3.out h7 (Nat.le_refl _) (fun j hj hS => by have h1 := DB.out; have h2 := P2.out.b0; have h3 := P2.out.t0; omega)
      clear h4 h5 h6 h7
      by_cases hfull : l2 < k
      · have hfz : (l2 : Int) < k := by omega
        have him : (d.m : Int) - 1 ≤ i := by have := Q3.out (by have h2 := DZ.out; omega); omega
        clear Q3
        go_wp2_with fail
        refine (count_any d.bp d.pa d.m d.pc W2 P2.out.c1).mono ?_
        rintro e w' ⟨rfl, hw⟩
        obtain rfl := hw.symm
        clear hw
        go_wp2_with (at_builtin; first | (refine wpList_append_given rfl _ _ 22 rfl _ _ _ W3 rfl rfl hr ?_))
        go_wp2_with fail
        exact ⟨⟨i + 1, l + l2, oa', oc', ra', rc', _, by omega, NL, rfl, by go_num, Q4, O4, P4, S4, B4⟩, by simp [intOf]; omega⟩
      · have hfz : (k : Int) ≤ l2 := by omega
        clear Q3
        go_wp2_with (at_builtin; first | (refine wpList_append_given rfl _ _ 22 rfl _ _ _ W3 rfl rfl hr ?_))
        go_wp2_with fail
        exact ⟨⟨i + 1, l + l2, oa', oc', ra', rc', _, by omega, NL, rfl, by go_num, Q4, O4, P4, S4, B4⟩, by simp [intOf]; omega⟩
    · obtain rfl : i = d.m := by omega
      have hge : ((d.m : Nat) : Int) ≤ d.m := by omega
      have hln2 : l = n := by
        have h1 := L.out
        have h2 := P.out.cnt d.m
        have h3 := DN.out
        omega
      subst hln2
      have hcnt := P.out.c1
      obtain ⟨hmk, hO5⟩ := made 22 5 Try.t5 (.int .u8 0) 1 Try.underlying22 info5 (by kernel_rfl) (by kernel_rfl) (by kernel_rfl) rfl (by omega) 4001 (by omega) wr wr.heap.size (Nat.le_refl _)
      have hmk' : (Instr.makeSlice 22 (.int .i64 4001) (.int .i64 4001)).run Try.prog wr = .ok (.slice (some ⟨wr.heap.size, 0, none⟩) 4001 4001) (wr.alloc (.cells (madeCells #[.int .u8 0] 4001) 5)) := hmk
      clear hO5 hmk
      have hsl : Sl wr oa l (By f) := by
        obtain ⟨a, c, e, h, _⟩ := O.out.sl
        cases e
        exact h
      have M6 : Mv (fun _ => False) wr (wr.alloc (.cells (madeCells #[.int .u8 0] 4001) 5)) := Mv.alloc _ _ _
      have hv1 := conv_any oa l oc f _ (hsl.mv M6 (fun _ _ h => h))
      have hv2 := conv_any a l c f _ ((hl.out.below B.out).mv M6 (fun _ _ h => h))
      clear hsl
      have B6 : Hid (Below w.heap.size w (wr.alloc (.cells (madeCells #[.int .u8 0] 4001) 5))) := below_mv B.out M6 (Nat.le_refl _) (fun j hj h => h)
      clear M6
      generalize txt f l = t at hv1 hv2
      go_wp2_with fail
      refine (count_any d.bp d.pa d.m d.pc wr hcnt).mono ?_
      rintro e w' ⟨rfl, hw⟩
      obtain rfl := hw.symm
      clear hw
      go_wp2_with fail
      generalize (wr.alloc (.cells (madeCells #[.int .u8 0] 4001) 5)) = W6 at *
      refine (new_bad _ 4001 4001 k W6 (by omega)).mono ?_
      rintro e w' ⟨rfl, hw⟩
      obtain rfl := hw.symm
      clear hw
      go_wp2_with fail
      go_ret
      exact ⟨rfl, B6.out⟩

theorem u8_wf {x : Int} (h : (Lit.int .u8 x).wf = true) : 0 ≤ x ∧ x ≤ 255 := by
  simpa [Lit.wf, IntKind.min, IntKind.max, IntKind.signed, IntKind.bits] using h

theorem pageWhole_row (W : World) (a : Option Addr) (n c : Nat) (f : Nat → Int) (s : Sl W a n (fun i => .int .u8 (f i))) (_o : ∀ i, (Lit.int .u8 (f i)).wf = true) (_e : a = none → n = 0 ∧ c = 0) (x : Int) (wx : (Lit.int .u8 x).wf = true) :
    Calls Try.prog 4 #[.slice a n c, .int .u8 x] W fun e w' => e = .returned (.bool true) ∧ Below W.heap.size W w' := by
  by_cases h : n ≤ 400
  · exact whole_any a n c f x W h (u8_wf wx).1 (u8_wf wx).2 s
  · exact whole_long a n c x W (by omega)
end Go.Proofs.Ytjlnmkoggobbgaa
