/- DocAdded. -/
import Derived.Test.YtdhdkbaalgdicaaLB1
namespace Go.Proofs.Ytdhdkbaalgdicaa
open Go.RowKit
set_option linter.unusedVariables false

set_option maxHeartbeats 2000000 in
set_option maxRecDepth 20000 in
theorem added_out (a0 : Option Addr) (n c0 : Nat) (a1 : Option Addr) (k c1 : Nat) (x y : Int) (w : World) (h : n = 0 ∨ 100 < n ∨ k = 0 ∨ 30 < k) :
    Calls Try.prog 6 #[.slice a0 n c0, .slice a1 k c1, .int .u8 x, .int .u8 y] w fun e w' => e = .returned (.bool true) ∧ Below w.heap.size w w' := by
  by_cases h1 : n = 0
  · have z1 : ((n : Int) == 0) = true := by rw [beq_iff_eq]; omega
    clear h h1
    go_enter Try.func6, Try.ntmps6
    go_wp2_with fail
    refine (begun7 w).mono ?_
    rintro e w1 ⟨rfl, B⟩
    go_wp2_with fail
    go_ret
    exact ⟨rfl, B.out⟩
  · have z1 : ((n : Int) == 0) = false := by rw [beq_eq_false_iff_ne]; omega
    by_cases h2 : 100 < n
    · have z2 : (100 : Int) < n := by omega
      clear h h1 h2
      go_enter Try.func6, Try.ntmps6
      go_wp2_with fail
      refine (begun7 w).mono ?_
      rintro e w1 ⟨rfl, B⟩
      go_wp2_with fail
      go_ret
      exact ⟨rfl, B.out⟩
    · have z2 : (n : Int) ≤ 100 := by omega
      by_cases h3 : k = 0
      · have z3 : ((k : Int) == 0) = true := by rw [beq_iff_eq]; omega
        clear h h1 h2 h3
        go_enter Try.func6, Try.ntmps6
        go_wp2_with fail
        refine (begun7 w).mono ?_
        rintro e w1 ⟨rfl, B⟩
        go_wp2_with fail
        go_ret
        exact ⟨rfl, B.out⟩
      · have z3 : ((k : Int) == 0) = false := by rw [beq_eq_false_iff_ne]; omega
        have z4 : (30 : Int) < k := by omega
        clear h h1 h2 h3
        go_enter Try.func6, Try.ntmps6
        go_wp2_with fail
        refine (begun7 w).mono ?_
        rintro e w1 ⟨rfl, B⟩
        go_wp2_with fail
        go_ret
        exact ⟨rfl, B.out⟩

set_option maxHeartbeats 8000000 in
set_option maxRecDepth 20000 in
theorem added_walk (w : World) (a0 : Option Addr) (n c0 : Nat) (f0 : Nat → Int) (s0 : Hid (Sl w a0 n (By f0))) (a1 : Option Addr) (k c1 : Nat) (f1 : Nat → Int) (s1 : Hid (Sl w a1 k (By f1))) (e1 : Hid (a1 = none → k = 0 ∧ c1 = 0)) (x y : Int) (hx0 : 0 ≤ x) (hx1 : x ≤ 255) (hy0 : 0 ≤ y) (hy1 : y ≤ 255) (hn0 : 0 < n) (hn : n ≤ 100) (hk0 : 0 < k) (hk : k ≤ 30) :
    Calls Try.prog 6 #[.slice a0 n c0, .slice a1 k c1, .int .u8 x, .int .u8 y] w fun e w' => e = .returned (.bool true) ∧ Below w.heap.size w w' := by
  have z1 : ((n : Int) == 0) = false := by rw [beq_eq_false_iff_ne]; omega
  have z2 : (n : Int) ≤ 100 := by omega
  have z3 : ((k : Int) == 0) = false := by rw [beq_eq_false_iff_ne]; omega
  have z4 : (k : Int) ≤ 30 := by omega
  obtain ⟨sz, hsz⟩ : ∃ sz : Nat, (1 : Int) + y % 20 = sz := ⟨(1 + y % 20).toNat, by omega⟩
  have hsz0 : 0 < sz := by omega
  have hsz1 : sz ≤ 20 := by omega
  obtain ⟨t, ht⟩ : ∃ t : Nat, x % ((n : Int) + 1) = t := ⟨(x % ((n : Int) + 1)).toNat, by have := Int.emod_nonneg x (show ((n : Int) + 1) ≠ 0 by omega); omega⟩
  have htn : t ≤ n := by have := Int.emod_lt_of_pos x (show (0 : Int) < (n : Int) + 1 by omega); omega
  obtain ⟨b1, o1, hab1, hb1, hc1⟩ := s1.out 0 hk0
  subst hab1
  go_enter Try.func6, Try.ntmps6
  go_wp2_with fail
  refine (begun7 w).mono ?_
  rintro e w1 ⟨rfl, B0⟩
  have S0 : Hid (Sl w1 a0 n (By f0)) := s0.out.below B0.out
  go_wp2_with fail
  refine (new_ok a0 n c0 sz f0 w1 (by omega) hsz0 (by omega) S0).mono ?_
  rintro e W1 ⟨d, rfl, hd, P1, B1⟩
  have B2 : Hid (Below w.heap.size w W1) := B0.out.trans (B1.out.mono B0.out.size)
  have D0 : Hid (w.heap.size ≤ d.base) := by show _ ≤ _; rw [hd.out.1]; exact B0.out.size
  have DN : Hid (d.n = n) := hd.out.2.2.1
  have DT : Hid (d.top = W1.heap.size) := hd.out.2.1
  clear B1 B0 S0 s0 hd
  go_wp2_with fail
  refine (new_any n (by omega) W1).mono ?_
  rintro e w2 ⟨q, rfl, hq, T2⟩
  have PR : Hid (Pre w w2 d q (sp1 ⟨false, 0, n⟩) 0 (fun _ => 0)) := Pre.new P1.out B2.out D0.out DT.out (by rw [DN.out]; exact T2.out.1) T2.out.2
  clear T2 P1 B2 D0 DT hq
  have LF : Hid ((sp1 ⟨false, 0, n⟩).length = n) := by show _ = _; rw [sp1_length]; show n - 0 = n; omega
  have S1 : Hid (Sl w2 (some ⟨b1, o1, none⟩) k (By f1)) := s1.out.below PR.out.B
  have ED := edit_ok (h := (PR.out.T : Hid _)) t t (some ⟨b1, o1, none⟩) k c1 f1 (Nat.le_refl _) (by rw [LF.out]; exact htn) (by omega) S1 e1 (by omega) (by rw [LF.out]; omega)
  go_wp2_with fail
  refine ED.mono ?_
  rintro e w3 ⟨rfl, T3⟩
  have PR3 : Hid (Pre w w3 d q (ins (sp1 ⟨false, 0, n⟩) t t 0 k) (0 + k) (catI (fun _ => 0) 0 f1)) := PR.out.edit T3.out.1 T3.out.2
  clear T3 PR ED S1 LF
  have LL : Hid ((ins (sp1 ⟨false, 0, n⟩) t t 0 k).length = n + k) := put_length n t k htn
  have LM : Hid (((ins (sp1 ⟨false, 0, n⟩) t t 0 k).take (t + k)).drop t = sp1 ⟨true, 0, k⟩) := put_mid n t k htn
  have LA' : Hid ((ins (sp1 ⟨false, 0, n⟩) t t 0 k)[t]? = some (true, 0)) := put_at n t k htn hk0
  have LH : Hid (∀ x, x < n → (false, x) ∈ ins (sp1 ⟨false, 0, n⟩) t t 0 k) := fun x hx => put_has n t k x hx
  generalize ins (sp1 ⟨false, 0, n⟩) t t 0 k = L at *
  have HA : Hid (bt d.f (catI (fun _ => 0) 0 f1) (true, 0) = f1 0) := rfl
  have HS : Hid ((sp1 ⟨true, 0, k⟩).map (bt d.f (catI (fun _ => 0) 0 f1)) = (List.range k).map f1) := put_spell d.f _ f1 k
  generalize catI (fun _ => 0) 0 f1 = A at *
  have FC := PR3.out.file 5
  go_wp2_with fail
  refine FC.mono ?_
  rintro e w4 ⟨fq, rfl, D4⟩
  clear FC PR3
  go_wp2_with fail
  refine (dnew_any _ _ w4).mono ?_
  rintro e w5 ⟨rfl, hw⟩
  obtain ⟨dp, hdp⟩ : ∃ dp, dp = w4.heap.size := ⟨_, rfl⟩
  rw [← hdp, ← hw] at D4
  rw [← hdp]
  clear hw hdp
  have FA : Hid _ := (Dd.facts D4.out)
  obtain ⟨M, hM⟩ : ∃ M, M = d.m := ⟨_, rfl⟩
  have HM : Hid (M = d.m) := hM
  have MB : M ≤ 5000 := by have := FA.out; omega
  clear hM
  go_wp2_with fail
  go_loopw [14, 15] (fun va vi wr => ∃ (i : Nat) (a : Option Addr) (c : Nat), i ≤ M ∧ va = .slice a i c ∧ vi = .int .i64 i ∧ Hid (Dd w wr dp fq q d 5 [] (fun _ => false) [] L (0 + k) A (fun j => bk a = some j)) ∧ Hid (Own wr w5.heap.size 3 (.slice a i c) i (In fun i => (i : Int)) ∧ w5.heap.size ≤ wr.heap.size)) (fun _ vi _ => M - (intOf vi).toNat)
  case atStart => exact ⟨0, none, 0, by omega, rfl, rfl, Dd.monoK D4.out (fun j e => by cases e), own_nil _ _ _ _, Nat.le_refl _⟩
  case round =>
    obtain ⟨i, a, c, hi, rfl, rfl, D, O⟩ := hrel
    have CN := D.out.count
    rw [← HM.out] at CN
    go_wp2_with fail
    refine CN.mono ?_
    rintro e wc ⟨rfl, hw⟩
    subst hw
    clear CN
    by_cases hlt : i < M
    · have hltz : (i : Int) < (M : Int) := by omega
      have hs5 := (Dd.B D4.out).size
      obtain ⟨a', c', W, hr, O', M', f', B'⟩ := more wc w5.heap.size a i c (fun i => (i : Int)) O.out.1 (by omega) i rfl O.out.2 wc.heap.size rfl
      have FIN : Hid (Dd w W dp fq q d 5 [] (fun _ => false) [] L (0 + k) A (fun j => bk a' = some j)) := by
        refine D.out.turn M' (fun j hj => ?_) _ (fun j hj => ?_)
        · have := (O.out.1.blk j (by rw [own_blk]; exact hj)).1; omega
        · rcases f' with f' | ⟨g, g1, g2⟩
          · exact .inl (f' ▸ hj)
          · have e : g = j := by rw [g1] at hj; exact Option.some.inj hj
            have := (O'.blk j (by rw [own_blk]; exact hj)).2
            exact .inr ⟨by omega, this⟩
      have OF : Hid (Own W w5.heap.size 3 (.slice a' (i + 1) c') (i + 1) (In fun i => (i : Int)) ∧ w5.heap.size ≤ W.heap.size) := ⟨O', Nat.le_trans O.out.2 B'.size⟩
      clear O' M' f' B' O D hs5
      go_wp2_with (at_builtin; first | (refine wpList_append_given rfl _ _ 24 rfl _ _ _ W rfl rfl hr ?_))
      exact ⟨⟨i + 1, a', c', by omega, by go_num, by go_num, FIN, OF⟩, by simp [intOf]; omega⟩
    · obtain rfl : i = M := by omega
      obtain ⟨a2, c2, e2, sl2, _⟩ := O.out.1.sl
      cases e2
      have FT := D.out.fault a i c (fun i => (i : Int)) (by omega) sl2 (fun p hp => by
        have := (O.out.1.blk p.block (by rw [own_blk, hp]; rfl)).1
        have := FA.out.2.2.2.2
        omega)
      clear sl2 O D
      go_wp2_with fail
      refine FT.mono ?_
      rintro e w6 ⟨rfl, D6⟩
      clear FT
      have BD : Hid (∀ j, among (fun i => (i : Int)) i j = decide (j < i)) := fun j => among_all i j
      generalize among (fun i => (i : Int)) i = bad at *
      have BY := Dd.bytes D6 t (t + k) (by omega) (by rw [LL.out]; omega) (by simp; omega) (by rw [LM.out]; intro z hz; have := (sp1_mem.1 hz).1; cases this)
      rw [LM.out, show t + k - t = k by omega, show ((t + k : Nat) : Int) = (t : Int) + k by omega] at BY
      go_wp2_with fail
      refine BY.mono ?_
      rintro e w7 ⟨xa, xc, rfl, T7⟩
      clear BY D6
      obtain ⟨l7, R7, D70, O70, _, rd7⟩ := T7.out
      obtain rfl := no_reads rd7 (fun z hz => by have := (sp1_mem.1 hz).1; cases this)
      have D7 : Hid _ := D70
      have O7 : Hid _ := O70
      clear D70 O70 rd7 T7
      have AT := Dd.at D7 t (true, 0) LA'.out (by simp) (by intro z hz; simp at hz)
      rw [HA.out] at AT
      go_wp2_with fail
      refine AT.mono ?_
      rintro e w8 ⟨rfl, T8⟩
      clear AT
      obtain ⟨l8, R8, D80, M8, rd8⟩ := T8.out
      obtain rfl := no_reads rd8 (fun z hz => by simp at hz)
      have D8 : Hid _ := D80
      have O8 : Hid (OB w8 w6.heap.size (.slice xa k xc) ((sp1 ⟨true, 0, k⟩).map (bt d.f A))) := M8.owns O7.out (fun j hj e => e (.inr (by rw [own_blk] at hj; exact hj)))
      clear D80 M8 rd8 T8 O7 D7
      have RE := Dd.reads D8.out (by simp)
      rw [show ([] : List Int).length = 0 from rfl] at RE
      go_wp2_with fail
      refine RE.mono ?_
      rintro e w9 ⟨rfl, H9⟩
      clear RE
      have D9 : Hid _ := Dd.qt D8.out H9.out.2
      have O9 : Hid (OB w9 w6.heap.size (.slice xa k xc) ((sp1 ⟨true, 0, k⟩).map (bt d.f A))) := H9.out.2.owns O8.out (fun _ _ h => h)
      clear H9 O8 D8
      have LN := Dd.len D9
      rw [LL.out] at LN
      go_wp2_with fail
      refine LN.mono ?_
      rintro e w10 ⟨rfl, q10⟩
      clear LN
      have D10 : Hid _ := Dd.qt D9.out q10.out
      have O10 : Hid (OB w10 w6.heap.size (.slice xa k xc) ((sp1 ⟨true, 0, k⟩).map (bt d.f A))) := q10.out.owns O9.out (fun _ _ h => h)
      clear O9 D9 q10
      have BB := Dd.bytes_bad D10 0 (n + k) (by omega) (by rw [LL.out]; exact Nat.le_refl _) (by simp; omega) (by
        intro hg
        have hz := FA.out.2.1
        have h0 := hg 0 (by rw [List.take_of_length_le (by rw [LL.out]; exact Nat.le_refl _), List.drop_zero]; exact LH.out 0 hn0)
        rw [BD.out] at h0
        have h1 : ¬ 0 / d.sz < i := of_decide_eq_false h0
        rw [Nat.zero_div] at h1
        have := (FA.out.1 0).1 (by rw [Nat.zero_mul, DN.out]; exact hn0)
        have := HM.out
        omega)
      rw [show ((0 : Nat) : Int) = 0 from rfl] at BB
      go_wp2_with fail
      refine BB.mono ?_
      rintro e w11 ⟨rfl, T11⟩
      clear BB
      obtain ⟨l11, R11, D110, M11, rd11⟩ := T11.out
      have D11 : Hid _ := D110
      have O11 : OB w11 w6.heap.size (.slice xa k xc) ((sp1 ⟨true, 0, k⟩).map (bt d.f A)) := M11.owns O10.out (fun j hj e => e (.inr (by rw [own_blk] at hj; exact hj)))
      clear D110 M11 rd11 T11 O10 D10
      have S11 := s1.out.below (Dd.B D11.out)
      have CV1 : (convert 22 9 (.slice xa k xc)).run Try.prog w11 = .ok (.string (txt f1 k)) w11 := by
        obtain ⟨a3, c3, e3, h3⟩ := conv_list _ _ _ _ O11
        rw [HS.out] at e3 h3
        rw [show ((List.range k).map f1).length = k by simp] at e3 h3
        cases e3
        exact h3
      have CV2 : (convert 22 9 (.slice (some ⟨b1, o1, none⟩) k c1)).run Try.prog w11 = .ok (.string (txt f1 k)) w11 := conv_any _ _ _ _ _ S11
      have hc11 : w11.cell? ⟨b1, o1, none⟩ = some (.int .u8 (f1 0)) := ((Dd.B D11.out).cell (p := ⟨b1, o1, none⟩) hb1).trans hc1
      have LN := Dd.len D11
      rw [LL.out, show ((n + k : Nat) : Int) = (n : Int) + k by omega] at LN
      clear S11 O11 hc1
      go_wp2_with fail
      refine LN.mono ?_
      rintro e w12 ⟨rfl, q12⟩
      clear LN CV1 CV2 hc11
      go_wp2_with fail
      go_ret
      exact ⟨by simp, (Dd.B D11.out).trans (q12.out.below _ (Dd.B D11.out).size)⟩

theorem docAdded_row (W : World) (a0 : Option Addr) (n c0 : Nat) (f0 : Nat → Int) (s0 : Sl W a0 n (fun i => .int .u8 (f0 i))) (_o0 : ∀ i, (Lit.int .u8 (f0 i)).wf = true) (_e0 : a0 = none → n = 0 ∧ c0 = 0) (a1 : Option Addr) (k c1 : Nat) (f1 : Nat → Int) (s1 : Sl W a1 k (fun i => .int .u8 (f1 i))) (_o1 : ∀ i, (Lit.int .u8 (f1 i)).wf = true) (e1 : a1 = none → k = 0 ∧ c1 = 0) (x0 : Int) (w0 : (Lit.int .u8 x0).wf = true) (x1 : Int) (w1 : (Lit.int .u8 x1).wf = true) :
    Calls Try.prog 6 #[.slice a0 n c0, .slice a1 k c1, .int .u8 x0, .int .u8 x1] W fun e w' => e = .returned (.bool true) ∧ Below W.heap.size W w' := by
  by_cases h : n = 0 ∨ 100 < n ∨ k = 0 ∨ 30 < k
  · exact added_out a0 n c0 a1 k c1 x0 x1 W h
  · have h1 := b8 w0
    have h2 := b8 w1
    exact added_walk W a0 n c0 f0 s0 a1 k c1 f1 s1 e1 x0 x1 h1.1 h1.2 h2.1 h2.2 (by omega) (by omega) (by omega) (by omega)
end Go.Proofs.Ytdhdkbaalgdicaa
