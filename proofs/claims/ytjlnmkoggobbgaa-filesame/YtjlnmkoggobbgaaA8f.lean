/- The walk of FileSame. -/
import Derived.Test.YtjlnmkoggobbgaaH5
namespace Go.Proofs.Ytjlnmkoggobbgaa
open Go.RowKit

set_option maxHeartbeats 1000000 in
set_option maxRecDepth 20000 in
theorem same_out (a : Option Addr) (n c : Nat) (s o m r : Int) (u : Option Addr) (k kc : Nat) (w : World) (hn : n = 0 ∨ 300 < n ∨ 20 < k) :
    Calls Try.prog 8 #[.slice a n c, .int .u8 s, .int .u8 o, .int .u8 m, .int .u8 r, .slice u k kc] w fun e w' => e = .returned (.bool true) ∧ Below w.heap.size w w' := by
  by_cases h0 : n = 0
  · subst h0
    go_enter Try.func8, Try.ntmps8
    go_wp2_with fail
    refine (begun5 w).mono ?_
    rintro e W ⟨rfl, B⟩
    have B' : Hid _ := B
    clear B hn
    go_wp2_with fail
    go_ret
    exact ⟨rfl, B'.out⟩
  · have hz0 : ((n : Int) == 0) = false := by rw [beq_eq_false_iff_ne]; omega
    by_cases h1 : 300 < n
    · have hz : (300 : Int) < n := by omega
      clear hn
      go_enter Try.func8, Try.ntmps8
      go_wp2_with fail
      refine (begun5 w).mono ?_
      rintro e W ⟨rfl, B⟩
      have B' : Hid _ := B
      clear B
      go_wp2_with fail
      go_ret
      exact ⟨rfl, B'.out⟩
    · have hz : (n : Int) ≤ 300 := by omega
      have hz2 : (20 : Int) < k := by omega
      clear hn
      go_enter Try.func8, Try.ntmps8
      go_wp2_with fail
      refine (begun5 w).mono ?_
      rintro e W ⟨rfl, B⟩
      have B' : Hid _ := B
      clear B
      go_wp2_with fail
      go_ret
      exact ⟨rfl, B'.out⟩

set_option maxRecDepth 100000 in
set_option maxHeartbeats 8000000 in
theorem same_walk (a : Option Addr) (n c : Nat) (f : Nat → Int) (s o m r : Int) (u : Option Addr) (k kc : Nat) (g : Nat → Int) (w : World) (hn0 : ¬ n = 0) (hn : n ≤ 300) (hk : k ≤ 20) (hs0 : 0 ≤ s) (hs1 : s ≤ 255) (ho0 : 0 ≤ o) (ho1 : o ≤ 255) (hm0 : 0 ≤ m) (hm1 : m ≤ 255) (hr0 : 0 ≤ r) (hr1 : r ≤ 255) (hl : Hid (Sl w a n (By f))) (hg : Hid (Sl w u k (fun i => .int .u16 (g i)))) (hgw : Hid (∀ i, 0 ≤ g i ∧ g i ≤ 65535)) :
    Calls Try.prog 8 #[.slice a n c, .int .u8 s, .int .u8 o, .int .u8 m, .int .u8 r, .slice u k kc] w fun e w' => e = .returned (.bool true) ∧ Below w.heap.size w w' := by
  have hz : (n : Int) ≤ 300 := by omega
  have hkz : (k : Int) ≤ 20 := by omega
  have hnz0 : ((n : Int) == 0) = false := by rw [beq_eq_false_iff_ne]; omega
  obtain ⟨k1, hk1⟩ : ∃ k1 : Nat, (1 : Int) + s % 30 = k1 := ⟨(1 + s % 30).toNat, by omega⟩
  obtain ⟨k2, hk2⟩ : ∃ k2 : Nat, (1 : Int) + o % 30 = k2 := ⟨(1 + o % 30).toNat, by omega⟩
  have q1 : 1 ≤ k1 ∧ k1 ≤ 30 := by omega
  have q2 : 1 ≤ k2 ∧ k2 ≤ 30 := by omega
  obtain ⟨ma, hma⟩ : ∃ ma : Int, m % 5 = ma := ⟨_, rfl⟩
  obtain ⟨mb, hmb⟩ : ∃ mb : Int, r % 5 = mb := ⟨_, rfl⟩
  have hma0 : 0 ≤ ma ∧ ma ≤ 4 := by omega
  have hmb0 : 0 ≤ mb ∧ mb ≤ 4 := by omega
  have HMA : Hid _ := hma
  go_enter Try.func8, Try.ntmps8
  go_wp2_with fail
  refine (begun5 w).mono ?_
  rintro e W ⟨rfl, B⟩
  have B0 : Hid (Below w.heap.size w W) := B
  clear B
  go_wp2_with fail
  refine (new_ok a n c k1 f W (by omega) (by omega) (by omega) (hl.out.below B0.out)).mono ?_
  rintro e W1 ⟨da, rfl, hda, P1, B1⟩
  have B2 : Hid (Below w.heap.size w W1) := B0.out.trans (B1.out.mono B0.out.size)
  go_wp2_with fail
  refine (new_ok a n c k2 f W1 (by omega) (by omega) (by omega) (hl.out.below B2.out)).mono ?_
  rintro e W2 ⟨db, rfl, hdb, P2, B3⟩
  have s1 : Hid _ := B0.out.size
  have s2 : Hid _ := B2.out.size
  have s3 : Hid _ := B3.out.size
  have P1b : Hid (Pg W2 da none 0 (fun _ => false) 0 (fun _ => 0)) := P1.out.mv ((Mv.of_below B3.out).mono (T := fun _ => False) (fun j h1 h2 => by omega)) (fun j hj => hj.elim)
  go_wp2_with fail
  refine (fnew_of (Y := fun j => j < w.heap.size ∨ (db.base ≤ j ∧ j < db.top)) P1b.out (fun j hj => by have h1 := hda.out; have h2 := hdb.out; have := s1.out; have := s2.out; have := s3.out; omega)).mono ?_
  rintro e W3 ⟨rfl, FA⟩
  generalize W2.heap.size + 1 = qa at *
  have P2b : Hid (Pg W3 db none 0 (fun _ => false) 0 (fun _ => 0)) := P2.out.mv ((Mv.of_below FA.out.2).mono (T := fun _ => False) (fun j h1 h2 => by omega)) (fun j hj => hj.elim)
  go_wp2_with fail
  refine (fnew_of (Y := fun j => j < W3.heap.size ∧ (j < db.base ∨ db.top ≤ j)) P2b.out (fun j hj => hj)).mono ?_
  rintro e W4 ⟨rfl, FB⟩
  generalize W3.heap.size + 1 = qb at *
  have PR : Hid _ := Pair.start B2.out hda.out.2.1 hdb.out.1 B3.out FA.out.2 FB.out.2 FA.out.1 FB.out.1
  have DN1 : Hid (da.n = n) := hda.out.2.2.1
  have DN2 : Hid (db.n = n) := hdb.out.2.2.1
  have DF1 : Hid (da.f = f) := hda.out.2.2.2.2
  have DF2 : Hid (db.f = f) := hdb.out.2.2.2.2
  clear hda hdb P1 P2 P1b P2b FA FB B1 B2 B3 s1 s2 s3 B0
  go_wp2_with fail
  go_loopw [19] (fun vi wr => ∃ (i : Nat), vi = .int .i64 i ∧ i ≤ k ∧ Hid (∃ la Ra lb Rb Ya Yb, Pair w wr qa da ma qb db mb la Ra lb Rb Ya Yb ∧ Ra.length ≤ 301 * i ∧ Rb.length ≤ 301 * i)) (fun vi _ => k - (intOf vi).toNat)
  case atStart => exact ⟨0, rfl, Nat.zero_le _, _, _, _, _, _, _, PR.out, Nat.le_refl _, Nat.le_refl _⟩
  case round =>
    obtain ⟨i, rfl, hi, H⟩ := hrel
    obtain ⟨la, Ra, lb, Rb, Ya, Yb, PP, ra, rb⟩ := H.out
    by_cases hlt : i < k
    · have hltz : (i : Int) < k := by omega
      obtain ⟨b1, o1, rfl, _, hc1⟩ := (hg.out.below PP.bel) i hlt
      have hc : wr.cell? ⟨b1, o1 + i, none⟩ = some (.int .u16 (g i)) := hc1
      obtain ⟨x, hx⟩ : ∃ x, x = g i := ⟨_, rfl⟩
      rw [← hx] at hc
      have hxb : 0 ≤ x ∧ x ≤ 65535 := by rw [hx]; exact hgw.out i
      have hPP : Hid _ := PP
      have HRA : Hid _ := ra
      have HRB : Hid _ := rb
      have HX : Hid _ := hx
      clear hc1 hx PP ra rb H
      obtain ⟨fr, hfr⟩ : ∃ fr : Nat, x % (n : Int) = fr := ⟨(x % n).toNat, by have := Int.emod_nonneg x (show (n : Int) ≠ 0 by omega); omega⟩
      have hfn : fr < n := by have := Int.emod_lt_of_pos x (show (0 : Int) < n by omega); omega
      by_cases hmin : (fr : Int) + x / 256 ≤ n
      · skip
        obtain ⟨to, hto⟩ : ∃ to : Nat, (fr : Int) + x / 256 = to := ⟨(fr + x / 256).toNat, by omega⟩
        have htn : (to : Int) ≤ n := by omega
        have HTT : Hid (to ≤ n ∧ fr ≤ to) := by show _ ∧ _; omega
        have T1 := bytes_few hPP.out.A fr to (by have := HTT.out; omega) (by rw [DN1.out]; exact HTT.out.1) (by have := HRA.out; omega)
        go_wp2_with fail
        refine T1.mono ?_
        rintro e W5 ⟨xa, xc, rfl, G5⟩
        clear T1
        obtain ⟨la5, Ra5, r5, T5⟩ := G5.out
        have P5 : Hid _ := hPP.out.goA (T5.1.mono (fun j hj => .inl hj)) T5.2.2
        have X5 : Hid (Own W5 wr.heap.size 5 (.slice xa (to - fr) xc) (to - fr) (By fun j => da.f (fr + j))) := T5.2.1
        have R5 : Hid _ := r5
        clear T5 G5 r5
        have T1 := bytes_few P5.out.B fr to (by have := HTT.out; omega) (by rw [DN2.out]; exact HTT.out.1) (by have := HRB.out; omega)
        go_wp2_with fail
        refine T1.mono ?_
        rintro e W6 ⟨ya, yc, rfl, G6⟩
        clear T1
        obtain ⟨lb6, Rb6, r6, T6⟩ := G6.out
        have P6 : Hid _ := P5.out.goB (T6.1.mono (fun j hj => .inl hj)) T6.2.2
        have X6 := keepB X5 T6.2.2 (fun j hj => .inr (X5.out.blk j (by rw [own_blk]; exact hj)))
        have hv1 := conv_any xa (to - fr) xc (fun j => f (fr + j)) W6 ((own_sl' X6.out).1.congr (fun j _ => by unfold By; rw [DF1.out]))
        have hv2 := conv_any ya (to - fr) yc (fun j => f (fr + j)) W6 ((own_sl' T6.2.1).1.congr (fun j _ => by unfold By; rw [DF2.out]))
        have R6 : Hid _ := r6
        clear T6 G6 r6 X6 X5
        generalize txt (fun j => f (fr + j)) (to - fr) = t at hv1 hv2
        have KL : Hid ((la5.length : Int) ≤ max ma 1) := P6.out.A.nodup.2.2.1
        have KP := kept_len P6.out.A
        go_wp2_with fail
        refine KP.mono ?_
        rintro e W7 ⟨rfl, B7⟩
        clear KP hv1 hv2
        have P7 : Hid _ := P6.out.past B7.out
        have hc7 : W7.cell? ⟨b1, o1 + i, none⟩ = some (.int .u16 x) := by
          obtain ⟨b2, o2, e, _, hc2⟩ := (hg.out.below P7.out.bel) i hlt
          cases e
          rw [hc2, HX.out]
        clear hc
        have EV := evict_any P7.out.B
        have RR : Hid (Ra5.length ≤ 301 * (i + 1) ∧ Rb6.length ≤ 301 * (i + 1)) := by
          have h1 := R5.out
          have h2 := R6.out
          have h3 := HRA.out
          have h4 := HRB.out
          have h5 := HTT.out
          show _ ∧ _
          omega
        by_cases hm1 : ma < 1
        · have hkl : (la5.length : Int) ≤ 1 := by have := KL.out; omega
          by_cases h3 : x % 3 = 0
          · have h3b : (x % 3 == 0) = true := by rw [beq_iff_eq]; exact h3
            clear h3
            go_wp2_with fail
            refine EV.mono ?_
            rintro e W8 ⟨rfl, G8⟩
            clear EV
            have P8 : Hid _ := P7.out.goB G8.out.1 G8.out.2
            go_wp2_with fail
            exact ⟨⟨i + 1, by go_num, by omega, _, _, _, _, _, _, P8.out, RR.out.1, RR.out.2⟩, by simp [intOf]; omega⟩
          · have h3b : (x % 3 == 0) = false := by rw [beq_eq_false_iff_ne]; exact h3
            clear EV h3
            go_wp2_with fail
            exact ⟨⟨i + 1, by go_num, by omega, _, _, _, _, _, _, P7.out, RR.out.1, RR.out.2⟩, by simp [intOf]; omega⟩
        · have hkl : (la5.length : Int) ≤ ma := by have := KL.out; omega
          have hm1' : 1 ≤ ma := by omega
          by_cases h3 : x % 3 = 0
          · have h3b : (x % 3 == 0) = true := by rw [beq_iff_eq]; exact h3
            clear h3
            go_wp2_with fail
            refine EV.mono ?_
            rintro e W8 ⟨rfl, G8⟩
            clear EV
            have P8 : Hid _ := P7.out.goB G8.out.1 G8.out.2
            go_wp2_with fail
            exact ⟨⟨i + 1, by go_num, by omega, _, _, _, _, _, _, P8.out, RR.out.1, RR.out.2⟩, by simp [intOf]; omega⟩
          · have h3b : (x % 3 == 0) = false := by rw [beq_eq_false_iff_ne]; exact h3
            clear EV h3
            go_wp2_with fail
            exact ⟨⟨i + 1, by go_num, by omega, _, _, _, _, _, _, P7.out, RR.out.1, RR.out.2⟩, by simp [intOf]; omega⟩
      · skip
        have htn : (n : Int) < (fr : Int) + x / 256 := by omega
        have HTT : Hid (n ≤ n ∧ fr ≤ n) := by show _ ∧ _; omega
        have T1 := bytes_few hPP.out.A fr n (by have := HTT.out; omega) (by rw [DN1.out]; exact HTT.out.1) (by have := HRA.out; omega)
        go_wp2_with fail
        refine T1.mono ?_
        rintro e W5 ⟨xa, xc, rfl, G5⟩
        clear T1
        obtain ⟨la5, Ra5, r5, T5⟩ := G5.out
        have P5 : Hid _ := hPP.out.goA (T5.1.mono (fun j hj => .inl hj)) T5.2.2
        have X5 : Hid (Own W5 wr.heap.size 5 (.slice xa (n - fr) xc) (n - fr) (By fun j => da.f (fr + j))) := T5.2.1
        have R5 : Hid _ := r5
        clear T5 G5 r5
        have T1 := bytes_few P5.out.B fr n (by have := HTT.out; omega) (by rw [DN2.out]; exact HTT.out.1) (by have := HRB.out; omega)
        go_wp2_with fail
        refine T1.mono ?_
        rintro e W6 ⟨ya, yc, rfl, G6⟩
        clear T1
        obtain ⟨lb6, Rb6, r6, T6⟩ := G6.out
        have P6 : Hid _ := P5.out.goB (T6.1.mono (fun j hj => .inl hj)) T6.2.2
        have X6 := keepB X5 T6.2.2 (fun j hj => .inr (X5.out.blk j (by rw [own_blk]; exact hj)))
        have hv1 := conv_any xa (n - fr) xc (fun j => f (fr + j)) W6 ((own_sl' X6.out).1.congr (fun j _ => by unfold By; rw [DF1.out]))
        have hv2 := conv_any ya (n - fr) yc (fun j => f (fr + j)) W6 ((own_sl' T6.2.1).1.congr (fun j _ => by unfold By; rw [DF2.out]))
        have R6 : Hid _ := r6
        clear T6 G6 r6 X6 X5
        generalize txt (fun j => f (fr + j)) (n - fr) = t at hv1 hv2
        have KL : Hid ((la5.length : Int) ≤ max ma 1) := P6.out.A.nodup.2.2.1
        have KP := kept_len P6.out.A
        go_wp2_with fail
        refine KP.mono ?_
        rintro e W7 ⟨rfl, B7⟩
        clear KP hv1 hv2
        have P7 : Hid _ := P6.out.past B7.out
        have hc7 : W7.cell? ⟨b1, o1 + i, none⟩ = some (.int .u16 x) := by
          obtain ⟨b2, o2, e, _, hc2⟩ := (hg.out.below P7.out.bel) i hlt
          cases e
          rw [hc2, HX.out]
        clear hc
        have EV := evict_any P7.out.B
        have RR : Hid (Ra5.length ≤ 301 * (i + 1) ∧ Rb6.length ≤ 301 * (i + 1)) := by
          have h1 := R5.out
          have h2 := R6.out
          have h3 := HRA.out
          have h4 := HRB.out
          have h5 := HTT.out
          show _ ∧ _
          omega
        by_cases hm1 : ma < 1
        · have hkl : (la5.length : Int) ≤ 1 := by have := KL.out; omega
          by_cases h3 : x % 3 = 0
          · have h3b : (x % 3 == 0) = true := by rw [beq_iff_eq]; exact h3
            clear h3
            go_wp2_with fail
            refine EV.mono ?_
            rintro e W8 ⟨rfl, G8⟩
            clear EV
            have P8 : Hid _ := P7.out.goB G8.out.1 G8.out.2
            go_wp2_with fail
            exact ⟨⟨i + 1, by go_num, by omega, _, _, _, _, _, _, P8.out, RR.out.1, RR.out.2⟩, by simp [intOf]; omega⟩
          · have h3b : (x % 3 == 0) = false := by rw [beq_eq_false_iff_ne]; exact h3
            clear EV h3
            go_wp2_with fail
            exact ⟨⟨i + 1, by go_num, by omega, _, _, _, _, _, _, P7.out, RR.out.1, RR.out.2⟩, by simp [intOf]; omega⟩
        · have hkl : (la5.length : Int) ≤ ma := by have := KL.out; omega
          have hm1' : 1 ≤ ma := by omega
          by_cases h3 : x % 3 = 0
          · have h3b : (x % 3 == 0) = true := by rw [beq_iff_eq]; exact h3
            clear h3
            go_wp2_with fail
            refine EV.mono ?_
            rintro e W8 ⟨rfl, G8⟩
            clear EV
            have P8 : Hid _ := P7.out.goB G8.out.1 G8.out.2
            go_wp2_with fail
            exact ⟨⟨i + 1, by go_num, by omega, _, _, _, _, _, _, P8.out, RR.out.1, RR.out.2⟩, by simp [intOf]; omega⟩
          · have h3b : (x % 3 == 0) = false := by rw [beq_eq_false_iff_ne]; exact h3
            clear EV h3
            go_wp2_with fail
            exact ⟨⟨i + 1, by go_num, by omega, _, _, _, _, _, _, P7.out, RR.out.1, RR.out.2⟩, by simp [intOf]; omega⟩
    · obtain rfl : i = k := by omega
      have BB : Hid (Below w.heap.size w wr) := PP.bel
      clear H PP ra rb
      go_wp2_with fail
      refine (at_nil wr).mono ?_
      rintro e V1 ⟨rfl, b1⟩
      have C1 : Hid (Below w.heap.size w V1) := BB.out.trans (b1.mono BB.out.size)
      clear b1
      go_wp2_with fail
      refine (bytes_nil 0 0 V1).mono ?_
      rintro e V2 ⟨rfl, b2⟩
      have C2 : Hid (Below w.heap.size w V2) := C1.out.trans (b2.mono C1.out.size)
      clear b2
      go_wp2_with fail
      refine (evict_nil V2).mono ?_
      rintro e w' ⟨rfl, hw⟩
      obtain rfl := hw.symm
      clear hw
      go_wp2_with fail
      refine (fnew_nil 3 V2).mono ?_
      rintro e V3 ⟨z, rfl, hzc, b3⟩
      have C3 : Hid (Below w.heap.size w V3) := C2.out.trans (b3.out.mono C2.out.size)
      clear b3
      have hzl : z < V3.heap.size := World.block_lt_of_cell? _ _ hzc
      go_wp2_with fail
      refine (bytes_nop V3 hzc).mono ?_
      rintro e V4 ⟨rfl, b4⟩
      have C4 : Hid (Below w.heap.size w V4) := C3.out.trans (b4.mono C3.out.size)
      have hzc4 : V4.cell? ⟨z, 0, none⟩ = some (.pointer none) := (b4.cell (p := ⟨z, 0, none⟩) hzl).trans hzc
      clear b4 hzc hzl
      go_wp2_with fail
      refine (flen_nil V4).mono ?_
      rintro e w' ⟨rfl, hw⟩
      obtain rfl := hw.symm
      clear hw
      go_wp2_with fail
      refine (kept_nil V4).mono ?_
      rintro e w' ⟨rfl, hw⟩
      obtain rfl := hw.symm
      clear hw
      go_wp2_with fail
      refine (flen_nop z V4 hzc4).mono ?_
      rintro e w' ⟨rfl, hw⟩
      obtain rfl := hw.symm
      clear hw
      go_wp2_with fail
      go_ret
      exact ⟨rfl, C4.out⟩

theorem fileSame_row (W : World) (a : Option Addr) (n c : Nat) (f : Nat → Int) (s : Sl W a n (fun i => .int .u8 (f i))) (_o : ∀ i, (Lit.int .u8 (f i)).wf = true) (_e : a = none → n = 0 ∧ c = 0) (x0 : Int) (w0 : (Lit.int .u8 x0).wf = true) (x1 : Int) (w1 : (Lit.int .u8 x1).wf = true) (x2 : Int) (w2 : (Lit.int .u8 x2).wf = true) (x3 : Int) (w3 : (Lit.int .u8 x3).wf = true)
    (u : Option Addr) (k kc : Nat) (g : Nat → Int) (sg : Sl W u k (fun i => .int .u16 (g i))) (og : ∀ i, (Lit.int .u16 (g i)).wf = true) (_eg : u = none → k = 0 ∧ kc = 0) :
    Calls Try.prog 8 #[.slice a n c, .int .u8 x0, .int .u8 x1, .int .u8 x2, .int .u8 x3, .slice u k kc] W fun e w' => e = .returned (.bool true) ∧ Below W.heap.size W w' := by
  by_cases h : n = 0 ∨ 300 < n ∨ 20 < k
  · exact same_out a n c x0 x1 x2 x3 u k kc W h
  · exact same_walk a n c f x0 x1 x2 x3 u k kc g W (by omega) (by omega) (by omega) (b8 w0).1 (b8 w0).2 (b8 w1).1 (b8 w1).2 (b8 w2).1 (b8 w2).2 (b8 w3).1 (b8 w3).2 s sg (fun i => b16 (og i))
end Go.Proofs.Ytjlnmkoggobbgaa
