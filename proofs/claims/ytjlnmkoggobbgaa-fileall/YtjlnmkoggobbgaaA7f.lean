/- The walk of FileAll. -/
import Derived.Test.YtjlnmkoggobbgaaH7
import Derived.Deep.QuietTactic
import Derived.BigQuiet
import Derived.Deep.CutRange
import Derived.Deep.CutBlock
import Derived.Deep.RegionHeld3
namespace Go.Proofs.Ytjlnmkoggobbgaa
open Go.RowKit

set_option maxHeartbeats 1000000 in
set_option maxRecDepth 20000 in
theorem fall_out (a : Option Addr) (n c : Nat) (s mo : Int) (u : Option Addr) (k uc : Nat) (w : World) (hn : 300 < n ∨ 30 < k) :
    Calls Try.prog 7 #[.slice a n c, .int .u8 s, .int .i64 mo, .slice u k uc] w fun e w' => e = .returned (.bool true) ∧ Below w.heap.size w w' := by
  by_cases h1 : 300 < n
  · have hz : (300 : Int) < n := by omega
    clear hn
    go_enter Try.func7, Try.ntmps7
    go_wp2_with fail
    refine (begun5 w).mono ?_
    rintro e W ⟨rfl, B⟩
    have B' : Hid _ := B
    clear B
    go_wp2_with fail
    go_ret
    exact ⟨rfl, B'.out⟩
  · have hz : (n : Int) ≤ 300 := by omega
    have hz2 : (30 : Int) < k := by omega
    clear hn
    go_enter Try.func7, Try.ntmps7
    go_wp2_with fail
    refine (begun5 w).mono ?_
    rintro e W ⟨rfl, B⟩
    have B' : Hid _ := B
    clear B
    go_wp2_with fail
    go_ret
    exact ⟨rfl, B'.out⟩

set_option maxRecDepth 100000 in
set_option maxHeartbeats 64000000 in
theorem fall_walk (a : Option Addr) (n c : Nat) (hroom : n ≤ c) (f : Nat → Int) (s mo : Int) (u : Option Addr) (k uc : Nat) (K A B : Nat → Int) (w : World) (hn : n ≤ 300) (hk : k ≤ 30) (hs0 : 0 ≤ s) (hs1 : s ≤ 255) (hl : Hid (Sl w a n (By f))) (hu : Hid (So w u k K A B)) (hw : Hid (∀ i, (-9223372036854775808 ≤ K i ∧ K i ≤ 9223372036854775807) ∧ (-9223372036854775808 ≤ A i ∧ A i ≤ 9223372036854775807) ∧ (-9223372036854775808 ≤ B i ∧ B i ≤ 9223372036854775807))) :
    Calls Try.prog 7 #[.slice a n c, .int .u8 s, .int .i64 mo, .slice u k uc] w fun e w' => e = .returned (.bool true) ∧ Below w.heap.size w w' := by
  have hz : (n : Int) ≤ 300 := by omega
  have hkz : (k : Int) ≤ 30 := by omega
  have hnc : (n : Int) ≤ c := by omega
  obtain ⟨sz, hsz⟩ : ∃ sz : Nat, (1 : Int) + s % 20 = sz := ⟨(1 + s % 20).toNat, by omega⟩
  have q1 : 1 ≤ sz ∧ sz ≤ 20 := by omega
  go_enter Try.func7, Try.ntmps7
  go_wp2_with fail
  refine (begun5 w).mono ?_
  rintro e W ⟨rfl, B⟩
  have B0 : Hid (Below w.heap.size w W) := B
  clear B
  go_wp2_with fail
  refine (new_ok a n c sz f W (by omega) (by omega) (by omega) (hl.out.below B0.out)).mono ?_
  rintro e W1 ⟨d, rfl, hd, P1, B1⟩
  have B2 : Hid (Below w.heap.size w W1) := B0.out.trans (B1.out.mono B0.out.size)
  have DB : Hid (w.heap.size ≤ d.base) := by show _ ≤ _; rw [hd.out.1]; exact B0.out.size
  obtain ⟨-, dt, dn, dz, df⟩ := hd.out
  have DN : Hid (d.n = n) := dn
  have DF : Hid (d.f = f) := df
  have DZ : Hid (d.sz = sz) := dz
  have DT : Hid (d.top = W1.heap.size) := dt
  clear dn dz df dt hd B1
  go_wp2_with fail
  refine (fnew_of (mo := mo) (Y := fun j => j < w.heap.size) P1.out (fun j hj => ⟨Nat.lt_of_lt_of_le hj B2.out.size, .inl (by have := DB.out; omega)⟩)).mono ?_
  rintro e W2 ⟨rfl, F2⟩
  have B3 : Hid (Below w.heap.size w W2) := B2.out.trans (F2.out.2.mono B2.out.size)
  generalize W1.heap.size + 1 = q at *
  have S0 : Hid _ := Sa.start F2.out.1 B3.out
  obtain ⟨r, hr⟩ : ∃ r, r = W2.heap.size := ⟨_, rfl⟩
  rw [← hr] at S0
  have HR : Hid _ := hr
  clear F2 hr
  go_wp2_with fail
  rw [← HR.out]
  go_loopw [14, 15] (fun vb vi wr => ∃ (i : Nat) (bx : Int), vb = .int .i64 bx ∧ vi = .int .i64 i ∧ i ≤ k ∧ Hid (∃ l R ka kc va vc, Sa w wr q d mo r (badf bx) l R l ka kc va vc (fun _ => False))) (fun _ vi _ => k - (intOf vi).toNat)
  case atStart => exact ⟨0, -1, rfl, rfl, Nat.zero_le _, _, _, _, _, _, _, S0.out⟩
  case round =>
    obtain ⟨i, bx, rfl, rfl, hi, H⟩ := hrel
    by_cases hlt : i < k
    · obtain ⟨l, R, ka, kc, va, vc, S1⟩ := H.out
      have hltz : (i : Int) < k := by omega
      obtain ⟨b1, o1, rfl, _, c1, c2, c3⟩ := (hu.out.below S1.bel) i hlt
      obtain ⟨x, hx⟩ : ∃ x, x = K i := ⟨_, rfl⟩
      obtain ⟨y, hy⟩ : ∃ y, y = A i := ⟨_, rfl⟩
      obtain ⟨z, hz'⟩ : ∃ z, z = B i := ⟨_, rfl⟩
      have WF : Hid ((-9223372036854775808 ≤ x ∧ x ≤ 9223372036854775807) ∧ (-9223372036854775808 ≤ y ∧ y ≤ 9223372036854775807) ∧ (-9223372036854775808 ≤ z ∧ z ≤ 9223372036854775807)) := by rw [hx, hy, hz']; exact hw.out i
      rw [← hx] at c1
      rw [← hy] at c2
      rw [← hz'] at c3
      clear hx hy hz' H
      have hS : Hid _ := S1
      clear S1
      obtain ⟨ob, hob⟩ : ∃ ob, ob = wr.heap.size := ⟨_, rfl⟩
      have BA : Below wr.heap.size wr (wr.alloc (.cells #[.int .i64 x, .int .i64 y, .int .i64 z] 51)) := (Below.refl _ _).alloc (Nat.le_refl _) _
      have S2 : Hid (Sa w (wr.alloc (.cells #[.int .i64 x, .int .i64 y, .int .i64 z] 51)) q d mo r (badf bx) l R l ka kc va vc (fun j => j = ob)) := (hS.out.past BA).mono (fun j hj => .inr (by rw [hj, hob]; simp))
      obtain ⟨x1, x2, x3⟩ : (wr.alloc (.cells #[.int .i64 x, .int .i64 y, .int .i64 z] 51)).cell? ⟨ob, 0, none⟩ = some (.int .i64 x) ∧ (wr.alloc (.cells #[.int .i64 x, .int .i64 y, .int .i64 z] 51)).cell? ⟨ob, 1, none⟩ = some (.int .i64 y) ∧ (wr.alloc (.cells #[.int .i64 x, .int .i64 y, .int .i64 z] 51)).cell? ⟨ob, 2, none⟩ = some (.int .i64 z) := by
        rw [hob]
        exact ⟨(alloc_new wr _ 51 0 _ rfl).1, (alloc_new wr _ 51 1 _ rfl).1, (alloc_new wr _ 51 2 _ rfl).1⟩
      have CL := clear_fs S2.out.F
      have HOB : Hid _ := hob
      clear BA hob
      go_wp2_with fail
      refine CL.mono ?_
      rintro e W4 ⟨rfl, G4⟩
      clear CL
      rw [← HOB.out]
      have S4 : Hid (Sa w W4 q d mo r (badf bx) l [] l ka kc va vc (fun j => j = ob)) := S2.out.left G4.out
      have y1 : W4.cell? ⟨ob, 0, none⟩ = some (.int .i64 x) := G4.out.2.cell x1 (fun e => e (.inr rfl))
      have y2 : W4.cell? ⟨ob, 1, none⟩ = some (.int .i64 y) := G4.out.2.cell x2 (fun e => e (.inr rfl))
      have y3 : W4.cell? ⟨ob, 2, none⟩ = some (.int .i64 z) := G4.out.2.cell x3 (fun e => e (.inr rfl))
      clear x1 x2 x3 c1 c2 c3 G4 S2
      have RLT : Hid (r < wr.heap.size) := World.block_lt_of_cell? _ _ hS.out.rf.c0
      have OB4 : Hid (ob ≤ W4.heap.size) := by have := World.block_lt_of_cell? _ _ y1; show ob ≤ _; exact Nat.le_of_lt this
      go_upto_block 2 with fail
      go_cut [14, 17] from 56 to 251 (fun vb vr wx => ∃ (bx : Int) (xa : Option Addr) (xn xc : Nat), vb = .int .i64 bx ∧ vr = .slice xa xn xc ∧ xn ≤ 6000 ∧ Hid (∃ l R ka kc va vc, Sa w wx q d mo r (badf bx) l R l ka kc va vc (fun j => bk xa = some j) ∧ xn = R.length ∧ Sl wx xa xn (In (lof R))))
      case first =>
        obtain ⟨κ, hκ⟩ : ∃ κ, (wrap64 (x.tmod 10 + 10)).tmod 10 = κ := ⟨_, rfl⟩
        have hκ0 := kappa x
        rw [hκ] at hκ0
        rw [hκ]
        clear hκ
        by_cases h7 : κ = 7
        · subst h7
          as_aux_lemma =>
            have EV := evict_any S4.out.F
            clear y1 y2 y3
            go_wp2_with fail
            refine EV.mono ?_
            rintro e W5 ⟨rfl, G5⟩
            clear EV
            have S5 : Hid _ := S4.out.file G5.out.1 G5.out.2
            have k1 := S5.out.rf.c1
            have k2 := S5.out.rf.c2
            have z1 := S5.out.rf.z1
            have z2 := S5.out.rf.z2
            have S6 : Hid _ := S5.out.empty
            clear S5
            go_wp2_with fail
            go_meet
            exact ⟨bx, none, 0, 0, rfl, rfl, by omega, _, _, _, _, _, _, S6.out.mono (fun j hj => by cases hj), rfl, fun i hi => by omega⟩
        · by_cases h8 : κ = 8
          · subst h8
            as_aux_lemma =>
              obtain ⟨nb, hnb⟩ : ∃ nb, nb = W4.heap.size := ⟨_, rfl⟩
              have BA : Below W4.heap.size W4 (W4.alloc (.cells #[.int .i64 y] 3)) := (Below.refl _ _).alloc (Nat.le_refl _) _
              have S5 : Hid _ := S4.out.past BA
              have FT := fault_fs S5.out.F (some ⟨nb, 0, none⟩) 1 1 (fun _ => y) (by omega) (sl_one W4 y nb hnb) (fun p hp e => by
                cases hp
                have h1 := S4.out.F.blk
                have e' : nb = d.bl := e
                omega)
              have HNB : Hid _ := hnb
              clear BA hnb y1 y3
              go_wp2_with fail
              rw [← HNB.out]
              refine FT.mono ?_
              rintro e W5 ⟨rfl, G5⟩
              clear FT
              have S6 : Hid _ := S5.out.left G5.out
              rw [among_one] at S6
              go_wp2_with fail
              go_meet
              exact ⟨y, none, 0, 0, rfl, rfl, by omega, _, _, _, _, _, _, S6.out.mono (fun j hj => by cases hj), rfl, fun i hi => by omega⟩
          · by_cases h9 : κ = 9
            · subst h9
              as_aux_lemma =>
                have FT := fault_fs S4.out.F none 0 0 (fun _ => 0) (by omega) (fun i hi => by omega) (fun p hp => by cases hp)
                clear y1 y2 y3
                go_wp2_with fail
                refine FT.mono ?_
                rintro e W5 ⟨rfl, G5⟩
                clear FT
                have S6 : Hid _ := S4.out.left G5.out
                rw [among_none] at S6
                go_wp2_with fail
                go_meet
                exact ⟨-1, none, 0, 0, rfl, rfl, by omega, _, _, _, _, _, _, S6.out.mono (fun j hj => by cases hj), rfl, fun i hi => by omega⟩
            · by_cases h4 : κ = 4
              · subst h4
                as_aux_lemma =>
                  by_cases hy0 : y < 0
                  · skip
                    as_aux_lemma =>
                      have AR := at_range S4.out.F y (by rw [DN.out]; omega) (by have := WF.out; omega)
                      clear y1 y3
                      go_wp2_with fail
                      refine AR.mono ?_
                      rintro e W5 ⟨rfl, b5⟩
                      clear AR
                      have S5 : Hid _ := S4.out.past b5
                      have y25 : W5.cell? ⟨ob, 1, none⟩ = some (.int .i64 y) := (b5.cell (p := ⟨ob, 1, none⟩) (World.block_lt_of_cell? _ _ y2)).trans y2
                      clear b5 y2
                      go_wp2_with fail
                      go_meet
                      exact ⟨bx, none, 0, 0, rfl, rfl, by omega, _, _, _, _, _, _, S5.out.mono (fun j hj => by cases hj), rfl, fun i hi => by omega⟩
                  · by_cases hy1 : (n : Int) ≤ y
                    · skip
                      as_aux_lemma =>
                        have AR := at_range S4.out.F y (by rw [DN.out]; omega) (by have := WF.out; omega)
                        clear y1 y3
                        go_wp2_with fail
                        refine AR.mono ?_
                        rintro e W5 ⟨rfl, b5⟩
                        clear AR
                        have S5 : Hid _ := S4.out.past b5
                        have y25 : W5.cell? ⟨ob, 1, none⟩ = some (.int .i64 y) := (b5.cell (p := ⟨ob, 1, none⟩) (World.block_lt_of_cell? _ _ y2)).trans y2
                        clear b5 y2
                        go_wp2_with fail
                        go_meet
                        exact ⟨bx, none, 0, 0, rfl, rfl, by omega, _, _, _, _, _, _, S5.out.mono (fun j hj => by cases hj), rfl, fun i hi => by omega⟩
                    · obtain ⟨yn, rfl⟩ : ∃ yn : Nat, y = yn := ⟨y.toNat, by omega⟩
                      have hyn : yn < n := by omega
                      have hynz : (yn : Int) < n := by omega
                      by_cases hfl : fails (cap mo) l (yn / sz) (badf bx) 0
                      · skip
                        as_aux_lemma =>
                          have AO := at_bad S4.out.F yn (by rw [DN.out]; omega) (by simp) (by rw [DZ.out]; exact hfl)
                          rw [DZ.out, List.nil_append] at AO
                          clear y1 y3
                          go_wp2_with fail
                          refine AO.mono ?_
                          rintro e W5 ⟨rfl, G5⟩
                          clear AO
                          have S5 : Hid _ := S4.out.left G5.out
                          have y25 : W5.cell? ⟨ob, 1, none⟩ = some (.int .i64 yn) := G5.out.2.cell y2 (fun e => e (.inr rfl))
                          clear y2
                          obtain ⟨kk1, kk2, kk3⟩ := S4.out.keys
                          have ZW := zwalk_bad S5.out.rf kk1 kk2 kk3 yn (yn + 1) sz bx (by omega) (by omega) (by omega) 0 (by rw [cntp_one]; omega) hfl (fun s hs => by omega)
                          rw [show ((yn + 1 : Nat) : Int) = (yn : Int) + 1 by omega] at ZW
                          have rl1 := rr_le (cap mo) l (yn / sz) (0 + 1)
                          generalize rr (cap mo) l (yn / sz) (0 + 1) = R1 at *
                          generalize rk (cap mo) l (yn / sz) 0 = L1 at *
                          clear kk1 kk2 kk3 hfl
                          go_wp2_with fail
                          refine ZW.mono ?_
                          rintro e W6 ⟨xa, xc, rfl, D6⟩
                          clear ZW
                          obtain ⟨ka6, kc6, va6, vc6, S6, M6, O6⟩ := S5.out.ref D6.out
                          have y26 : W6.cell? ⟨ob, 1, none⟩ = some (.int .i64 yn) := M6.cell y25 (fun e => by have e' : ob = r := e; have := RLT.out; have := HOB.out; omega)
                          have S7 : Hid _ := S6
                          have O7 : Hid (Sl W6 xa R1.length (In (lof R1))) := (own_sl' O6).1
                          clear S6 M6 O6 D6 y25 S5
                          go_wp2_with fail
                          go_meet
                          exact ⟨bx, xa, _, xc, rfl, rfl, by omega, _, _, _, _, _, _, S7.out.mono (fun j hj => .inr hj), rfl, O7.out⟩
                      · skip
                        as_aux_lemma =>
                          have AO := at_ok S4.out.F yn (by rw [DN.out]; omega) (by simp) (by rw [DZ.out]; exact hfl)
                          obtain ⟨v, hv⟩ : ∃ v, v = f yn := ⟨_, rfl⟩
                          rw [DZ.out, List.nil_append, show d.f yn = v by rw [DF.out, hv]] at AO
                          have HV : Hid _ := hv
                          clear y1 y3 hv
                          go_wp2_with fail
                          refine AO.mono ?_
                          rintro e W5 ⟨rfl, G5⟩
                          clear AO
                          have S5 : Hid _ := S4.out.left G5.out
                          have y25 : W5.cell? ⟨ob, 1, none⟩ = some (.int .i64 yn) := G5.out.2.cell y2 (fun e => e (.inr rfl))
                          clear y2
                          obtain ⟨kk1, kk2, kk3⟩ := S4.out.keys
                          have ZW := zwalk_ok S5.out.rf kk1 kk2 kk3 yn (yn + 1) sz bx (by omega) (by omega) (by omega) (by omega) (by rw [cntp_one]; intro s hs; obtain rfl : s = 0 := (by omega); exact hfl)
                          rw [cntp_one, show ((yn + 1 : Nat) : Int) = (yn : Int) + 1 by omega] at ZW
                          have rl1 := rr_le (cap mo) l (yn / sz) 1
                          generalize rr (cap mo) l (yn / sz) 1 = R1 at *
                          generalize rk (cap mo) l (yn / sz) 1 = L1 at *
                          clear kk1 kk2 kk3 hfl
                          go_wp2_with fail
                          refine ZW.mono ?_
                          rintro e W6 ⟨xa, xc, rfl, D6⟩
                          clear ZW
                          obtain ⟨ka6, kc6, va6, vc6, S6, M6, O6⟩ := S5.out.ref D6.out
                          have y26 : W6.cell? ⟨ob, 1, none⟩ = some (.int .i64 yn) := M6.cell y25 (fun e => by have e' : ob = r := e; have := RLT.out; have := HOB.out; omega)
                          obtain ⟨b2, o2, rfl, hc2⟩ : ∃ b2 o2, a = some ⟨b2, o2, none⟩ ∧ W6.cell? ⟨b2, o2 + yn, none⟩ = some (.int .u8 v) := by
                            obtain ⟨b1, o1, e, _, hc⟩ := (hl.out.below S6.bel) yn hyn
                            exact ⟨b1, o1, e, by rw [hc, HV.out]; rfl⟩
                          have S7 : Hid _ := S6
                          have O7 : Hid (Sl W6 xa R1.length (In (lof R1))) := (own_sl' O6).1
                          clear S6 M6 O6 D6 y25 S5
                          go_wp2_with fail
                          go_meet
                          exact ⟨bx, xa, _, xc, rfl, rfl, by omega, _, _, _, _, _, _, S7.out.mono (fun j hj => .inr hj), rfl, O7.out⟩
              · by_cases h5 : κ = 5
                · subst h5
                  as_aux_lemma =>
                    by_cases hy0 : y < 0
                    · skip
                      as_aux_lemma =>
                        have AR := at_range S4.out.F y (by rw [DN.out]; omega) (by have := WF.out; omega)
                        clear y1 y3
                        go_wp2_with fail
                        refine AR.mono ?_
                        rintro e W5 ⟨rfl, b5⟩
                        clear AR
                        have S5 : Hid _ := S4.out.past b5
                        have y25 : W5.cell? ⟨ob, 1, none⟩ = some (.int .i64 y) := (b5.cell (p := ⟨ob, 1, none⟩) (World.block_lt_of_cell? _ _ y2)).trans y2
                        clear b5 y2
                        go_wp2_with fail
                        go_meet
                        exact ⟨bx, none, 0, 0, rfl, rfl, by omega, _, _, _, _, _, _, S5.out.mono (fun j hj => by cases hj), rfl, fun i hi => by omega⟩
                    · by_cases hy1 : (n : Int) ≤ y
                      · skip
                        as_aux_lemma =>
                          have AR := at_range S4.out.F y (by rw [DN.out]; omega) (by have := WF.out; omega)
                          clear y1 y3
                          go_wp2_with fail
                          refine AR.mono ?_
                          rintro e W5 ⟨rfl, b5⟩
                          clear AR
                          have S5 : Hid _ := S4.out.past b5
                          have y25 : W5.cell? ⟨ob, 1, none⟩ = some (.int .i64 y) := (b5.cell (p := ⟨ob, 1, none⟩) (World.block_lt_of_cell? _ _ y2)).trans y2
                          clear b5 y2
                          go_wp2_with fail
                          go_meet
                          exact ⟨bx, none, 0, 0, rfl, rfl, by omega, _, _, _, _, _, _, S5.out.mono (fun j hj => by cases hj), rfl, fun i hi => by omega⟩
                      · obtain ⟨yn, rfl⟩ : ∃ yn : Nat, y = yn := ⟨y.toNat, by omega⟩
                        have hyn : yn < n := by omega
                        have hynz : (yn : Int) < n := by omega
                        by_cases hfl : fails (cap mo) l (yn / sz) (badf bx) 0
                        · skip
                          as_aux_lemma =>
                            have AO := at_bad S4.out.F yn (by rw [DN.out]; omega) (by simp) (by rw [DZ.out]; exact hfl)
                            rw [DZ.out, List.nil_append] at AO
                            clear y1 y3
                            go_wp2_with fail
                            refine AO.mono ?_
                            rintro e W5 ⟨rfl, G5⟩
                            clear AO
                            have S5 : Hid _ := S4.out.left G5.out
                            have y25 : W5.cell? ⟨ob, 1, none⟩ = some (.int .i64 yn) := G5.out.2.cell y2 (fun e => e (.inr rfl))
                            clear y2
                            obtain ⟨kk1, kk2, kk3⟩ := S4.out.keys
                            have ZW := zwalk_bad S5.out.rf kk1 kk2 kk3 yn (yn + 1) sz bx (by omega) (by omega) (by omega) 0 (by rw [cntp_one]; omega) hfl (fun s hs => by omega)
                            rw [show ((yn + 1 : Nat) : Int) = (yn : Int) + 1 by omega] at ZW
                            have rl1 := rr_le (cap mo) l (yn / sz) (0 + 1)
                            generalize rr (cap mo) l (yn / sz) (0 + 1) = R1 at *
                            generalize rk (cap mo) l (yn / sz) 0 = L1 at *
                            clear kk1 kk2 kk3 hfl
                            go_wp2_with fail
                            refine ZW.mono ?_
                            rintro e W6 ⟨xa, xc, rfl, D6⟩
                            clear ZW
                            obtain ⟨ka6, kc6, va6, vc6, S6, M6, O6⟩ := S5.out.ref D6.out
                            have y26 : W6.cell? ⟨ob, 1, none⟩ = some (.int .i64 yn) := M6.cell y25 (fun e => by have e' : ob = r := e; have := RLT.out; have := HOB.out; omega)
                            have S7 : Hid _ := S6
                            have O7 : Hid (Sl W6 xa R1.length (In (lof R1))) := (own_sl' O6).1
                            clear S6 M6 O6 D6 y25 S5
                            go_wp2_with fail
                            go_meet
                            exact ⟨bx, xa, _, xc, rfl, rfl, by omega, _, _, _, _, _, _, S7.out.mono (fun j hj => .inr hj), rfl, O7.out⟩
                        · skip
                          as_aux_lemma =>
                            have AO := at_ok S4.out.F yn (by rw [DN.out]; omega) (by simp) (by rw [DZ.out]; exact hfl)
                            obtain ⟨v, hv⟩ : ∃ v, v = f yn := ⟨_, rfl⟩
                            rw [DZ.out, List.nil_append, show d.f yn = v by rw [DF.out, hv]] at AO
                            have HV : Hid _ := hv
                            clear y1 y3 hv
                            go_wp2_with fail
                            refine AO.mono ?_
                            rintro e W5 ⟨rfl, G5⟩
                            clear AO
                            have S5 : Hid _ := S4.out.left G5.out
                            have y25 : W5.cell? ⟨ob, 1, none⟩ = some (.int .i64 yn) := G5.out.2.cell y2 (fun e => e (.inr rfl))
                            clear y2
                            obtain ⟨kk1, kk2, kk3⟩ := S4.out.keys
                            have ZW := zwalk_ok S5.out.rf kk1 kk2 kk3 yn (yn + 1) sz bx (by omega) (by omega) (by omega) (by omega) (by rw [cntp_one]; intro s hs; obtain rfl : s = 0 := (by omega); exact hfl)
                            rw [cntp_one, show ((yn + 1 : Nat) : Int) = (yn : Int) + 1 by omega] at ZW
                            have rl1 := rr_le (cap mo) l (yn / sz) 1
                            generalize rr (cap mo) l (yn / sz) 1 = R1 at *
                            generalize rk (cap mo) l (yn / sz) 1 = L1 at *
                            clear kk1 kk2 kk3 hfl
                            go_wp2_with fail
                            refine ZW.mono ?_
                            rintro e W6 ⟨xa, xc, rfl, D6⟩
                            clear ZW
                            obtain ⟨ka6, kc6, va6, vc6, S6, M6, O6⟩ := S5.out.ref D6.out
                            have y26 : W6.cell? ⟨ob, 1, none⟩ = some (.int .i64 yn) := M6.cell y25 (fun e => by have e' : ob = r := e; have := RLT.out; have := HOB.out; omega)
                            obtain ⟨b2, o2, rfl, hc2⟩ : ∃ b2 o2, a = some ⟨b2, o2, none⟩ ∧ W6.cell? ⟨b2, o2 + yn, none⟩ = some (.int .u8 v) := by
                              obtain ⟨b1, o1, e, _, hc⟩ := (hl.out.below S6.bel) yn hyn
                              exact ⟨b1, o1, e, by rw [hc, HV.out]; rfl⟩
                            have S7 : Hid _ := S6
                            have O7 : Hid (Sl W6 xa R1.length (In (lof R1))) := (own_sl' O6).1
                            clear S6 M6 O6 D6 y25 S5
                            go_wp2_with fail
                            go_meet
                            exact ⟨bx, xa, _, xc, rfl, rfl, by omega, _, _, _, _, _, _, S7.out.mono (fun j hj => .inr hj), rfl, O7.out⟩
                · by_cases h6 : κ = 6
                  · subst h6
                    as_aux_lemma =>
                      by_cases hy0 : y < 0
                      · skip
                        as_aux_lemma =>
                          have AR := at_range S4.out.F y (by rw [DN.out]; omega) (by have := WF.out; omega)
                          clear y1 y3
                          go_wp2_with fail
                          refine AR.mono ?_
                          rintro e W5 ⟨rfl, b5⟩
                          clear AR
                          have S5 : Hid _ := S4.out.past b5
                          have y25 : W5.cell? ⟨ob, 1, none⟩ = some (.int .i64 y) := (b5.cell (p := ⟨ob, 1, none⟩) (World.block_lt_of_cell? _ _ y2)).trans y2
                          clear b5 y2
                          go_wp2_with fail
                          go_meet
                          exact ⟨bx, none, 0, 0, rfl, rfl, by omega, _, _, _, _, _, _, S5.out.mono (fun j hj => by cases hj), rfl, fun i hi => by omega⟩
                      · by_cases hy1 : (n : Int) ≤ y
                        · skip
                          as_aux_lemma =>
                            have AR := at_range S4.out.F y (by rw [DN.out]; omega) (by have := WF.out; omega)
                            clear y1 y3
                            go_wp2_with fail
                            refine AR.mono ?_
                            rintro e W5 ⟨rfl, b5⟩
                            clear AR
                            have S5 : Hid _ := S4.out.past b5
                            have y25 : W5.cell? ⟨ob, 1, none⟩ = some (.int .i64 y) := (b5.cell (p := ⟨ob, 1, none⟩) (World.block_lt_of_cell? _ _ y2)).trans y2
                            clear b5 y2
                            go_wp2_with fail
                            go_meet
                            exact ⟨bx, none, 0, 0, rfl, rfl, by omega, _, _, _, _, _, _, S5.out.mono (fun j hj => by cases hj), rfl, fun i hi => by omega⟩
                        · obtain ⟨yn, rfl⟩ : ∃ yn : Nat, y = yn := ⟨y.toNat, by omega⟩
                          have hyn : yn < n := by omega
                          have hynz : (yn : Int) < n := by omega
                          by_cases hfl : fails (cap mo) l (yn / sz) (badf bx) 0
                          · skip
                            as_aux_lemma =>
                              have AO := at_bad S4.out.F yn (by rw [DN.out]; omega) (by simp) (by rw [DZ.out]; exact hfl)
                              rw [DZ.out, List.nil_append] at AO
                              clear y1 y3
                              go_wp2_with fail
                              refine AO.mono ?_
                              rintro e W5 ⟨rfl, G5⟩
                              clear AO
                              have S5 : Hid _ := S4.out.left G5.out
                              have y25 : W5.cell? ⟨ob, 1, none⟩ = some (.int .i64 yn) := G5.out.2.cell y2 (fun e => e (.inr rfl))
                              clear y2
                              obtain ⟨kk1, kk2, kk3⟩ := S4.out.keys
                              have ZW := zwalk_bad S5.out.rf kk1 kk2 kk3 yn (yn + 1) sz bx (by omega) (by omega) (by omega) 0 (by rw [cntp_one]; omega) hfl (fun s hs => by omega)
                              rw [show ((yn + 1 : Nat) : Int) = (yn : Int) + 1 by omega] at ZW
                              have rl1 := rr_le (cap mo) l (yn / sz) (0 + 1)
                              generalize rr (cap mo) l (yn / sz) (0 + 1) = R1 at *
                              generalize rk (cap mo) l (yn / sz) 0 = L1 at *
                              clear kk1 kk2 kk3 hfl
                              go_wp2_with fail
                              refine ZW.mono ?_
                              rintro e W6 ⟨xa, xc, rfl, D6⟩
                              clear ZW
                              obtain ⟨ka6, kc6, va6, vc6, S6, M6, O6⟩ := S5.out.ref D6.out
                              have y26 : W6.cell? ⟨ob, 1, none⟩ = some (.int .i64 yn) := M6.cell y25 (fun e => by have e' : ob = r := e; have := RLT.out; have := HOB.out; omega)
                              have S7 : Hid _ := S6
                              have O7 : Hid (Sl W6 xa R1.length (In (lof R1))) := (own_sl' O6).1
                              clear S6 M6 O6 D6 y25 S5
                              go_wp2_with fail
                              go_meet
                              exact ⟨bx, xa, _, xc, rfl, rfl, by omega, _, _, _, _, _, _, S7.out.mono (fun j hj => .inr hj), rfl, O7.out⟩
                          · skip
                            as_aux_lemma =>
                              have AO := at_ok S4.out.F yn (by rw [DN.out]; omega) (by simp) (by rw [DZ.out]; exact hfl)
                              obtain ⟨v, hv⟩ : ∃ v, v = f yn := ⟨_, rfl⟩
                              rw [DZ.out, List.nil_append, show d.f yn = v by rw [DF.out, hv]] at AO
                              have HV : Hid _ := hv
                              clear y1 y3 hv
                              go_wp2_with fail
                              refine AO.mono ?_
                              rintro e W5 ⟨rfl, G5⟩
                              clear AO
                              have S5 : Hid _ := S4.out.left G5.out
                              have y25 : W5.cell? ⟨ob, 1, none⟩ = some (.int .i64 yn) := G5.out.2.cell y2 (fun e => e (.inr rfl))
                              clear y2
                              obtain ⟨kk1, kk2, kk3⟩ := S4.out.keys
                              have ZW := zwalk_ok S5.out.rf kk1 kk2 kk3 yn (yn + 1) sz bx (by omega) (by omega) (by omega) (by omega) (by rw [cntp_one]; intro s hs; obtain rfl : s = 0 := (by omega); exact hfl)
                              rw [cntp_one, show ((yn + 1 : Nat) : Int) = (yn : Int) + 1 by omega] at ZW
                              have rl1 := rr_le (cap mo) l (yn / sz) 1
                              generalize rr (cap mo) l (yn / sz) 1 = R1 at *
                              generalize rk (cap mo) l (yn / sz) 1 = L1 at *
                              clear kk1 kk2 kk3 hfl
                              go_wp2_with fail
                              refine ZW.mono ?_
                              rintro e W6 ⟨xa, xc, rfl, D6⟩
                              clear ZW
                              obtain ⟨ka6, kc6, va6, vc6, S6, M6, O6⟩ := S5.out.ref D6.out
                              have y26 : W6.cell? ⟨ob, 1, none⟩ = some (.int .i64 yn) := M6.cell y25 (fun e => by have e' : ob = r := e; have := RLT.out; have := HOB.out; omega)
                              obtain ⟨b2, o2, rfl, hc2⟩ : ∃ b2 o2, a = some ⟨b2, o2, none⟩ ∧ W6.cell? ⟨b2, o2 + yn, none⟩ = some (.int .u8 v) := by
                                obtain ⟨b1, o1, e, _, hc⟩ := (hl.out.below S6.bel) yn hyn
                                exact ⟨b1, o1, e, by rw [hc, HV.out]; rfl⟩
                              have S7 : Hid _ := S6
                              have O7 : Hid (Sl W6 xa R1.length (In (lof R1))) := (own_sl' O6).1
                              clear S6 M6 O6 D6 y25 S5
                              go_wp2_with fail
                              go_meet
                              exact ⟨bx, xa, _, xc, rfl, rfl, by omega, _, _, _, _, _, _, S7.out.mono (fun j hj => .inr hj), rfl, O7.out⟩
                  · have h7b : (κ == 7) = false := by rw [beq_eq_false_iff_ne]; exact h7
                    have h8b : (κ == 8) = false := by rw [beq_eq_false_iff_ne]; exact h8
                    have h9b : (κ == 9) = false := by rw [beq_eq_false_iff_ne]; exact h9
                    have h4b : (κ == 4) = false := by rw [beq_eq_false_iff_ne]; exact h4
                    have h5b : (κ == 5) = false := by rw [beq_eq_false_iff_ne]; exact h5
                    have h6b : (κ == 6) = false := by rw [beq_eq_false_iff_ne]; exact h6
                    clear h7 h8 h9 h4 h5 h6 hκ0
                    as_aux_lemma =>
                      by_cases hy0 : y < 0
                      · skip
                        as_aux_lemma =>
                          have AR := bytes_range S4.out.F y z (by rw [DN.out]; omega)
                          clear y1
                          go_wp2_with fail
                          refine AR.mono ?_
                          rintro e W5 ⟨rfl, b5⟩
                          clear AR
                          have S5 : Hid _ := S4.out.past b5
                          have y25 : W5.cell? ⟨ob, 1, none⟩ = some (.int .i64 y) := (b5.cell (p := ⟨ob, 1, none⟩) (World.block_lt_of_cell? _ _ y2)).trans y2
                          have y35 : W5.cell? ⟨ob, 2, none⟩ = some (.int .i64 z) := (b5.cell (p := ⟨ob, 2, none⟩) (World.block_lt_of_cell? _ _ y3)).trans y3
                          clear b5 y2 y3
                          go_wp2_with fail
                          go_meet
                          exact ⟨bx, none, 0, 0, rfl, rfl, by omega, _, _, _, _, _, _, S5.out.mono (fun j hj => by cases hj), rfl, fun i hi => by omega⟩
                      · by_cases hy1 : z < y
                        · skip
                          as_aux_lemma =>
                            have AR := bytes_range S4.out.F y z (by rw [DN.out]; omega)
                            clear y1
                            go_wp2_with fail
                            refine AR.mono ?_
                            rintro e W5 ⟨rfl, b5⟩
                            clear AR
                            have S5 : Hid _ := S4.out.past b5
                            have y25 : W5.cell? ⟨ob, 1, none⟩ = some (.int .i64 y) := (b5.cell (p := ⟨ob, 1, none⟩) (World.block_lt_of_cell? _ _ y2)).trans y2
                            have y35 : W5.cell? ⟨ob, 2, none⟩ = some (.int .i64 z) := (b5.cell (p := ⟨ob, 2, none⟩) (World.block_lt_of_cell? _ _ y3)).trans y3
                            clear b5 y2 y3
                            go_wp2_with fail
                            go_meet
                            exact ⟨bx, none, 0, 0, rfl, rfl, by omega, _, _, _, _, _, _, S5.out.mono (fun j hj => by cases hj), rfl, fun i hi => by omega⟩
                        · by_cases hy2 : (n : Int) < z
                          · have hyz : y ≤ z := by omega
                            as_aux_lemma =>
                              have AR := bytes_range S4.out.F y z (by rw [DN.out]; omega)
                              clear y1
                              go_wp2_with fail
                              refine AR.mono ?_
                              rintro e W5 ⟨rfl, b5⟩
                              clear AR
                              have S5 : Hid _ := S4.out.past b5
                              have y25 : W5.cell? ⟨ob, 1, none⟩ = some (.int .i64 y) := (b5.cell (p := ⟨ob, 1, none⟩) (World.block_lt_of_cell? _ _ y2)).trans y2
                              have y35 : W5.cell? ⟨ob, 2, none⟩ = some (.int .i64 z) := (b5.cell (p := ⟨ob, 2, none⟩) (World.block_lt_of_cell? _ _ y3)).trans y3
                              clear b5 y2 y3
                              go_wp2_with fail
                              go_meet
                              exact ⟨bx, none, 0, 0, rfl, rfl, by omega, _, _, _, _, _, _, S5.out.mono (fun j hj => by cases hj), rfl, fun i hi => by omega⟩
                          · obtain ⟨yn, rfl⟩ : ∃ yn : Nat, y = yn := ⟨y.toNat, by omega⟩
                            obtain ⟨zn, rfl⟩ : ∃ zn : Nat, z = zn := ⟨z.toNat, by omega⟩
                            have hyn : yn ≤ zn ∧ zn ≤ n := by omega
                            have hynz : (yn : Int) ≤ zn := by omega
                            have hznz : (zn : Int) ≤ n := by omega
                            clear hy0 hy1 hy2
                            rcases first_fail (cap mo) l (yn / sz) (badf bx) (cntp sz yn zn) with hfl | ⟨t, ht, hft, hfl⟩
                            · skip
                              as_aux_lemma =>
                                have AO := bytes_ok S4.out.F yn zn (by omega) (by rw [DN.out]; omega) (by simp) (by rw [DZ.out]; exact hfl)
                                rw [DZ.out, List.nil_append] at AO
                                clear y1
                                go_wp2_with fail
                                refine AO.mono ?_
                                rintro e W5 ⟨ba, bc, rfl, G5⟩
                                clear AO
                                have S5 : Hid _ := S4.out.told G5.out
                                have y25 : W5.cell? ⟨ob, 1, none⟩ = some (.int .i64 yn) := G5.out.2.2.cell y2 (fun e => e (.inr rfl))
                                have y35 : W5.cell? ⟨ob, 2, none⟩ = some (.int .i64 zn) := G5.out.2.2.cell y3 (fun e => e (.inr rfl))
                                clear y2 y3
                                obtain ⟨kk1, kk2, kk3⟩ := S4.out.keys
                                have ZW := zwalk_ok S5.out.rf kk1 kk2 kk3 yn zn sz bx (by omega) (by omega) (by omega) (by omega) hfl
                                have rl1 := rr_le (cap mo) l (yn / sz) (cntp sz yn zn)
                                have rl2 := cntp_le sz yn zn
                                generalize rr (cap mo) l (yn / sz) (cntp sz yn zn) = R1 at *
                                generalize rk (cap mo) l (yn / sz) (cntp sz yn zn) = L1 at *
                                have RL : Hid (R1.length ≤ 6000) := by show _ ≤ _; omega
                                have X5 : Hid (Own W5 W4.heap.size 5 (.slice ba (zn - yn) bc) (zn - yn) (By fun j => d.f (yn + j))) := G5.out.2.1
                                clear kk1 kk2 kk3 hfl rl1 rl2
                                go_wp2_with fail
                                refine ZW.mono ?_
                                rintro e W6 ⟨xa, xc, rfl, D6⟩
                                clear ZW
                                obtain ⟨ka6, kc6, va6, vc6, S6, M6, O6⟩ := S5.out.ref D6.out
                                have obr : ob ≠ r := by have := RLT.out; have := HOB.out; omega
                                have y26 : W6.cell? ⟨ob, 1, none⟩ = some (.int .i64 yn) := M6.cell y25 obr
                                have y36 : W6.cell? ⟨ob, 2, none⟩ = some (.int .i64 zn) := M6.cell y35 obr
                                have X6 : Sl W6 ba (zn - yn) (By fun j => f (yn + j)) := ((own_sl' X5.out).1.mv M6 (fun p hp e => by
                                  have h1 := (X5.out.blk p.block (by rw [own_blk, hp]; rfl)).1
                                  have h2 := RLT.out
                                  have h3 := HOB.out
                                  have h4 := OB4.out
                                  have e' : p.block = r := e
                                  omega)).congr (fun j _ => by unfold By; rw [DF.out])
                                obtain ⟨pa, pc, hsl, hsp⟩ := slice_mid a n c yn zn (by omega) (by omega) hroom
                                have Y6 := hsp W6 f (hl.out.below S6.bel)
                                have hv1 : ∀ q, (convert 22 9 (.slice ba (zn - yn) bc)).run Try.prog (W6.drewN q) = .ok (.string (txt (fun j => f (yn + j)) (zn - yn))) (W6.drewN q) := fun q => conv_any _ _ _ _ (W6.drewN q) (X6.mv (Mv.drewN (fun _ => False) W6 q) (fun _ _ h => h))
                                have hv2 : ∀ q, (convert 22 9 (.slice pa (zn - yn) pc)).run Try.prog (W6.drewN q) = .ok (.string (txt (fun j => f (yn + j)) (zn - yn))) (W6.drewN q) := fun q => conv_any _ _ _ _ (W6.drewN q) (Y6.mv (Mv.drewN (fun _ => False) W6 q) (fun _ _ h => h))
                                generalize txt (fun j => f (yn + j)) (zn - yn) = tx at hv1 hv2
                                have S7 : Hid _ := S6
                                have O7 : Hid (Sl W6 xa R1.length (In (lof R1))) := (own_sl' O6).1
                                clear S6 M6 O6 D6 y25 y35 S5 hsp X6 Y6 obr
                                go_wp2_with fail
                                go_quiet (fail)
                                go_wp2_with fail
                                go_meet
                                exact ⟨bx, xa, _, xc, rfl, rfl, RL.out, _, _, _, _, _, _, (S7.out.drew (Mv.drewN (fun _ => False) _ _)).mono (fun j hj => .inr hj), rfl, Sl.mv O7.out (Mv.drewN (fun _ => False) _ _) (fun _ _ h => h)⟩
                            · skip
                              as_aux_lemma =>
                                have AO := bytes_bad S4.out.F yn zn (by omega) (by rw [DN.out]; omega) (by simp) t (by rw [DZ.out]; exact ht) (by rw [DZ.out]; exact hft) (by rw [DZ.out]; exact hfl)
                                rw [DZ.out, List.nil_append] at AO
                                clear y1
                                go_wp2_with fail
                                refine AO.mono ?_
                                rintro e W5 ⟨rfl, G5⟩
                                clear AO
                                have S5 : Hid _ := S4.out.left G5.out
                                have y25 : W5.cell? ⟨ob, 1, none⟩ = some (.int .i64 yn) := G5.out.2.cell y2 (fun e => e (.inr rfl))
                                have y35 : W5.cell? ⟨ob, 2, none⟩ = some (.int .i64 zn) := G5.out.2.cell y3 (fun e => e (.inr rfl))
                                clear y2 y3
                                obtain ⟨kk1, kk2, kk3⟩ := S4.out.keys
                                have ZW := zwalk_bad S5.out.rf kk1 kk2 kk3 yn zn sz bx (by omega) (by omega) (by omega) t ht hft hfl
                                have rl1 := rr_le (cap mo) l (yn / sz) (t + 1)
                                have rl2 := cntp_le sz yn zn
                                generalize rr (cap mo) l (yn / sz) (t + 1) = R1 at *
                                generalize rk (cap mo) l (yn / sz) t = L1 at *
                                have RL : Hid (R1.length ≤ 6000) := by show _ ≤ _; omega
                                clear kk1 kk2 kk3 hfl hft rl1 rl2 ht
                                go_wp2_with fail
                                refine ZW.mono ?_
                                rintro e W6 ⟨xa, xc, rfl, D6⟩
                                clear ZW
                                obtain ⟨ka6, kc6, va6, vc6, S6, M6, O6⟩ := S5.out.ref D6.out
                                have obr : ob ≠ r := by have := RLT.out; have := HOB.out; omega
                                have y26 : W6.cell? ⟨ob, 1, none⟩ = some (.int .i64 yn) := M6.cell y25 obr
                                have y36 : W6.cell? ⟨ob, 2, none⟩ = some (.int .i64 zn) := M6.cell y35 obr
                                have S7 : Hid _ := S6
                                have O7 : Hid (Sl W6 xa R1.length (In (lof R1))) := (own_sl' O6).1
                                clear S6 M6 O6 D6 y25 y35 S5 obr
                                go_wp2_with fail
                                go_quiet (fail)
                                go_wp2_with fail
                                go_meet
                                exact ⟨bx, xa, _, xc, rfl, rfl, RL.out, _, _, _, _, _, _, (S7.out.drew (Mv.drewN (fun _ => False) _ _)).mono (fun j hj => .inr hj), rfl, Sl.mv O7.out (Mv.drewN (fun _ => False) _ _) (fun _ _ h => h)⟩
      case rest =>
        as_aux_lemma =>
          obtain ⟨bx2, xa, xn, xc, rfl, rfl, hxn, HC⟩ := hcut
          obtain ⟨l2, R2, ka2, kc2, va2, vc2, T2, hn2, O2⟩ := HC.out
          obtain ⟨m2, hm2⟩ : ∃ m2, m2 = l2.length := ⟨_, rfl⟩
          have hDr : Mv (fun _ => False) wc wc.drew := ⟨rfl, rfl, rfl, Nat.le_refl _, fun _ _ _ => rfl⟩
          have T3 : Hid (Sa w wc.drew q d mo r (badf bx2) l2 R2 l2 ka2 kc2 va2 vc2 (fun j => bk xa = some j)) := T2.drew hDr
          have hck : wc.cell? ⟨r, 1, none⟩ = some (.slice ka2 m2 kc2) := by rw [hm2, ← zt_length]; exact T2.rf.c1
          have hrl : r < wc.heap.size := World.block_lt_of_cell? _ _ hck
          have RD := reads_fs T3.out.F (by omega)
          rw [← hn2] at RD
          have O3 : Hid (Sl wc.drew xa xn (In (lof R2))) := Sl.mv O2 hDr (fun _ _ h => h)
          have SM : Hid (∀ (W6 : World) (ya : Option Addr) (yc : Nat), Below wc.drew.heap.size wc.drew W6 → Sl W6 ya xn (In (lof R2)) → Calls Try.prog 20 #[.slice ya xn yc, .slice xa xn xc] W6 fun e w' => e = .returned (.bool true) ∧ Hid (Mv (fun _ => False) W6 w')) := fun W6 ya yc hb hs => same_true ya xa xn yc xc (lof R2) W6 (by omega) hs (O3.out.below hb)
          have KP : Hid (∀ (W6 W7 : World), Below wc.drew.heap.size wc.drew W6 → Mv (fun _ => False) W6 W7 → Calls Try.prog 30 #[.pointer (some ⟨q, 0, none⟩)] W7 fun e w' => e = .returned (.int .i64 m2) ∧ Hid (Below W7.heap.size W7 w')) := by
            intro W6 W7 hb hm
            rw [hm2]
            exact kept_len ((T3.out.past hb).drew hm).F
          have LN : Hid (∀ (W6 W7 W8 : World), Below wc.drew.heap.size wc.drew W6 → Mv (fun _ => False) W6 W7 → Below W7.heap.size W7 W8 → Calls Try.prog 31 #[.pointer (some ⟨q, 0, none⟩)] W8 fun e w' => e = .returned (.int .i64 n) ∧ w' = W8) := by
            intro W6 W7 W8 hb hm hb2
            rw [← DN.out]
            exact flen_any (((T3.out.past hb).drew hm).past hb2).F
          have FIN : Hid (∀ (W6 W7 W8 : World), Below wc.drew.heap.size wc.drew W6 → Mv (fun _ => False) W6 W7 → Below W7.heap.size W7 W8 → Sa w W8 q d mo r (badf bx2) l2 R2 l2 ka2 kc2 va2 vc2 (fun _ => False)) := fun W6 W7 W8 hb hm hb2 => (((T3.out.past hb).drew hm).past hb2).mono (fun _ h => h.elim)
          have hm5 : m2 ≤ 5000 := by rw [hm2]; exact T2.keys.2.2
          clear hm2 hn2 T2 O2 HC hDr
          go_wp2_with fail
          go_region_held3 (fun w' => w'.cell? ⟨r, 1, none⟩ = some (.slice ka2 m2 kc2)) (first
              | go_keep
              | (exact (G6.out.2.cell (p := ⟨r, 1, none⟩) hrl).trans hck)
              | (exact M7.out.cell ((G6.out.2.cell (p := ⟨r, 1, none⟩) hrl).trans hck) (fun h => h))
              | (exact (B8.out.cell (p := ⟨r, 1, none⟩) (World.block_lt_of_cell? _ _ (M7.out.cell ((G6.out.2.cell (p := ⟨r, 1, none⟩) hrl).trans hck) (fun h => h)))).trans (M7.out.cell ((G6.out.2.cell (p := ⟨r, 1, none⟩) hrl).trans hck) (fun h => h))))
            ((first
              | (go_at_call 20; refine (SM.out W6 _ _ G6.out.2 (own_sl' G6.out.1).1).mono ?_; rintro e W7 ⟨rfl, M7⟩)
              | (go_at_call 30; refine (KP.out W6 W7 G6.out.2 M7.out).mono ?_; rintro e W8 ⟨rfl, B8⟩)
              | (go_at_call 31; refine (LN.out W6 W7 W8 G6.out.2 M7.out B8.out).mono ?_; rintro e w9 ⟨rfl, rfl⟩)
              | (go_at_call 21; refine RD.mono ?_; rintro e W6 ⟨rfl, G6⟩)))
          all_goals (have F8 : Hid _ := FIN.out W6 W7 w9 G6.out.2 M7.out B8.out)
          all_goals go_wp2_with fail
          all_goals exact ⟨⟨i + 1, bx2, rfl, by go_num, by omega, _, _, _, _, _, _, F8.out⟩, by simp [intOf]; omega⟩
    · go_wp2_with fail
      go_ret
      obtain ⟨l, R, ka, kc, va, vc, S1⟩ := H.out
      exact ⟨rfl, S1.bel⟩

theorem fileAll_row (W : World) (a : Option Addr) (n c : Nat) (f : Nat → Int) (s : Sl W a n (fun i => .int .u8 (f i))) (_o : ∀ i, (Lit.int .u8 (f i)).wf = true) (_e : a = none → n = 0 ∧ c = 0) (hroom : n ≤ c) (x0 : Int) (w0 : (Lit.int .u8 x0).wf = true) (mo : Int) (_wm : (Lit.int .i64 mo).wf = true)
    (u : Option Addr) (k uc : Nat) (K A B : Nat → Int) (so : So W u k K A B) (ow : ∀ i, (Lit.int .i64 (K i)).wf = true ∧ (Lit.int .i64 (A i)).wf = true ∧ (Lit.int .i64 (B i)).wf = true) :
    Calls Try.prog 7 #[.slice a n c, .int .u8 x0, .int .i64 mo, .slice u k uc] W fun e w' => e = .returned (.bool true) ∧ Below W.heap.size W w' := by
  by_cases h : 300 < n ∨ 30 < k
  · exact fall_out a n c x0 mo u k uc W h
  · exact fall_walk a n c hroom f x0 mo u k uc K A B W (by omega) (by omega) (b8 w0).1 (b8 w0).2 s so (fun i => ⟨b64 (ow i).1, b64 (ow i).2.1, b64 (ow i).2.2⟩)
end Go.Proofs.Ytjlnmkoggobbgaa
