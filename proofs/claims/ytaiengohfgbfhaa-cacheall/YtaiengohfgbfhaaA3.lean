/- CacheAll. -/
import Derived.Test.YtaiengohfgbfhaaR7
import Derived.Test.YtaiengohfgbfhaaD2
namespace Go.Proofs.Ytaiengohfgbfhaa
open Go.RowKit

/-- A round's end: what both caches hold, and that nothing old has turned. -/
theorem al_end {w w4 w5 : World} {base : Nat} (hb : base = w.heap.size) (h : Below w.heap.size w w4) (hm : Mv (fun j => base ≤ j) w4 w5) : Below w.heap.size w w5 := below_mv h hm (Nat.le_refl _) (fun j hj e => by omega)

theorem q_any (x : Int) (h0 : 0 ≤ x) (h1 : x ≤ 65535) : 0 ≤ (wrap64 (IntKind.u16.wrap (x.tdiv 10))).tmod 12 ∧ (wrap64 (IntKind.u16.wrap (x.tdiv 10))).tmod 12 < 12 := by
  rw [Int.tdiv_eq_ediv_of_nonneg h0]
  have y0 : 0 ≤ x / 10 := by omega
  have y1 : x / 10 ≤ 6553 := by omega
  generalize x / 10 = y at y0 y1
  have hw : IntKind.u16.wrap y = y := by
    simp [IntKind.wrap, IntKind.signed, IntKind.bits]
    omega
  have h64 : wrap64 y = y := by
    unfold wrap64
    omega
  rw [hw, h64, Int.tmod_eq_emod_of_nonneg y0]
  omega

set_option maxHeartbeats 8000000 in
set_option maxRecDepth 100000 in
theorem all_any (w : World) (mo : Int) (a : Option Addr) (n c : Nat) (f : Nat → Int) (hn : n ≤ 80) (hf : Hid (∀ i, 0 ≤ f i ∧ f i ≤ 65535)) (hl : Hid (Sl w a n (Hh f))) :
    Calls Try.prog 3 #[.int .i64 mo, .slice a n c] w fun e w' => e = .returned (.bool true) ∧ Below w.heap.size w w' := by
  have hnz : (n : Int) ≤ 80 := by omega
  go_enter Try.func3, Try.ntmps3
  go_wp2_with fail
  refine (begun_any w).mono ?_
  rintro e w1 ⟨rfl, b1⟩
  have B1 : Hid _ := b1
  clear b1
  go_wp2_with fail
  refine (inew mo w1).mono ?_
  rintro e w2 ⟨rfl, hw⟩
  obtain rfl := hw.symm
  clear hw
  have hsz : (w1.alloc (.cells #[.int .i64 mo, .map none, .pointer none, .pointer none] 66)).heap.size = w1.heap.size + 1 := by simp
  have A0 : Hid (Al ((w1.alloc (.cells #[.int .i64 mo, .map none, .pointer none, .pointer none] 66)).alloc (.cells #[.int .i64 mo, .slice none 0 0, .slice none 0 0] 29)) w.heap.size w1.heap.size (w1.heap.size + 1) mo [] none 0 none 0) := by
    have c0 : Ch (w1.alloc (.cells #[.int .i64 mo, .map none, .pointer none, .pointer none] 66)) w1.heap.size 2 mo [] (fun j => j < w.heap.size) := Ch.new w1 2 mo 66 _ (fun j h => by have := B1.out.size; omega) (by omega)
    have N : ∀ i v, (#[Value.int .i64 mo, .slice none 0 0, .slice none 0 0] : Array Value)[i]? = some v → _ := fun i v => alloc_new (w1.alloc (.cells #[.int .i64 mo, .map none, .pointer none, .pointer none] 66)) #[.int .i64 mo, .slice none 0 0, .slice none 0 0] 29 i v
    rw [hsz] at N
    refine ⟨(c0.mv (Mv.alloc (fun _ => False) _ _) (fun _ h => h.elim)).mono ?_, ⟨(N 0 _ rfl).1, (N 1 _ rfl).1, (N 2 _ rfl).1, (N 1 _ rfl).2, (N 2 _ rfl).2, fun i hi => (by simp at hi), fun i hi => (by simp at hi), fun _ => ⟨rfl, rfl⟩, fun _ => ⟨rfl, rfl⟩, Nat.le_refl _, Nat.le_refl _, fun e => (by cases e), fun e => (by cases e), fun j e => (by cases e), fun j e => (by cases e)⟩, ?_, ?_, fun j e => (by cases e), fun j e => (by cases e), ?_⟩
    · rintro j (e | e | e | e)
      · exact .inl e
      · exact .inr (by rw [e, hsz]; exact Nat.le_refl _)
      · cases e
      · cases e
    · show ((0 : Nat) : Int) ≤ max mo 1
      omega
    · have := B1.out.size; omega
    · have := B1.out.size
      simp
      omega
  have B2 : Hid (Below w.heap.size w ((w1.alloc (.cells #[.int .i64 mo, .map none, .pointer none, .pointer none] 66)).alloc (.cells #[.int .i64 mo, .slice none 0 0, .slice none 0 0] 29))) := (B1.out.alloc B1.out.size _).alloc (by rw [hsz]; have := B1.out.size; omega) _
  clear hsz
  obtain ⟨q, hq⟩ : ∃ q : Nat → Int, q = fun i => (wrap64 (IntKind.u16.wrap ((f i).tdiv 10))).tmod 12 := ⟨_, rfl⟩
  have HQ : Hid (∀ i, (wrap64 (IntKind.u16.wrap ((f i).tdiv 10))).tmod 12 = q i ∧ 0 ≤ q i ∧ q i < 12) := by
    intro i
    have := q_any (f i) (hf.out i).1 (hf.out i).2
    rw [hq]
    exact ⟨rfl, this.1, this.2⟩
  have fit : ∀ i, fits (q i) := fun i => WalkArith.wf_i64 (by have := HQ.out i; omega)
  clear hq
  go_wp2_with fail
  go_loopw [7] (fun vi wr => ∃ (i : Nat) (T : List Pr) (ka : Option Addr) (kc : Nat) (va : Option Addr) (vc : Nat), i ≤ n ∧ vi = .int .i64 i ∧ Hid (Al wr w.heap.size w1.heap.size (w1.heap.size + 1) mo T ka kc va vc ∧ T.length ≤ i ∧ Below w.heap.size w wr)) (fun vi _ => n - (intOf vi).toNat)
  case atStart => exact ⟨0, [], none, 0, none, 0, by omega, rfl, A0.out, by simp, B2.out⟩
  case round =>
    obtain ⟨i, T, ka, kc, va, vc, hi, rfl, H⟩ := hrel
    obtain ⟨w4, h4⟩ : ∃ w4, w4 = wr := ⟨wr, rfl⟩
    subst h4
    by_cases hlt : i < n
    · have hltz : (i : Int) < (n : Int) := by omega
      obtain ⟨b1, o1, rfl, hb, hc1⟩ := (hl.out.below H.out.2.2) i hlt
      have hd1 : w4.cell? ⟨b1, o1 + i, none⟩ = some (.int .u16 (f i)) := hc1
      have hfi := hf.out i
      clear hc1
      have hTl : Hid (T.length < 20000) := by have := H.out.2.1; show _ < _; omega
      by_cases hx5 : f i % 10 < 5
      · go_wp2_with fail
        rw [(HQ.out i).1]
        refine (iput H.out.1.ch (fit i) H.out.1.hX (by rw [sw_length]; have := H.out.2.1; omega) (by rw [sw_length]; exact H.out.1.len) (i : Int)).mono ?_
        rintro e w3 ⟨rfl, C3⟩
        have C3' : Hid (Ch w3 w1.heap.size 2 mo (sw (tS mo T (q i) i)) (Xa w.heap.size (w1.heap.size + 1) ka va) ∧ Mv (fun j => ¬ Xa w.heap.size (w1.heap.size + 1) ka va j) w4 w3) := by
          have := C3.out
          rw [show (fun _ : Nat => Value.int .i64 (i : Int)) = iv i from rfl, sw_pS] at this
          exact this
        rw [show (fun _ : Nat => Value.int .i64 (i : Int)) = iv i from rfl, sw_pG, sw_pOk]
        clear C3
        go_wp2_with fail
        refine (rput w3 (w1.heap.size + 1) mo T ka kc va vc (H.out.1.rfAt C3'.out.1 C3'.out.2) hTl.out H.out.1.nodup (q i) i).mono ?_
        rintro e w5 ⟨rfl, ka5, kc5, va5, vc5, L5⟩
        obtain ⟨T5, hT5⟩ : ∃ T5, T5 = tS mo T (q i) i := ⟨_, rfl⟩
        have hlen : Hid ((T5.length : Int) ≤ max mo 1 ∧ T5.length ≤ i + 1) := by
          have h1 := pS_length H.out.1.ch.nodup (mo := mo) (k := q i) (by rw [sw_length]; exact H.out.1.len) (iv i)
          rw [sw_pS, sw_length, sw_length, ← hT5] at h1
          have := H.out.2.1
          exact ⟨h1.1, by omega⟩
        rw [← hT5] at C3' L5
        have AM : Hid _ := H.out.1.step C3'.out.1 C3'.out.2 L5.out hlen.out.1
        have AL5 : Hid (Al w5 w.heap.size w1.heap.size (w1.heap.size + 1) mo T5 ka5 kc5 va5 vc5) := AM.out.1
        have B5 : Hid (Below w.heap.size w w5) := al_end rfl H.out.2.2 AM.out.2
        have LN5 := hlen.out.2
        clear C3' L5 AM hT5 hlen
        generalize tG mo T (q i) i = G
        generalize tOk mo T (q i) = bO
        have hGG : (G != G) = false := by simp
        have hbb : (bO != bO) = false := by simp
        cases bO
        · go_wp2_with fail
          have HT5 : Hid (T5.length ≤ i + 1) := LN5
          clear LN5
          refine (ikeys AL5.out.ch (by rw [sw_length]; have := HT5.out; omega)).mono ?_
          rintro e w6 ⟨a6, cap6, rfl, O6⟩
          rw [sw_length, sw_kof] at O6
          rw [sw_length]
          obtain ⟨m, hm⟩ : ∃ m, m = T5.length := ⟨_, rfl⟩
          have HM : Hid _ := hm
          clear hm
          have AL6 : Hid (Al w6 w.heap.size w1.heap.size (w1.heap.size + 1) mo T5 ka5 kc5 va5 vc5) := AL5.out.past O6.out.2
          have c6 : w6.cell? ⟨w1.heap.size + 1, 1, none⟩ = some (.slice ka5 m kc5) := by rw [HM.out]; exact AL6.out.rf.c1
          have s6 : Hid (Sl w6 a6 m (In (kT T5))) := by rw [HM.out]; exact (own_sl O6.out.1).1
          have t6 : Hid (Sl w6 ka5 m (In (kT T5))) := by rw [HM.out]; exact AL6.out.rf.sk
          have hm81 : m ≤ 81 := by have := HT5.out; have := HM.out; omega
          rw [← HM.out] at O6 ⊢
          go_wp2_with fail
          refine (same_true a6 ka5 m cap6 kc5 _ w6 (by omega) s6 t6).mono ?_
          rintro e w7 ⟨rfl, M7⟩
          have S7 : Hid (Some w7 w5.heap.size a6 m cap6) := ⟨_, O6.out.1.mv M7.out (fun _ _ h => h)⟩
          have B7 : Hid (Below w5.heap.size w5 w7) := O6.out.2.trans (M7.out.below O6.out.2.size (fun _ _ h => h))
          clear c6 s6 t6 O6 M7 AL6
          go_wp2_with fail
          go_loopw [19] (fun vt wr => ∃ t : Nat, t ≤ m ∧ vt = .int .i64 t ∧ Hid (Some wr w5.heap.size a6 m cap6) ∧ Hid (Below w5.heap.size w5 wr)) (fun vt _ => m - (intOf vt).toNat)
          case atStart => exact ⟨0, by omega, rfl, S7, B7⟩
          case round =>
            obtain ⟨t, ht, rfl, S8, B8⟩ := hrel
            by_cases htm : t < m
            · have htz : (t : Int) < (m : Int) := by omega
              obtain ⟨g, v, rfl, x1, x2, x3, x4⟩ := S8.out.at htm
              have S9 : Hid _ := x4 (.int .i64 (-9))
              have B9 : Hid (Below w5.heap.size w5 (wr.setCell ⟨g, t, none⟩ (.int .i64 (-9)))) := below_mv B8.out (Mv.setCell _ _ _) (Nat.le_refl _) (fun j hj e => by
                have e' : j = g := e
                omega)
              clear x4
              go_wp2_with fail
              exact ⟨⟨t + 1, by omega, by go_num, S9, B9⟩, by simp [intOf]; omega⟩
            · obtain rfl : t = m := by omega
              have AL9 : Hid (Al wr w.heap.size w1.heap.size (w1.heap.size + 1) mo T5 ka5 kc5 va5 vc5) := AL5.out.past B8.out
              have B10 : Hid (Below w.heap.size w wr) := B5.out.trans (B8.out.mono B5.out.size)
              go_wp2_with fail
              exact ⟨⟨i + 1, T5, ka5, kc5, va5, vc5, by omega, by go_num, AL9.out, HT5.out, B10.out⟩, by simp [intOf]; omega⟩
        · go_wp2_with fail
          have HT5 : Hid (T5.length ≤ i + 1) := LN5
          clear LN5
          refine (ikeys AL5.out.ch (by rw [sw_length]; have := HT5.out; omega)).mono ?_
          rintro e w6 ⟨a6, cap6, rfl, O6⟩
          rw [sw_length, sw_kof] at O6
          rw [sw_length]
          obtain ⟨m, hm⟩ : ∃ m, m = T5.length := ⟨_, rfl⟩
          have HM : Hid _ := hm
          clear hm
          have AL6 : Hid (Al w6 w.heap.size w1.heap.size (w1.heap.size + 1) mo T5 ka5 kc5 va5 vc5) := AL5.out.past O6.out.2
          have c6 : w6.cell? ⟨w1.heap.size + 1, 1, none⟩ = some (.slice ka5 m kc5) := by rw [HM.out]; exact AL6.out.rf.c1
          have s6 : Hid (Sl w6 a6 m (In (kT T5))) := by rw [HM.out]; exact (own_sl O6.out.1).1
          have t6 : Hid (Sl w6 ka5 m (In (kT T5))) := by rw [HM.out]; exact AL6.out.rf.sk
          have hm81 : m ≤ 81 := by have := HT5.out; have := HM.out; omega
          rw [← HM.out] at O6 ⊢
          go_wp2_with fail
          refine (same_true a6 ka5 m cap6 kc5 _ w6 (by omega) s6 t6).mono ?_
          rintro e w7 ⟨rfl, M7⟩
          have S7 : Hid (Some w7 w5.heap.size a6 m cap6) := ⟨_, O6.out.1.mv M7.out (fun _ _ h => h)⟩
          have B7 : Hid (Below w5.heap.size w5 w7) := O6.out.2.trans (M7.out.below O6.out.2.size (fun _ _ h => h))
          clear c6 s6 t6 O6 M7 AL6
          go_wp2_with fail
          go_loopw [19] (fun vt wr => ∃ t : Nat, t ≤ m ∧ vt = .int .i64 t ∧ Hid (Some wr w5.heap.size a6 m cap6) ∧ Hid (Below w5.heap.size w5 wr)) (fun vt _ => m - (intOf vt).toNat)
          case atStart => exact ⟨0, by omega, rfl, S7, B7⟩
          case round =>
            obtain ⟨t, ht, rfl, S8, B8⟩ := hrel
            by_cases htm : t < m
            · have htz : (t : Int) < (m : Int) := by omega
              obtain ⟨g, v, rfl, x1, x2, x3, x4⟩ := S8.out.at htm
              have S9 : Hid _ := x4 (.int .i64 (-9))
              have B9 : Hid (Below w5.heap.size w5 (wr.setCell ⟨g, t, none⟩ (.int .i64 (-9)))) := below_mv B8.out (Mv.setCell _ _ _) (Nat.le_refl _) (fun j hj e => by
                have e' : j = g := e
                omega)
              clear x4
              go_wp2_with fail
              exact ⟨⟨t + 1, by omega, by go_num, S9, B9⟩, by simp [intOf]; omega⟩
            · obtain rfl : t = m := by omega
              have AL9 : Hid (Al wr w.heap.size w1.heap.size (w1.heap.size + 1) mo T5 ka5 kc5 va5 vc5) := AL5.out.past B8.out
              have B10 : Hid (Below w.heap.size w wr) := B5.out.trans (B8.out.mono B5.out.size)
              go_wp2_with fail
              exact ⟨⟨i + 1, T5, ka5, kc5, va5, vc5, by omega, by go_num, AL9.out, HT5.out, B10.out⟩, by simp [intOf]; omega⟩
      · by_cases hx8 : f i % 10 < 8
        · have hx5' : 5 ≤ f i % 10 := by omega
          go_wp2_with fail
          rw [(HQ.out i).1]
          by_cases hk : q i ∈ T.map Prod.fst
          · obtain ⟨s, hs, ek⟩ := mem_keys.1 hk
            have FD := sw_some H.out.1.nodup hs
            have TD := tdel_length H.out.1.nodup hs
            rw [ek] at FD TD
            have hTD : Hid _ := TD
            have hFD : Hid _ := FD
            have hEK : Hid _ := ek
            have hHS : Hid _ := hs
            clear FD TD ek hs hk
            refine (iget_some H.out.1.ch (fit i) hFD.out).mono ?_
            rintro e w3 ⟨rfl, C3⟩
            have C3' : Hid (Ch w3 w1.heap.size 2 mo (sw ((q i, vT T s) :: tdel T (q i))) (Xa w.heap.size (w1.heap.size + 1) ka va) ∧ Mv (fun j => ¬ Xa w.heap.size (w1.heap.size + 1) ka va j) w4 w3) := by
              have := C3.out
              rw [sw_sdel, ← sw_cons] at this
              exact this
            clear C3
            have G := rget_some w3 (w1.heap.size + 1) mo T ka kc va vc (H.out.1.rfAt C3'.out.1 C3'.out.2) hTl.out H.out.1.nodup H.out.1.len s hHS.out
            rw [hEK.out] at G
            rw [show (q i, iv (vT T s)).2 0 = Value.int .i64 (vT T s) from rfl]
            generalize vT T s = V at G C3'
            go_wp2_with fail
            refine G.mono ?_
            rintro e w5 ⟨rfl, ka5, kc5, va5, vc5, L5⟩
            obtain ⟨T5, hT5⟩ : ∃ T5, T5 = (q i, V) :: tdel T (q i) := ⟨_, rfl⟩
            have hlen : Hid ((T5.length : Int) ≤ max mo 1 ∧ T5.length ≤ i + 1) := by
              have h1 := H.out.1.len
              have h2 := hTD.out
              have h3 := H.out.2.1
              rw [hT5, List.length_cons]
              exact ⟨by omega, by omega⟩
            rw [← hT5] at C3' L5
            have AM : Hid _ := H.out.1.step C3'.out.1 C3'.out.2 L5.out hlen.out.1
            have AL5 : Hid (Al w5 w.heap.size w1.heap.size (w1.heap.size + 1) mo T5 ka5 kc5 va5 vc5) := AM.out.1
            have B5 : Hid (Below w.heap.size w w5) := al_end rfl H.out.2.2 AM.out.2
            have LN5 := hlen.out.2
            clear C3' L5 AM hT5 hlen G hFD hTD hEK
            have hGG : (V != V) = false := by simp
            go_wp2_with fail
            have HT5 : Hid (T5.length ≤ i + 1) := LN5
            clear LN5
            refine (ikeys AL5.out.ch (by rw [sw_length]; have := HT5.out; omega)).mono ?_
            rintro e w6 ⟨a6, cap6, rfl, O6⟩
            rw [sw_length, sw_kof] at O6
            rw [sw_length]
            obtain ⟨m, hm⟩ : ∃ m, m = T5.length := ⟨_, rfl⟩
            have HM : Hid _ := hm
            clear hm
            have AL6 : Hid (Al w6 w.heap.size w1.heap.size (w1.heap.size + 1) mo T5 ka5 kc5 va5 vc5) := AL5.out.past O6.out.2
            have c6 : w6.cell? ⟨w1.heap.size + 1, 1, none⟩ = some (.slice ka5 m kc5) := by rw [HM.out]; exact AL6.out.rf.c1
            have s6 : Hid (Sl w6 a6 m (In (kT T5))) := by rw [HM.out]; exact (own_sl O6.out.1).1
            have t6 : Hid (Sl w6 ka5 m (In (kT T5))) := by rw [HM.out]; exact AL6.out.rf.sk
            have hm81 : m ≤ 81 := by have := HT5.out; have := HM.out; omega
            rw [← HM.out] at O6 ⊢
            go_wp2_with fail
            refine (same_true a6 ka5 m cap6 kc5 _ w6 (by omega) s6 t6).mono ?_
            rintro e w7 ⟨rfl, M7⟩
            have S7 : Hid (Some w7 w5.heap.size a6 m cap6) := ⟨_, O6.out.1.mv M7.out (fun _ _ h => h)⟩
            have B7 : Hid (Below w5.heap.size w5 w7) := O6.out.2.trans (M7.out.below O6.out.2.size (fun _ _ h => h))
            clear c6 s6 t6 O6 M7 AL6
            go_wp2_with fail
            go_loopw [19] (fun vt wr => ∃ t : Nat, t ≤ m ∧ vt = .int .i64 t ∧ Hid (Some wr w5.heap.size a6 m cap6) ∧ Hid (Below w5.heap.size w5 wr)) (fun vt _ => m - (intOf vt).toNat)
            case atStart => exact ⟨0, by omega, rfl, S7, B7⟩
            case round =>
              obtain ⟨t, ht, rfl, S8, B8⟩ := hrel
              by_cases htm : t < m
              · have htz : (t : Int) < (m : Int) := by omega
                obtain ⟨g, v, rfl, x1, x2, x3, x4⟩ := S8.out.at htm
                have S9 : Hid _ := x4 (.int .i64 (-9))
                have B9 : Hid (Below w5.heap.size w5 (wr.setCell ⟨g, t, none⟩ (.int .i64 (-9)))) := below_mv B8.out (Mv.setCell _ _ _) (Nat.le_refl _) (fun j hj e => by
                  have e' : j = g := e
                  omega)
                clear x4
                go_wp2_with fail
                exact ⟨⟨t + 1, by omega, by go_num, S9, B9⟩, by simp [intOf]; omega⟩
              · obtain rfl : t = m := by omega
                have AL9 : Hid (Al wr w.heap.size w1.heap.size (w1.heap.size + 1) mo T5 ka5 kc5 va5 vc5) := AL5.out.past B8.out
                have B10 : Hid (Below w.heap.size w wr) := B5.out.trans (B8.out.mono B5.out.size)
                go_wp2_with fail
                exact ⟨⟨i + 1, T5, ka5, kc5, va5, vc5, by omega, by go_num, AL9.out, HT5.out, B10.out⟩, by simp [intOf]; omega⟩
          · have hKN : Hid _ := hk
            clear hk
            refine (iget_none H.out.1.ch (fit i) (sw_none.2 hKN.out)).mono ?_
            rintro e w3 ⟨rfl, hw⟩
            obtain rfl := hw.symm
            clear hw
            go_wp2_with fail
            refine (rget_none w4 (w1.heap.size + 1) mo T ka kc va vc H.out.1.rf hTl.out (q i) hKN.out).mono ?_
            rintro e w5 ⟨rfl, hw⟩
            obtain ⟨T5, rfl⟩ : ∃ T5, T5 = T := ⟨_, rfl⟩
            obtain ⟨ka5, rfl⟩ : ∃ ka5, ka5 = ka := ⟨_, rfl⟩
            obtain ⟨kc5, rfl⟩ : ∃ kc5, kc5 = kc := ⟨_, rfl⟩
            obtain ⟨va5, rfl⟩ : ∃ va5, va5 = va := ⟨_, rfl⟩
            obtain ⟨vc5, rfl⟩ : ∃ vc5, vc5 = vc := ⟨_, rfl⟩
            subst hw
            have AL5 : Hid (Al w5 w.heap.size w1.heap.size (w1.heap.size + 1) mo T5 ka5 kc5 va5 vc5) := H.out.1
            have B5 : Hid (Below w.heap.size w w5) := H.out.2.2
            have LN5 : T5.length ≤ i + 1 := by have := H.out.2.1; omega
            go_wp2_with fail
            have HT5 : Hid (T5.length ≤ i + 1) := LN5
            clear LN5
            refine (ikeys AL5.out.ch (by rw [sw_length]; have := HT5.out; omega)).mono ?_
            rintro e w6 ⟨a6, cap6, rfl, O6⟩
            rw [sw_length, sw_kof] at O6
            rw [sw_length]
            obtain ⟨m, hm⟩ : ∃ m, m = T5.length := ⟨_, rfl⟩
            have HM : Hid _ := hm
            clear hm
            have AL6 : Hid (Al w6 w.heap.size w1.heap.size (w1.heap.size + 1) mo T5 ka5 kc5 va5 vc5) := AL5.out.past O6.out.2
            have c6 : w6.cell? ⟨w1.heap.size + 1, 1, none⟩ = some (.slice ka5 m kc5) := by rw [HM.out]; exact AL6.out.rf.c1
            have s6 : Hid (Sl w6 a6 m (In (kT T5))) := by rw [HM.out]; exact (own_sl O6.out.1).1
            have t6 : Hid (Sl w6 ka5 m (In (kT T5))) := by rw [HM.out]; exact AL6.out.rf.sk
            have hm81 : m ≤ 81 := by have := HT5.out; have := HM.out; omega
            rw [← HM.out] at O6 ⊢
            go_wp2_with fail
            refine (same_true a6 ka5 m cap6 kc5 _ w6 (by omega) s6 t6).mono ?_
            rintro e w7 ⟨rfl, M7⟩
            have S7 : Hid (Some w7 w5.heap.size a6 m cap6) := ⟨_, O6.out.1.mv M7.out (fun _ _ h => h)⟩
            have B7 : Hid (Below w5.heap.size w5 w7) := O6.out.2.trans (M7.out.below O6.out.2.size (fun _ _ h => h))
            clear c6 s6 t6 O6 M7 AL6
            go_wp2_with fail
            go_loopw [19] (fun vt wr => ∃ t : Nat, t ≤ m ∧ vt = .int .i64 t ∧ Hid (Some wr w5.heap.size a6 m cap6) ∧ Hid (Below w5.heap.size w5 wr)) (fun vt _ => m - (intOf vt).toNat)
            case atStart => exact ⟨0, by omega, rfl, S7, B7⟩
            case round =>
              obtain ⟨t, ht, rfl, S8, B8⟩ := hrel
              by_cases htm : t < m
              · have htz : (t : Int) < (m : Int) := by omega
                obtain ⟨g, v, rfl, x1, x2, x3, x4⟩ := S8.out.at htm
                have S9 : Hid _ := x4 (.int .i64 (-9))
                have B9 : Hid (Below w5.heap.size w5 (wr.setCell ⟨g, t, none⟩ (.int .i64 (-9)))) := below_mv B8.out (Mv.setCell _ _ _) (Nat.le_refl _) (fun j hj e => by
                  have e' : j = g := e
                  omega)
                clear x4
                go_wp2_with fail
                exact ⟨⟨t + 1, by omega, by go_num, S9, B9⟩, by simp [intOf]; omega⟩
              · obtain rfl : t = m := by omega
                have AL9 : Hid (Al wr w.heap.size w1.heap.size (w1.heap.size + 1) mo T5 ka5 kc5 va5 vc5) := AL5.out.past B8.out
                have B10 : Hid (Below w.heap.size w wr) := B5.out.trans (B8.out.mono B5.out.size)
                go_wp2_with fail
                exact ⟨⟨i + 1, T5, ka5, kc5, va5, vc5, by omega, by go_num, AL9.out, HT5.out, B10.out⟩, by simp [intOf]; omega⟩
        · have hx8' : 8 ≤ f i % 10 := by omega
          by_cases hx9 : f i % 10 = 8
          · have hx8b : (f i % 10 == 8) = true := by rw [hx9]; rfl
            have hx5b : decide (f i % 10 < 5) = false := decide_eq_false (by omega)
            have hx8c : decide (f i % 10 < 8) = false := decide_eq_false (by omega)
            have HX9 : Hid _ := hx9
            clear hx9
            go_wp2_with fail
            rw [(HQ.out i).1]
            by_cases hk : q i ∈ T.map Prod.fst
            · obtain ⟨s, hs, ek⟩ := mem_keys.1 hk
              have FD := sw_some H.out.1.nodup hs
              rw [ek] at FD
              have hFD : Hid _ := FD
              have hdk : decide (q i ∈ T.map Prod.fst) = true := decide_eq_true hk
              clear FD ek hs hk
              refine (idrop_some H.out.1.ch (fit i) hFD.out).mono ?_
              rintro e w3 ⟨rfl, C3⟩
              have C3' : Hid (Ch w3 w1.heap.size 2 mo (sw (tdel T (q i))) (Xa w.heap.size (w1.heap.size + 1) ka va) ∧ Mv (fun j => ¬ Xa w.heap.size (w1.heap.size + 1) ka va j) w4 w3) := by
                have := C3.out
                rw [sw_sdel] at this
                exact this
              clear C3
              go_wp2_with fail
              refine (rdrop w3 (w1.heap.size + 1) mo T ka kc va vc (H.out.1.rfAt C3'.out.1 C3'.out.2) (by have := hTl.out; omega) H.out.1.nodup (q i)).mono ?_
              rintro e w5 ⟨rfl, ka5, kc5, va5, vc5, L5⟩
              rw [hdk]
              obtain ⟨T5, hT5⟩ : ∃ T5, T5 = tdel T (q i) := ⟨_, rfl⟩
              have hlen : Hid ((T5.length : Int) ≤ max mo 1 ∧ T5.length ≤ i + 1) := by
                have h1 := H.out.1.len
                have h2 : (tdel T (q i)).length ≤ T.length := List.length_filter_le _ _
                have h3 := H.out.2.1
                rw [hT5]
                exact ⟨by omega, by omega⟩
              rw [← hT5] at C3' L5
              have AM : Hid _ := H.out.1.step C3'.out.1 C3'.out.2 L5.out hlen.out.1
              have AL5 : Hid (Al w5 w.heap.size w1.heap.size (w1.heap.size + 1) mo T5 ka5 kc5 va5 vc5) := AM.out.1
              have B5 : Hid (Below w.heap.size w w5) := al_end rfl H.out.2.2 AM.out.2
              have LN5 := hlen.out.2
              clear C3' L5 AM hT5 hlen hFD hdk
              go_wp2_with fail
              have HT5 : Hid (T5.length ≤ i + 1) := LN5
              clear LN5
              refine (ikeys AL5.out.ch (by rw [sw_length]; have := HT5.out; omega)).mono ?_
              rintro e w6 ⟨a6, cap6, rfl, O6⟩
              rw [sw_length, sw_kof] at O6
              rw [sw_length]
              obtain ⟨m, hm⟩ : ∃ m, m = T5.length := ⟨_, rfl⟩
              have HM : Hid _ := hm
              clear hm
              have AL6 : Hid (Al w6 w.heap.size w1.heap.size (w1.heap.size + 1) mo T5 ka5 kc5 va5 vc5) := AL5.out.past O6.out.2
              have c6 : w6.cell? ⟨w1.heap.size + 1, 1, none⟩ = some (.slice ka5 m kc5) := by rw [HM.out]; exact AL6.out.rf.c1
              have s6 : Hid (Sl w6 a6 m (In (kT T5))) := by rw [HM.out]; exact (own_sl O6.out.1).1
              have t6 : Hid (Sl w6 ka5 m (In (kT T5))) := by rw [HM.out]; exact AL6.out.rf.sk
              have hm81 : m ≤ 81 := by have := HT5.out; have := HM.out; omega
              rw [← HM.out] at O6 ⊢
              go_wp2_with fail
              refine (same_true a6 ka5 m cap6 kc5 _ w6 (by omega) s6 t6).mono ?_
              rintro e w7 ⟨rfl, M7⟩
              have S7 : Hid (Some w7 w5.heap.size a6 m cap6) := ⟨_, O6.out.1.mv M7.out (fun _ _ h => h)⟩
              have B7 : Hid (Below w5.heap.size w5 w7) := O6.out.2.trans (M7.out.below O6.out.2.size (fun _ _ h => h))
              clear c6 s6 t6 O6 M7 AL6
              go_wp2_with fail
              go_loopw [19] (fun vt wr => ∃ t : Nat, t ≤ m ∧ vt = .int .i64 t ∧ Hid (Some wr w5.heap.size a6 m cap6) ∧ Hid (Below w5.heap.size w5 wr)) (fun vt _ => m - (intOf vt).toNat)
              case atStart => exact ⟨0, by omega, rfl, S7, B7⟩
              case round =>
                obtain ⟨t, ht, rfl, S8, B8⟩ := hrel
                by_cases htm : t < m
                · have htz : (t : Int) < (m : Int) := by omega
                  obtain ⟨g, v, rfl, x1, x2, x3, x4⟩ := S8.out.at htm
                  have S9 : Hid _ := x4 (.int .i64 (-9))
                  have B9 : Hid (Below w5.heap.size w5 (wr.setCell ⟨g, t, none⟩ (.int .i64 (-9)))) := below_mv B8.out (Mv.setCell _ _ _) (Nat.le_refl _) (fun j hj e => by
                    have e' : j = g := e
                    omega)
                  clear x4
                  go_wp2_with fail
                  exact ⟨⟨t + 1, by omega, by go_num, S9, B9⟩, by simp [intOf]; omega⟩
                · obtain rfl : t = m := by omega
                  have AL9 : Hid (Al wr w.heap.size w1.heap.size (w1.heap.size + 1) mo T5 ka5 kc5 va5 vc5) := AL5.out.past B8.out
                  have B10 : Hid (Below w.heap.size w wr) := B5.out.trans (B8.out.mono B5.out.size)
                  go_wp2_with fail
                  exact ⟨⟨i + 1, T5, ka5, kc5, va5, vc5, by omega, by go_num, AL9.out, HT5.out, B10.out⟩, by simp [intOf]; omega⟩
            · have hKN : Hid _ := hk
              have hdk : decide (q i ∈ T.map Prod.fst) = false := decide_eq_false hk
              clear hk
              refine (idrop_none H.out.1.ch (fit i) (sw_none.2 hKN.out)).mono ?_
              rintro e w3 ⟨rfl, hw⟩
              obtain rfl := hw.symm
              clear hw
              go_wp2_with fail
              refine (rdrop w4 (w1.heap.size + 1) mo T ka kc va vc H.out.1.rf (by have := hTl.out; omega) H.out.1.nodup (q i)).mono ?_
              rintro e w5 ⟨rfl, ka5, kc5, va5, vc5, L5⟩
              rw [hdk]
              have hTD : tdel T (q i) = T := tdel_none (fun j hj e => hKN.out (mem_keys.2 ⟨j, hj, e⟩))
              rw [hTD] at L5
              obtain ⟨T5, hT5⟩ : ∃ T5, T5 = T := ⟨_, rfl⟩
              have AM : Hid _ := H.out.1.step H.out.1.ch (Mv.refl _ _) L5.out H.out.1.len
              rw [← hT5] at AM
              have AL5 : Hid (Al w5 w.heap.size w1.heap.size (w1.heap.size + 1) mo T5 ka5 kc5 va5 vc5) := AM.out.1
              have B5 : Hid (Below w.heap.size w w5) := al_end rfl H.out.2.2 AM.out.2
              have LN5 : T5.length ≤ i + 1 := by rw [hT5]; have := H.out.2.1; omega
              clear L5 AM hT5 hTD hdk
              go_wp2_with fail
              have HT5 : Hid (T5.length ≤ i + 1) := LN5
              clear LN5
              refine (ikeys AL5.out.ch (by rw [sw_length]; have := HT5.out; omega)).mono ?_
              rintro e w6 ⟨a6, cap6, rfl, O6⟩
              rw [sw_length, sw_kof] at O6
              rw [sw_length]
              obtain ⟨m, hm⟩ : ∃ m, m = T5.length := ⟨_, rfl⟩
              have HM : Hid _ := hm
              clear hm
              have AL6 : Hid (Al w6 w.heap.size w1.heap.size (w1.heap.size + 1) mo T5 ka5 kc5 va5 vc5) := AL5.out.past O6.out.2
              have c6 : w6.cell? ⟨w1.heap.size + 1, 1, none⟩ = some (.slice ka5 m kc5) := by rw [HM.out]; exact AL6.out.rf.c1
              have s6 : Hid (Sl w6 a6 m (In (kT T5))) := by rw [HM.out]; exact (own_sl O6.out.1).1
              have t6 : Hid (Sl w6 ka5 m (In (kT T5))) := by rw [HM.out]; exact AL6.out.rf.sk
              have hm81 : m ≤ 81 := by have := HT5.out; have := HM.out; omega
              rw [← HM.out] at O6 ⊢
              go_wp2_with fail
              refine (same_true a6 ka5 m cap6 kc5 _ w6 (by omega) s6 t6).mono ?_
              rintro e w7 ⟨rfl, M7⟩
              have S7 : Hid (Some w7 w5.heap.size a6 m cap6) := ⟨_, O6.out.1.mv M7.out (fun _ _ h => h)⟩
              have B7 : Hid (Below w5.heap.size w5 w7) := O6.out.2.trans (M7.out.below O6.out.2.size (fun _ _ h => h))
              clear c6 s6 t6 O6 M7 AL6
              go_wp2_with fail
              go_loopw [19] (fun vt wr => ∃ t : Nat, t ≤ m ∧ vt = .int .i64 t ∧ Hid (Some wr w5.heap.size a6 m cap6) ∧ Hid (Below w5.heap.size w5 wr)) (fun vt _ => m - (intOf vt).toNat)
              case atStart => exact ⟨0, by omega, rfl, S7, B7⟩
              case round =>
                obtain ⟨t, ht, rfl, S8, B8⟩ := hrel
                by_cases htm : t < m
                · have htz : (t : Int) < (m : Int) := by omega
                  obtain ⟨g, v, rfl, x1, x2, x3, x4⟩ := S8.out.at htm
                  have S9 : Hid _ := x4 (.int .i64 (-9))
                  have B9 : Hid (Below w5.heap.size w5 (wr.setCell ⟨g, t, none⟩ (.int .i64 (-9)))) := below_mv B8.out (Mv.setCell _ _ _) (Nat.le_refl _) (fun j hj e => by
                    have e' : j = g := e
                    omega)
                  clear x4
                  go_wp2_with fail
                  exact ⟨⟨t + 1, by omega, by go_num, S9, B9⟩, by simp [intOf]; omega⟩
                · obtain rfl : t = m := by omega
                  have AL9 : Hid (Al wr w.heap.size w1.heap.size (w1.heap.size + 1) mo T5 ka5 kc5 va5 vc5) := AL5.out.past B8.out
                  have B10 : Hid (Below w.heap.size w wr) := B5.out.trans (B8.out.mono B5.out.size)
                  go_wp2_with fail
                  exact ⟨⟨i + 1, T5, ka5, kc5, va5, vc5, by omega, by go_num, AL9.out, HT5.out, B10.out⟩, by simp [intOf]; omega⟩
          · have hx8b : (f i % 10 == 8) = false := by rw [beq_eq_false_iff_ne]; exact hx9
            have HX9 : Hid _ := hx9
            clear hx9
            go_wp2_with fail
            refine (iclear H.out.1.ch).mono ?_
            rintro e w3 ⟨rfl, C3⟩
            have R3 := H.out.1.rfAt C3.out.1 C3.out.2
            have q1 := R3.c1
            have q2 := R3.c2
            have q3 := R3.z1
            have q4 := R3.z2
            have L5 : Hid _ := R3.empty
            clear R3
            obtain ⟨T5, hT5⟩ : ∃ T5 : List Pr, T5 = [] := ⟨_, rfl⟩
            obtain ⟨ka5, hka5⟩ : ∃ ka5 : Option Addr, ka5 = none := ⟨_, rfl⟩
            obtain ⟨kc5, hkc5⟩ : ∃ kc5 : Nat, kc5 = 0 := ⟨_, rfl⟩
            obtain ⟨va5, hva5⟩ : ∃ va5 : Option Addr, va5 = none := ⟨_, rfl⟩
            obtain ⟨vc5, hvc5⟩ : ∃ vc5 : Nat, vc5 = 0 := ⟨_, rfl⟩
            have AM : Hid _ := H.out.1.step (T' := []) C3.out.1 C3.out.2 L5.out (by show ((0 : Nat) : Int) ≤ max mo 1; omega)
            go_wp2_with fail
            obtain ⟨w5, hw5⟩ : ∃ w5, w5 = (w3.setCell ⟨w1.heap.size + 1, 1, none⟩ (.slice none 0 0)).setCell ⟨w1.heap.size + 1, 2, none⟩ (.slice none 0 0) := ⟨_, rfl⟩
            rw [← hw5] at AM ⊢
            have AL5 : Hid (Al w5 w.heap.size w1.heap.size (w1.heap.size + 1) mo T5 ka5 kc5 va5 vc5) := by
              rw [hT5, hka5, hkc5, hva5, hvc5]; exact AM.out.1
            have B5 : Hid (Below w.heap.size w w5) := al_end rfl H.out.2.2 AM.out.2
            have LN5 : T5.length ≤ i + 1 := by rw [hT5]; simp
            clear q1 q2 q3 q4 L5 AM hT5 hka5 hkc5 hva5 hvc5 hw5 C3
            have HT5 : Hid (T5.length ≤ i + 1) := LN5
            clear LN5
            refine (ikeys AL5.out.ch (by rw [sw_length]; have := HT5.out; omega)).mono ?_
            rintro e w6 ⟨a6, cap6, rfl, O6⟩
            rw [sw_length, sw_kof] at O6
            rw [sw_length]
            obtain ⟨m, hm⟩ : ∃ m, m = T5.length := ⟨_, rfl⟩
            have HM : Hid _ := hm
            clear hm
            have AL6 : Hid (Al w6 w.heap.size w1.heap.size (w1.heap.size + 1) mo T5 ka5 kc5 va5 vc5) := AL5.out.past O6.out.2
            have c6 : w6.cell? ⟨w1.heap.size + 1, 1, none⟩ = some (.slice ka5 m kc5) := by rw [HM.out]; exact AL6.out.rf.c1
            have s6 : Hid (Sl w6 a6 m (In (kT T5))) := by rw [HM.out]; exact (own_sl O6.out.1).1
            have t6 : Hid (Sl w6 ka5 m (In (kT T5))) := by rw [HM.out]; exact AL6.out.rf.sk
            have hm81 : m ≤ 81 := by have := HT5.out; have := HM.out; omega
            rw [← HM.out] at O6 ⊢
            go_wp2_with fail
            refine (same_true a6 ka5 m cap6 kc5 _ w6 (by omega) s6 t6).mono ?_
            rintro e w7 ⟨rfl, M7⟩
            have S7 : Hid (Some w7 w5.heap.size a6 m cap6) := ⟨_, O6.out.1.mv M7.out (fun _ _ h => h)⟩
            have B7 : Hid (Below w5.heap.size w5 w7) := O6.out.2.trans (M7.out.below O6.out.2.size (fun _ _ h => h))
            clear c6 s6 t6 O6 M7 AL6
            go_wp2_with fail
            go_loopw [19] (fun vt wr => ∃ t : Nat, t ≤ m ∧ vt = .int .i64 t ∧ Hid (Some wr w5.heap.size a6 m cap6) ∧ Hid (Below w5.heap.size w5 wr)) (fun vt _ => m - (intOf vt).toNat)
            case atStart => exact ⟨0, by omega, rfl, S7, B7⟩
            case round =>
              obtain ⟨t, ht, rfl, S8, B8⟩ := hrel
              by_cases htm : t < m
              · have htz : (t : Int) < (m : Int) := by omega
                obtain ⟨g, v, rfl, x1, x2, x3, x4⟩ := S8.out.at htm
                have S9 : Hid _ := x4 (.int .i64 (-9))
                have B9 : Hid (Below w5.heap.size w5 (wr.setCell ⟨g, t, none⟩ (.int .i64 (-9)))) := below_mv B8.out (Mv.setCell _ _ _) (Nat.le_refl _) (fun j hj e => by
                  have e' : j = g := e
                  omega)
                clear x4
                go_wp2_with fail
                exact ⟨⟨t + 1, by omega, by go_num, S9, B9⟩, by simp [intOf]; omega⟩
              · obtain rfl : t = m := by omega
                have AL9 : Hid (Al wr w.heap.size w1.heap.size (w1.heap.size + 1) mo T5 ka5 kc5 va5 vc5) := AL5.out.past B8.out
                have B10 : Hid (Below w.heap.size w wr) := B5.out.trans (B8.out.mono B5.out.size)
                go_wp2_with fail
                exact ⟨⟨i + 1, T5, ka5, kc5, va5, vc5, by omega, by go_num, AL9.out, HT5.out, B10.out⟩, by simp [intOf]; omega⟩
    · obtain rfl : i = n := by omega
      have B4 : Hid (Below w.heap.size w w4) := H.out.2.2
      have C4 : Hid (Ch (w4.alloc (.cells #[.int .i64 0, .map none, .pointer none, .pointer none] 43)) w4.heap.size 2 0 [] (fun j => j < w.heap.size)) := Ch.new w4 2 0 43 _ (fun j h => by have := B4.out.size; omega) (by omega)
      have B5 : Hid (Below w.heap.size w (w4.alloc (.cells #[.int .i64 0, .map none, .pointer none, .pointer none] 43))) := B4.out.alloc B4.out.size _
      go_wp2_with fail
      refine (sget_nil 1 _).mono ?_
      rintro e w5 ⟨rfl, hw⟩
      obtain rfl := hw.symm
      clear hw
      go_wp2_with fail
      refine (sput_nil 1 ⟨#[120]⟩ _).mono ?_
      rintro e w5 ⟨rfl, hw⟩
      obtain rfl := hw.symm
      clear hw
      go_wp2_with fail
      refine (sclear_nil _).mono ?_
      rintro e w5 ⟨rfl, hw⟩
      obtain rfl := hw.symm
      clear hw
      go_wp2_with fail
      refine (sput_room C4.out (k := 1) rfl rfl (fun j h => by have := B5.out.size; omega) (by simp) (by decide) ⟨#[120]⟩).mono ?_
      rintro e w5 ⟨rfl, C5⟩
      have B6 : Hid (Below w.heap.size w w5) := mvb B5.out C5.out.2
      go_wp2_with fail
      refine (sput_full C5.out.1 (k := 2) rfl rfl (fun j h => by have := B6.out.size; omega) (by simp) (by decide) ⟨#[121]⟩).mono ?_
      rintro e w6 ⟨rfl, C6⟩
      have B7 : Hid (Below w.heap.size w w6) := mvb B6.out C6.out.2
      go_wp2_with fail
      refine (sget_some C6.out.1 (k := 2) rfl (p := (2, fun _ => .string ⟨#[121]⟩)) rfl).mono ?_
      rintro e w7 ⟨rfl, C7⟩
      have B8 : Hid (Below w.heap.size w w7) := mvb B7.out C7.out.2
      go_wp2_with fail
      refine (sdrop_nil 1 _).mono ?_
      rintro e w8 ⟨rfl, hw⟩
      obtain rfl := hw.symm
      clear hw
      go_wp2_with fail
      refine (skeys_nil _).mono ?_
      rintro e w8 ⟨rfl, hw⟩
      obtain rfl := hw.symm
      clear hw
      go_wp2_with fail
      go_ret
      exact ⟨rfl, B8.out⟩

set_option maxRecDepth 100000 in
set_option maxHeartbeats 1000000 in
theorem all_out (w : World) (mo : Int) (a : Option Addr) (n c : Nat) (hn : 80 < n) :
    Calls Try.prog 3 #[.int .i64 mo, .slice a n c] w fun e w' => e = .returned (.bool true) ∧ Below w.heap.size w w' := by
  have hnz : (80 : Int) < n := by omega
  go_enter Try.func3, Try.ntmps3
  go_wp2_with fail
  refine (begun_any w).mono ?_
  rintro e w1 ⟨rfl, b1⟩
  have B1 : Hid _ := b1
  clear b1
  go_wp2_with fail
  go_ret
  exact ⟨rfl, B1.out⟩

theorem cacheAll_row (W : World) (mo : Int) (_wm : (Lit.int .i64 mo).wf = true) (a : Option Addr) (n c : Nat) (f : Nat → Int) (s : Sl W a n (fun i => .int .u16 (f i))) (o : ∀ i, (Lit.int .u16 (f i)).wf = true) (_e : a = none → n = 0 ∧ c = 0) :
    Calls Try.prog 3 #[.int .i64 mo, .slice a n c] W fun e w' => e = .returned (.bool true) ∧ Below W.heap.size W w' := by
  by_cases h : 80 < n
  · exact all_out W mo a n c h
  · exact all_any W mo a n c f (by omega) (fun i => u16_wf (o i)) s

end Go.Proofs.Ytaiengohfgbfhaa
