/- SameRx. -/
import Derived.Test.YtkclkhfcmjhogaaDoorMgK3
import Derived.Test.YtkclkhfcmjhogaaDoorMgK4
import Derived.Test.YtkclkhfcmjhogaaDoorMgH4
namespace Go.Proofs.YtkclkhfcmjhogaaDoor
open Go.RowKit
set_option linter.unusedVariables false

theorem neq_cells (p q : Nat → Bool) (W : World) : (binOp .neq 25 (.agg #[.int .u64 (limb p 0), .int .u64 (limb p 1), .int .u64 (limb p 2), .int .u64 (limb p 3)]) (.agg #[.int .u64 (limb q 0), .int .u64 (limb q 1), .int .u64 (limb q 2), .int .u64 (limb q 3)])).run Tryd.prog W = .ok (.bool (!same p q)) W := by
  have := neq_run p q W
  rwa [sv_cells, sv_cells] at this
/-- What SameRx tells. -/
def SmC (x : RX) : Prop := ∀ (y : RX) (K J : Nat → Prop) (a b : Option Addr) (c d : Nat) (w : World), Hid (Parts x.args K w a c) → Hid (Parts y.args J w b d) → Calls Tryd.prog 16 #[.agg #[.int .i64 x.kind, .int .u64 (limb x.set 0), .int .u64 (limb x.set 1), .int .u64 (limb x.set 2), .int .u64 (limb x.set 3), .slice a x.args.length c], .agg #[.int .i64 y.kind, .int .u64 (limb y.set 0), .int .u64 (limb y.set 1), .int .u64 (limb y.set 2), .int .u64 (limb y.set 3), .slice b y.args.length d]] w fun e w' => e = .returned (.bool (sameX x y)) ∧ Hid (Qt w w')
theorem sameX_at (x y : RX) : sameX x y = (decide (x.kind = y.kind) && (same x.set y.set && (decide (x.args.length = y.args.length) && sameX.sameL x.args y.args))) := by obtain ⟨k, p, l⟩ := x; rw [sameX]

theorem hold14 {W w' : World} {g h p o q m : Nat} {u0 u1 u2 u3 u4 u5 u6 u7 u8 u9 u10 u11 u12 u13 : Value} (c0 : Hid (W.cell? ⟨g, 5, none⟩ = some u0)) (c1 : Hid (W.cell? ⟨h, 5, none⟩ = some u1)) (c2 : Hid (W.cell? ⟨p, o, none⟩ = some u2)) (c3 : Hid (W.cell? ⟨p, o + 1, none⟩ = some u3)) (c4 : Hid (W.cell? ⟨p, o + 2, none⟩ = some u4)) (c5 : Hid (W.cell? ⟨p, o + 3, none⟩ = some u5)) (c6 : Hid (W.cell? ⟨p, o + 4, none⟩ = some u6)) (c7 : Hid (W.cell? ⟨p, o + 5, none⟩ = some u7)) (c8 : Hid (W.cell? ⟨q, m, none⟩ = some u8)) (c9 : Hid (W.cell? ⟨q, m + 1, none⟩ = some u9)) (c10 : Hid (W.cell? ⟨q, m + 2, none⟩ = some u10)) (c11 : Hid (W.cell? ⟨q, m + 3, none⟩ = some u11)) (c12 : Hid (W.cell? ⟨q, m + 4, none⟩ = some u12)) (c13 : Hid (W.cell? ⟨q, m + 5, none⟩ = some u13)) (k : Hid (Qt W w')) :
    w'.cell? ⟨g, 5, none⟩ = some u0 ∧ w'.cell? ⟨h, 5, none⟩ = some u1 ∧ w'.cell? ⟨p, o, none⟩ = some u2 ∧ w'.cell? ⟨p, o + 1, none⟩ = some u3 ∧ w'.cell? ⟨p, o + 2, none⟩ = some u4 ∧ w'.cell? ⟨p, o + 3, none⟩ = some u5 ∧ w'.cell? ⟨p, o + 4, none⟩ = some u6 ∧ w'.cell? ⟨p, o + 5, none⟩ = some u7 ∧ w'.cell? ⟨q, m, none⟩ = some u8 ∧ w'.cell? ⟨q, m + 1, none⟩ = some u9 ∧ w'.cell? ⟨q, m + 2, none⟩ = some u10 ∧ w'.cell? ⟨q, m + 3, none⟩ = some u11 ∧ w'.cell? ⟨q, m + 4, none⟩ = some u12 ∧ w'.cell? ⟨q, m + 5, none⟩ = some u13 ∧ Hid (Qt W w') :=
  ⟨Qt.keep k c0.out, Qt.keep k c1.out, Qt.keep k c2.out, Qt.keep k c3.out, Qt.keep k c4.out, Qt.keep k c5.out, Qt.keep k c6.out, Qt.keep k c7.out, Qt.keep k c8.out, Qt.keep k c9.out, Qt.keep k c10.out, Qt.keep k c11.out, Qt.keep k c12.out, Qt.keep k c13.out, k⟩
theorem hold14q {W w' w'' : World} {A0 A1 A2 A3 A4 A5 A6 A7 A8 A9 A10 A11 A12 A13 : Prop} (q : Hid (Qt w' w'')) (h : A0 ∧ A1 ∧ A2 ∧ A3 ∧ A4 ∧ A5 ∧ A6 ∧ A7 ∧ A8 ∧ A9 ∧ A10 ∧ A11 ∧ A12 ∧ A13 ∧ Hid (Qt W w')) : Hid (Qt W w'') := h.2.2.2.2.2.2.2.2.2.2.2.2.2.2.out.comp q.out

set_option maxRecDepth 20000 in
set_option maxHeartbeats 4000000 in
theorem same_step (x : RX) (IH : ∀ z ∈ x.args, SmC z) : SmC x := by
  intro y K J a b c d w HX HY
  have HI : Hid _ := IH
  have hq := neq_cells x.set y.set
  have HS : Hid _ := sameX_at x y
  clear IH
  by_cases hk : x.kind = y.kind
  · have hk1 : (x.kind != y.kind) = false := by rw [hk]; simp
    have HK : Hid (x.kind = y.kind) := hk
    have hbig : x.args.length < 140737488355328 := by obtain ⟨_, _, _, h, _⟩ := HX.out; exact h.1
    clear hk
    cases hs : same x.set y.set with
    | false =>
      have HE : Hid (sameX x y = false) := by show _ = _; rw [HS.out, hs]; simp
      rw [hs] at hq
      generalize sameX x y = S at *
      clear hs HS
      go_enter Tryd.func16, Tryd.ntmps16
      go_wp2_with fail
      go_ret
      exact ⟨by rw [HE.out]; rfl, ((Qt.refl w).alloc _).alloc _⟩
    | true =>
      rw [hs] at hq
      by_cases hl : x.args.length = y.args.length
      · have HE : Hid (sameX x y = sameX.sameL x.args y.args) := by show _ = _; rw [HS.out, hs, decide_eq_true HK.out, decide_eq_true hl]; simp
        have HL : Hid (x.args.length = y.args.length) := hl
        have hl1 : ((x.args.length : Int) != y.args.length) = false := by rw [hl]; simp
        generalize sameX x y = S at *
        clear hs HS hl
        go_enter Tryd.func16, Tryd.ntmps16
        go_wp2_with fail
        have PA : Hid (((w.alloc (.cells #[.int .i64 x.kind, .int .u64 (limb x.set 0), .int .u64 (limb x.set 1), .int .u64 (limb x.set 2), .int .u64 (limb x.set 3), .slice a x.args.length c] 28)).alloc (.cells #[.int .i64 y.kind, .int .u64 (limb y.set 0), .int .u64 (limb y.set 1), .int .u64 (limb y.set 2), .int .u64 (limb y.set 3), .slice b y.args.length d] 28)).cell? ⟨w.heap.size, 5, none⟩ = some (.slice a x.args.length c)) := by
          have h := heap2a w (.cells #[.int .i64 x.kind, .int .u64 (limb x.set 0), .int .u64 (limb x.set 1), .int .u64 (limb x.set 2), .int .u64 (limb x.set 3), .slice a x.args.length c] 28) (.cells #[.int .i64 y.kind, .int .u64 (limb y.set 0), .int .u64 (limb y.set 1), .int .u64 (limb y.set 2), .int .u64 (limb y.set 3), .slice b y.args.length d] 28)
          show _ = _
          simp only [World.cell?, h]; rfl
        have PB : Hid (((w.alloc (.cells #[.int .i64 x.kind, .int .u64 (limb x.set 0), .int .u64 (limb x.set 1), .int .u64 (limb x.set 2), .int .u64 (limb x.set 3), .slice a x.args.length c] 28)).alloc (.cells #[.int .i64 y.kind, .int .u64 (limb y.set 0), .int .u64 (limb y.set 1), .int .u64 (limb y.set 2), .int .u64 (limb y.set 3), .slice b y.args.length d] 28)).cell? ⟨w.heap.size + 1, 5, none⟩ = some (.slice b y.args.length d)) := by
          have h := heap_alloc2_new w (.cells #[.int .i64 x.kind, .int .u64 (limb x.set 0), .int .u64 (limb x.set 1), .int .u64 (limb x.set 2), .int .u64 (limb x.set 3), .slice a x.args.length c] 28) (.cells #[.int .i64 y.kind, .int .u64 (limb y.set 0), .int .u64 (limb y.set 1), .int .u64 (limb y.set 2), .int .u64 (limb y.set 3), .slice b y.args.length d] 28)
          show _ = _
          simp only [World.cell?, h]; rfl
        have Q0 : Hid (Qt w ((w.alloc (.cells #[.int .i64 x.kind, .int .u64 (limb x.set 0), .int .u64 (limb x.set 1), .int .u64 (limb x.set 2), .int .u64 (limb x.set 3), .slice a x.args.length c] 28)).alloc (.cells #[.int .i64 y.kind, .int .u64 (limb y.set 0), .int .u64 (limb y.set 1), .int .u64 (limb y.set 2), .int .u64 (limb y.set 3), .slice b y.args.length d] 28))) := ((Qt.refl w).alloc _).alloc _
        generalize (w.alloc (.cells #[.int .i64 x.kind, .int .u64 (limb x.set 0), .int .u64 (limb x.set 1), .int .u64 (limb x.set 2), .int .u64 (limb x.set 3), .slice a x.args.length c] 28)).alloc (.cells #[.int .i64 y.kind, .int .u64 (limb y.set 0), .int .u64 (limb y.set 1), .int .u64 (limb y.set 2), .int .u64 (limb y.set 3), .slice b y.args.length d] 28) = W0 at *
        go_loopw [5] (fun s5 wr => ∃ i : Nat, i ≤ x.args.length ∧ s5 = .int .i64 i ∧ Hid (Qt W0 wr ∧ ∀ (j : Nat) (u v : RX), j < i → x.args[j]? = some u → y.args[j]? = some v → sameX u v = true)) (fun s5 _ => x.args.length - (intOf s5).toNat)
        case atStart => exact ⟨0, by omega, rfl, Qt.refl W0, fun j u v h => by omega⟩
        case round =>
          obtain ⟨i, hi, rfl, B⟩ := hrel
          have k0 := Qt.keep (show Hid (Qt W0 wr) from B.out.1) PA.out
          have k1 := Qt.keep (show Hid (Qt W0 wr) from B.out.1) PB.out
          by_cases hlt : i < x.args.length
          · obtain ⟨u, hu⟩ : ∃ u, x.args[i]? = some u := ⟨_, List.getElem?_eq_getElem hlt⟩
            obtain ⟨v, hv⟩ : ∃ v, y.args[i]? = some v := ⟨_, List.getElem?_eq_getElem (show i < y.args.length by have := HL.out; omega)⟩
            have QW : Hid (Qt w wr) := Q0.out.comp B.out.1
            obtain ⟨bu, ou, au, cu, ea, pu, e0, e1, e2, e3, e4, e5⟩ := (HX.out.mv QW.out (fun _ _ h => h)).at hu
            obtain ⟨bv, ov, av, cv, eb, pv, f0, f1, f2, f3, f4, f5⟩ := (HY.out.mv QW.out (fun _ _ h => h)).at hv
            subst ea eb
            have HU : Hid (x.args[i]? = some u ∧ y.args[i]? = some v) := ⟨hu, hv⟩
            have hcall := fun W (q : Hid (Qt wr W)) => HI.out u (List.mem_of_getElem? hu) v K J au av cu cv W (show Hid _ from pu.mv q.out (fun _ _ h => h)) (show Hid _ from pv.mv q.out (fun _ _ h => h))
            have DQ : Hid (Qt wr wr.drew) := Mv.drewN _ wr 1
            have C0 : Hid _ := k0
            have C1 : Hid _ := k1
            have C2 : Hid _ := e0
            have C3 : Hid _ := e1
            have C4 : Hid _ := e2
            have C5 : Hid _ := e3
            have C6 : Hid _ := e4
            have C7 : Hid _ := e5
            have C8 : Hid _ := f0
            have C9 : Hid _ := f1
            have C10 : Hid _ := f2
            have C11 : Hid _ := f3
            have C12 : Hid _ := f4
            have C13 : Hid _ := f5
            have hly : i < y.args.length := by have := HL.out; omega
            clear hu hv pu pv
            cases hsv : sameX u v with
            | true =>
              rw [hsv] at hcall
              have HV : Hid (sameX u v = true) := hsv
              clear hsv
              go_wp2_with fail
              go_region_held3 (fun w' => w'.cell? ⟨w.heap.size, 5, none⟩ = some (.slice (some ⟨bu, ou, none⟩) x.args.length c) ∧ w'.cell? ⟨w.heap.size + 1, 5, none⟩ = some (.slice (some ⟨bv, ov, none⟩) y.args.length d) ∧ w'.cell? ⟨bu, ou + i * 6, none⟩ = some (.int .i64 u.kind) ∧ w'.cell? ⟨bu, ou + i * 6 + 1, none⟩ = some (.int .u64 (limb u.set 0)) ∧ w'.cell? ⟨bu, ou + i * 6 + 2, none⟩ = some (.int .u64 (limb u.set 1)) ∧ w'.cell? ⟨bu, ou + i * 6 + 3, none⟩ = some (.int .u64 (limb u.set 2)) ∧ w'.cell? ⟨bu, ou + i * 6 + 4, none⟩ = some (.int .u64 (limb u.set 3)) ∧ w'.cell? ⟨bu, ou + i * 6 + 5, none⟩ = some (.slice au u.args.length cu) ∧ w'.cell? ⟨bv, ov + i * 6, none⟩ = some (.int .i64 v.kind) ∧ w'.cell? ⟨bv, ov + i * 6 + 1, none⟩ = some (.int .u64 (limb v.set 0)) ∧ w'.cell? ⟨bv, ov + i * 6 + 2, none⟩ = some (.int .u64 (limb v.set 1)) ∧ w'.cell? ⟨bv, ov + i * 6 + 3, none⟩ = some (.int .u64 (limb v.set 2)) ∧ w'.cell? ⟨bv, ov + i * 6 + 4, none⟩ = some (.int .u64 (limb v.set 3)) ∧ w'.cell? ⟨bv, ov + i * 6 + 5, none⟩ = some (.slice av v.args.length cv) ∧ Hid (Qt wr w'))
                (first | (refine hold14 C0 C1 C2 C3 C4 C5 C6 C7 C8 C9 C10 C11 C12 C13 ?_; first | exact hold14q (by assumption) (by assumption) | exact DQ | exact Qt.comp DQ.out (Hid.out (by assumption))))
                ((first | (go_at_call 16; with_reducible refine (hcall _ DQ).mono ?_; rintro e9 w9 ⟨rfl, q9⟩)))
              go_wp2_with fail
              have BN : Hid (Qt W0 w9 ∧ ∀ (j : Nat) (u v : RX), j < i + 1 → x.args[j]? = some u → y.args[j]? = some v → sameX u v = true) := by
                refine ⟨(B.out.1.comp DQ.out).comp q9.out, fun j u' v' hj h1 h2 => ?_⟩
                rcases Nat.lt_succ_iff_lt_or_eq.1 hj with h | rfl
                · exact B.out.2 j u' v' h h1 h2
                · rw [HU.out.1] at h1; rw [HU.out.2] at h2; cases h1; cases h2; exact HV.out
              refine ⟨⟨i + 1, by omega, by go_num, BN⟩, by simp [intOf]; omega⟩
            | false =>
              rw [hsv] at hcall
              have HV : Hid (sameX u v = false) := hsv
              clear hsv
              go_wp2_with fail
              go_region_held3 (fun w' => w'.cell? ⟨w.heap.size, 5, none⟩ = some (.slice (some ⟨bu, ou, none⟩) x.args.length c) ∧ w'.cell? ⟨w.heap.size + 1, 5, none⟩ = some (.slice (some ⟨bv, ov, none⟩) y.args.length d) ∧ w'.cell? ⟨bu, ou + i * 6, none⟩ = some (.int .i64 u.kind) ∧ w'.cell? ⟨bu, ou + i * 6 + 1, none⟩ = some (.int .u64 (limb u.set 0)) ∧ w'.cell? ⟨bu, ou + i * 6 + 2, none⟩ = some (.int .u64 (limb u.set 1)) ∧ w'.cell? ⟨bu, ou + i * 6 + 3, none⟩ = some (.int .u64 (limb u.set 2)) ∧ w'.cell? ⟨bu, ou + i * 6 + 4, none⟩ = some (.int .u64 (limb u.set 3)) ∧ w'.cell? ⟨bu, ou + i * 6 + 5, none⟩ = some (.slice au u.args.length cu) ∧ w'.cell? ⟨bv, ov + i * 6, none⟩ = some (.int .i64 v.kind) ∧ w'.cell? ⟨bv, ov + i * 6 + 1, none⟩ = some (.int .u64 (limb v.set 0)) ∧ w'.cell? ⟨bv, ov + i * 6 + 2, none⟩ = some (.int .u64 (limb v.set 1)) ∧ w'.cell? ⟨bv, ov + i * 6 + 3, none⟩ = some (.int .u64 (limb v.set 2)) ∧ w'.cell? ⟨bv, ov + i * 6 + 4, none⟩ = some (.int .u64 (limb v.set 3)) ∧ w'.cell? ⟨bv, ov + i * 6 + 5, none⟩ = some (.slice av v.args.length cv) ∧ Hid (Qt wr w'))
                (first | (refine hold14 C0 C1 C2 C3 C4 C5 C6 C7 C8 C9 C10 C11 C12 C13 ?_; first | exact hold14q (by assumption) (by assumption) | exact DQ | exact Qt.comp DQ.out (Hid.out (by assumption))))
                ((first | (go_at_call 16; with_reducible refine (hcall _ DQ).mono ?_; rintro e9 w9 ⟨rfl, q9⟩)))
              go_wp2_with fail
              go_ret
              refine ⟨?_, (QW.out.comp DQ.out).comp q9.out⟩
              have hf : sameX.sameL x.args y.args = false := by
                cases h : sameX.sameL x.args y.args with
                | false => rfl
                | true => have := (sameL_iff HL.out).1 h i u v HU.out.1 HU.out.2; rw [HV.out] at this; cases this
              rw [HE.out, hf]; rfl
          · obtain rfl : i = x.args.length := by omega
            go_wp2_with fail
            go_ret
            refine ⟨?_, Q0.out.comp B.out.1⟩
            have ht : sameX.sameL x.args y.args = true := (sameL_iff HL.out).2 (fun j u v h1 h2 => B.out.2 j u v (List.getElem?_eq_some_iff.1 h1).1 h1 h2)
            rw [HE.out, ht]; rfl
      · have HE : Hid (sameX x y = false) := by show _ = _; rw [HS.out, decide_eq_false hl]; simp
        have hl1 : ((x.args.length : Int) != y.args.length) = true := by rw [bne_iff_ne]; omega
        generalize sameX x y = S at *
        clear hs HS
        go_enter Tryd.func16, Tryd.ntmps16
        go_wp2_with fail
        go_ret
        exact ⟨by rw [HE.out]; rfl, ((Qt.refl w).alloc _).alloc _⟩
  · have hk1 : (x.kind != y.kind) = true := by rw [bne_iff_ne]; exact hk
    have HE : Hid (sameX x y = false) := by show _ = _; rw [HS.out, decide_eq_false hk]; simp
    generalize sameX x y = S at *
    clear HS
    go_enter Tryd.func16, Tryd.ntmps16
    go_wp2_with fail
    go_ret
    exact ⟨by rw [HE.out]; rfl, ((Qt.refl w).alloc _).alloc _⟩

theorem sameRx_any (x : RX) : SmC x := RX.ind (fun k p l ih => same_step ⟨k, p, l⟩ ih) x

end Go.Proofs.YtkclkhfcmjhogaaDoor
