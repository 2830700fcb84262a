/- ClassAll. -/
import Derived.Test.YtnchddgjeeaohaaDoorN3
namespace Go.Proofs.YtnchddgjeeaohaaDoor
open Go.RowKit
set_option linter.unusedVariables false

set_option maxRecDepth 20000 in
set_option maxHeartbeats 8000000 in
theorem classAll_walk (p q : Nat → Bool) (c : Nat) (hc : c < 256) (a : Option Addr) (n cap : Nat) (f : Nat → Nat) (w : World) (hs : Hid (Sl w a n (Bn f))) (hf : Hid (∀ i, i < n → f i < 256)) (hT : Hid (Tab w)) :
    Calls Tryd.prog 4 #[.agg #[.int .u64 (limb p 0), .int .u64 (limb p 1), .int .u64 (limb p 2), .int .u64 (limb p 3)], .agg #[.int .u64 (limb q 0), .int .u64 (limb q 1), .int .u64 (limb q 2), .int .u64 (limb q 3)], .int .u8 (c : Int), .slice a n cap] w fun e w' => e = .returned (.bool true) ∧ Hid (Qt w w') := by
  have HQ0 : Hid (Qt w ((w.alloc (.cells #[.int .u64 (limb p 0), .int .u64 (limb p 1), .int .u64 (limb p 2), .int .u64 (limb p 3)] 25)).alloc (.cells #[.int .u64 (limb q 0), .int .u64 (limb q 1), .int .u64 (limb q 2), .int .u64 (limb q 3)] 25))) := ((Qt.refl w).alloc _).alloc _
  by_cases h40 : n ≤ 40
  · have g1 : ¬ (40 : Int) < (n : Int) := by omega
    have HN : Hid (n < 1000000) := by show _ < _; omega
    clear h40
    obtain ⟨k, b, HD, hL⟩ := least_ex p
    obtain ⟨T, hSh, hRs⟩ := show_text p
    have HLE : Hid (k < 256) := Dn.lt HD.out
    have f1 := eqlA (ou p q) (ou p q) true (same_of (fun b => rfl))
    have f2 := eqlA (et p q) (et p q) true (same_of (fun b => rfl))
    have f3 := eqlA (no p) (no p) true (same_of (fun b => rfl))
    have f4 := eqlA (ofl f n) (ofl f n) true (same_of (fun b => rfl))
    go_enter Tryd.func4, Tryd.ntmps4
    go_wp2_with fail
    refine (begun_true _ (hT.out.qt HQ0.out)).mono ?_
    rintro e w1 ⟨rfl, q1⟩
    have B1 : Hid (Bk w.heap.size p w1) := Bk.mv (Bk.mv (w := w.alloc (.cells #[.int .u64 (limb p 0), .int .u64 (limb p 1), .int .u64 (limb p 2), .int .u64 (limb p 3)] 25)) (heap_alloc_new _ _) (Mv.alloc (fun _ => False) _ _) (fun h => h)) q1.out (fun h => h)
    have B2 : Hid (Bk (w.heap.size + 1) q w1) := Bk.mv (heap_alloc2_new _ _ _) q1.out (fun h => h)
    have Q1 : Hid (Qt w w1) := HQ0.out.comp q1.out
    clear q1
    obtain ⟨k0, k1, k2, k3, _⟩ := Bk.facts B1
    go_wp2_with fail
    refine (hL _ (hT.out.qt Q1.out)).mono ?_
    rintro e w2 ⟨rfl, q2⟩
    have B1 : Hid (Bk w.heap.size p w2) := Bk.mv B1 q2.out (fun h => h)
    have B2 : Hid (Bk (w.heap.size + 1) q w2) := Bk.mv B2 q2.out (fun h => h)
    have Q2 : Hid (Qt w w2) := Q1.out.comp q2.out
    clear q2 k0 k1 k2 k3
    go_wp2_with fail
    go_loopw [11, 12, 13] (fun s11 s12 s13 wr => ∃ (i k' : Nat) (b' : Bool) (z : Int), i ≤ 256 ∧ s13 = .int .i64 z ∧ Hid (z = (i : Int) - 1) ∧ s11 = .int .u8 (k' : Int) ∧ s12 = .bool b' ∧ Hid (Dn p i k' b') ∧ Hid (Qt w2 wr)) (fun _ _ s13 _ => (intOf s13 + 1).toNat)
    case atStart => exact ⟨256, 0, false, 255, by omega, rfl, by show _ = _; omega, rfl, rfl, Dn.start p, Mv.refl _ _⟩
    case round =>
      obtain ⟨i, k', b', z, hi, rfl, HZ, rfl, rfl, HE, QR⟩ := hrel
      by_cases h0 : i = 0
      · subst h0
        obtain rfl : z = -1 := by have := HZ.out; omega
        obtain ⟨rfl, rfl⟩ := Dn.one HD.out HE.out
        have HX : Hid (Hid (Sl wr a n (Bn f)) ∧ Hid (Tab wr)) := ⟨hs.out.mv (Q2.out.comp QR.out) (fun _ _ h => h), hT.out.qt (Q2.out.comp QR.out)⟩
        obtain ⟨HS, HT⟩ := HX.out
        have C1 : Hid (Bk w.heap.size p wr) := Bk.mv B1 QR.out (fun h => h)
        have C2 : Hid (Bk (w.heap.size + 1) q wr) := Bk.mv B2 QR.out (fun h => h)
        obtain ⟨k0, k1, k2, k3, _⟩ := Bk.facts C1
        obtain ⟨j0, j1, j2, j3, _⟩ := Bk.facts C2
        have c15 := hasA p c hc
        have c14 := rhas_any p c hc
        have c22 : ∀ X, Hid (Qt wr X) → Calls Tryd.prog 22 #[.slice a n cap] X fun e w' => e = .returned (.agg #[.int .u64 (limb (ofl f n) 0), .int .u64 (limb (ofl f n) 1), .int .u64 (limb (ofl f n) 2), .int .u64 (limb (ofl f n) 3)]) ∧ Hid (Qt X w') := fun X m => of_in HS hf HN X m
        have c23 : ∀ X, Hid (Qt wr X) → Calls Tryd.prog 23 #[.slice a n cap] X fun e w' => e = .returned (.agg #[.int .u64 (limb (ofl f n) 0), .int .u64 (limb (ofl f n) 1), .int .u64 (limb (ofl f n) 2), .int .u64 (limb (ofl f n) 3)]) ∧ Hid (Qt X w') := fun X m => rof_in HS hf HN X m
        have c24 : ∀ X, Hid (Qt wr X) → Calls Tryd.prog 24 #[.agg #[.int .u64 (limb p 0), .int .u64 (limb p 1), .int .u64 (limb p 2), .int .u64 (limb p 3)]] X fun e w' => e = .returned (.string T) ∧ Hid (Qt X w') := fun X m => hSh X (HT.out.qt m.out)
        generalize p c = pc at *
        have DQ : Hid (Qt wr wr.drew) := Mv.drewN _ wr 1
        have k5 : ((k : Int) == (k : Int)) = true := by simp
        have k6 : (b == b) = true := by simp
        have k7 : (pc == pc) = true := by simp
        clear hL hSh HE HD HX HS HT g1 hc
        go_wp2_with fail
        go_region_held3 (fun w' => w'.cell? ⟨w.heap.size, 0, none⟩ = some (.int .u64 (limb p 0)) ∧ w'.cell? ⟨w.heap.size, 1, none⟩ = some (.int .u64 (limb p 1)) ∧ w'.cell? ⟨w.heap.size, 2, none⟩ = some (.int .u64 (limb p 2)) ∧ w'.cell? ⟨w.heap.size, 3, none⟩ = some (.int .u64 (limb p 3)) ∧ w'.cell? ⟨w.heap.size + 1, 0, none⟩ = some (.int .u64 (limb q 0)) ∧ w'.cell? ⟨w.heap.size + 1, 1, none⟩ = some (.int .u64 (limb q 1)) ∧ w'.cell? ⟨w.heap.size + 1, 2, none⟩ = some (.int .u64 (limb q 2)) ∧ w'.cell? ⟨w.heap.size + 1, 3, none⟩ = some (.int .u64 (limb q 3)) ∧ Hid (Qt wr w'))
          (first | (refine hold8 C1 C2 ?_; first | exact hold8q (by assumption) (by assumption) | exact DQ | exact Qt.comp DQ.out (Hid.out (by assumption))))
          ((first
            | (go_at_call 15; with_reducible refine (c15 _).mono ?_; rintro e15 w15 ⟨rfl, q15⟩)
            | (go_at_call 14; with_reducible refine (c14 _).mono ?_; rintro e14 w14 ⟨rfl, q14⟩)
            | (go_at_call 16; with_reducible refine (orA _ _ _).mono ?_; rintro e16 w16 ⟨rfl, q16⟩)
            | (go_at_call 17; with_reducible refine (rorA _ _ _).mono ?_; rintro e17 w17 ⟨rfl, q17⟩)
            | (go_at_call 18; with_reducible refine (andA _ _ _).mono ?_; rintro e18 w18 ⟨rfl, q18⟩)
            | (go_at_call 19; with_reducible refine (randA _ _ _).mono ?_; rintro e19 w19 ⟨rfl, q19⟩)
            | (go_at_call 20; with_reducible refine (notA _ _).mono ?_; rintro e20 w20 ⟨rfl, q20⟩)
            | (go_at_call 21; with_reducible refine (rnotA _ _).mono ?_; rintro e21 w21 ⟨rfl, q21⟩)
            | (go_at_call 22; with_reducible refine (c22 _ (hold8o (by assumption))).mono ?_; rintro e22 w22 ⟨rfl, q22⟩)
            | (go_at_call 23; with_reducible refine (c23 _ (hold8o (by assumption))).mono ?_; rintro e23 w23 ⟨rfl, q23⟩)
            | (go_at_call 24; with_reducible refine (c24 _ (hold8o (by assumption))).mono ?_; rintro e24 w24 ⟨rfl, q24⟩)
            | (go_at_call 25; with_reducible refine (hRs _).mono ?_; rintro e25 w25 ⟨rfl, q25⟩)))
        have QE : Hid (Qt wr w25) := hold8o (by assumption)
        go_wp2_with fail
        go_ret
        exact ⟨rfl, (Q2.out.comp QR.out).comp QE.out⟩
      · obtain ⟨j, rfl⟩ : ∃ j, i = j + 1 := ⟨i - 1, by omega⟩
        obtain rfl : z = (j : Int) := by have := HZ.out; omega
        obtain ⟨k0, k1, k2, k3, _⟩ := Bk.facts (Bk.mv B1 QR.out (fun h => h))
        have wz : IntKind.u8.wrap (j : Int) = (j : Int) := by rw [IntKind.wrap_u8]; omega
        have hh := rhas_any p j (by omega)
        cases hp : p j with
        | true =>
          have HU : Hid (Dn p j j true) := Dn.yes (by omega) hp
          rw [hp] at hh
          clear hp
          go_wp2_with fail
          refine (hh _).mono ?_
          rintro e w3 ⟨rfl, q3⟩
          go_wp2_with fail
          exact ⟨⟨j, j, true, (j : Int) - 1, by omega, by go_num, rfl, by go_num, rfl, HU, QR.out.comp q3.out⟩, by simp [intOf]⟩
        | false =>
          have HU : Hid (Dn p j k' b') := Dn.no HE hp
          rw [hp] at hh
          clear hp
          go_wp2_with fail
          refine (hh _).mono ?_
          rintro e w3 ⟨rfl, q3⟩
          go_wp2_with fail
          exact ⟨⟨j, k', b', (j : Int) - 1, by omega, by go_num, rfl, rfl, rfl, HU, QR.out.comp q3.out⟩, by simp [intOf]⟩
  · have g1 : (40 : Int) < (n : Int) := by omega
    go_enter Tryd.func4, Tryd.ntmps4
    go_wp2_with fail
    refine (begun_true _ (hT.out.qt HQ0.out)).mono ?_
    rintro e w1 ⟨rfl, q1⟩
    go_wp2_with fail
    go_ret
    exact ⟨rfl, HQ0.out.comp q1.out⟩
theorem classAll_row (x : Nat → Nat) (hx : ∀ i, i < 4 → x i < 18446744073709551616) (y : Nat → Nat) (hy : ∀ i, i < 4 → y i < 18446744073709551616) (c : Int) (wc : (Lit.int .u8 c).wf = true) (a : Option Addr) (n cap : Nat) (f : Nat → Int) (w : World) (hs : Sl w a n (fun i => .int .u8 (f i))) (hw : ∀ i, (Lit.int .u8 (f i)).wf = true) (ha : a = none → n = 0 ∧ cap = 0) (hT : Tab w) :
    Calls Tryd.prog 4 #[.agg #[.int .u64 (x 0), .int .u64 (x 1), .int .u64 (x 2), .int .u64 (x 3)], .agg #[.int .u64 (y 0), .int .u64 (y 1), .int .u64 (y 2), .int .u64 (y 3)], .int .u8 c, .slice a n cap] w fun e w' => e = .returned (.bool true) ∧ Below w.heap.size w w' := by
  obtain ⟨m, rfl, hm⟩ := byteN wc
  obtain ⟨h1, h2⟩ := rowN hs hw
  have h := classAll_walk (had x) (had y) m hm a n cap _ w h1 h2 hT
  rw [limb_had x 0 (hx 0 (by omega)), limb_had x 1 (hx 1 (by omega)), limb_had x 2 (hx 2 (by omega)), limb_had x 3 (hx 3 (by omega)), limb_had y 0 (hy 0 (by omega)), limb_had y 1 (hy 1 (by omega)), limb_had y 2 (hy 2 (by omega)), limb_had y 3 (hy 3 (by omega))] at h
  exact h.mono fun e w' ⟨he, hq⟩ => ⟨he, hq.out.below (Nat.le_refl _) (fun _ _ h => h)⟩

end Go.Proofs.YtnchddgjeeaohaaDoor
