/- The reference: ShowClass. -/
import Derived.Test.YtkclkhfcmjhogaaDoorR10
import Derived.Test.YtkclkhfcmjhogaaDoorN1
import Derived.Test.YtkclkhfcmjhogaaDoorS5
namespace Go.Proofs.YtkclkhfcmjhogaaDoor
open Go.RowKit
set_option linter.unusedVariables false

theorem grow0 {T : ByteArray} {R : List (Nat × Nat)} {a : Nat} (h : T = str (91 :: R.flatMap rtx)) : T ++ str (shn a) = str (91 :: (R ++ [(a, a)]).flatMap rtx) := by
  rw [h, str_append]
  congr 1
  simp [rtx]
theorem grow1 {T : ByteArray} {R : List (Nat × Nat)} {a b : Nat} (hb : b = a + 1) (h : T = str (91 :: R.flatMap rtx)) : (T ++ str (shn a)) ++ str (shn b) = str (91 :: (R ++ [(a, b)]).flatMap rtx) := by
  rw [h, str_append, str_append]
  congr 1
  subst hb
  simp [rtx]
theorem grow2 {T : ByteArray} {R : List (Nat × Nat)} {a b : Nat} (hb : a + 2 ≤ b) (h : T = str (91 :: R.flatMap rtx)) : ((T ++ str (shn a)) ++ (⟨#[45]⟩ : ByteArray)) ++ str (shn b) = str (91 :: (R ++ [(a, b)]).flatMap rtx) := by
  rw [h, str_append, show (⟨#[45]⟩ : ByteArray) = str [45] from rfl, str_append, str_append]
  congr 1
  have h1 : ¬ b = a := by omega
  have h2 : ¬ b = a + 1 := by omega
  simp [rtx, h1, h2]
theorem size_add (a b : ByteArray) : (a ++ b).size = a.size + b.size := by simp

set_option maxRecDepth 20000 in
set_option maxHeartbeats 4000000 in
theorem rshow_any (p : Nat → Bool) (w : World) : Calls Tryd.prog 43 #[.agg #[.int .u64 (limb p 0), .int .u64 (limb p 1), .int .u64 (limb p 2), .int .u64 (limb p 3)]] w fun e w' => Sw p w e w' := by
  have HN : Hid ((upl p 256).length ≤ 256) := upl_len p 256
  go_enter Tryd.func43, Tryd.ntmps43
  go_wp2_with fail
  refine (rlist_any p _).mono ?_
  rintro e w1 ⟨v, rfl, o, q⟩
  have O : Hid (Ol w1 w.heap.size v (upl p 256)) := ow_mono o (fun j hj => Nat.le_trans (by simp) (ow_blk o j hj).1)
  have Q1 : Hid (Qt w w1) := Qt.comp ((Qt.refl w).alloc _) q
  clear o q
  obtain ⟨a, cap, rfl, hs, hcap, hblk⟩ := Ol.sl O
  by_cases n0 : (upl p 256).length = 0
  · have HR : Hid (Runs p 0 []) := runs_len0 n0
    generalize (upl p 256).length = n at *
    subst n0
    clear hs
    go_wp2_with fail
    go_ret
    exact ⟨[], HR.out, rfl, Q1.out⟩
  · by_cases n1 : (upl p 256).length = 1
    · have HR : Hid (Runs p 0 [(ub p 0, ub p 0)]) := runs_len1 n1
      obtain ⟨b, off, ha, hbl, hc⟩ := hs 0 (by omega)
      have U := (ub_at (p := p) (show 0 < (upl p 256).length by omega)).1
      have hc : w1.cell? ⟨b, off, none⟩ = some (.int .u8 (ub p 0 : Int)) := hc
      generalize (upl p 256).length = n at *
      subst n1
      subst ha
      have SC := fun W => shown_any (ub p 0) U W
      clear hs
      have HU : Hid (str (shw [(ub p 0, ub p 0)]) = str (shn (ub p 0))) := by show _ = _; simp [shw]
      generalize ub p 0 = c at *
      go_wp2_with fail
      refine (SC _).mono ?_
      rintro e w2 ⟨rfl, q2⟩
      go_wp2_with fail
      go_ret
      exact ⟨_, HR.out, by rw [HU.out]; rfl, Q1.out.comp q2.out⟩
    · by_cases n2 : (upl p 256).length = 256
      · have HR : Hid (Runs p 0 [(0, 255)]) := runs_len256 n2
        generalize (upl p 256).length = n at *
        subst n2
        clear hs
        go_wp2_with fail
        go_ret
        exact ⟨_, HR.out, rfl, Q1.out⟩
      · have HW : Hid (∀ R, Runs p 0 R → shw R = 91 :: (R.flatMap rtx ++ [93])) := fun R r => shw_long r n0 n1 n2
        have HF : Hid (∀ i, i < (upl p 256).length → ∃ b off, a = some ⟨b, off, none⟩ ∧ ∀ wr, Qt w1 wr → wr.cell? ⟨b, off + i, none⟩ = some (.int .u8 (ub p i : Int))) := by
          intro i hi
          obtain ⟨b, off, ha, hbl, hc⟩ := hs i hi
          exact ⟨b, off, ha, fun wr qr => qr.cell (p := ⟨b, off + i, none⟩) hc (fun h => h)⟩
        have z0 : (((upl p 256).length : Int) == 0) = false := by rw [beq_eq_false_iff_ne]; omega
        have z1 : (((upl p 256).length : Int) == 1) = false := by rw [beq_eq_false_iff_ne]; omega
        have z2 : (((upl p 256).length : Int) == 256) = false := by rw [beq_eq_false_iff_ne]; omega
        obtain ⟨n, hn⟩ : ∃ n, n = (upl p 256).length := ⟨_, rfl⟩
        have HM : Hid (n = (upl p 256).length) := hn
        rw [← hn] at HN hcap z0 z1 z2
        rw [← hn]
        clear hs n0 n1 n2 O hblk hn
        go_wp2_with fail
        go_loopw [4, 5, 6] (fun s4 s5 s6 wr => ∃ (i m : Nat) (R : List (Nat × Nat)) (T : ByteArray), i ≤ n ∧ s4 = .string T ∧ s5 = .int .i64 i ∧ Hid (T = str (91 :: R.flatMap rtx)) ∧ Hid (Up p i m R) ∧ T.size ≤ 1 + 9 * i ∧ Hid (Qt w1 wr)) (fun _ s5 _ _ => n - (intOf s5).toNat)
        case atStart => exact ⟨0, 0, [], _, by omega, rfl, rfl, rfl, Up.zero p, by decide, Qt.refl _⟩
        case round =>
          obtain ⟨i, m, R, T, hi, rfl, rfl, HT, HU, hT, QR⟩ := hrel
          by_cases hlt : i < n
          · go_wp2_with fail
            go_loopw [6] (fun s6 wq => ∃ k : Nat, s6 = .int .i64 k ∧ k < n ∧ Hid (Rpu p i k) ∧ Hid (Qt w1 wq)) (fun s6 _ => n - (intOf s6).toNat)
            case atStart => exact ⟨i, rfl, hlt, Rpu.start (by rw [← HM.out]; exact hlt), QR⟩
            case round =>
              obtain ⟨k, rfl, hk, HR, QK⟩ := hrel
              obtain ⟨b, off, rfl, hcell⟩ := HF.out k (by rw [← HM.out]; exact hk)
              have c0 := hcell _ QK.out
              clear hcell
              have hn := HN.out
              by_cases h1 : k + 1 < n
              · obtain ⟨b', off', hab, hcell⟩ := HF.out (k + 1) (by rw [← HM.out]; exact h1)
                cases hab
                have c1 := hcell _ QK.out
                clear hcell
                have e1 : (k : Int) + 1 = ((k + 1 : Nat) : Int) := by omega
                have w1' : IntKind.i64.wrap ((k + 1 : Nat) : Int) = ((k + 1 : Nat) : Int) := by rw [IntKind.wrap_i64]; omega
                have t1 : decide (((k + 1 : Nat) : Int) < (n : Int)) = true := by simp; omega
                have i1 : ((k + 1 : Nat) : Int) < (n : Int) := by omega
                have i2 : (0 : Int) ≤ ((k + 1 : Nat) : Int) := by omega
                have i3 : (k : Int) < (n : Int) := by omega
                have i4 : (0 : Int) ≤ (k : Int) := by omega
                have hu := ub_lt (p := p) (show k + 1 < (upl p 256).length by rw [← HM.out]; exact h1)
                have hv := (ub_at (p := p) (show k + 1 < (upl p 256).length by rw [← HM.out]; exact h1)).1
                have u1 : IntKind.u8.wrap ((ub p k : Int) + 1) = (ub p k : Int) + 1 := by rw [IntKind.wrap_u8]; omega
                by_cases h2 : ub p (k + 1) = ub p k + 1
                · have HX : Hid (Rpu p i (k + 1)) := HR.out.next (by rw [← HM.out]; exact h1) h2
                  have t2 : ((ub p (k + 1) : Int) == (ub p k : Int) + 1) = true := by simp; omega
                  clear hu hv h2
                  generalize ub p (k + 1) = A at *
                  generalize ub p k = B at *
                  generalize hk1 : k + 1 = k1 at *
                  go_wp2_with fail
                  go_quiet (fail)
                  go_wp2_with fail
                  refine ⟨⟨k1, rfl, h1, HX, QK.out.comp (Mv.drewN _ _ _)⟩, by simp [intOf]; omega⟩
                · have HX : Hid (Up p (k + 1) (ub p k + 1) (R ++ [(ub p i, ub p k)])) := HR.out.stop (fun _ => h2) HU.out
                  have t2 : ((ub p (k + 1) : Int) == (ub p k : Int) + 1) = false := by simp; omega
                  clear hu hv
                  have HIL : Hid (i < (upl p 256).length) := by rw [← HM.out]; exact hlt
                  have HKL : Hid (k < (upl p 256).length) := by rw [← HM.out]; exact hk
                  have SA := fun W => shown_any (ub p i) (ub_at HIL.out).1 W
                  have SB := fun W => shown_any (ub p k) (ub_at HKL.out).1 W
                  have y1 : (str (shn (ub p i))).size ≤ 4 := by rw [str_size]; exact shn_le _
                  have y2 : (str (shn (ub p k))).size ≤ 4 := by rw [str_size]; exact shn_le _
                  have SZ := size_add T (str (shn (ub p i)))
                  have HK : Hid (∀ W, Qt wr W → W.cell? ⟨b, off + k, none⟩ = some (.int .u8 (ub p k : Int))) := fun W q => q.cell (p := ⟨b, off + k, none⟩) c0 (fun h => h)
                  rcases (show k = i ∨ k = i + 1 ∨ i + 2 ≤ k from by have := HR.out.le; omega) with hd | hd | hd
                  · have E : Hid (_ = _) := grow0 (a := ub p i) HT.out
                    have HX2 : Hid (Up p (k + 1) (ub p k + 1) (R ++ [(ub p i, ub p i)])) := by have := HX.out; rw [hd] at this ⊢; exact this
                    subst hd
                    have t5 : decide ((k : Int) < (k : Int)) = false := by simp
                    have t6 : decide (((k + 1 : Nat) : Int) < (k : Int)) = false := by simp; omega
                    clear HX SB y2 HK
                    generalize ub p (k + 1) = A1 at *
                    generalize hk1 : k + 1 = k1 at *
                    generalize str (shn (ub p k)) = A at *
                    go_wp2_with fail
                    go_quiet (fail)
                    go_wp2_with fail
                    refine (SA _).mono ?_
                    rintro e w5 ⟨rfl, q5⟩
                    have Q5 : Hid (Qt w1 w5) := Qt.comp (QK.out.comp (Mv.drewN _ _ nq)) q5.out
                    go_wp2_with fail
                    refine ⟨⟨k1, _, _, _, by omega, rfl, rfl, E, HX2, by omega, Q5⟩, by simp [intOf]; omega⟩
                  · have E : Hid (_ = _) := grow1 (a := ub p i) (b := ub p k) (by have := HR.out.at_; omega) HT.out
                    obtain ⟨b', off', hab, hcell⟩ := HF.out i HIL.out
                    cases hab
                    have ci := hcell _ QK.out
                    clear hcell
                    have e2 : (i : Int) + 1 = (k : Int) := by omega
                    have w2' : IntKind.i64.wrap (k : Int) = (k : Int) := by rw [IntKind.wrap_i64]; omega
                    have t5 : decide ((k : Int) < (k : Int)) = false := by simp
                    have t6 : decide ((i : Int) < (k : Int)) = true := by simp; omega
                    have i5 : (i : Int) < (n : Int) := by omega
                    have i6 : (0 : Int) ≤ (i : Int) := by omega
                    have SZ2 := size_add (T ++ str (shn (ub p i))) (str (shn (ub p k)))
                    have HD : Hid (k = i + 1) := hd
                    clear hd
                    generalize ub p (k + 1) = A1 at *
                    generalize hk1 : k + 1 = k1 at *
                    generalize str (shn (ub p k)) = B at *
                    generalize str (shn (ub p i)) = A at *
                    go_wp2_with fail
                    go_quiet (fail)
                    go_wp2_with fail
                    refine (SA _).mono ?_
                    rintro e w5 ⟨rfl, q5⟩
                    have Q5 : Hid (Qt wr w5) := Qt.comp (Mv.drewN _ _ nq) q5.out
                    have ck := HK.out _ Q5.out
                    clear c0 ci HK
                    go_wp2_with fail
                    refine (SB _).mono ?_
                    rintro e w6 ⟨rfl, q6⟩
                    go_wp2_with fail
                    have hd := HD.out
                    refine ⟨⟨k1, _, _, _, by omega, rfl, rfl, E, HX, by omega, (QK.out.comp Q5.out).comp q6.out⟩, by simp [intOf]; omega⟩
                  · have E : Hid (_ = _) := grow2 (a := ub p i) (b := ub p k) (by have := HR.out.at_; omega) HT.out
                    obtain ⟨b', off', hab, hcell⟩ := HF.out i HIL.out
                    cases hab
                    have ci := hcell _ QK.out
                    clear hcell
                    have e2 : (i : Int) + 1 = ((i + 1 : Nat) : Int) := by omega
                    have w2' : IntKind.i64.wrap ((i + 1 : Nat) : Int) = ((i + 1 : Nat) : Int) := by rw [IntKind.wrap_i64]; omega
                    have t5 : decide (((i + 1 : Nat) : Int) < (k : Int)) = true := by simp; omega
                    have t6 : decide ((i : Int) < (k : Int)) = true := by simp; omega
                    have i5 : (i : Int) < (n : Int) := by omega
                    have i6 : (0 : Int) ≤ (i : Int) := by omega
                    have SZ2 : ((T ++ str (shn (ub p i))) ++ (⟨#[45]⟩ : ByteArray)).size = (T ++ str (shn (ub p i))).size + 1 := size_add _ _
                    have SZ3 := size_add ((T ++ str (shn (ub p i))) ++ (⟨#[45]⟩ : ByteArray)) (str (shn (ub p k)))
                    generalize ub p (k + 1) = A1 at *
                    generalize hk1 : k + 1 = k1 at *
                    generalize hi1 : i + 1 = i1' at *
                    generalize str (shn (ub p k)) = B at *
                    generalize str (shn (ub p i)) = A at *
                    go_wp2_with fail
                    go_quiet (fail)
                    go_wp2_with fail
                    refine (SA _).mono ?_
                    rintro e w5 ⟨rfl, q5⟩
                    have Q5 : Hid (Qt wr w5) := Qt.comp (Mv.drewN _ _ nq) q5.out
                    have ck := HK.out _ Q5.out
                    clear c0 ci HK
                    go_wp2_with fail
                    refine (SB _).mono ?_
                    rintro e w6 ⟨rfl, q6⟩
                    go_wp2_with fail
                    refine ⟨⟨k1, _, _, _, by omega, rfl, rfl, E, HX, by omega, (QK.out.comp Q5.out).comp q6.out⟩, by simp [intOf]; omega⟩
              · have HX : Hid (Up p (k + 1) (ub p k + 1) (R ++ [(ub p i, ub p k)])) := HR.out.stop (fun g => by rw [← HM.out] at g; exact absurd g h1) HU.out
                have e1 : (k : Int) + 1 = ((k + 1 : Nat) : Int) := by omega
                have w1' : IntKind.i64.wrap ((k + 1 : Nat) : Int) = ((k + 1 : Nat) : Int) := by rw [IntKind.wrap_i64]; omega
                have t1 : decide (((k + 1 : Nat) : Int) < (n : Int)) = false := by simp; omega
                have i3 : (k : Int) < (n : Int) := by omega
                have i4 : (0 : Int) ≤ (k : Int) := by omega
                have HIL : Hid (i < (upl p 256).length) := by rw [← HM.out]; exact hlt
                have HKL : Hid (k < (upl p 256).length) := by rw [← HM.out]; exact hk
                have SA := fun W => shown_any (ub p i) (ub_at HIL.out).1 W
                have SB := fun W => shown_any (ub p k) (ub_at HKL.out).1 W
                have y1 : (str (shn (ub p i))).size ≤ 4 := by rw [str_size]; exact shn_le _
                have y2 : (str (shn (ub p k))).size ≤ 4 := by rw [str_size]; exact shn_le _
                have SZ := size_add T (str (shn (ub p i)))
                have HK : Hid (∀ W, Qt wr W → W.cell? ⟨b, off + k, none⟩ = some (.int .u8 (ub p k : Int))) := fun W q => q.cell (p := ⟨b, off + k, none⟩) c0 (fun h => h)
                rcases (show k = i ∨ k = i + 1 ∨ i + 2 ≤ k from by have := HR.out.le; omega) with hd | hd | hd
                · have E : Hid (_ = _) := grow0 (a := ub p i) HT.out
                  have HX2 : Hid (Up p (k + 1) (ub p k + 1) (R ++ [(ub p i, ub p i)])) := by have := HX.out; rw [hd] at this ⊢; exact this
                  subst hd
                  have t5 : decide ((k : Int) < (k : Int)) = false := by simp
                  have t6 : decide (((k + 1 : Nat) : Int) < (k : Int)) = false := by simp; omega
                  clear HX SB y2 HK
                  generalize hk1 : k + 1 = k1 at *
                  generalize str (shn (ub p k)) = A at *
                  go_wp2_with fail
                  go_quiet (fail)
                  go_wp2_with fail
                  refine (SA _).mono ?_
                  rintro e w5 ⟨rfl, q5⟩
                  have Q5 : Hid (Qt w1 w5) := Qt.comp (QK.out.comp (Mv.drewN _ _ nq)) q5.out
                  go_wp2_with fail
                  refine ⟨⟨k1, _, _, _, by omega, rfl, rfl, E, HX2, by omega, Q5⟩, by simp [intOf]; omega⟩
                · have E : Hid (_ = _) := grow1 (a := ub p i) (b := ub p k) (by have := HR.out.at_; omega) HT.out
                  obtain ⟨b', off', hab, hcell⟩ := HF.out i HIL.out
                  cases hab
                  have ci := hcell _ QK.out
                  clear hcell
                  have e2 : (i : Int) + 1 = (k : Int) := by omega
                  have w2' : IntKind.i64.wrap (k : Int) = (k : Int) := by rw [IntKind.wrap_i64]; omega
                  have t5 : decide ((k : Int) < (k : Int)) = false := by simp
                  have t6 : decide ((i : Int) < (k : Int)) = true := by simp; omega
                  have i5 : (i : Int) < (n : Int) := by omega
                  have i6 : (0 : Int) ≤ (i : Int) := by omega
                  have SZ2 := size_add (T ++ str (shn (ub p i))) (str (shn (ub p k)))
                  have HD : Hid (k = i + 1) := hd
                  clear hd
                  generalize hk1 : k + 1 = k1 at *
                  generalize str (shn (ub p k)) = B at *
                  generalize str (shn (ub p i)) = A at *
                  go_wp2_with fail
                  go_quiet (fail)
                  go_wp2_with fail
                  refine (SA _).mono ?_
                  rintro e w5 ⟨rfl, q5⟩
                  have Q5 : Hid (Qt wr w5) := Qt.comp (Mv.drewN _ _ nq) q5.out
                  have ck := HK.out _ Q5.out
                  clear c0 ci HK
                  go_wp2_with fail
                  refine (SB _).mono ?_
                  rintro e w6 ⟨rfl, q6⟩
                  go_wp2_with fail
                  have hd := HD.out
                  refine ⟨⟨k1, _, _, _, by omega, rfl, rfl, E, HX, by omega, (QK.out.comp Q5.out).comp q6.out⟩, by simp [intOf]; omega⟩
                · have E : Hid (_ = _) := grow2 (a := ub p i) (b := ub p k) (by have := HR.out.at_; omega) HT.out
                  obtain ⟨b', off', hab, hcell⟩ := HF.out i HIL.out
                  cases hab
                  have ci := hcell _ QK.out
                  clear hcell
                  have e2 : (i : Int) + 1 = ((i + 1 : Nat) : Int) := by omega
                  have w2' : IntKind.i64.wrap ((i + 1 : Nat) : Int) = ((i + 1 : Nat) : Int) := by rw [IntKind.wrap_i64]; omega
                  have t5 : decide (((i + 1 : Nat) : Int) < (k : Int)) = true := by simp; omega
                  have t6 : decide ((i : Int) < (k : Int)) = true := by simp; omega
                  have i5 : (i : Int) < (n : Int) := by omega
                  have i6 : (0 : Int) ≤ (i : Int) := by omega
                  have SZ2 : ((T ++ str (shn (ub p i))) ++ (⟨#[45]⟩ : ByteArray)).size = (T ++ str (shn (ub p i))).size + 1 := size_add _ _
                  have SZ3 := size_add ((T ++ str (shn (ub p i))) ++ (⟨#[45]⟩ : ByteArray)) (str (shn (ub p k)))
                  generalize hk1 : k + 1 = k1 at *
                  generalize hi1 : i + 1 = i1' at *
                  generalize str (shn (ub p k)) = B at *
                  generalize str (shn (ub p i)) = A at *
                  go_wp2_with fail
                  go_quiet (fail)
                  go_wp2_with fail
                  refine (SA _).mono ?_
                  rintro e w5 ⟨rfl, q5⟩
                  have Q5 : Hid (Qt wr w5) := Qt.comp (Mv.drewN _ _ nq) q5.out
                  have ck := HK.out _ Q5.out
                  clear c0 ci HK
                  go_wp2_with fail
                  refine (SB _).mono ?_
                  rintro e w6 ⟨rfl, q6⟩
                  go_wp2_with fail
                  refine ⟨⟨k1, _, _, _, by omega, rfl, rfl, E, HX, by omega, (QK.out.comp Q5.out).comp q6.out⟩, by simp [intOf]; omega⟩
          · obtain rfl : i = n := by omega
            have HRR : Hid (Runs p 0 R) := HU.out.end_ HM.out
            have HS : Hid (T ++ (⟨#[93]⟩ : ByteArray) = str (shw R)) := by
              show _ = _
              rw [HW.out R HRR.out, HT.out, show (⟨#[93]⟩ : ByteArray) = str [93] from rfl, str_append]
              rfl
            have hn := HN.out
            clear HT
            go_wp2_with fail
            go_ret
            exact ⟨R, HRR.out, by rw [← HS.out]; rfl, Q1.out.comp QR.out⟩
end Go.Proofs.YtkclkhfcmjhogaaDoor
