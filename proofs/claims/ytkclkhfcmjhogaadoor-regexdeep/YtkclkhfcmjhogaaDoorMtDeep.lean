/- RegexDeep. -/
import Derived.Test.YtkclkhfcmjhogaaDoorMtForms
import Derived.Test.YtkclkhfcmjhogaaDoorMgQ
import Derived.Test.YtkclkhfcmjhogaaDoorMgE
import Derived.Test.YtkclkhfcmjhogaaDoorMgF
namespace Go.Proofs.YtkclkhfcmjhogaaDoor
open Go.RowKit
set_option linter.unusedVariables false

theorem deep_str (k : Nat) : (⟨#[40]⟩ : ByteArray) ++ str (deepL k) ++ ⟨#[41]⟩ = str (deepL (k + 1)) := by
  rw [show (⟨#[40]⟩ : ByteArray) = str [40] from rfl, show (⟨#[41]⟩ : ByteArray) = str [41] from rfl, str_append, str_append]
  rfl
theorem parts_nil (w : World) : Parts [] (fun _ => False) w none 0 := ⟨[], (fun q h => nomatch h), Nat.le_refl 0, ⟨Nat.zero_lt_succ _, fun _ => ⟨rfl, rfl⟩⟩, (fun i v h => nomatch h), rfl⟩
theorem rxg {W0 w4 w5 : World} {g : Nat} (hg : W0.heap.size ≤ g) (a : Qt W0 w4) (m : Mv (fun j => j = g) w4 w5) : Qt W0 w5 := Mv.trans a m (fun j hj e => by omega)
set_option maxRecDepth 20000 in
theorem field_set (k : Int) (x0 x1 x2 x3 : Nat) (v : Value) (W : World) : (Instr.field 28 (.agg #[.int .i64 k, .int .u64 x0, .int .u64 x1, .int .u64 x2, .int .u64 x3, v]) 1).run Tryd.prog W = .ok (.agg #[.int .u64 x0, .int .u64 x1, .int .u64 x2, .int .u64 x3]) W := by
  unfold Instr.field
  simp [go_sem]
  rfl
theorem made0 (w : World) : Calls Tryd.prog 20 #[.slice none 0 0] w fun e w' => e = .returned (.pointer (some ⟨w.heap.size, 0, none⟩)) ∧ Hid (Pk w' w.heap.size none 0 0 (fun _ => 0) 0) ∧ Hid (Qt w w') :=
  made_any none 0 0 (fun _ => 0) w (show Hid _ from fun i hi => by omega) (by decide) (fun i hi => by omega) (fun q h => nomatch h)
theorem made0d (w : World) : Calls Tryd.prog 20 #[.slice none 0 0] w.drew fun e w' => e = .returned (.pointer (some ⟨w.heap.size, 0, none⟩)) ∧ Hid (Pk w' w.heap.size none 0 0 (fun _ => 0) 0) ∧ Hid (Qt w.drew w') := made0 w.drew
set_option maxRecDepth 20000 in
set_option maxHeartbeats 4000000 in
theorem regexDeep_walk (n : Nat) (hn : n < 256) (w : World) (hT : Hid (Tab w)) : Calls Tryd.prog 10 #[.int .u8 n] w fun e w' => e = .returned (.bool true) ∧ Hid (Qt w w') := by
  have hb := begun_true w hT
  have hmt : Int.tmod (n : Int) 30 = ((n % 30 : Nat) : Int) := by rw [Int.tmod_eq_emod_of_nonneg (by omega)]; omega
  have hme : (n : Int) % 30 = ((n % 30 : Nat) : Int) := by omega
  obtain ⟨k, hk⟩ : ∃ k, k = n % 30 := ⟨_, rfl⟩
  have hk30 : k < 30 := by omega
  rw [← hk] at hmt hme
  clear hk
  have hki : (k : Int) < 30 := by omega
  go_enter Tryd.func10, Tryd.ntmps10
  go_wp2_with fail
  refine hb.mono ?_
  rintro e1 w1 ⟨rfl, q1⟩
  go_wp2_with fail
  go_loopw [4, 5] (fun s4 s5 wr => ∃ i : Nat, i ≤ k ∧ s5 = .int .i64 i ∧ s4 = .string (str (deepL i)) ∧ Hid (Qt w wr)) (fun _ s5 _ => k - (intOf s5).toNat)
  case atStart => exact ⟨0, by omega, rfl, rfl, q1⟩
  case round =>
    obtain ⟨i, hi, rfl, hs4, B⟩ := hrel
    subst hs4
    have hsz : (str (deepL i)).size ≤ 61 := by rw [str_size, deep_len]; omega
    by_cases hlt : i < k
    · have HS : Hid _ := deep_str i
      go_wp2_with fail
      exact ⟨⟨i + 1, by omega, by go_num, by rw [HS.out], B⟩, by simp [intOf]; omega⟩
    · obtain rfl : i = k := by omega
      have hp := parseX_any (deepL i) wr (by rw [deep_len]; omega) (deep_byte i)
      clear hb hmt hme hn hsz
      by_cases h13 : 13 < i
      · rw [deep_cap hk30 h13] at hp
        have hi13 : (13 : Int) < (i : Int) := by omega
        generalize str (deepL i) = S at *
        go_wp2_with fail
        refine hp.mono ?_
        rintro e2 w2 ⟨rfl, q2⟩
        go_wp2_with fail
        go_ret
        exact ⟨rfl, (B.out.comp q2.out).alloc _⟩
      · obtain ⟨p, h1, h2⟩ := deep_ok h13
        rw [h1] at hp
        have hi13 : (i : Int) ≤ 13 := by omega
        have hsm : sameX ⟨1, p, []⟩ ⟨1, ofl (fun i => 97 + i) 2, []⟩ = false := by
          cases h : sameX ⟨1, p, []⟩ ⟨1, ofl (fun i => 97 + i) 2, []⟩ with
          | false => rfl
          | true =>
            have h3 : p 98 = ofl (fun i => 97 + i) 2 98 := (sameX_iff.1 h).2.1 98 (by decide)
            have h4 := same_like.1 h2 98 (by decide)
            rw [h4] at h3
            revert h3
            decide +kernel
        have hse : same p (ofl (fun i => 97 + i) 2) = false := by
          cases h : same p (ofl (fun i => 97 + i) 2) with
          | false => rfl
          | true =>
            have h3 := same_like.1 h 98 (by decide)
            have h4 := same_like.1 h2 98 (by decide)
            rw [h4] at h3
            revert h3
            decide +kernel
        have HSM : Hid _ := hsm
        have heq := fun W => eql_run p (ofl (fun i => 97 + i) 2) W
        rw [sv_cells, sv_cells, hse] at heq
        have hsame := fun K J a b c d W (A : Hid (Parts [] K W a c)) (D : Hid (Parts [] J W b d)) => sameRx_any ⟨1, p, []⟩ ⟨1, ofl (fun i => 97 + i) 2, []⟩ K J a b c d W A D
        rw [hsm] at hsame
        clear hsm hse h1 h2
        generalize str (deepL i) = S at *
        go_wp2_with fail
        refine hp.mono ?_
        rintro e2 w2 ⟨a, c, rfl, hpa, q2⟩
        go_wp2_with fail
        have HPA : Hid (Parts [] (fun j => wr.heap.size ≤ j) w2 a c) := hpa
        have PX : Hid (B6 w2.heap.size (.int .i64 1) (.int .u64 (limb p 0)) (.int .u64 (limb p 1)) (.int .u64 (limb p 2)) (.int .u64 (limb p 3)) (.slice a 0 c) (w2.alloc (.cells #[.int .i64 1, .int .u64 (limb p 0), .int .u64 (limb p 1), .int .u64 (limb p 2), .int .u64 (limb p 3), .slice a 0 c] 28))) := heap_alloc_new w2 _
        have QA : Hid (Qt w2 (w2.alloc (.cells #[.int .i64 1, .int .u64 (limb p 0), .int .u64 (limb p 1), .int .u64 (limb p 2), .int .u64 (limb p 3), .slice a 0 c] 28))) := Mv.alloc _ _ _
        have QW : Hid (Qt w w2) := B.out.comp q2.out
        have HSa := fun W (q : Hid (Qt w2 W)) => hsame (fun j => wr.heap.size ≤ j) (fun _ => False) a none c 0 W (show Hid _ from HPA.out.mv q.out (fun _ _ h => h)) (parts_nil W)
        have HSb : ∀ W, Qt w2 W → Calls Tryd.prog 16 #[.agg #[.int .i64 1, .int .u64 (limb p 0), .int .u64 (limb p 1), .int .u64 (limb p 2), .int .u64 (limb p 3), .slice a 0 c], .agg #[.int .i64 1, .int .u64 (limb (ofl (fun i => 97 + i) 2) 0), .int .u64 (limb (ofl (fun i => 97 + i) 2) 1), .int .u64 (limb (ofl (fun i => 97 + i) 2) 2), .int .u64 (limb (ofl (fun i => 97 + i) 2) 3), .slice none 0 0]] W fun e w' => e = .returned (.bool false) ∧ Hid (Qt W w') := HSa
        clear hsame HSa hp hpa
        generalize w2.alloc (.cells #[.int .i64 1, .int .u64 (limb p 0), .int .u64 (limb p 1), .int .u64 (limb p 2), .int .u64 (limb p 3), .slice a 0 c] 28) = W9 at *
        obtain ⟨c0, c1, c2, c3, c4, c5, _, _, _, _, _, _⟩ := B6.facts PX
        have C0 : Hid _ := c0
        have C1 : Hid _ := c1
        have C2 : Hid _ := c2
        have C3 : Hid _ := c3
        have C4 : Hid _ := c4
        have C5 : Hid _ := c5
        have hfield := fun W => field_set 1 (limb (ofl (fun i => 97 + i) 2) 0) (limb (ofl (fun i => 97 + i) 2) 1) (limb (ofl (fun i => 97 + i) 2) 2) (limb (ofl (fun i => 97 + i) 2) 3) (.slice none 0 0) W
        have DQ : Hid (Qt W9 W9.drew) := Mv.drewN _ W9 1
        go_region_held3 (fun w' => w'.cell? ⟨w2.heap.size, 0, none⟩ = some (.int .i64 1) ∧ w'.cell? ⟨w2.heap.size, 1, none⟩ = some (.int .u64 (limb p 0)) ∧ w'.cell? ⟨w2.heap.size, 2, none⟩ = some (.int .u64 (limb p 1)) ∧ w'.cell? ⟨w2.heap.size, 3, none⟩ = some (.int .u64 (limb p 2)) ∧ w'.cell? ⟨w2.heap.size, 4, none⟩ = some (.int .u64 (limb p 3)) ∧ w'.cell? ⟨w2.heap.size, 5, none⟩ = some (.slice a 0 c) ∧ Hid (Qt W9 w'))
          (first | (refine hold6 C0 C1 C2 C3 C4 C5 ?_; first | exact rxg (Mv.size (Qt.comp (rxg (Nat.le_refl _) (Qt.comp DQ.out q4.out) m5.out) q6.out)) (Qt.comp (Qt.comp (rxg (Nat.le_refl _) (Qt.comp DQ.out q4.out) m5.out) q6.out) q7.out) m8.out | exact Qt.comp (Qt.comp (rxg (Nat.le_refl _) (Qt.comp DQ.out q4.out) m5.out) q6.out) q7.out | exact (Qt.comp (rxg (Nat.le_refl _) (Qt.comp DQ.out q4.out) m5.out) q6.out) | exact (rxg (Nat.le_refl _) (Qt.comp DQ.out q4.out) m5.out) | exact Qt.comp DQ.out q4.out | exact DQ))
          ((first
            | (go_at_call 20; with_reducible refine (made0d W9).mono ?_; rintro e4 w4 ⟨rfl, p4, q4⟩)
            | (go_at_call 20; with_reducible refine (made0 w6).mono ?_; rintro e7 w7 ⟨rfl, p7, q7⟩)
            | (go_at_call 21; with_reducible refine (rx_none _ none 0 0 _ 0 (by decide) _ p4).mono ?_; rintro e5 w5 ⟨rfl, m5⟩)
            | (go_at_call 21; with_reducible refine (rx_none _ none 0 0 _ 0 (by decide) _ p7).mono ?_; rintro e8 w8 ⟨rfl, m8⟩)
            | (go_at_call 16; with_reducible refine (HSb w5 (Qt.comp QA.out (rxg (Nat.le_refl _) (Qt.comp DQ.out q4.out) m5.out))).mono ?_; rintro e6 w6 ⟨rfl, q6⟩)))
        go_wp2_with fail
        go_ret
        exact ⟨rfl, ((QW.out.comp QA.out).comp (rxg (Mv.size (Qt.comp (rxg (Nat.le_refl _) (Qt.comp DQ.out q4.out) m5.out) q6.out)) (Qt.comp (Qt.comp (rxg (Nat.le_refl _) (Qt.comp DQ.out q4.out) m5.out) q6.out) q7.out) m8.out))⟩

theorem regexDeep_row (a : Int) (wa : (Lit.int .u8 a).wf = true) (w : World) (hT : Tab w) : Calls Tryd.prog 10 #[.int .u8 a] w fun e w' => e = .returned (.bool true) ∧ Below w.heap.size w w' := by
  obtain ⟨n, rfl, hn⟩ : ∃ n : Nat, a = n ∧ n < 256 := by
    simp [Lit.wf, IntKind.min, IntKind.max, IntKind.signed, IntKind.bits] at wa
    exact ⟨a.toNat, by omega, by omega⟩
  exact (regexDeep_walk n hn w hT).mono fun e w' ⟨he, hq⟩ => ⟨he, hq.out.below (Nat.le_refl _) (fun _ _ h => h)⟩

end Go.Proofs.YtkclkhfcmjhogaaDoor
