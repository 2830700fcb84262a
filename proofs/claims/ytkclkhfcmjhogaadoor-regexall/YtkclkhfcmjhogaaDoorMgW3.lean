/- The reference's spans: of a set. -/
import Derived.Test.YtkclkhfcmjhogaaDoorMgW2
import Derived.Test.YtkclkhfcmjhogaaDoorMgR
import Derived.Deep.RegionWith
namespace Go.Proofs.YtkclkhfcmjhogaaDoor
open Go.RowKit
set_option linter.unusedVariables false

theorem Tt.up {w W w' : World} {N : Nat} {F : Mat} {e : Ending} (h : Tt W N F e w') (q : Qt w W) : Tt w N F e w' := by
  obtain ⟨g, h1, h2, h3⟩ := h
  exact ⟨g, h1, h2.out.base q.size, q.comp h3.out⟩
theorem Tq.qt2 {w wr w' : World} {g N : Nat} {F : Mat} (h : Hid (Tq w wr g N F)) (q : Hid (Qt wr w')) : Hid (Tq w w' g N F) := ⟨h.out.tb.mv q.out (fun _ h => h.elim), h.out.qt.comp q.out⟩
/-- What spans tells of x. -/
def SpR (bt : Nat → Nat) (n : Nat) (x : RX) : Prop := ∀ (K : Nat → Prop) (a wa : Option Addr) (c wc : Nat) (w : World), Parts x.args K w a c → Hid (Sl w wa n (Bn bt)) → x.formed = true → Calls Tryd.prog 46 #[.agg #[.int .i64 x.kind, .int .u64 (limb x.set 0), .int .u64 (limb x.set 1), .int .u64 (limb x.set 2), .int .u64 (limb x.set 3), .slice a x.args.length c], .slice wa n wc] w fun e w' => Tt w (n + 1) (x.mt bt n) e w'

set_option maxRecDepth 20000 in
set_option maxHeartbeats 4000000 in
theorem rspans_set (bt : Nat → Nat) (n : Nat) (hn : n ≤ 60) (hb : ∀ i, i < n → bt i < 256) (p : Nat → Bool) (a wa : Option Addr) (m c wc : Nat) (w : World) (hw : Hid (Sl w wa n (Bn bt))) :
    Calls Tryd.prog 46 #[.agg #[.int .i64 1, .int .u64 (limb p 0), .int .u64 (limb p 1), .int .u64 (limb p 2), .int .u64 (limb p 3), .slice a m c], .slice wa n wc] w fun e w' => Tt w (n + 1) (setM p bt n) e w' := by
  have PB : Hid (B6 w.heap.size (.int .i64 1) (.int .u64 (limb p 0)) (.int .u64 (limb p 1)) (.int .u64 (limb p 2)) (.int .u64 (limb p 3)) (.slice a m c) (w.alloc (.cells #[.int .i64 1, .int .u64 (limb p 0), .int .u64 (limb p 1), .int .u64 (limb p 2), .int .u64 (limb p 3), .slice a m c] 28))) := heap_alloc_new w _
  have QA : Hid (Qt w (w.alloc (.cells #[.int .i64 1, .int .u64 (limb p 0), .int .u64 (limb p 1), .int .u64 (limb p 2), .int .u64 (limb p 3), .slice a m c] 28))) := Mv.alloc _ _ _
  have ht := rtable_any (n + 1) (w.alloc (.cells #[.int .i64 1, .int .u64 (limb p 0), .int .u64 (limb p 1), .int .u64 (limb p 2), .int .u64 (limb p 3), .slice a m c] 28)) (by omega)
  rw [show ((n + 1 : Nat) : Int) = (n : Int) + 1 from by omega] at ht
  have HB : Hid (∀ i, i < n → bt i < 256) := hb
  have hni : (n : Int) ≤ 60 := by omega
  clear hn hb
  go_enter Tryd.func46, Tryd.ntmps46
  go_wp2_with fail
  generalize w.alloc (.cells #[.int .i64 1, .int .u64 (limb p 0), .int .u64 (limb p 1), .int .u64 (limb p 2), .int .u64 (limb p 3), .slice a m c] 28) = W1 at *
  refine ht.mono ?_
  rintro e2 w2 ⟨g, rfl, T2, q2⟩
  have B0 : Hid (Tq W1 w2 g (n + 1) (pcM p bt 0)) := ⟨T2.out.congr (fun r c _ _ => by rw [pcM_start]), q2.out⟩
  have PB2 := B6.mv PB.out q2.out (fun h => h)
  obtain ⟨b0, b1, b2, b3, b4, b5, _⟩ := B6.facts PB2
  clear ht T2 q2
  go_wp2_with fail
  clear b0 b1 b2 b3 b4 b5 PB2
  go_loopw [7] (fun s7 wr => ∃ i : Nat, i ≤ n ∧ s7 = .int .i64 i ∧ Hid (Tq W1 wr g (n + 1) (pcM p bt i))) (fun s7 _ => n - (intOf s7).toNat)
  case atStart => exact ⟨0, by omega, rfl, B0⟩
  case round =>
    clear B0
    obtain ⟨i, hi, rfl, B⟩ := hrel
    by_cases hlt : i < n
    · have HI : Hid (i < n) := hlt
      obtain ⟨b0, b1, b2, b3, b4, b5, _⟩ := B6.facts (B6.mv PB.out B.out.qt (fun h => h))
      obtain ⟨wb, wo, hwa, _, hc⟩ := (hw.out.mv (QA.out.comp B.out.qt) (fun _ _ h => h)) i hlt
      subst hwa
      obtain ⟨k0, k1, k2⟩ := B.out.tb.at (i := i) (j := i + 1) (by omega) (by omega)
      have hhas := fun W => rhas_any p (bt i) (HB.out i hlt) W
      rw [show (Bn bt i) = .int .u8 (bt i : Int) from rfl] at hc
      have BN : Hid (∀ W, Hid (Tq W1 W g (n + 1) (pcM p bt i)) → Hid (Tq W1 (W.setCell ⟨g + 1 + i, i + 1, none⟩ (.bool (p (bt i)))) g (n + 1) (pcM p bt (i + 1)))) := fun W h => h.out.put (by have := HI.out; omega) (p (bt i)) (fun r c _ _ => pcM_put p bt i r c)
      have h2 : (i : Int) + 1 < (n : Int) + 1 := by omega
      generalize bt i = bi at *
      go_wp2_with fail
      go_region_with ((first
        | (go_at_call 67; refine (hhas _).mono ?_; rintro e8 w8 ⟨rfl, q8⟩; have B8 := Tq.qt2 (Tq.qt2 B (show Hid (Qt wr wr.drew) from Mv.drewN _ wr 1)) q8; obtain ⟨m0, m1, m2⟩ := B8.out.tb.at (i := i) (j := i + 1) (by omega) (by omega))))
      all_goals go_wp2_with fail
      all_goals exact ⟨⟨i + 1, by omega, by go_num, BN.out _ B8⟩, by simp [intOf]; omega⟩
    · obtain rfl : i = n := by omega
      have h2 : ¬ (i : Int) + 1 < (i : Int) + 1 := by omega
      go_wp2_with fail
      go_ret
      exact B.out.tell.up QA.out

end Go.Proofs.YtkclkhfcmjhogaaDoor
