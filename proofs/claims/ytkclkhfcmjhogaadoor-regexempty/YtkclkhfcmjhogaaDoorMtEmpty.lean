/- RegexEmpty. -/
import Derived.Test.YtkclkhfcmjhogaaDoorMgD
import Derived.Test.YtkclkhfcmjhogaaDoorMgF
namespace Go.Proofs.YtkclkhfcmjhogaaDoor
open Go.RowKit
set_option linter.unusedVariables false

set_option maxRecDepth 20000 in
set_option maxHeartbeats 4000000 in
theorem regexEmpty_walk (a : Option Addr) (len cap : Nat) (f : Nat → Nat) (w : World) (hs : Hid (Sl w a len (Bn f))) (hf : ∀ i, i < len → f i < 256) (ha : ∀ q, a = some q → q.block < w.heap.size) (hT : Hid (Tab w)) : Calls Tryd.prog 12 #[.slice a len cap] w fun e w' => e = .returned (.bool true) ∧ Hid (Qt w w') := by
  have hb := begun_true w hT
  have HF : Hid _ := hf
  have HA : Hid _ := ha
  clear hf ha
  by_cases hl : 20 < len
  · have hli : (20 : Int) < (len : Int) := by omega
    clear hl
    go_enter Tryd.func12, Tryd.ntmps12
    go_wp2_with fail
    refine hb.mono ?_
    rintro e1 w1 ⟨rfl, q1⟩
    go_wp2_with fail
    go_ret
    exact ⟨rfl, q1.out⟩
  · have hli : (len : Int) ≤ 20 := by omega
    have hrx : ∀ g n W, Hid (Pk W g a len cap f n) → Calls Tryd.prog 21 #[.pointer (some ⟨g, 0, none⟩), .int .i64 2] W fun e w' => RxP 2 W g a len cap f e w' := fun g n W h => rx_any 2 (by decide) g a len cap f n W h
    have HLn : Hid (len < 1000000) := (by omega : len < 1000000)
    clear hl
    go_enter Tryd.func12, Tryd.ntmps12
    go_wp2_with fail
    refine hb.mono ?_
    rintro e1 w1 ⟨rfl, q1⟩
    go_wp2_with fail
    refine (made_any a len cap f w1 (show Hid _ from hs.out.mv q1.out (fun _ _ h => h)) HLn.out HF.out (fun q hq => Nat.lt_of_lt_of_le (HA.out q hq) q1.out.size)).mono ?_
    rintro e2 w2 ⟨rfl, p2, q2⟩
    go_wp2_with fail
    refine (hrx _ _ _ p2).mono ?_
    intro e3 w3 h3
    obtain ⟨x, pa, pc, n3, rfl, plx, px, p3, m3⟩ := h3
    have Q2 : Hid (Qt w w2) := q1.out.comp q2.out
    have Q3 : Hid (Qt w w3) := Mv.trans Q2.out m3.out (fun j hj e => by have := q1.out.size; omega)
    have XT : Hid (Tr x pa pc w3.heap.size (w3.alloc (.cells #[.int .i64 x.kind, .int .u64 (limb x.set 0), .int .u64 (limb x.set 1), .int .u64 (limb x.set 2), .int .u64 (limb x.set 3), .slice pa x.args.length pc] 28))) := Tr.new px.out (hT.out.qt Q3.out)
    have QX : Hid (Qt w (w3.alloc (.cells #[.int .i64 x.kind, .int .u64 (limb x.set 0), .int .u64 (limb x.set 1), .int .u64 (limb x.set 2), .int .u64 (limb x.set 3), .slice pa x.args.length pc] 28))) := Q3.out.alloc _
    obtain ⟨b0, b1, b2, b3, b4, b5, _⟩ := B6.facts (Tr.b XT)
    have HM : Hid (may x = 0) := plx.out.may (by decide)
    have HTl : Hid (x.tall < 90000) := plx.out.tall (by decide)
    have hkx := plx.out.kind
    clear hrx hb p3 px m3 p2 q2 Q2 Q3
    go_wp2_with fail
    generalize w3.alloc (.cells #[.int .i64 x.kind, .int .u64 (limb x.set 0), .int .u64 (limb x.set 1), .int .u64 (limb x.set 2), .int .u64 (limb x.set 3), .slice pa x.args.length pc] 28) = W3 at *
    refine (tr_may HM.out XT).mono ?_
    rintro e4 w4 ⟨rfl, q4⟩
    have X4 := Tr.qt XT q4
    clear b0 b1 b2 b3 b4 b5
    obtain ⟨b0, b1, b2, b3, b4, b5, _⟩ := B6.facts (Tr.b X4)
    have hnull := fun gx W (h : Hid (Tr x pa pc gx W)) => tr_null HTl.out f h
    have hin := fun gx W (h : Hid (Tr x pa pc gx W)) => tr_in (wa := none) (wc := 0) HTl.out f 0 (fun i hi => by omega) h (show Hid _ from fun i hi => by omega)
    have HN4 : Hid (x.kind = 4 → inX f 0 x = true) := null_kind4 HM.out
    have h5n := fun (h : x.kind < 4) W a (s : Sn x a W) => null_sign x 5 (sign_tall2 plx.out (by decide) 5) f a W s
    have h4n := fun (h : x.kind < 4) W a (s : Sn x a W) => null_sign x 4 (sign_tall2 plx.out (by decide) 4) f a W s
    have h6n := fun (h : x.kind < 4) W a (s : Sn x a W) => null_sign x 6 (sign_tall2 plx.out (by decide) 6) f a W s
    have e4n : ∀ (h : x.kind < 4), inX f 0 ⟨4, fun _ => false, [x]⟩ = true := fun h => null_star (by omega) (sign_pl plx.out (by decide) h (.inl rfl)) rfl
    have e5n : ∀ (h : x.kind < 4), inX f 0 ⟨5, fun _ => false, [x]⟩ = inX f 0 x := fun h => null_plus HM.out (sign_pl plx.out (by decide) h (.inr (.inl rfl)))
    have e6n : ∀ (h : x.kind < 4), inX f 0 ⟨6, fun _ => false, [x]⟩ = true := fun h => null_opt (sign_pl plx.out (by decide) h (.inr (.inr rfl)))
    by_cases hk : x.kind = 4
    · have hN := HN4.out hk
      have hk1 : x.kind ≥ 4 := by omega
      have hk2 : (x.kind != 5) = true := by rw [hk]; rfl
      rw [hN] at hnull hin
      clear h5n h4n h6n e4n e5n e6n hN HN4 hk
      go_wp2_with fail
      refine (hnull _ _ X4).mono ?_
      rintro e5 w5 ⟨rfl, q5⟩
      have X5 := Tr.qt X4 q5
      clear b0 b1 b2 b3 b4 b5
      obtain ⟨b0, b1, b2, b3, b4, b5, _⟩ := B6.facts (Tr.b X5)
      go_wp2_with fail
      refine (hin _ _ X5).mono ?_
      rintro e6 w6 ⟨rfl, q6⟩
      have X6 := Tr.qt X5 q6
      clear b0 b1 b2 b3 b4 b5
      obtain ⟨b0, b1, b2, b3, b4, b5, _⟩ := B6.facts (Tr.b X6)
      go_wp2_with fail
      go_ret
      exact ⟨rfl, ((QX.out.comp q4.out).comp q5.out).comp q6.out⟩
    · have hk1 : x.kind < 4 := by omega
      have H5 := fun W a s => h5n hk1 W a s
      have H4 := fun W a s => h4n hk1 W a s
      have H6 := fun W a s => h6n hk1 W a s
      rw [e5n hk1] at H5
      rw [e4n hk1] at H4
      rw [e6n hk1] at H6
      clear h5n h4n h6n e4n e5n e6n HN4 hk
      generalize inX f 0 x = N at *
      go_wp2_with fail
      refine (hnull _ _ X4).mono ?_
      rintro e5 w5 ⟨rfl, q5⟩
      have X5 := Tr.qt X4 q5
      clear b0 b1 b2 b3 b4 b5
      obtain ⟨b0, b1, b2, b3, b4, b5, _⟩ := B6.facts (Tr.b X5)
      go_wp2_with fail
      refine (hin _ _ X5).mono ?_
      rintro e6 wr ⟨rfl, q6⟩
      have X6 := Tr.qt X5 q6
      have QR : Hid (Qt w wr) := ((QX.out.comp q4.out).comp q5.out).comp q6.out
      clear b0 b1 b2 b3 b4 b5
      obtain ⟨c0, c1, c2, c3, c4, c5, _⟩ := B6.facts (Tr.b X6)
      have m1 : Hid (Qt wr ((wr.alloc (.cells #[.int .i64 x.kind, .int .u64 (limb x.set 0), .int .u64 (limb x.set 1), .int .u64 (limb x.set 2), .int .u64 (limb x.set 3), .slice pa x.args.length pc] 28)).alloc (.cells #[.int .i64 4, .int .u64 0, .int .u64 0, .int .u64 0, .int .u64 0, .slice (some ⟨wr.heap.size, 0, none⟩) 1 1] 28))) := ((Qt.refl wr).alloc _).alloc _
      obtain ⟨d0, d1, d2, d3, d4, d5⟩ : _ ∧ _ ∧ _ ∧ _ ∧ _ ∧ _ := ⟨Qt.keep m1 c0, Qt.keep m1 c1, Qt.keep m1 c2, Qt.keep m1 c3, Qt.keep m1 c4, Qt.keep m1 c5⟩
      have m2 : Hid (Qt wr ((((wr.alloc (.cells #[.int .i64 x.kind, .int .u64 (limb x.set 0), .int .u64 (limb x.set 1), .int .u64 (limb x.set 2), .int .u64 (limb x.set 3), .slice pa x.args.length pc] 28)).alloc (.cells #[.int .i64 4, .int .u64 0, .int .u64 0, .int .u64 0, .int .u64 0, .slice (some ⟨wr.heap.size, 0, none⟩) 1 1] 28)).alloc (.cells #[.int .i64 x.kind, .int .u64 (limb x.set 0), .int .u64 (limb x.set 1), .int .u64 (limb x.set 2), .int .u64 (limb x.set 3), .slice pa x.args.length pc] 28)).alloc (.cells #[.int .i64 5, .int .u64 0, .int .u64 0, .int .u64 0, .int .u64 0, .slice (some ⟨wr.heap.size + 1 + 1, 0, none⟩) 1 1] 28))) := (m1.out.alloc _).alloc _
      obtain ⟨x0, x1, x2, x3, x4, x5⟩ : _ ∧ _ ∧ _ ∧ _ ∧ _ ∧ _ := ⟨Qt.keep m2 c0, Qt.keep m2 c1, Qt.keep m2 c2, Qt.keep m2 c3, Qt.keep m2 c4, Qt.keep m2 c5⟩
      have m3 : Hid (Qt wr ((((((wr.alloc (.cells #[.int .i64 x.kind, .int .u64 (limb x.set 0), .int .u64 (limb x.set 1), .int .u64 (limb x.set 2), .int .u64 (limb x.set 3), .slice pa x.args.length pc] 28)).alloc (.cells #[.int .i64 4, .int .u64 0, .int .u64 0, .int .u64 0, .int .u64 0, .slice (some ⟨wr.heap.size, 0, none⟩) 1 1] 28)).alloc (.cells #[.int .i64 x.kind, .int .u64 (limb x.set 0), .int .u64 (limb x.set 1), .int .u64 (limb x.set 2), .int .u64 (limb x.set 3), .slice pa x.args.length pc] 28)).alloc (.cells #[.int .i64 5, .int .u64 0, .int .u64 0, .int .u64 0, .int .u64 0, .slice (some ⟨wr.heap.size + 1 + 1, 0, none⟩) 1 1] 28)).alloc (.cells #[.int .i64 x.kind, .int .u64 (limb x.set 0), .int .u64 (limb x.set 1), .int .u64 (limb x.set 2), .int .u64 (limb x.set 3), .slice pa x.args.length pc] 28)).alloc (.cells #[.int .i64 6, .int .u64 0, .int .u64 0, .int .u64 0, .int .u64 0, .slice (some ⟨wr.heap.size + 1 + 1 + 1 + 1, 0, none⟩) 1 1] 28))) := (m2.out.alloc _).alloc _
      have LA := laid3x x pa pc _ wr ((wr.alloc (.cells #[.int .i64 x.kind, .int .u64 (limb x.set 0), .int .u64 (limb x.set 1), .int .u64 (limb x.set 2), .int .u64 (limb x.set 3), .slice pa x.args.length pc] 28)).alloc (.cells #[.int .i64 4, .int .u64 0, .int .u64 0, .int .u64 0, .int .u64 0, .slice (some ⟨wr.heap.size, 0, none⟩) 1 1] 28)) ((((wr.alloc (.cells #[.int .i64 x.kind, .int .u64 (limb x.set 0), .int .u64 (limb x.set 1), .int .u64 (limb x.set 2), .int .u64 (limb x.set 3), .slice pa x.args.length pc] 28)).alloc (.cells #[.int .i64 4, .int .u64 0, .int .u64 0, .int .u64 0, .int .u64 0, .slice (some ⟨wr.heap.size, 0, none⟩) 1 1] 28)).alloc (.cells #[.int .i64 x.kind, .int .u64 (limb x.set 0), .int .u64 (limb x.set 1), .int .u64 (limb x.set 2), .int .u64 (limb x.set 3), .slice pa x.args.length pc] 28)).alloc (.cells #[.int .i64 5, .int .u64 0, .int .u64 0, .int .u64 0, .int .u64 0, .slice (some ⟨wr.heap.size + 1 + 1, 0, none⟩) 1 1] 28)) ((((((wr.alloc (.cells #[.int .i64 x.kind, .int .u64 (limb x.set 0), .int .u64 (limb x.set 1), .int .u64 (limb x.set 2), .int .u64 (limb x.set 3), .slice pa x.args.length pc] 28)).alloc (.cells #[.int .i64 4, .int .u64 0, .int .u64 0, .int .u64 0, .int .u64 0, .slice (some ⟨wr.heap.size, 0, none⟩) 1 1] 28)).alloc (.cells #[.int .i64 x.kind, .int .u64 (limb x.set 0), .int .u64 (limb x.set 1), .int .u64 (limb x.set 2), .int .u64 (limb x.set 3), .slice pa x.args.length pc] 28)).alloc (.cells #[.int .i64 5, .int .u64 0, .int .u64 0, .int .u64 0, .int .u64 0, .slice (some ⟨wr.heap.size + 1 + 1, 0, none⟩) 1 1] 28)).alloc (.cells #[.int .i64 x.kind, .int .u64 (limb x.set 0), .int .u64 (limb x.set 1), .int .u64 (limb x.set 2), .int .u64 (limb x.set 3), .slice pa x.args.length pc] 28)).alloc (.cells #[.int .i64 6, .int .u64 0, .int .u64 0, .int .u64 0, .int .u64 0, .slice (some ⟨wr.heap.size + 1 + 1 + 1 + 1, 0, none⟩) 1 1] 28)) rfl rfl rfl X6
      obtain ⟨a0, a1, a2, a3, a4, a5, _⟩ := B6.facts (show Hid _ from LA.out.b9)
      clear hnull hin
      go_wp2_with fail
      generalize ((((((wr.alloc (.cells #[.int .i64 x.kind, .int .u64 (limb x.set 0), .int .u64 (limb x.set 1), .int .u64 (limb x.set 2), .int .u64 (limb x.set 3), .slice pa x.args.length pc] 28)).alloc (.cells #[.int .i64 4, .int .u64 0, .int .u64 0, .int .u64 0, .int .u64 0, .slice (some ⟨wr.heap.size, 0, none⟩) 1 1] 28)).alloc (.cells #[.int .i64 x.kind, .int .u64 (limb x.set 0), .int .u64 (limb x.set 1), .int .u64 (limb x.set 2), .int .u64 (limb x.set 3), .slice pa x.args.length pc] 28)).alloc (.cells #[.int .i64 5, .int .u64 0, .int .u64 0, .int .u64 0, .int .u64 0, .slice (some ⟨wr.heap.size + 1 + 1, 0, none⟩) 1 1] 28)).alloc (.cells #[.int .i64 x.kind, .int .u64 (limb x.set 0), .int .u64 (limb x.set 1), .int .u64 (limb x.set 2), .int .u64 (limb x.set 3), .slice pa x.args.length pc] 28)).alloc (.cells #[.int .i64 6, .int .u64 0, .int .u64 0, .int .u64 0, .int .u64 0, .slice (some ⟨wr.heap.size + 1 + 1 + 1 + 1, 0, none⟩) 1 1] 28)) = V at *
      clear c0 c1 c2 c3 c4 c5 d0 d1 d2 d3 d4 d5 x0 x1 x2 x3 x4 x5 a0 a1 a2 a3 a4 a5
      refine (H4 _ _ LA.out.s9).mono ?_
      rintro e7 w7 ⟨rfl, q7⟩
      obtain ⟨a0, a1, a2, a3, a4, a5, _⟩ := B6.facts (B6.mv LA.out.b11 q7.out (fun h => h))
      go_wp2_with fail
      refine (H6 _ _ (LA.out.s11.qt q7.out)).mono ?_
      rintro e8 w8 ⟨rfl, q8⟩
      have Q8 := q7.out.comp q8.out
      clear a0 a1 a2 a3 a4 a5
      obtain ⟨a0, a1, a2, a3, a4, a5, _⟩ := B6.facts (B6.mv LA.out.b10 Q8 (fun h => h))
      go_wp2_with fail
      refine (H5 _ _ (LA.out.s10.qt Q8)).mono ?_
      rintro e9 w9 ⟨rfl, q9⟩
      go_wp2_with fail
      go_ret
      exact ⟨rfl, (QR.out.comp m3.out).comp (Q8.comp q9.out)⟩

theorem regexEmpty_row (a : Option Addr) (len cap : Nat) (f : Nat → Int) (w : World) (hs : Sl w a len (fun i => .int .u8 (f i))) (ho : ∀ i, (Lit.int .u8 (f i)).wf = true) (ha : ∀ q, a = some q → q.block < w.heap.size) (hT : Tab w) : Calls Tryd.prog 12 #[.slice a len cap] w fun e w' => e = .returned (.bool true) ∧ Below w.heap.size w w' := by
  obtain ⟨g, h1, h2⟩ := bytes_of hs ho
  exact (regexEmpty_walk a len cap g w h1 (fun i _ => h2 i) ha hT).mono fun e w' ⟨he, hq⟩ => ⟨he, hq.out.below (Nat.le_refl _) (fun _ _ h => h)⟩

end Go.Proofs.YtkclkhfcmjhogaaDoor
