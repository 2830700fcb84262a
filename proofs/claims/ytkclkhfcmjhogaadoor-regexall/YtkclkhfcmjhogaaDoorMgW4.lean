/- The reference's spans: of rows, one behind the other. -/
import Derived.Test.YtkclkhfcmjhogaaDoorMgW3
import Derived.Test.YtkclkhfcmjhogaaDoorMgZ4
namespace Go.Proofs.YtkclkhfcmjhogaaDoor
open Go.RowKit
set_option linter.unusedVariables false

/-- So many of a row, one behind the other. -/
def ctM (bt : Nat → Nat) (n : Nat) (l : List RX) (i : Nat) : Mat := ((l.take i).map (RX.mt bt n)).foldl (thenM (n + 1)) idM
theorem ctM_next {bt : Nat → Nat} {n : Nat} {l : List RX} {i : Nat} {y : RX} (h : l[i]? = some y) : thenM (n + 1) (ctM bt n l i) (y.mt bt n) = ctM bt n l (i + 1) := by
  unfold ctM
  rw [List.take_add_one, h]
  simp
theorem ctM_fwd (bt : Nat → Nat) (n : Nat) (l : List RX) (i : Nat) : Fwd (n + 1) (ctM bt n l i) := by
  unfold ctM
  refine foldl_fwd (fun a b ha hb => thenM_fwd ha hb) _ _ (idM_fwd _) (fun m hm => ?_)
  obtain ⟨y, _, rfl⟩ := List.mem_map.1 hm
  exact mt_fwd bt n y
theorem ctM_done (bt : Nat → Nat) (n : Nat) (x : RX) (l : List RX) {r c : Nat} (hr : r < n + 1) (hc : c < n + 1) : ctM bt n (x :: l) (x :: l).length r c = mtK (n + 1) 2 ((x :: l).map (RX.mt bt n)) r c := by
  unfold ctM
  rw [List.take_length, List.map_cons, List.foldl_cons, mtK, if_pos rfl]
  exact foldl_then _ _ _ (fun r c hr _ => idM_then hr) r c hr hc

set_option maxRecDepth 20000 in
set_option maxHeartbeats 4000000 in
theorem rspans_cat (bt : Nat → Nat) (n : Nat) (hn : n ≤ 60) (p : Nat → Bool) (l : List RX) (hl : l.length < 100000) (hx : ∀ y ∈ l, SpR bt n y ∧ y.formed = true) (K : Nat → Prop) (a wa : Option Addr) (c wc : Nat) (w : World) (hp : Parts l K w a c) (hw : Hid (Sl w wa n (Bn bt))) :
    Calls Tryd.prog 46 #[.agg #[.int .i64 2, .int .u64 (limb p 0), .int .u64 (limb p 1), .int .u64 (limb p 2), .int .u64 (limb p 3), .slice a l.length c], .slice wa n wc] w fun e w' => Tt w (n + 1) (ctM bt n l l.length) e w' := by
  have PB : Hid (B6 w.heap.size (.int .i64 2) (.int .u64 (limb p 0)) (.int .u64 (limb p 1)) (.int .u64 (limb p 2)) (.int .u64 (limb p 3)) (.slice a l.length c) (w.alloc (.cells #[.int .i64 2, .int .u64 (limb p 0), .int .u64 (limb p 1), .int .u64 (limb p 2), .int .u64 (limb p 3), .slice a l.length c] 28))) := heap_alloc_new w _
  have QA : Hid (Qt w (w.alloc (.cells #[.int .i64 2, .int .u64 (limb p 0), .int .u64 (limb p 1), .int .u64 (limb p 2), .int .u64 (limb p 3), .slice a l.length c] 28))) := Mv.alloc _ _ _
  have HP : Hid (Parts l K (w.alloc (.cells #[.int .i64 2, .int .u64 (limb p 0), .int .u64 (limb p 1), .int .u64 (limb p 2), .int .u64 (limb p 3), .slice a l.length c] 28)) a c) := hp.mv (Mv.alloc (fun _ => False) _ _) (fun _ _ h => h)
  have HWA : Hid (Sl (w.alloc (.cells #[.int .i64 2, .int .u64 (limb p 0), .int .u64 (limb p 1), .int .u64 (limb p 2), .int .u64 (limb p 3), .slice a l.length c] 28)) wa n (Bn bt)) := hw.out.mv QA.out (fun _ _ h => h)
  have ht := rtable_any (n + 1) (w.alloc (.cells #[.int .i64 2, .int .u64 (limb p 0), .int .u64 (limb p 1), .int .u64 (limb p 2), .int .u64 (limb p 3), .slice a l.length c] 28)) (by omega)
  rw [show ((n + 1 : Nat) : Int) = (n : Int) + 1 from by omega] at ht
  have hs : ∀ W, Calls Tryd.prog 68 #[.int .i64 ((n : Int) + 1)] W fun e w' => Tt W (n + 1) idM e w' := fun W => by
    have h := rsame_any (n + 1) W (by omega)
    rwa [show ((n + 1 : Nat) : Int) = (n : Int) + 1 from by omega] at h
  have HX : Hid (∀ y ∈ l, SpR bt n y ∧ y.formed = true) := hx
  have HN : Hid (n ≤ 60) := hn
  have hni : (n : Int) ≤ 60 := by omega
  have hlen : l.length < 100000 := hl
  clear hn hp hx hl
  generalize limb p 0 = y0 at *
  generalize limb p 1 = y1 at *
  generalize limb p 2 = y2 at *
  generalize limb p 3 = y3 at *
  go_enter Tryd.func46, Tryd.ntmps46
  go_wp2_with fail
  generalize w.alloc (.cells #[.int .i64 2, .int .u64 y0, .int .u64 y1, .int .u64 y2, .int .u64 y3, .slice a l.length c] 28) = W1 at *
  refine ht.mono ?_
  rintro e2 w2 ⟨g0, rfl, T2, q2⟩
  have PB2 := B6.mv PB.out q2.out (fun h => h)
  obtain ⟨b0, b1, b2, b3, b4, b5, _⟩ := B6.facts PB2
  clear ht T2
  go_wp2_with fail
  refine (hs _).mono ?_
  rintro e3 w3 ⟨g, rfl, T3, q3⟩
  have B0 : Hid (Tq W1 w3 g (n + 1) (ctM bt n l 0)) := ⟨(T3.out.base q2.out.size), q2.out.comp q3.out⟩
  clear hs T3 b0 b1 b2 b3 b4 b5
  go_wp2_with fail
  go_loopw [6, 12] (fun s6 s12 wr => ∃ (i g : Nat), i ≤ l.length ∧ s12 = .int .i64 i ∧ s6 = tv g (n + 1) ∧ Hid (Tq W1 wr g (n + 1) (ctM bt n l i))) (fun _ s12 _ => l.length - (intOf s12).toNat)
  case atStart => exact ⟨0, g, by omega, rfl, rfl, B0⟩
  case round =>
    clear B0
    obtain ⟨i, g4, hi, rfl, hs6, B⟩ := hrel
    subst hs6
    obtain ⟨b0, b1, b2, b3, b4, b5, _⟩ := B6.facts (B6.mv PB.out B.out.qt (fun h => h))
    by_cases hlt : i < l.length
    · obtain ⟨y, hy⟩ : ∃ y, l[i]? = some y := ⟨_, List.getElem?_eq_getElem hlt⟩
      have hmem : y ∈ l := List.mem_of_getElem? hy
      obtain ⟨b', o', a2, c2, hab, hp2, r0, r1, r2, r3, r4, r5⟩ := (HP.out.mv B.out.qt (fun _ _ h => h)).at (i := i) (x := y) hy
      subst hab
      have hsp := (HX.out y hmem).1 K a2 wa c2 wc _ hp2 (show Hid _ from HWA.out.mv B.out.qt (fun _ _ h => h)) (HX.out y hmem).2
      have HS : Hid _ := ctM_next (bt := bt) (n := n) hy
      clear hy hp2 hmem
      go_wp2_with fail
      refine hsp.mono ?_
      rintro e5 w5 ⟨g5, rfl, T5, q5⟩
      have hbe := rbehind_any (n + 1) (ctM bt n l i) (y.mt bt n) g4 g5 W1.heap.size w5 (by have := HN.out; omega) (ctM_fwd bt n l i) (mt_fwd bt n y) (show Hid _ from B.out.tb.mv q5.out (fun _ h => h.elim)) (show Hid _ from T5.out.base B.out.qt.size)
      rw [HS.out] at hbe
      clear hsp T5 b0 b1 b2 b3 b4 b5 r0 r1 r2 r3 r4 r5
      go_wp2_with fail
      refine hbe.mono ?_
      rintro e6 w6 ⟨g6, rfl, T6, q6⟩
      have BN : Hid (Tq W1 w6 g6 (n + 1) (ctM bt n l (i + 1))) := ⟨T6.out.base (B.out.qt.comp q5.out).size, (B.out.qt.comp q5.out).comp q6.out⟩
      clear hbe T6
      go_wp2_with fail
      exact ⟨⟨i + 1, g6, by omega, by go_num, rfl, BN⟩, by simp [intOf]; omega⟩
    · have HE : Hid (i = l.length) := (by omega : i = l.length)
      have h2 : ¬ (i : Int) < (l.length : Int) := by omega
      have BN : Hid (Tq W1 wr g4 (n + 1) (ctM bt n l l.length)) := by rw [← HE.out]; exact B
      clear B
      go_wp2_with fail
      go_ret
      exact BN.out.tell.up QA.out

end Go.Proofs.YtkclkhfcmjhogaaDoor

namespace Go.Proofs.YtkclkhfcmjhogaaDoor
open Go.RowKit
set_option linter.unusedVariables false

/-- Two tables: one is turned, the other is read. -/
structure Two (W wr : World) (gt N : Nat) (F : Mat) (gx : Nat) (X : Mat) : Prop where
  t : Tq W wr gt N F
  x : Tb W.heap.size wr gx N X
  ap : gt + N < gx ∨ gx + N < gt
theorem Two.put {W wr : World} {gt N gx : Nat} {F G X : Mat} (h : Two W wr gt N F gx X) {i j : Nat} (hi : i < N) (b : Bool) (e : ∀ r c, r < N → c < N → updM F i j b r c = G r c) : Two W (wr.setCell ⟨gt + 1 + i, j, none⟩ (.bool b)) gt N G gx X :=
  ⟨h.t.put hi b e, h.x.mv (Mv.setCell wr ⟨gt + 1 + i, j, none⟩ (.bool b)) (fun k hk => by have := h.ap; simp at hk; omega), h.ap⟩
theorem Two.congr {W wr : World} {gt N gx : Nat} {F G X : Mat} (h : Two W wr gt N F gx X) (e : ∀ r c, r < N → c < N → F r c = G r c) : Two W wr gt N G gx X := ⟨h.t.congr e, h.x, h.ap⟩
theorem Two.drew {W wr : World} {gt N gx : Nat} {F X : Mat} (h : Two W wr gt N F gx X) (k : Nat) : Two W (wr.drewN k) gt N F gx X := ⟨h.t.drew k, h.x.mv (Mv.drewN (fun _ => False) wr k) (fun _ h => h.elim), h.ap⟩

set_option maxRecDepth 20000 in
set_option maxHeartbeats 8000000 in
theorem rspans_sign (bt : Nat → Nat) (n : Nat) (hn : n ≤ 60) (k : Int) (hk : k = 4 ∨ k = 5 ∨ k = 6) (p : Nat → Bool) (x : RX) (hx : SpR bt n x) (hxf : x.formed = true) (K : Nat → Prop) (a wa : Option Addr) (c wc : Nat) (w : World) (hp : Parts [x] K w a c) (hw : Hid (Sl w wa n (Bn bt))) :
    Calls Tryd.prog 46 #[.agg #[.int .i64 k, .int .u64 (limb p 0), .int .u64 (limb p 1), .int .u64 (limb p 2), .int .u64 (limb p 3), .slice a 1 c], .slice wa n wc] w fun e w' => Tt w (n + 1) (mtK (n + 1) k [x.mt bt n]) e w' := by
  have PB : Hid (B6 w.heap.size (.int .i64 k) (.int .u64 (limb p 0)) (.int .u64 (limb p 1)) (.int .u64 (limb p 2)) (.int .u64 (limb p 3)) (.slice a 1 c) (w.alloc (.cells #[.int .i64 k, .int .u64 (limb p 0), .int .u64 (limb p 1), .int .u64 (limb p 2), .int .u64 (limb p 3), .slice a 1 c] 28))) := heap_alloc_new w _
  have QA : Hid (Qt w (w.alloc (.cells #[.int .i64 k, .int .u64 (limb p 0), .int .u64 (limb p 1), .int .u64 (limb p 2), .int .u64 (limb p 3), .slice a 1 c] 28))) := Mv.alloc _ _ _
  have HP : Hid (Parts [x] K (w.alloc (.cells #[.int .i64 k, .int .u64 (limb p 0), .int .u64 (limb p 1), .int .u64 (limb p 2), .int .u64 (limb p 3), .slice a 1 c] 28)) a c) := hp.mv (Mv.alloc (fun _ => False) _ _) (fun _ _ h => h)
  have HWA : Hid (Sl (w.alloc (.cells #[.int .i64 k, .int .u64 (limb p 0), .int .u64 (limb p 1), .int .u64 (limb p 2), .int .u64 (limb p 3), .slice a 1 c] 28)) wa n (Bn bt)) := hw.out.mv QA.out (fun _ _ h => h)
  have ht := rtable_any (n + 1) (w.alloc (.cells #[.int .i64 k, .int .u64 (limb p 0), .int .u64 (limb p 1), .int .u64 (limb p 2), .int .u64 (limb p 3), .slice a 1 c] 28)) (by omega)
  rw [show ((n + 1 : Nat) : Int) = (n : Int) + 1 from by omega] at ht
  have hs : ∀ W, Calls Tryd.prog 68 #[.int .i64 ((n : Int) + 1)] W fun e w' => Tt W (n + 1) idM e w' := fun W => by
    have h := rsame_any (n + 1) W (by omega)
    rwa [show ((n + 1 : Nat) : Int) = (n : Int) + 1 from by omega] at h
  have HX : Hid (SpR bt n x ∧ x.formed = true) := ⟨hx, hxf⟩
  have HN : Hid (n ≤ 60) := hn
  have HF : Hid (Fwd (n + 1) (x.mt bt n)) := mt_fwd bt n x
  have HM : Hid (∀ e w', Tt (w.alloc (.cells #[.int .i64 k, .int .u64 (limb p 0), .int .u64 (limb p 1), .int .u64 (limb p 2), .int .u64 (limb p 3), .slice a 1 c] 28)) (n + 1) (mtK (n + 1) k [x.mt bt n]) e w' → Tt w (n + 1) (mtK (n + 1) k [x.mt bt n]) e w') := fun e w' h => h.up QA.out
  have hni : (n : Int) ≤ 60 := by omega
  have hsp := fun W (q : Hid (Qt (w.alloc (.cells #[.int .i64 k, .int .u64 (limb p 0), .int .u64 (limb p 1), .int .u64 (limb p 2), .int .u64 (limb p 3), .slice a 1 c] 28)) W)) => (show ∃ b o a' c', a = some ⟨b, o, none⟩ ∧ _ from (HP.out.mv q.out (fun _ _ h => h)).first)
  clear hn hp hx hxf
  generalize limb p 0 = y0 at *
  generalize limb p 1 = y1 at *
  generalize limb p 2 = y2 at *
  generalize limb p 3 = y3 at *
  have HK : Hid (k = 4 ∨ k = 5 ∨ k = 6) := hk
  have g1 : (k == 1) = false := by rcases hk with rfl | rfl | rfl <;> rfl
  have g2 : (k == 2) = false := by rcases hk with rfl | rfl | rfl <;> rfl
  have g3 : (k == 3) = false := by rcases hk with rfl | rfl | rfl <;> rfl
  clear hk
  obtain ⟨X, hX⟩ : ∃ X, X = x.mt bt n := ⟨_, rfl⟩
  rw [← hX]
  rw [← hX] at HF HM
  have HXX : Hid (x.mt bt n = X) := hX.symm
  clear hX
  go_enter Tryd.func46, Tryd.ntmps46
  go_wp2_with fail
  generalize w.alloc (.cells #[.int .i64 k, .int .u64 y0, .int .u64 y1, .int .u64 y2, .int .u64 y3, .slice a 1 c] 28) = W1 at *
  refine ht.mono ?_
  rintro e2 w2 ⟨g0, rfl, T2, q2⟩
  have PB2 := B6.mv PB.out q2.out (fun h => h)
  obtain ⟨b0, b1, b2, b3, b4, b5, _⟩ := B6.facts PB2
  obtain ⟨b', o', a2, c2, hab, hp2, r0, r1, r2, r3, r4, r5⟩ := hsp _ q2
  subst hab
  have hsp2 := HX.out.1 K a2 wa c2 wc _ hp2 (show Hid _ from HWA.out.mv q2.out (fun _ _ h => h)) HX.out.2
  clear ht T2 hsp hp2
  rw [HXX.out] at hsp2
  go_wp2_with fail
  refine hsp2.mono ?_
  rintro e3 w3 ⟨gx, rfl, T3, q3⟩
  have Q3 : Hid (Qt W1 w3) := q2.out.comp q3.out
  have X3 : Hid (Tb W1.heap.size w3 gx (n + 1) X) := T3.out.base q2.out.size
  clear b0 b1 b2 b3 b4 b5 r0 r1 r2 r3 r4 r5 hsp2 T3
  obtain ⟨b0, b1, b2, b3, b4, b5, _⟩ := B6.facts (B6.mv PB.out Q3.out (fun h => h))
  by_cases h6 : k = 6
  · subst h6
    have B0 : Hid (Tq W1 w3 gx (n + 1) (pdM X 0)) := ⟨X3.out.congr (fun r c _ _ => by rw [pdM_start]), Q3.out⟩
    clear hs
    go_wp2_with fail
    clear b0 b1 b2 b3 b4 b5
    go_loopw [14] (fun s14 wr => ∃ i : Nat, i ≤ n + 1 ∧ s14 = .int .i64 i ∧ Hid (Tq W1 wr gx (n + 1) (pdM X i))) (fun s14 _ => n + 1 - (intOf s14).toNat)
    case atStart => exact ⟨0, by omega, rfl, B0⟩
    case round =>
      clear B0
      obtain ⟨i, hi, rfl, B⟩ := hrel
      by_cases hlt : i < n + 1
      · have h2 : (i : Int) < (n : Int) + 1 := by omega
        obtain ⟨k0, k1, k2⟩ := B.out.tb.at hlt hlt
        have BN : Hid (Tq W1 _ gx (n + 1) (pdM X (i + 1))) := B.out.put hlt true (fun r c _ _ => pdM_put _ i r c)
        go_wp2_with fail
        refine ⟨⟨i + 1, by omega, by go_num, BN⟩, by simp [intOf]; omega⟩
      · have h2 : ¬ (i : Int) < (n : Int) + 1 := by omega
        have HE : Hid (i = n + 1) := (by omega : i = n + 1)
        have BN : Hid (Tq W1 wr gx (n + 1) (mtK (n + 1) 6 [X])) := B.out.congr (fun r c hr _ => by rw [HE.out, pdM_done hr]; rfl)
        clear B
        go_wp2_with fail
        go_ret
        exact HM.out _ _ BN.out.tell
  · have h6b : (k == 6) = false := beq_false_of_ne h6
    have HK2 : Hid (k = 4 ∨ k = 5) := by have := HK.out; show _ ∨ _; omega
    go_wp2_with fail
    refine (hs _).mono ?_
    rintro e4 w4 ⟨gt, rfl, T4, q4⟩
    have PB4 := B6.mv PB.out (Q3.out.comp q4.out) (fun h => h)
    have B0 : Hid (Two W1 w4 gt (n + 1) (psM (n + 1) X 0 0 1) gx X) := by
      refine ⟨⟨(T4.out.base Q3.out.size).congr (fun r c _ _ => by rw [psM_start]), Q3.out.comp q4.out⟩, X3.out.mv q4.out (fun _ h => h.elim), .inr ?_⟩
      have h1 := X3.out.lt.2 n (by omega)
      have h2 := T4.out.lo
      omega
    clear hs T4 b0 b1 b2 b3 b4 b5
    go_wp2_with fail
    go_loopw [15, 16, 17] (fun s15 s16 s17 wr => ∃ i : Nat, i ≤ n + 1 ∧ s15 = .int .i64 i ∧ Hid (Two W1 wr gt (n + 1) (psM (n + 1) X i i (i + 1)) gx X)) (fun s15 _ _ _ => n + 1 - (intOf s15).toNat)
    case atStart => exact ⟨0, by omega, rfl, B0⟩
    case round =>
      clear B0
      obtain ⟨i, hi, rfl, B⟩ := hrel
      by_cases hlt : i < n + 1
      · have HI : Hid (i < n + 1) := hlt
        have h2 : (i : Int) < (n : Int) + 1 := by omega
        go_wp2_with fail
        go_loopw [16, 17] (fun s16 s17 wr => ∃ j : Nat, i ≤ j ∧ j ≤ n + 1 ∧ s16 = .int .i64 j ∧ Hid (Two W1 wr gt (n + 1) (psM (n + 1) X i j (j + 1)) gx X)) (fun s16 _ _ => n + 1 - (intOf s16).toNat)
        case atStart => exact ⟨i, by omega, by omega, rfl, B⟩
        case round =>
          clear B
          obtain ⟨j, hij, hj, rfl, B⟩ := hrel
          by_cases hjl : j < n + 1
          · have h3 : (j : Int) < (n : Int) + 1 := by omega
            go_wp2_with fail
            go_loopw [17] (fun s17 wr => ∃ m : Nat, j < m ∧ m ≤ n + 2 ∧ s17 = .int .i64 m ∧ Hid (Two W1 wr gt (n + 1) (psM (n + 1) X i j m) gx X)) (fun s17 _ => n + 2 - (intOf s17).toNat)
            case atStart => exact ⟨j + 1, by omega, by omega, by go_num, B⟩
            case round =>
              clear B
              obtain ⟨m, hjm, hm, rfl, B⟩ := hrel
              by_cases hml : m < n + 1
              · have h4 : (m : Int) < (n : Int) + 1 := by omega
                obtain ⟨a0, a1, _⟩ := B.out.t.tb.at hlt hjl
                rw [psM_at HF.out hlt] at a1
                cases hab : starM (n + 1) X i j with
                | true =>
                  rw [hab] at a1
                  obtain ⟨d0, d1, _⟩ := B.out.x.at hjl hml
                  obtain ⟨t0, t1, t2⟩ := B.out.t.tb.at hlt hml
                  have BN : Hid (Two W1 _ gt (n + 1) (psM (n + 1) X i j (m + 1)) gx X) := B.out.put hlt (psM (n + 1) X i j m i m || X j m) (fun r c _ _ => psM_put hjm hab)
                  generalize X j m = y at *
                  cases hz : psM (n + 1) X i j m i m with
                  | true =>
                    rw [hz] at t1 BN
                    rw [Bool.true_or] at BN
                    clear hz hab
                    go_wp2_with fail
                    go_region
                    go_wp2_with fail
                    exact ⟨⟨m + 1, by omega, by omega, by go_num, BN.out.drew 1⟩, by simp [intOf]; omega⟩
                  | false =>
                    rw [hz] at t1 BN
                    rw [Bool.false_or] at BN
                    clear hz hab
                    go_wp2_with fail
                    go_region
                    go_wp2_with fail
                    exact ⟨⟨m + 1, by omega, by omega, by go_num, BN.out.drew 1⟩, by simp [intOf]; omega⟩
                | false =>
                  rw [hab] at a1
                  have BN : Hid (Two W1 wr gt (n + 1) (psM (n + 1) X i (j + 1) (j + 1 + 1)) gx X) := B.out.congr (fun r c _ hc => psM_next (.inr hab) hc)
                  clear hab
                  go_wp2_with fail
                  go_roundw
                  case rel => exact ⟨j + 1, by omega, by omega, by go_num, BN⟩
                  case measure => simp [intOf]; omega
              · have BN : Hid (Two W1 wr gt (n + 1) (psM (n + 1) X i (j + 1) (j + 1 + 1)) gx X) := B.out.congr (fun r c _ hc => psM_next (.inl (by omega)) hc)
                have h4 : decide ((m : Int) < (n : Int) + 1) = false := by simp; omega
                clear B
                go_wp2_with fail
                go_roundw
                case rel => exact ⟨j + 1, by omega, by omega, by go_num, BN⟩
                case measure => simp [intOf]; omega
          · have h3 : ¬ (j : Int) < (n : Int) + 1 := by omega
            have HE : Hid (j = n + 1) := (by omega : j = n + 1)
            have BN : Hid (Two W1 wr gt (n + 1) (psM (n + 1) X (i + 1) (i + 1) (i + 1 + 1)) gx X) := B.out.congr (fun r c _ hc => by rw [HE.out]; exact psM_row HF.out HI.out hc)
            clear B
            go_wp2_with fail
            go_roundw
            case rel => exact ⟨i + 1, by omega, by go_num, BN⟩
            case measure => simp [intOf]; omega
      · have h2 : ¬ (i : Int) < (n : Int) + 1 := by omega
        have HE : Hid (i = n + 1) := (by omega : i = n + 1)
        have BN : Hid (Two W1 wr gt (n + 1) (starM (n + 1) X) gx X) := B.out.congr (fun r c hr _ => by rw [HE.out, psM_done hr])
        clear B
        obtain ⟨b0, b1, b2, b3, b4, b5, _⟩ := B6.facts (B6.mv PB.out BN.out.t.qt (fun h => h))
        rcases HK2.out with rfl | rfl
        · go_wp2_with fail
          go_ret
          exact HM.out _ _ BN.out.t.tell
        · have hbe := rbehind_any (n + 1) X (starM (n + 1) X) gx gt W1.heap.size wr (by have := HN.out; omega) HF.out (starM_fwd HF.out) BN.out.x BN.out.t.tb
          go_wp2_with fail
          refine hbe.mono ?_
          rintro e7 w7 ⟨g7, rfl, T7, q7⟩
          clear hbe b0 b1 b2 b3 b4 b5
          go_wp2_with fail
          go_ret
          exact HM.out _ _ ⟨g7, rfl, T7.out.base BN.out.t.qt.size, BN.out.t.qt.comp q7.out⟩

end Go.Proofs.YtkclkhfcmjhogaaDoor

namespace Go.Proofs.YtkclkhfcmjhogaaDoor
open Go.RowKit
set_option linter.unusedVariables false

/-- So many of a row, one or the other. -/
def otM (bt : Nat → Nat) (n : Nat) (l : List RX) (i : Nat) : Mat := ((l.take i).map (RX.mt bt n)).foldl orM (fun _ _ => false)
theorem otM_next {bt : Nat → Nat} {n : Nat} {l : List RX} {i : Nat} {y : RX} (h : l[i]? = some y) : orM (otM bt n l i) (y.mt bt n) = otM bt n l (i + 1) := by
  unfold otM
  rw [List.take_add_one, h]
  simp
theorem otM_done (bt : Nat → Nat) (n : Nat) (x : RX) (l : List RX) (r c : Nat) : otM bt n (x :: l) (x :: l).length r c = mtK (n + 1) 3 ((x :: l).map (RX.mt bt n)) r c := by
  unfold otM
  rw [List.take_length, List.map_cons, List.foldl_cons, mtK, if_neg (by decide), if_pos rfl]
  exact foldl_or _ _ _ (fun r c => by unfold orM; rw [Bool.false_or]) r c

set_option maxRecDepth 20000 in
set_option maxHeartbeats 8000000 in
theorem rspans_alt (bt : Nat → Nat) (n : Nat) (hn : n ≤ 60) (p : Nat → Bool) (l : List RX) (hl : l.length < 100000) (hx : ∀ y ∈ l, SpR bt n y ∧ y.formed = true) (K : Nat → Prop) (a wa : Option Addr) (c wc : Nat) (w : World) (hp : Parts l K w a c) (hw : Hid (Sl w wa n (Bn bt))) :
    Calls Tryd.prog 46 #[.agg #[.int .i64 3, .int .u64 (limb p 0), .int .u64 (limb p 1), .int .u64 (limb p 2), .int .u64 (limb p 3), .slice a l.length c], .slice wa n wc] w fun e w' => Tt w (n + 1) (otM bt n l l.length) e w' := by
  have PB : Hid (B6 w.heap.size (.int .i64 3) (.int .u64 (limb p 0)) (.int .u64 (limb p 1)) (.int .u64 (limb p 2)) (.int .u64 (limb p 3)) (.slice a l.length c) (w.alloc (.cells #[.int .i64 3, .int .u64 (limb p 0), .int .u64 (limb p 1), .int .u64 (limb p 2), .int .u64 (limb p 3), .slice a l.length c] 28))) := heap_alloc_new w _
  have QA : Hid (Qt w (w.alloc (.cells #[.int .i64 3, .int .u64 (limb p 0), .int .u64 (limb p 1), .int .u64 (limb p 2), .int .u64 (limb p 3), .slice a l.length c] 28))) := Mv.alloc _ _ _
  have HP : Hid (Parts l K (w.alloc (.cells #[.int .i64 3, .int .u64 (limb p 0), .int .u64 (limb p 1), .int .u64 (limb p 2), .int .u64 (limb p 3), .slice a l.length c] 28)) a c) := hp.mv (Mv.alloc (fun _ => False) _ _) (fun _ _ h => h)
  have HWA : Hid (Sl (w.alloc (.cells #[.int .i64 3, .int .u64 (limb p 0), .int .u64 (limb p 1), .int .u64 (limb p 2), .int .u64 (limb p 3), .slice a l.length c] 28)) wa n (Bn bt)) := hw.out.mv QA.out (fun _ _ h => h)
  have ht := rtable_any (n + 1) (w.alloc (.cells #[.int .i64 3, .int .u64 (limb p 0), .int .u64 (limb p 1), .int .u64 (limb p 2), .int .u64 (limb p 3), .slice a l.length c] 28)) (by omega)
  rw [show ((n + 1 : Nat) : Int) = (n : Int) + 1 from by omega] at ht
  have HX : Hid (∀ y ∈ l, SpR bt n y ∧ y.formed = true) := hx
  have HN : Hid (n ≤ 60) := hn
  have hni : (n : Int) ≤ 60 := by omega
  have hlen : l.length < 100000 := hl
  clear hn hp hx hl
  generalize limb p 0 = y0 at *
  generalize limb p 1 = y1 at *
  generalize limb p 2 = y2 at *
  generalize limb p 3 = y3 at *
  go_enter Tryd.func46, Tryd.ntmps46
  go_wp2_with fail
  generalize w.alloc (.cells #[.int .i64 3, .int .u64 y0, .int .u64 y1, .int .u64 y2, .int .u64 y3, .slice a l.length c] 28) = W1 at *
  refine ht.mono ?_
  rintro e2 w2 ⟨gt, rfl, T2, q2⟩
  have PB2 := B6.mv PB.out q2.out (fun h => h)
  obtain ⟨b0, b1, b2, b3, b4, b5, _⟩ := B6.facts PB2
  have B0 : Hid (Tq W1 w2 gt (n + 1) (otM bt n l 0)) := ⟨T2.out, q2.out⟩
  clear ht T2
  go_wp2_with fail
  clear b0 b1 b2 b3 b4 b5
  go_loopw [8, 9, 10, 11] (fun s8 s9 s10 s11 wr => ∃ i : Nat, i ≤ l.length ∧ s8 = .int .i64 i ∧ Hid (Tq W1 wr gt (n + 1) (otM bt n l i))) (fun s8 _ _ _ _ => l.length - (intOf s8).toNat)
  case atStart => exact ⟨0, by omega, rfl, B0⟩
  case round =>
    clear B0
    obtain ⟨k, hi, rfl, B⟩ := hrel
    obtain ⟨b0, b1, b2, b3, b4, b5, _⟩ := B6.facts (B6.mv PB.out B.out.qt (fun h => h))
    by_cases hlt : k < l.length
    · obtain ⟨y, hy⟩ : ∃ y, l[k]? = some y := ⟨_, List.getElem?_eq_getElem hlt⟩
      have hmem : y ∈ l := List.mem_of_getElem? hy
      obtain ⟨b', o', a2, c2, hab, hp2, r0, r1, r2, r3, r4, r5⟩ := (HP.out.mv B.out.qt (fun _ _ h => h)).at (i := k) (x := y) hy
      subst hab
      have hsp := (HX.out y hmem).1 K a2 wa c2 wc _ hp2 (show Hid _ from HWA.out.mv B.out.qt (fun _ _ h => h)) (HX.out y hmem).2
      have HF : Hid (Fwd (n + 1) (y.mt bt n)) := mt_fwd bt n y
      have HS : Hid _ := otM_next (bt := bt) (n := n) hy
      have HKL : Hid (k < l.length) := hlt
      clear hy hp2 hmem
      generalize otM bt n l k = T at *
      generalize y.mt bt n = X at *
      go_wp2_with fail
      refine hsp.mono ?_
      rintro e5 w5 ⟨gx, rfl, T5, q5⟩
      have B5 : Hid (Two W1 w5 gt (n + 1) (poM T X 0 0) gx X) := by
        refine ⟨⟨(B.out.tb.mv q5.out (fun _ h => h.elim)).congr (fun r c _ _ => by rw [poM_start]), B.out.qt.comp q5.out⟩, T5.out.base B.out.qt.size, .inl ?_⟩
        have h1 := B.out.tb.lt.2 n (by omega)
        have h2 := T5.out.lo
        omega
      clear hsp T5 b0 b1 b2 b3 b4 b5 r0 r1 r2 r3 r4 r5
      go_wp2_with fail
      go_loopw [10, 11] (fun s10 s11 wr => ∃ i : Nat, i ≤ n + 1 ∧ s10 = .int .i64 i ∧ Hid (Two W1 wr gt (n + 1) (poM T X i i) gx X)) (fun s10 _ _ => n + 1 - (intOf s10).toNat)
      case atStart => exact ⟨0, by omega, rfl, B5⟩
      case round =>
        clear B B5
        obtain ⟨i, hi, rfl, B⟩ := hrel
        by_cases hlt : i < n + 1
        · have HI : Hid (i < n + 1) := hlt
          have h2 : (i : Int) < (n : Int) + 1 := by omega
          go_wp2_with fail
          go_loopw [11] (fun s11 wr => ∃ j : Nat, i ≤ j ∧ j ≤ n + 1 ∧ s11 = .int .i64 j ∧ Hid (Two W1 wr gt (n + 1) (poM T X i j) gx X)) (fun s11 _ => n + 1 - (intOf s11).toNat)
          case atStart => exact ⟨i, by omega, by omega, rfl, B⟩
          case round =>
            clear B
            obtain ⟨j, hij, hj, rfl, B⟩ := hrel
            by_cases hjl : j < n + 1
            · have h3 : (j : Int) < (n : Int) + 1 := by omega
              obtain ⟨d0, d1, _⟩ := B.out.x.at hlt hjl
              obtain ⟨t0, t1, t2⟩ := B.out.t.tb.at hlt hjl
              have BN : Hid (Two W1 _ gt (n + 1) (poM T X i (j + 1)) gx X) := B.out.put hlt (poM T X i j i j || X i j) (fun r c _ _ => poM_put T X i j r c)
              generalize X i j = z at *
              cases hz : poM T X i j i j with
              | true =>
                rw [hz] at t1 BN
                rw [Bool.true_or] at BN
                clear hz
                go_wp2_with fail
                go_region
                go_wp2_with fail
                exact ⟨⟨j + 1, by omega, by omega, by go_num, BN.out.drew 1⟩, by simp [intOf]; omega⟩
              | false =>
                rw [hz] at t1 BN
                rw [Bool.false_or] at BN
                clear hz
                go_wp2_with fail
                go_region
                go_wp2_with fail
                exact ⟨⟨j + 1, by omega, by omega, by go_num, BN.out.drew 1⟩, by simp [intOf]; omega⟩
            · have h3 : ¬ (j : Int) < (n : Int) + 1 := by omega
              have HE : Hid (j = n + 1) := (by omega : j = n + 1)
              have BN : Hid (Two W1 wr gt (n + 1) (poM T X (i + 1) (i + 1)) gx X) := B.out.congr (fun r c _ hc => by rw [HE.out]; exact poM_row HF.out hc)
              clear B
              go_wp2_with fail
              go_roundw
              case rel => exact ⟨i + 1, by omega, by go_num, BN⟩
              case measure => simp [intOf]; omega
        · have h2 : ¬ (i : Int) < (n : Int) + 1 := by omega
          have HE : Hid (i = n + 1) := (by omega : i = n + 1)
          have BN : Hid (Tq W1 wr gt (n + 1) (otM bt n l (k + 1))) := B.out.t.congr (fun r c hr _ => by rw [HE.out, poM_done hr, HS.out])
          clear B
          go_wp2_with fail
          go_roundw
          case rel => exact ⟨k + 1, by omega, by go_num, BN⟩
          case measure => simp [intOf]; omega
    · have HE : Hid (k = l.length) := (by omega : k = l.length)
      have h2 : ¬ (k : Int) < (l.length : Int) := by omega
      have BN : Hid (Tq W1 wr gt (n + 1) (otM bt n l l.length)) := by rw [← HE.out]; exact B
      clear B
      go_wp2_with fail
      go_ret
      exact BN.out.tell.up QA.out

theorem Tt.congr {w w' : World} {N : Nat} {F G : Mat} {e : Ending} (h : Tt w N F e w') (k : ∀ r c, r < N → c < N → F r c = G r c) : Tt w N G e w' := by
  obtain ⟨g, h1, h2, h3⟩ := h
  exact ⟨g, h1, h2.out.congr k, h3⟩
theorem rspans_any (bt : Nat → Nat) (n : Nat) (hn : n ≤ 60) (hb : ∀ i, i < n → bt i < 256) : ∀ x : RX, x.nodes ≤ 40 → SpR bt n x := by
  refine RX.ind ?_
  intro k p l ih hnd K a wa c wc w hp hw hf
  have hfk := formed_kind hf
  have hnn := hf
  rw [formed_at, Bool.and_eq_true] at hnn
  have hnode := hnn.1
  unfold RX.node node at hnode
  have h1 := nodes_at (⟨k, p, l⟩ : RX)
  have hall : ∀ y ∈ l, SpR bt n y ∧ y.formed = true := by
    intro y hy
    have h2 := mem_le_sum (x := y) (l := l) hy
    exact ⟨ih y hy (by simp only at h1; omega), (formed_part hf (show y ∈ (⟨k, p, l⟩ : RX).args from hy)).1⟩
  have hlen : l.length ≤ 40 := by have h2 := len_le_sum l; simp only at h1; omega
  rw [mt_eq]
  simp only at hfk hnode ⊢
  by_cases h1k : k = 1
  · subst h1k
    rw [if_pos rfl]
    exact rspans_set bt n hn hb p a wa _ c wc w hw
  · rw [if_neg h1k]
    by_cases hk2 : k = 2 ∨ k = 3
    · rw [if_pos hk2.symm] at hnode
      cases l with
      | nil => simp at hnode
      | cons x l =>
        rcases hk2 with rfl | rfl
        · exact (rspans_cat bt n hn p (x :: l) (by omega) hall K a wa c wc w hp hw).mono fun e w' h => h.congr (fun r c hr hc => ctM_done bt n x l hr hc)
        · exact (rspans_alt bt n hn p (x :: l) (by omega) hall K a wa c wc w hp hw).mono fun e w' h => h.congr (fun r c _ _ => otM_done bt n x l r c)
    · have hk4 : k = 4 ∨ k = 5 ∨ k = 6 := by omega
      rw [if_neg (fun e => hk2 e.symm), if_pos hk4] at hnode
      have hone : l.length = 1 := by simp at hnode; exact hnode.2
      match l, hone, hall, hp with
      | [x], _, hall, hp => exact rspans_sign bt n hn k hk4 p x (hall x (by simp)).1 (hall x (by simp)).2 K a wa c wc w hp hw

end Go.Proofs.YtkclkhfcmjhogaaDoor

namespace Go.Proofs.YtkclkhfcmjhogaaDoor
open Go.RowKit
set_option linter.unusedVariables false

set_option maxHeartbeats 4000000 in
theorem rin_any (bt : Nat → Nat) (n : Nat) (hn : n ≤ 60) (hb : ∀ i, i < n → bt i < 256) (x : RX) (K : Nat → Prop) (a wa : Option Addr) (c wc : Nat) (w : World) (hX : Parts x.args K w a c) (hf : x.formed = true) (hnd : x.nodes ≤ 40) (hw : Hid (Sl w wa n (Bn bt))) :
    Calls Tryd.prog 27 #[.agg #[.int .i64 x.kind, .int .u64 (limb x.set 0), .int .u64 (limb x.set 1), .int .u64 (limb x.set 2), .int .u64 (limb x.set 3), .slice a x.args.length c], .slice wa n wc] w fun e w' => e = .returned (.bool (x.mt bt n 0 n)) ∧ Hid (Qt w w') := by
  have QA : Hid (Qt w (w.alloc (.cells #[.int .i64 x.kind, .int .u64 (limb x.set 0), .int .u64 (limb x.set 1), .int .u64 (limb x.set 2), .int .u64 (limb x.set 3), .slice a x.args.length c] 28))) := Mv.alloc _ _ _
  have PB : Hid (B6 w.heap.size (.int .i64 x.kind) (.int .u64 (limb x.set 0)) (.int .u64 (limb x.set 1)) (.int .u64 (limb x.set 2)) (.int .u64 (limb x.set 3)) (.slice a x.args.length c) (w.alloc (.cells #[.int .i64 x.kind, .int .u64 (limb x.set 0), .int .u64 (limb x.set 1), .int .u64 (limb x.set 2), .int .u64 (limb x.set 3), .slice a x.args.length c] 28))) := heap_alloc_new w _
  obtain ⟨b0, b1, b2, b3, b4, b5, _⟩ := B6.facts PB
  have hsp := rspans_any bt n hn hb x hnd K a wa c wc (w.alloc (.cells #[.int .i64 x.kind, .int .u64 (limb x.set 0), .int .u64 (limb x.set 1), .int .u64 (limb x.set 2), .int .u64 (limb x.set 3), .slice a x.args.length c] 28)) (hX.mv QA.out (fun _ _ h => h)) (show Hid _ from hw.out.mv QA.out (fun _ _ h => h)) hf
  have hni : (n : Int) ≤ 60 := by omega
  clear hn hb hX hf hnd
  obtain ⟨z, hz⟩ : ∃ z, z = x.mt bt n 0 n := ⟨_, rfl⟩
  rw [← hz]
  have HZ : Hid (x.mt bt n 0 n = z) := hz.symm
  clear hz
  go_enter Tryd.func27, Tryd.ntmps27
  go_wp2_with fail
  refine hsp.mono ?_
  rintro e2 w2 ⟨g, rfl, T2, q2⟩
  obtain ⟨k0, k1, k2⟩ := T2.out.at (i := 0) (j := n) (by omega) (by omega)
  rw [Nat.add_zero] at k0 k1 k2
  have h4 : (n : Int) < ((n + 1 : Nat) : Int) := by omega
  have h5 : (0 : Int) < ((n + 1 : Nat) : Int) := by omega
  rw [HZ.out] at k1
  clear hsp T2 b0 b1 b2 b3 b4 b5
  go_wp2_with fail
  go_ret
  exact ⟨rfl, QA.out.comp q2.out⟩

set_option maxHeartbeats 4000000 in
theorem rnull_any (bt : Nat → Nat) (x : RX) (K : Nat → Prop) (a : Option Addr) (c : Nat) (w : World) (hX : Parts x.args K w a c) (hf : x.formed = true) (hnd : x.nodes ≤ 40) :
    Calls Tryd.prog 25 #[.agg #[.int .i64 x.kind, .int .u64 (limb x.set 0), .int .u64 (limb x.set 1), .int .u64 (limb x.set 2), .int .u64 (limb x.set 3), .slice a x.args.length c]] w fun e w' => e = .returned (.bool (x.mt bt 0 0 0)) ∧ Hid (Qt w w') := by
  have QA : Hid (Qt w (w.alloc (.cells #[.int .i64 x.kind, .int .u64 (limb x.set 0), .int .u64 (limb x.set 1), .int .u64 (limb x.set 2), .int .u64 (limb x.set 3), .slice a x.args.length c] 28))) := Mv.alloc _ _ _
  have PB : Hid (B6 w.heap.size (.int .i64 x.kind) (.int .u64 (limb x.set 0)) (.int .u64 (limb x.set 1)) (.int .u64 (limb x.set 2)) (.int .u64 (limb x.set 3)) (.slice a x.args.length c) (w.alloc (.cells #[.int .i64 x.kind, .int .u64 (limb x.set 0), .int .u64 (limb x.set 1), .int .u64 (limb x.set 2), .int .u64 (limb x.set 3), .slice a x.args.length c] 28))) := heap_alloc_new w _
  obtain ⟨b0, b1, b2, b3, b4, b5, _⟩ := B6.facts PB
  have hin := rin_any bt 0 (by omega) (fun i hi => by omega) x K a none c 0 (w.alloc (.cells #[.int .i64 x.kind, .int .u64 (limb x.set 0), .int .u64 (limb x.set 1), .int .u64 (limb x.set 2), .int .u64 (limb x.set 3), .slice a x.args.length c] 28)) (hX.mv QA.out (fun _ _ h => h)) hf hnd (show Hid (Sl _ none 0 (Bn bt)) from fun i hi => by omega)
  clear hX hf hnd
  go_enter Tryd.func25, Tryd.ntmps25
  go_wp2_with fail
  refine hin.mono ?_
  rintro e2 w2 ⟨rfl, q2⟩
  go_wp2_with fail
  go_ret
  exact ⟨rfl, QA.out.comp q2.out⟩

end Go.Proofs.YtkclkhfcmjhogaaDoor
