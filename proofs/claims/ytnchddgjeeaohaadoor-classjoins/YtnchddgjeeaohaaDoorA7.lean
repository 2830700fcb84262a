/- ClassJoins. -/
import Derived.Test.YtnchddgjeeaohaaDoorJ1
namespace Go.Proofs.YtnchddgjeeaohaaDoor
open Go.RowKit
set_option linter.unusedVariables false

/-- What a region may read of W: three sets, and that nothing has turned since. -/
theorem holdJ {W w' : World} {g0 g1 g2 : Nat} {p q r : Nat → Bool} (h0 : Hid (Bk g0 p W)) (h1 : Hid (Bk g1 q W)) (h2 : Hid (Bk g2 r W)) (m : Hid (Qt W w')) :
    w'.cell? ⟨g0, 0, none⟩ = some (.int .u64 (limb p 0)) ∧ w'.cell? ⟨g0, 1, none⟩ = some (.int .u64 (limb p 1)) ∧ w'.cell? ⟨g0, 2, none⟩ = some (.int .u64 (limb p 2)) ∧ w'.cell? ⟨g0, 3, none⟩ = some (.int .u64 (limb p 3)) ∧ w'.cell? ⟨g1, 0, none⟩ = some (.int .u64 (limb q 0)) ∧ w'.cell? ⟨g1, 1, none⟩ = some (.int .u64 (limb q 1)) ∧ w'.cell? ⟨g1, 2, none⟩ = some (.int .u64 (limb q 2)) ∧ w'.cell? ⟨g1, 3, none⟩ = some (.int .u64 (limb q 3)) ∧ w'.cell? ⟨g2, 0, none⟩ = some (.int .u64 (limb r 0)) ∧ w'.cell? ⟨g2, 1, none⟩ = some (.int .u64 (limb r 1)) ∧ w'.cell? ⟨g2, 2, none⟩ = some (.int .u64 (limb r 2)) ∧ w'.cell? ⟨g2, 3, none⟩ = some (.int .u64 (limb r 3)) ∧ Hid (Qt W w') := by
  obtain ⟨a0, a1, a2, a3, _⟩ := Bk.facts (Bk.mv h0 m.out (fun h => h))
  obtain ⟨b0, b1, b2, b3, _⟩ := Bk.facts (Bk.mv h1 m.out (fun h => h))
  obtain ⟨c0, c1, c2, c3, _⟩ := Bk.facts (Bk.mv h2 m.out (fun h => h))
  exact ⟨a0, a1, a2, a3, b0, b1, b2, b3, c0, c1, c2, c3, m⟩
theorem holdJo {W w' : World} {A0 A1 A2 A3 A4 A5 A6 A7 A8 A9 A10 A11 : Prop} (h : A0 ∧ A1 ∧ A2 ∧ A3 ∧ A4 ∧ A5 ∧ A6 ∧ A7 ∧ A8 ∧ A9 ∧ A10 ∧ A11 ∧ Hid (Qt W w')) : Hid (Qt W w') := h.2.2.2.2.2.2.2.2.2.2.2.2
theorem holdJq {W w' w'' : World} {A0 A1 A2 A3 A4 A5 A6 A7 A8 A9 A10 A11 : Prop} (q : Hid (Qt w' w'')) (h : A0 ∧ A1 ∧ A2 ∧ A3 ∧ A4 ∧ A5 ∧ A6 ∧ A7 ∧ A8 ∧ A9 ∧ A10 ∧ A11 ∧ Hid (Qt W w')) : Hid (Qt W w'') := (holdJo h).out.comp q.out

set_option maxRecDepth 20000 in
set_option maxHeartbeats 4000000 in
theorem joins_early (f g : Nat → Nat) (a b : Option Addr) (n m ca cb : Nat) (w : World) (hT : Hid (Tab w)) (hx : ¬ (1 ≤ n ∧ 1 ≤ m ∧ n ≤ 4 ∧ m ≤ 4)) :
    Calls Tryd.prog 7 #[.slice a n ca, .slice b m cb] w fun e w' => e = .returned (.bool true) ∧ Hid (Qt w w') := by
  by_cases h1 : n = 0
  · have g1 : ((n : Int) == 0) = true := by simp; omega
    clear hx h1
    go_enter Tryd.func7, Tryd.ntmps7
    go_wp2_with fail
    refine (begun_true _ hT).mono ?_
    rintro e w1 ⟨rfl, q1⟩
    go_wp2_with fail
    go_ret
    exact ⟨rfl, q1⟩
  have g1 : ((n : Int) == 0) = false := by simp; omega
  by_cases h2 : m = 0
  · have g2 : ((m : Int) == 0) = true := by simp; omega
    clear hx h1 h2
    go_enter Tryd.func7, Tryd.ntmps7
    go_wp2_with fail
    refine (begun_true _ hT).mono ?_
    rintro e w1 ⟨rfl, q1⟩
    go_wp2_with fail
    go_ret
    exact ⟨rfl, q1⟩
  have g2 : ((m : Int) == 0) = false := by simp; omega
  by_cases h3 : 4 < n
  · have g3 : (4 : Int) < (n : Int) := by omega
    clear hx h1 h2 h3
    go_enter Tryd.func7, Tryd.ntmps7
    go_wp2_with fail
    refine (begun_true _ hT).mono ?_
    rintro e w1 ⟨rfl, q1⟩
    go_wp2_with fail
    go_ret
    exact ⟨rfl, q1⟩
  have g3 : ¬ (4 : Int) < (n : Int) := by omega
  have g4 : (4 : Int) < (m : Int) := by omega
  clear hx h1 h2 h3
  go_enter Tryd.func7, Tryd.ntmps7
  go_wp2_with fail
  refine (begun_true _ hT).mono ?_
  rintro e w1 ⟨rfl, q1⟩
  go_wp2_with fail
  go_ret
  exact ⟨rfl, q1⟩

set_option maxRecDepth 20000 in
set_option maxHeartbeats 8000000 in
theorem joins_main (f g : Nat → Nat) (a b : Option Addr) (n m ca cb : Nat) (w : World) (hs : Hid (Sl w a n (Bn f))) (ht : Hid (Sl w b m (Bn g))) (hf : Hid (∀ i, i < n → f i < 256)) (hg : Hid (∀ i, i < m → g i < 256)) (hT : Hid (Tab w)) (h1 : 1 ≤ n) (h2 : 1 ≤ m) (h3 : n ≤ 4) (h4 : m ≤ 4) :
    Calls Tryd.prog 7 #[.slice a n ca, .slice b m cb] w fun e w' => e = .returned (.bool true) ∧ Hid (Qt w w') := by
  have g1 : ((n : Int) == 0) = false := by simp; omega
  have g2 : ((m : Int) == 0) = false := by simp; omega
  have g3 : ¬ (4 : Int) < (n : Int) := by omega
  have g4 : ¬ (4 : Int) < (m : Int) := by omega
  have HH : Hid (1 ≤ n ∧ 1 ≤ m ∧ n ≤ 4 ∧ m ≤ 4) := ⟨h1, h2, h3, h4⟩
  clear h1 h2 h3 h4
  go_enter Tryd.func7, Tryd.ntmps7
  go_wp2_with fail
  refine (begun_true _ hT).mono ?_
  rintro e w1 ⟨rfl, q1⟩
  go_wp2_with fail
  go_loopw [5, 6] (fun s5 s6 wr => ∃ (i : Nat) (T : ByteArray), i ≤ n ∧ s6 = .int .i64 i ∧ s5 = .string T ∧ Hid (T = str (hxl (lsf f i))) ∧ Hid (Qt w wr)) (fun _ s6 _ => n - (intOf s6).toNat)
  case atStart => exact ⟨0, _, by omega, rfl, rfl, rfl, q1⟩
  case round =>
    obtain ⟨i, T, hi, rfl, rfl, HT, q5⟩ := hrel
    by_cases hlt : i < n
    · obtain ⟨blk, off, rfl, hbl, hc⟩ := hs.out i hlt
      have hc2 : wr.cell? ⟨blk, off + i, none⟩ = some (.int .u8 (f i : Int)) := q5.out.cell (p := ⟨blk, off + i, none⟩) hc (fun h => h)
      have s1 := sign27 (f i) (hf.out i hlt)
      have HU : Hid (T ++ str (hxs (f i)) = str (hxl (lsf f (i + 1)))) := by show _ = _; rw [HT.out, str_append, lsf_succ, hxl_append, hxl_one]
      have u0 : T.size ≤ 16 := by rw [HT.out, str_size, hxl_len, lsf_len]; have := HH.out; omega
      have u1 : (str (hxs (f i))).size = 4 := str_size _
      generalize str (hxs (f i)) = V at *
      clear hbl hc g1 g2 g3 g4
      go_wp2_with fail
      refine (s1 _).mono ?_
      rintro e w6 ⟨rfl, q6⟩
      go_wp2_with fail
      exact ⟨⟨i + 1, _, by omega, by go_num, rfl, HU, q5.out.comp q6.out⟩, by simp [intOf]; omega⟩
    · obtain rfl : i = n := by omega
      clear hlt hi
      have HT0 := HT
      go_wp2_with fail
      go_loopw [5, 7] (fun s5 s7 wr => ∃ (j : Nat) (T : ByteArray), j ≤ m ∧ s7 = .int .i64 j ∧ s5 = .string T ∧ Hid (T = str (hxl (lsf f i ++ lsf g j))) ∧ Hid (Qt w wr)) (fun _ s7 _ => m - (intOf s7).toNat)
      case atStart => exact ⟨0, _, by omega, rfl, rfl, by show _ = _; rw [HT0.out]; simp [lsf], q5⟩
      case round =>
        clear HT HT0 q5
        obtain ⟨j, T, hj, rfl, rfl, HT, q5⟩ := hrel
        by_cases hlt : j < m
        · obtain ⟨blk, off, rfl, hbl, hc⟩ := ht.out j hlt
          have hc2 : wr.cell? ⟨blk, off + j, none⟩ = some (.int .u8 (g j : Int)) := q5.out.cell (p := ⟨blk, off + j, none⟩) hc (fun h => h)
          have s1 := sign27 (g j) (hg.out j hlt)
          have HU : Hid (T ++ str (hxs (g j)) = str (hxl (lsf f i ++ lsf g (j + 1)))) := by show _ = _; rw [HT.out, str_append, lsf_succ, ← List.append_assoc, hxl_append (lsf f i ++ lsf g j), hxl_one]
          have u0 : T.size ≤ 32 := by rw [HT.out, str_size, hxl_len, List.length_append, lsf_len, lsf_len]; have := HH.out; omega
          have u1 : (str (hxs (g j))).size = 4 := str_size _
          generalize str (hxs (g j)) = V at *
          clear hbl hc g1 g2 g3 g4
          go_wp2_with fail
          refine (s1 _).mono ?_
          rintro e w6 ⟨rfl, q6⟩
          go_wp2_with fail
          exact ⟨⟨j + 1, _, by omega, by go_num, rfl, HU, q5.out.comp q6.out⟩, by simp [intOf]; omega⟩
        · obtain rfl : j = m := by omega
          clear hlt hj
          obtain ⟨S, hS⟩ : ∃ S, S = hxl (lsf f i ++ lsf g j) := ⟨_, rfl⟩
          have HT' : T = str S := by rw [HT.out, hS]
          obtain ⟨hP1, hP2, hk⟩ := parse_J f g i j hf.out hg.out HH.out.1 HH.out.2.2.1 HH.out.2.2.2 _ rfl S hS
          have t1 : (⟨#[91]⟩ : ByteArray) ++ T = str (91 :: S) := by rw [HT']; exact str_append [91] S
          have t2 : str (91 :: S) ++ (⟨#[93]⟩ : ByteArray) = str (91 :: (S ++ [93])) := str_append (91 :: S) [93]
          have t3 : (⟨#[91, 94]⟩ : ByteArray) ++ T = str (91 :: 94 :: S) := by rw [HT']; exact str_append [91, 94] S
          have t4 : str (91 :: 94 :: S) ++ (⟨#[93]⟩ : ByteArray) = str (91 :: 94 :: (S ++ [93])) := str_append (91 :: 94 :: S) [93]
          have u0 : T.size ≤ 32 := by rw [HT', str_size]; exact hk
          have u1 : (str (91 :: S)).size ≤ 33 := by rw [str_size]; simp; omega
          have u2 : (str (91 :: 94 :: S)).size ≤ 34 := by rw [str_size]; simp; omega
          have l1 : ((S.length + 2 : Nat) : Int) = (T.size : Int) + 2 := by rw [HT', str_size]; omega
          have l2 : ((S.length + 3 : Nat) : Int) = (T.size : Int) + 3 := by rw [HT', str_size]; omega
          rw [l1] at hP1
          rw [l2] at hP2
          clear l1 l2 hk
          have HN1 : Hid (i < 1000000) := by show _ < _; have := HH.out; omega
          have HN2 : Hid (j < 1000000) := by show _ < _; have := HH.out; omega
          have c22 : ∀ X, Hid (Qt w X) → Calls Tryd.prog 22 #[.slice a i ca] X fun e w' => e = .returned (.agg #[.int .u64 (limb (ofl f i) 0), .int .u64 (limb (ofl f i) 1), .int .u64 (limb (ofl f i) 2), .int .u64 (limb (ofl f i) 3)]) ∧ Hid (Qt X w') := fun X m => of_in hs hf HN1 X m
          have d22 : ∀ X, Hid (Qt w X) → Calls Tryd.prog 22 #[.slice b j cb] X fun e w' => e = .returned (.agg #[.int .u64 (limb (ofl g j) 0), .int .u64 (limb (ofl g j) 1), .int .u64 (limb (ofl g j) 2), .int .u64 (limb (ofl g j) 3)]) ∧ Hid (Qt X w') := fun X m => of_in ht hg HN2 X m
          have hO := orA (ofl f i) (ofl g j)
          obtain ⟨T5, hSh, hRs⟩ := show_text (ou (ofl f i) (ofl g j))
          have f1 := eqlA (ou (ofl f i) (ofl g j)) (ou (ofl f i) (ofl g j)) true (same_of fun _ => rfl)
          have f2 := eqlA (no (ou (ofl f i) (ofl g j))) (no (ou (ofl f i) (ofl g j))) true (same_of fun _ => rfl)
          have hN := notA (ou (ofl f i) (ofl g j))
          have z1 : ((T.size : Int) + 2 == IntKind.i64.wrap ((T.size : Int) + 2)) = true := by rw [IntKind.wrap_i64]; simp; omega
          have z2 : ((T.size : Int) + 3 == IntKind.i64.wrap ((T.size : Int) + 3)) = true := by rw [IntKind.wrap_i64]; simp; omega
          clear HT HT' hS HN1 HN2 g1 g2 g3 g4
          generalize ou (ofl f i) (ofl g j) = r at *
          generalize ofl f i = p at *
          generalize ofl g j = q at *
          generalize str (91 :: (S ++ [93])) = T2 at *
          generalize str (91 :: 94 :: (S ++ [93])) = T4 at *
          generalize str (91 :: 94 :: S) = T3 at *
          generalize str (91 :: S) = T1 at *
          go_wp2_with fail
          refine (hP1 _).mono ?_
          rintro e w2 ⟨rfl, q2⟩
          have B8 : Hid (Bk w2.heap.size r (w2.alloc (.cells #[.int .u64 (limb r 0), .int .u64 (limb r 1), .int .u64 (limb r 2), .int .u64 (limb r 3)] 25))) := heap_alloc_new _ _
          have Q2 : Hid (Qt w (w2.alloc (.cells #[.int .u64 (limb r 0), .int .u64 (limb r 1), .int .u64 (limb r 2), .int .u64 (limb r 3)] 25))) := (q5.out.comp q2.out).alloc _
          go_wp2_with fail
          refine (hP2 _).mono ?_
          rintro e w3 ⟨rfl, q3⟩
          have B8 : Hid (Bk w2.heap.size r w3) := Bk.mv B8 q3.out (fun h => h)
          have B8 : Hid (Bk w2.heap.size r (w3.alloc (.cells #[.int .u64 (limb (no r) 0), .int .u64 (limb (no r) 1), .int .u64 (limb (no r) 2), .int .u64 (limb (no r) 3)] 25))) := Bk.mv B8 (Mv.alloc (fun _ => False) _ _) (fun h => h)
          have B11 : Hid (Bk w3.heap.size (no r) (w3.alloc (.cells #[.int .u64 (limb (no r) 0), .int .u64 (limb (no r) 1), .int .u64 (limb (no r) 2), .int .u64 (limb (no r) 3)] 25))) := heap_alloc_new _ _
          have Q3 : Hid (Qt w (w3.alloc (.cells #[.int .u64 (limb (no r) 0), .int .u64 (limb (no r) 1), .int .u64 (limb (no r) 2), .int .u64 (limb (no r) 3)] 25))) := (Q2.out.comp q3.out).alloc _
          go_wp2_with fail
          refine (c22 _ Q3).mono ?_
          rintro e w4 ⟨rfl, q4⟩
          have Q4 : Hid (Qt w w4) := Q3.out.comp q4.out
          go_wp2_with fail
          refine (d22 _ Q4).mono ?_
          rintro e w5 ⟨rfl, q6⟩
          go_wp2_with fail
          refine (hO _).mono ?_
          rintro e w6 ⟨rfl, q7⟩
          have Q5 : Hid (Qt w4 w6) := q6.out.comp q7.out
          have B8 : Hid (Bk w2.heap.size r (w6.alloc (.cells #[.int .u64 (limb r 0), .int .u64 (limb r 1), .int .u64 (limb r 2), .int .u64 (limb r 3)] 25))) := Bk.mv (Bk.mv (Bk.mv B8 q4.out (fun h => h)) Q5.out (fun h => h)) (Mv.alloc (fun _ => False) _ _) (fun h => h)
          have B11 : Hid (Bk w3.heap.size (no r) (w6.alloc (.cells #[.int .u64 (limb r 0), .int .u64 (limb r 1), .int .u64 (limb r 2), .int .u64 (limb r 3)] 25))) := Bk.mv (Bk.mv (Bk.mv B11 q4.out (fun h => h)) Q5.out (fun h => h)) (Mv.alloc (fun _ => False) _ _) (fun h => h)
          have B14 : Hid (Bk w6.heap.size r (w6.alloc (.cells #[.int .u64 (limb r 0), .int .u64 (limb r 1), .int .u64 (limb r 2), .int .u64 (limb r 3)] 25))) := heap_alloc_new _ _
          have QW : Hid (Qt w (w6.alloc (.cells #[.int .u64 (limb r 0), .int .u64 (limb r 1), .int .u64 (limb r 2), .int .u64 (limb r 3)] 25))) := (Q4.out.comp Q5.out).alloc _
          go_wp2_with fail
          clear hP1 hP2 c22 d22 hO Q2 Q3 Q4 Q5 q2 q3 q4 q5 q6 q7 t1 t2 t3 t4 u1 u2
          generalize w6.alloc (.cells #[.int .u64 (limb r 0), .int .u64 (limb r 1), .int .u64 (limb r 2), .int .u64 (limb r 3)] 25) = W at *
          have HTW : Hid (Tab W) := hT.out.qt QW.out
          have c24 : ∀ X, Hid (Qt W X) → Calls Tryd.prog 24 #[.agg #[.int .u64 (limb r 0), .int .u64 (limb r 1), .int .u64 (limb r 2), .int .u64 (limb r 3)]] X fun e w' => e = .returned (.string T5) ∧ Hid (Qt X w') := fun X m => hSh X (HTW.out.qt m.out)
          obtain ⟨k0, k1, k2, k3, _⟩ := Bk.facts B8
          obtain ⟨j0, j1, j2, j3, _⟩ := Bk.facts B11
          obtain ⟨i0, i1, i2, i3, _⟩ := Bk.facts B14
          have DQ : Hid (Qt W W.drew) := Mv.drewN _ W 1
          clear hSh HTW
          go_region_held3 (fun w' => w'.cell? ⟨w2.heap.size, 0, none⟩ = some (.int .u64 (limb r 0)) ∧ w'.cell? ⟨w2.heap.size, 1, none⟩ = some (.int .u64 (limb r 1)) ∧ w'.cell? ⟨w2.heap.size, 2, none⟩ = some (.int .u64 (limb r 2)) ∧ w'.cell? ⟨w2.heap.size, 3, none⟩ = some (.int .u64 (limb r 3)) ∧ w'.cell? ⟨w3.heap.size, 0, none⟩ = some (.int .u64 (limb (no r) 0)) ∧ w'.cell? ⟨w3.heap.size, 1, none⟩ = some (.int .u64 (limb (no r) 1)) ∧ w'.cell? ⟨w3.heap.size, 2, none⟩ = some (.int .u64 (limb (no r) 2)) ∧ w'.cell? ⟨w3.heap.size, 3, none⟩ = some (.int .u64 (limb (no r) 3)) ∧ w'.cell? ⟨w6.heap.size, 0, none⟩ = some (.int .u64 (limb r 0)) ∧ w'.cell? ⟨w6.heap.size, 1, none⟩ = some (.int .u64 (limb r 1)) ∧ w'.cell? ⟨w6.heap.size, 2, none⟩ = some (.int .u64 (limb r 2)) ∧ w'.cell? ⟨w6.heap.size, 3, none⟩ = some (.int .u64 (limb r 3)) ∧ Hid (Qt W w'))
            (first | (refine holdJ B8 B11 B14 ?_; first | exact holdJq (by assumption) (by assumption) | exact DQ | exact Qt.comp DQ.out (Hid.out (by assumption))))
            ((first
              | (go_at_call 20; with_reducible refine (hN _).mono ?_; rintro e20 w20 ⟨rfl, q20⟩)
              | (go_at_call 24; with_reducible refine (c24 _ (holdJo (by assumption))).mono ?_; rintro e24 w24 ⟨rfl, q24⟩)
              | (go_at_call 25; with_reducible refine (hRs _).mono ?_; rintro e25 w25 ⟨rfl, q25⟩)))
          have QE : Hid (Qt W w25) := holdJo (by assumption)
          go_wp2_with fail
          go_ret
          exact ⟨rfl, QW.out.comp QE.out⟩

theorem classJoins_walk (f g : Nat → Nat) (a b : Option Addr) (n m ca cb : Nat) (w : World) (hs : Hid (Sl w a n (Bn f))) (ht : Hid (Sl w b m (Bn g))) (hf : Hid (∀ i, i < n → f i < 256)) (hg : Hid (∀ i, i < m → g i < 256)) (hT : Hid (Tab w)) :
    Calls Tryd.prog 7 #[.slice a n ca, .slice b m cb] w fun e w' => e = .returned (.bool true) ∧ Hid (Qt w w') := by
  by_cases h : 1 ≤ n ∧ 1 ≤ m ∧ n ≤ 4 ∧ m ≤ 4
  · exact joins_main f g a b n m ca cb w hs ht hf hg hT h.1 h.2.1 h.2.2.1 h.2.2.2
  · exact joins_early f g a b n m ca cb w hT h
theorem classJoins_row (a : Option Addr) (n ca : Nat) (f : Nat → Int) (b : Option Addr) (m cb : Nat) (g : Nat → Int) (w : World) (hs : Sl w a n (fun i => .int .u8 (f i))) (hwf : ∀ i, (Lit.int .u8 (f i)).wf = true) (ha : a = none → n = 0 ∧ ca = 0) (ht : Sl w b m (fun i => .int .u8 (g i))) (hwg : ∀ i, (Lit.int .u8 (g i)).wf = true) (hb : b = none → m = 0 ∧ cb = 0) (hT : Tab w) :
    Calls Tryd.prog 7 #[.slice a n ca, .slice b m cb] w fun e w' => e = .returned (.bool true) ∧ Below w.heap.size w w' := by
  obtain ⟨h1, h2⟩ := rowN hs hwf
  obtain ⟨h3, h4⟩ := rowN ht hwg
  exact (classJoins_walk _ _ a b n m ca cb w h1 h3 h2 h4 hT).mono fun e w' ⟨he, hq⟩ => ⟨he, hq.out.below (Nat.le_refl _) (fun _ _ h => h)⟩

end Go.Proofs.YtnchddgjeeaohaaDoor
