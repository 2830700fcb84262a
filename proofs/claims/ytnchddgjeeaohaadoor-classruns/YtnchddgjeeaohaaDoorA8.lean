/- ClassRuns. -/
import Derived.Test.YtnchddgjeeaohaaDoorG4
namespace Go.Proofs.YtnchddgjeeaohaaDoor
open Go.RowKit
set_option linter.unusedVariables false

theorem eql_zz (W : World) : (binOp .eql 25 (.agg #[.int .u64 0, .int .u64 0, .int .u64 0, .int .u64 0]) (.agg #[.int .u64 0, .int .u64 0, .int .u64 0, .int .u64 0])).run Tryd.prog W = .ok (.bool true) W := by
  have := eql_run (fun _ => false) (fun _ => false) W
  rwa [sv_none, show same (fun _ => false) (fun _ => false) = true from same_like.2 (fun _ _ => rfl)] at this
/-- The text of a run, without a roof and with one. -/
def L1 (a b : Nat) : List Nat := 91 :: (hxs a ++ 45 :: (hxs b ++ [93]))
def L2 (a b : Nat) : List Nat := 91 :: 94 :: (hxs a ++ 45 :: (hxs b ++ [93]))
theorem prt_run {a b : Nat} (ha : a < 256) (hb : b < 256) : prt (hxs a ++ 45 :: (hxs b ++ [93])) = if a ≤ b then some ((a, b), [93]) else none := by
  unfold prt
  rw [show hxs a = [92, 120, hexd (a / 16), hexd (a % 16)] from rfl, sgn_hex ha]
  simp only [prt2, if_true]
  rw [show hxs b = [92, 120, hexd (b / 16), hexd (b % 16)] from rfl, sgn_hex hb]
theorem brk_run {a b : Nat} (ha : a < 256) (hb : b < 256) : brk (hxs a ++ 45 :: (hxs b ++ [93])) = if a ≤ b then some (btw a b, []) else none := by
  unfold brk
  rw [prt_run ha hb]
  by_cases h : a ≤ b
  · rw [if_pos h, if_pos h]; rfl
  · rw [if_neg h, if_neg h]
theorem cls_L1 {a b : Nat} (ha : a < 256) (hb : b < 256) (h : a ≤ b) : cls (L1 a b) = some (btw a b, []) := by
  have e : cls0 (L1 a b) = brk (hxs a ++ 45 :: (hxs b ++ [93])) := rfl
  have hx : any (btw a b) = true := any_true.2 ⟨a, ha, by unfold btw; simp; omega⟩
  unfold cls
  rw [e, brk_run ha hb, if_pos h]
  simp [hx]
theorem cls_L1n {a b : Nat} (ha : a < 256) (hb : b < 256) (h : ¬ a ≤ b) : cls (L1 a b) = none := by
  have e : cls0 (L1 a b) = brk (hxs a ++ 45 :: (hxs b ++ [93])) := rfl
  unfold cls
  rw [e, brk_run ha hb, if_neg h]
theorem cls0_L2 (a b : Nat) : cls0 (L2 a b) = (match brk (hxs a ++ 45 :: (hxs b ++ [93])) with | none => none | some (p, t) => some (no p, t)) := rfl
theorem cls_L2 {a b : Nat} (ha : a < 256) (hb : b < 256) (h : a ≤ b) (h2 : ¬ (a = 0 ∧ b = 255)) : cls (L2 a b) = some (no (btw a b), []) := by
  have hx : any (no (btw a b)) = true := by
    by_cases h0 : a = 0
    · exact any_true.2 ⟨255, by omega, by unfold no btw; simp; omega⟩
    · exact any_true.2 ⟨0, by omega, by unfold no btw; simp; omega⟩
  unfold cls
  rw [cls0_L2, brk_run ha hb, if_pos h]
  simp [hx]
theorem cls_L2n {a b : Nat} (ha : a < 256) (hb : b < 256) (h : ¬ a ≤ b ∨ (a = 0 ∧ b = 255)) : cls (L2 a b) = none := by
  unfold cls
  rw [cls0_L2, brk_run ha hb]
  by_cases h1 : a ≤ b
  · rw [if_pos h1]
    have h0 : a = 0 ∧ b = 255 := by rcases h with h | h; exact absurd h1 h; exact h
    have hx : any (no (btw a b)) = false := any_false.2 (fun c hc => by unfold no btw; simp; omega)
    simp [hx]
  · rw [if_neg h1]
theorem L_lt {a b : Nat} (ha : a < 256) (hb : b < 256) : (∀ c ∈ L1 a b, c < 256) ∧ (∀ c ∈ L2 a b, c < 256) := by
  have h1 := hxs_lt ha
  have h2 := hxs_lt hb
  have h3 : ∀ c ∈ hxs a ++ 45 :: (hxs b ++ [93]), c < 256 := by
    intro c hc
    rcases List.mem_append.1 hc with hc | hc
    · exact h1 c hc
    · rcases List.mem_cons.1 hc with rfl | hc
      · omega
      · rcases List.mem_append.1 hc with hc | hc
        · exact h2 c hc
        · simp at hc; omega
  refine ⟨fun c hc => ?_, fun c hc => ?_⟩
  · rcases List.mem_cons.1 hc with rfl | hc
    · omega
    · exact h3 c hc
  · rcases List.mem_cons.1 hc with rfl | hc
    · omega
    · rcases List.mem_cons.1 hc with rfl | hc
      · omega
      · exact h3 c hc

set_option maxRecDepth 20000 in
set_option maxHeartbeats 4000000 in
theorem runs_n1 (a b : Nat) (ha : a < 256) (hb : b < 256) (hn : ¬ a ≤ b) (w : World) (hT : Hid (Tab w)) : Calls Tryd.prog 8 #[.int .u8 (a : Int), .int .u8 (b : Int), .bool false] w fun e w' => e = .returned (.bool true) ∧ Hid (Qt w w') := by
  have s1 := sign27 a ha
  have s2 := sign27 b hb
  have hP := parse_none (cls_L1n ha hb hn) (L_lt ha hb).1 (by simp [L1, hxs])
  have hz := eql_zz
  have g1 : (b : Int) < (a : Int) := by omega
  clear hn
  have t1 : str (hxs a) ++ (⟨#[45]⟩ : ByteArray) = str (hxs a ++ [45]) := str_append (hxs a) [45]
  have t2 : str (hxs a ++ [45]) ++ str (hxs b) = str (hxs a ++ 45 :: hxs b) := by rw [str_append]; simp
  have t3 : (⟨#[91]⟩ : ByteArray) ++ str (hxs a ++ 45 :: hxs b) = str (91 :: (hxs a ++ 45 :: hxs b)) := str_append [91] _
  have t4 : str (91 :: (hxs a ++ 45 :: hxs b)) ++ (⟨#[93]⟩ : ByteArray) = str (L1 a b) := by rw [show (⟨#[93]⟩ : ByteArray) = str [93] from rfl, str_append]; simp [L1]
  have u0 : (str (hxs a)).size = 4 := str_size _
  have u1 : (str (hxs b)).size = 4 := str_size _
  have u2 : (str (hxs a ++ [45])).size = 5 := str_size _
  have u3 : (str (hxs a ++ 45 :: hxs b)).size = 9 := str_size _
  have u4 : (str (91 :: (hxs a ++ 45 :: hxs b))).size = 10 := str_size _
  have u5 : (str (L1 a b)).size = 11 := str_size _
  generalize str (hxs a) = T0 at *
  generalize str (hxs b) = T1 at *
  generalize str (hxs a ++ [45]) = T2 at *
  generalize str (hxs a ++ 45 :: hxs b) = T3 at *
  generalize str (91 :: (hxs a ++ 45 :: hxs b)) = T4 at *
  generalize str (L1 a b) = T5 at *
  go_enter Tryd.func8, Tryd.ntmps8
  go_wp2_with fail
  refine (begun_true _ hT).mono ?_
  rintro e w1 ⟨rfl, q1⟩
  go_wp2_with fail
  refine (s1 _).mono ?_
  rintro e w2 ⟨rfl, q2⟩
  go_wp2_with fail
  refine (s2 _).mono ?_
  rintro e w3 ⟨rfl, q3⟩
  clear s1 s2
  go_wp2_with fail
  refine (hP _).mono ?_
  rintro e w4 ⟨rfl, q4⟩
  have Q4 : Hid (Qt w w4) := ((q1.out.comp q2.out).comp q3.out).comp q4.out
  go_wp2_with fail
  go_ret
  exact ⟨rfl, Q4.out.alloc _⟩

set_option maxRecDepth 20000 in
set_option maxHeartbeats 4000000 in
theorem runs_n2 (a b : Nat) (ha : a < 256) (hb : b < 256) (hn : ¬ a ≤ b ∨ (a = 0 ∧ b = 255)) (h1 : ¬ a ≤ b) (w : World) (hT : Hid (Tab w)) : Calls Tryd.prog 8 #[.int .u8 (a : Int), .int .u8 (b : Int), .bool true] w fun e w' => e = .returned (.bool true) ∧ Hid (Qt w w') := by
  have s1 := sign27 a ha
  have s2 := sign27 b hb
  have hP := parse_none (cls_L2n ha hb hn) (L_lt ha hb).2 (by simp [L2, hxs])
  have hz := eql_zz
  have g1 : (b : Int) < (a : Int) := by omega
  clear hn
  have t1 : str (hxs a) ++ (⟨#[45]⟩ : ByteArray) = str (hxs a ++ [45]) := str_append (hxs a) [45]
  have t2 : str (hxs a ++ [45]) ++ str (hxs b) = str (hxs a ++ 45 :: hxs b) := by rw [str_append]; simp
  have t3 : (⟨#[91]⟩ : ByteArray) ++ str (hxs a ++ 45 :: hxs b) = str (91 :: (hxs a ++ 45 :: hxs b)) := str_append [91] _
  have t4 : str (91 :: (hxs a ++ 45 :: hxs b)) ++ (⟨#[93]⟩ : ByteArray) = str (L1 a b) := by rw [show (⟨#[93]⟩ : ByteArray) = str [93] from rfl, str_append]; simp [L1]
  have u0 : (str (hxs a)).size = 4 := str_size _
  have u1 : (str (hxs b)).size = 4 := str_size _
  have u2 : (str (hxs a ++ [45])).size = 5 := str_size _
  have u3 : (str (hxs a ++ 45 :: hxs b)).size = 9 := str_size _
  have u4 : (str (91 :: (hxs a ++ 45 :: hxs b))).size = 10 := str_size _
  have u5 : (str (L1 a b)).size = 11 := str_size _
  have t5 : (⟨#[91, 94]⟩ : ByteArray) ++ str (hxs a ++ 45 :: hxs b) = str (91 :: 94 :: (hxs a ++ 45 :: hxs b)) := str_append [91, 94] _
  have t6 : str (91 :: 94 :: (hxs a ++ 45 :: hxs b)) ++ (⟨#[93]⟩ : ByteArray) = str (L2 a b) := by rw [show (⟨#[93]⟩ : ByteArray) = str [93] from rfl, str_append]; simp [L2]
  have u6 : (str (91 :: 94 :: (hxs a ++ 45 :: hxs b))).size = 11 := str_size _
  have u7 : (str (L2 a b)).size = 12 := str_size _
  generalize str (91 :: 94 :: (hxs a ++ 45 :: hxs b)) = T6 at *
  generalize str (L2 a b) = T7 at *
  generalize str (hxs a) = T0 at *
  generalize str (hxs b) = T1 at *
  generalize str (hxs a ++ [45]) = T2 at *
  generalize str (hxs a ++ 45 :: hxs b) = T3 at *
  generalize str (91 :: (hxs a ++ 45 :: hxs b)) = T4 at *
  generalize str (L1 a b) = T5 at *
  go_enter Tryd.func8, Tryd.ntmps8
  go_wp2_with fail
  refine (begun_true _ hT).mono ?_
  rintro e w1 ⟨rfl, q1⟩
  go_wp2_with fail
  refine (s1 _).mono ?_
  rintro e w2 ⟨rfl, q2⟩
  go_wp2_with fail
  refine (s2 _).mono ?_
  rintro e w3 ⟨rfl, q3⟩
  clear s1 s2
  go_wp2_with fail
  refine (hP _).mono ?_
  rintro e w4 ⟨rfl, q4⟩
  have Q4 : Hid (Qt w w4) := ((q1.out.comp q2.out).comp q3.out).comp q4.out
  go_wp2_with fail
  go_ret
  exact ⟨rfl, Q4.out.alloc _⟩

set_option maxRecDepth 20000 in
set_option maxHeartbeats 4000000 in
theorem runs_n3 (a b : Nat) (ha : a < 256) (hb : b < 256) (hn : ¬ a ≤ b ∨ (a = 0 ∧ b = 255)) (h0 : a = 0 ∧ b = 255) (w : World) (hT : Hid (Tab w)) : Calls Tryd.prog 8 #[.int .u8 (a : Int), .int .u8 (b : Int), .bool true] w fun e w' => e = .returned (.bool true) ∧ Hid (Qt w w') := by
  have s1 := sign27 a ha
  have s2 := sign27 b hb
  have hP := parse_none (cls_L2n ha hb hn) (L_lt ha hb).2 (by simp [L2, hxs])
  have hz := eql_zz
  have g1 : ¬ (b : Int) < (a : Int) := by omega
  have gd : decide (b < a) = false := by simp; omega
  have g2 : ((a : Int) == 0) = true := by simp; omega
  have g3 : ((b : Int) == 255) = true := by simp; omega
  have H0 : Hid _ := h0
  clear h0
  clear hn
  have t1 : str (hxs a) ++ (⟨#[45]⟩ : ByteArray) = str (hxs a ++ [45]) := str_append (hxs a) [45]
  have t2 : str (hxs a ++ [45]) ++ str (hxs b) = str (hxs a ++ 45 :: hxs b) := by rw [str_append]; simp
  have t3 : (⟨#[91]⟩ : ByteArray) ++ str (hxs a ++ 45 :: hxs b) = str (91 :: (hxs a ++ 45 :: hxs b)) := str_append [91] _
  have t4 : str (91 :: (hxs a ++ 45 :: hxs b)) ++ (⟨#[93]⟩ : ByteArray) = str (L1 a b) := by rw [show (⟨#[93]⟩ : ByteArray) = str [93] from rfl, str_append]; simp [L1]
  have u0 : (str (hxs a)).size = 4 := str_size _
  have u1 : (str (hxs b)).size = 4 := str_size _
  have u2 : (str (hxs a ++ [45])).size = 5 := str_size _
  have u3 : (str (hxs a ++ 45 :: hxs b)).size = 9 := str_size _
  have u4 : (str (91 :: (hxs a ++ 45 :: hxs b))).size = 10 := str_size _
  have u5 : (str (L1 a b)).size = 11 := str_size _
  have t5 : (⟨#[91, 94]⟩ : ByteArray) ++ str (hxs a ++ 45 :: hxs b) = str (91 :: 94 :: (hxs a ++ 45 :: hxs b)) := str_append [91, 94] _
  have t6 : str (91 :: 94 :: (hxs a ++ 45 :: hxs b)) ++ (⟨#[93]⟩ : ByteArray) = str (L2 a b) := by rw [show (⟨#[93]⟩ : ByteArray) = str [93] from rfl, str_append]; simp [L2]
  have u6 : (str (91 :: 94 :: (hxs a ++ 45 :: hxs b))).size = 11 := str_size _
  have u7 : (str (L2 a b)).size = 12 := str_size _
  generalize str (91 :: 94 :: (hxs a ++ 45 :: hxs b)) = T6 at *
  generalize str (L2 a b) = T7 at *
  generalize str (hxs a) = T0 at *
  generalize str (hxs b) = T1 at *
  generalize str (hxs a ++ [45]) = T2 at *
  generalize str (hxs a ++ 45 :: hxs b) = T3 at *
  generalize str (91 :: (hxs a ++ 45 :: hxs b)) = T4 at *
  generalize str (L1 a b) = T5 at *
  go_enter Tryd.func8, Tryd.ntmps8
  go_wp2_with fail
  refine (begun_true _ hT).mono ?_
  rintro e w1 ⟨rfl, q1⟩
  go_wp2_with fail
  refine (s1 _).mono ?_
  rintro e w2 ⟨rfl, q2⟩
  go_wp2_with fail
  refine (s2 _).mono ?_
  rintro e w3 ⟨rfl, q3⟩
  clear s1 s2
  go_wp2_with fail
  refine (hP _).mono ?_
  rintro e w4 ⟨rfl, q4⟩
  have Q4 : Hid (Qt w w4) := ((q1.out.comp q2.out).comp q3.out).comp q4.out
  go_wp2_with fail
  go_ret
  exact ⟨rfl, Q4.out.alloc _⟩

set_option maxRecDepth 20000 in
set_option maxHeartbeats 4000000 in
theorem runs_s1 (a b : Nat) (ha : a < 256) (hb : b < 256) (hab : a ≤ b) (w : World) (hT : Hid (Tab w)) : Calls Tryd.prog 8 #[.int .u8 (a : Int), .int .u8 (b : Int), .bool false] w fun e w' => e = .returned (.bool true) ∧ Hid (Qt w w') := by
  have s1 := sign27 a ha
  have s2 := sign27 b hb
  have hP := parse_some (cls_L1 ha hb hab) (L_lt ha hb).1 (by simp [L1, hxs])
  rw [show (((L1 a b).length - ([] : List Nat).length : Nat) : Int) = 11 from rfl] at hP
  have g1 : ¬ (b : Int) < (a : Int) := by omega
  have gd : decide (b < a) = false := by simp; omega
  have hHas := fun (i : Nat) (hi : i < 256) W => has_any (btw a b) i hi W
  rw [sv_cells] at hHas
  have HH : Hid _ := hHas
  clear hHas

  have t1 : str (hxs a) ++ (⟨#[45]⟩ : ByteArray) = str (hxs a ++ [45]) := str_append (hxs a) [45]
  have t2 : str (hxs a ++ [45]) ++ str (hxs b) = str (hxs a ++ 45 :: hxs b) := by rw [str_append]; simp
  have t3 : (⟨#[91]⟩ : ByteArray) ++ str (hxs a ++ 45 :: hxs b) = str (91 :: (hxs a ++ 45 :: hxs b)) := str_append [91] _
  have t4 : str (91 :: (hxs a ++ 45 :: hxs b)) ++ (⟨#[93]⟩ : ByteArray) = str (L1 a b) := by rw [show (⟨#[93]⟩ : ByteArray) = str [93] from rfl, str_append]; simp [L1]
  have u0 : (str (hxs a)).size = 4 := str_size _
  have u1 : (str (hxs b)).size = 4 := str_size _
  have u2 : (str (hxs a ++ [45])).size = 5 := str_size _
  have u3 : (str (hxs a ++ 45 :: hxs b)).size = 9 := str_size _
  have u4 : (str (91 :: (hxs a ++ 45 :: hxs b))).size = 10 := str_size _
  have u5 : (str (L1 a b)).size = 11 := str_size _
  generalize str (hxs a) = T0 at *
  generalize str (hxs b) = T1 at *
  generalize str (hxs a ++ [45]) = T2 at *
  generalize str (hxs a ++ 45 :: hxs b) = T3 at *
  generalize str (91 :: (hxs a ++ 45 :: hxs b)) = T4 at *
  generalize str (L1 a b) = T5 at *
  go_enter Tryd.func8, Tryd.ntmps8
  go_wp2_with fail
  refine (begun_true _ hT).mono ?_
  rintro e w1 ⟨rfl, q1⟩
  go_wp2_with fail
  refine (s1 _).mono ?_
  rintro e w2 ⟨rfl, q2⟩
  go_wp2_with fail
  refine (s2 _).mono ?_
  rintro e w3 ⟨rfl, q3⟩
  clear s1 s2
  go_wp2_with fail
  refine (hP _).mono ?_
  rintro e w4 ⟨rfl, q4⟩
  have Q4 : Hid (Qt w w4) := ((q1.out.comp q2.out).comp q3.out).comp q4.out
  have HB : Hid (Bk w4.heap.size (btw a b) (w4.alloc (.cells #[.int .u64 (limb (btw a b) 0), .int .u64 (limb (btw a b) 1), .int .u64 (limb (btw a b) 2), .int .u64 (limb (btw a b) 3)] 25))) := heap_alloc_new _ _
  go_wp2_with fail
  go_loopw [12] (fun s12 wr => ∃ i : Nat, i ≤ 256 ∧ s12 = .int .i64 i ∧ Hid (Qt (w4.alloc (.cells #[.int .u64 (limb (btw a b) 0), .int .u64 (limb (btw a b) 1), .int .u64 (limb (btw a b) 2), .int .u64 (limb (btw a b) 3)] 25)) wr)) (fun s12 _ => 256 - (intOf s12).toNat)
  case atStart => exact ⟨0, by omega, rfl, Qt.refl _⟩
  case round =>
    obtain ⟨i, hi, rfl, q5⟩ := hrel
    by_cases hlt : i < 256
    · obtain ⟨k0, k1, k2, k3, _⟩ := Bk.facts (Bk.mv HB q5.out (fun h => h))
      have hh := HH.out i hlt
      have wz : IntKind.u8.wrap (i : Int) = (i : Int) := by rw [IntKind.wrap_u8]; omega
      by_cases h1 : i < a
      · rw [show (btw a b) i = false from by unfold btw; simp; omega] at hh
        have c1 : ¬ (a : Int) ≤ (i : Int) := by omega
        go_wp2_with fail
        refine (hh _).mono ?_
        rintro e w6 ⟨rfl, q6⟩
        go_wp2_with fail
        exact ⟨⟨i + 1, by omega, by go_num, q5.out.comp q6.out⟩, by simp [intOf]; omega⟩
      by_cases h2 : b < i
      · rw [show (btw a b) i = false from by unfold btw; simp; omega] at hh
        have c1 : (a : Int) ≤ (i : Int) := by omega
        have c2 : ¬ (i : Int) ≤ (b : Int) := by omega
        go_wp2_with fail
        refine (hh _).mono ?_
        rintro e w6 ⟨rfl, q6⟩
        go_wp2_with fail
        exact ⟨⟨i + 1, by omega, by go_num, q5.out.comp q6.out⟩, by simp [intOf]; omega⟩
      rw [show (btw a b) i = true from by unfold btw; simp; omega] at hh
      have c1 : (a : Int) ≤ (i : Int) := by omega
      have c2 : (i : Int) ≤ (b : Int) := by omega
      go_wp2_with fail
      refine (hh _).mono ?_
      rintro e w6 ⟨rfl, q6⟩
      go_wp2_with fail
      exact ⟨⟨i + 1, by omega, by go_num, q5.out.comp q6.out⟩, by simp [intOf]; omega⟩
    · obtain rfl : i = 256 := by omega
      go_wp2_with fail
      go_ret
      exact ⟨rfl, (Q4.out.alloc _).comp q5.out⟩

set_option maxRecDepth 20000 in
set_option maxHeartbeats 4000000 in
theorem runs_s2 (a b : Nat) (ha : a < 256) (hb : b < 256) (hab : a ≤ b) (hn : ¬ (a = 0 ∧ b = 255)) (h0 : a ≠ 0) (w : World) (hT : Hid (Tab w)) : Calls Tryd.prog 8 #[.int .u8 (a : Int), .int .u8 (b : Int), .bool true] w fun e w' => e = .returned (.bool true) ∧ Hid (Qt w w') := by
  have s1 := sign27 a ha
  have s2 := sign27 b hb
  have hP := parse_some (cls_L2 ha hb hab hn) (L_lt ha hb).2 (by simp [L2, hxs])
  rw [show (((L2 a b).length - ([] : List Nat).length : Nat) : Int) = 12 from rfl] at hP
  have g1 : ¬ (b : Int) < (a : Int) := by omega
  have gd : decide (b < a) = false := by simp; omega
  have g2 : ((a : Int) == 0) = false := by simp; omega
  have hHas := fun (i : Nat) (hi : i < 256) W => has_any (no (btw a b)) i hi W
  rw [sv_cells] at hHas
  have HH : Hid _ := hHas
  clear hHas
  clear hn

  have t1 : str (hxs a) ++ (⟨#[45]⟩ : ByteArray) = str (hxs a ++ [45]) := str_append (hxs a) [45]
  have t2 : str (hxs a ++ [45]) ++ str (hxs b) = str (hxs a ++ 45 :: hxs b) := by rw [str_append]; simp
  have t3 : (⟨#[91]⟩ : ByteArray) ++ str (hxs a ++ 45 :: hxs b) = str (91 :: (hxs a ++ 45 :: hxs b)) := str_append [91] _
  have t4 : str (91 :: (hxs a ++ 45 :: hxs b)) ++ (⟨#[93]⟩ : ByteArray) = str (L1 a b) := by rw [show (⟨#[93]⟩ : ByteArray) = str [93] from rfl, str_append]; simp [L1]
  have u0 : (str (hxs a)).size = 4 := str_size _
  have u1 : (str (hxs b)).size = 4 := str_size _
  have u2 : (str (hxs a ++ [45])).size = 5 := str_size _
  have u3 : (str (hxs a ++ 45 :: hxs b)).size = 9 := str_size _
  have u4 : (str (91 :: (hxs a ++ 45 :: hxs b))).size = 10 := str_size _
  have u5 : (str (L1 a b)).size = 11 := str_size _
  have t5 : (⟨#[91, 94]⟩ : ByteArray) ++ str (hxs a ++ 45 :: hxs b) = str (91 :: 94 :: (hxs a ++ 45 :: hxs b)) := str_append [91, 94] _
  have t6 : str (91 :: 94 :: (hxs a ++ 45 :: hxs b)) ++ (⟨#[93]⟩ : ByteArray) = str (L2 a b) := by rw [show (⟨#[93]⟩ : ByteArray) = str [93] from rfl, str_append]; simp [L2]
  have u6 : (str (91 :: 94 :: (hxs a ++ 45 :: hxs b))).size = 11 := str_size _
  have u7 : (str (L2 a b)).size = 12 := str_size _
  generalize str (91 :: 94 :: (hxs a ++ 45 :: hxs b)) = T6 at *
  generalize str (L2 a b) = T7 at *
  generalize str (hxs a) = T0 at *
  generalize str (hxs b) = T1 at *
  generalize str (hxs a ++ [45]) = T2 at *
  generalize str (hxs a ++ 45 :: hxs b) = T3 at *
  generalize str (91 :: (hxs a ++ 45 :: hxs b)) = T4 at *
  generalize str (L1 a b) = T5 at *
  go_enter Tryd.func8, Tryd.ntmps8
  go_wp2_with fail
  refine (begun_true _ hT).mono ?_
  rintro e w1 ⟨rfl, q1⟩
  go_wp2_with fail
  refine (s1 _).mono ?_
  rintro e w2 ⟨rfl, q2⟩
  go_wp2_with fail
  refine (s2 _).mono ?_
  rintro e w3 ⟨rfl, q3⟩
  clear s1 s2
  go_wp2_with fail
  refine (hP _).mono ?_
  rintro e w4 ⟨rfl, q4⟩
  have Q4 : Hid (Qt w w4) := ((q1.out.comp q2.out).comp q3.out).comp q4.out
  have HB : Hid (Bk w4.heap.size (no (btw a b)) (w4.alloc (.cells #[.int .u64 (limb (no (btw a b)) 0), .int .u64 (limb (no (btw a b)) 1), .int .u64 (limb (no (btw a b)) 2), .int .u64 (limb (no (btw a b)) 3)] 25))) := heap_alloc_new _ _
  go_wp2_with fail
  go_loopw [12] (fun s12 wr => ∃ i : Nat, i ≤ 256 ∧ s12 = .int .i64 i ∧ Hid (Qt (w4.alloc (.cells #[.int .u64 (limb (no (btw a b)) 0), .int .u64 (limb (no (btw a b)) 1), .int .u64 (limb (no (btw a b)) 2), .int .u64 (limb (no (btw a b)) 3)] 25)) wr)) (fun s12 _ => 256 - (intOf s12).toNat)
  case atStart => exact ⟨0, by omega, rfl, Qt.refl _⟩
  case round =>
    obtain ⟨i, hi, rfl, q5⟩ := hrel
    by_cases hlt : i < 256
    · obtain ⟨k0, k1, k2, k3, _⟩ := Bk.facts (Bk.mv HB q5.out (fun h => h))
      have hh := HH.out i hlt
      have wz : IntKind.u8.wrap (i : Int) = (i : Int) := by rw [IntKind.wrap_u8]; omega
      by_cases h1 : i < a
      · rw [show (no (btw a b)) i = true from by unfold no btw; simp; omega] at hh
        have c1 : ¬ (a : Int) ≤ (i : Int) := by omega
        go_wp2_with fail
        refine (hh _).mono ?_
        rintro e w6 ⟨rfl, q6⟩
        go_wp2_with fail
        exact ⟨⟨i + 1, by omega, by go_num, q5.out.comp q6.out⟩, by simp [intOf]; omega⟩
      by_cases h2 : b < i
      · rw [show (no (btw a b)) i = true from by unfold no btw; simp; omega] at hh
        have c1 : (a : Int) ≤ (i : Int) := by omega
        have c2 : ¬ (i : Int) ≤ (b : Int) := by omega
        go_wp2_with fail
        refine (hh _).mono ?_
        rintro e w6 ⟨rfl, q6⟩
        go_wp2_with fail
        exact ⟨⟨i + 1, by omega, by go_num, q5.out.comp q6.out⟩, by simp [intOf]; omega⟩
      rw [show (no (btw a b)) i = false from by unfold no btw; simp; omega] at hh
      have c1 : (a : Int) ≤ (i : Int) := by omega
      have c2 : (i : Int) ≤ (b : Int) := by omega
      go_wp2_with fail
      refine (hh _).mono ?_
      rintro e w6 ⟨rfl, q6⟩
      go_wp2_with fail
      exact ⟨⟨i + 1, by omega, by go_num, q5.out.comp q6.out⟩, by simp [intOf]; omega⟩
    · obtain rfl : i = 256 := by omega
      go_wp2_with fail
      go_ret
      exact ⟨rfl, (Q4.out.alloc _).comp q5.out⟩

set_option maxRecDepth 20000 in
set_option maxHeartbeats 4000000 in
theorem runs_s3 (a b : Nat) (ha : a < 256) (hb : b < 256) (hab : a ≤ b) (hn : ¬ (a = 0 ∧ b = 255)) (h0 : a = 0) (w : World) (hT : Hid (Tab w)) : Calls Tryd.prog 8 #[.int .u8 (a : Int), .int .u8 (b : Int), .bool true] w fun e w' => e = .returned (.bool true) ∧ Hid (Qt w w') := by
  have s1 := sign27 a ha
  have s2 := sign27 b hb
  have hP := parse_some (cls_L2 ha hb hab hn) (L_lt ha hb).2 (by simp [L2, hxs])
  rw [show (((L2 a b).length - ([] : List Nat).length : Nat) : Int) = 12 from rfl] at hP
  have g1 : ¬ (b : Int) < (a : Int) := by omega
  have gd : decide (b < a) = false := by simp; omega
  have g2 : ((a : Int) == 0) = true := by simp; omega
  have g3 : ((b : Int) == 255) = false := by simp; omega
  have H0 : Hid _ := h0
  clear h0
  have hHas := fun (i : Nat) (hi : i < 256) W => has_any (no (btw a b)) i hi W
  rw [sv_cells] at hHas
  have HH : Hid _ := hHas
  clear hHas
  clear hn

  have t1 : str (hxs a) ++ (⟨#[45]⟩ : ByteArray) = str (hxs a ++ [45]) := str_append (hxs a) [45]
  have t2 : str (hxs a ++ [45]) ++ str (hxs b) = str (hxs a ++ 45 :: hxs b) := by rw [str_append]; simp
  have t3 : (⟨#[91]⟩ : ByteArray) ++ str (hxs a ++ 45 :: hxs b) = str (91 :: (hxs a ++ 45 :: hxs b)) := str_append [91] _
  have t4 : str (91 :: (hxs a ++ 45 :: hxs b)) ++ (⟨#[93]⟩ : ByteArray) = str (L1 a b) := by rw [show (⟨#[93]⟩ : ByteArray) = str [93] from rfl, str_append]; simp [L1]
  have u0 : (str (hxs a)).size = 4 := str_size _
  have u1 : (str (hxs b)).size = 4 := str_size _
  have u2 : (str (hxs a ++ [45])).size = 5 := str_size _
  have u3 : (str (hxs a ++ 45 :: hxs b)).size = 9 := str_size _
  have u4 : (str (91 :: (hxs a ++ 45 :: hxs b))).size = 10 := str_size _
  have u5 : (str (L1 a b)).size = 11 := str_size _
  have t5 : (⟨#[91, 94]⟩ : ByteArray) ++ str (hxs a ++ 45 :: hxs b) = str (91 :: 94 :: (hxs a ++ 45 :: hxs b)) := str_append [91, 94] _
  have t6 : str (91 :: 94 :: (hxs a ++ 45 :: hxs b)) ++ (⟨#[93]⟩ : ByteArray) = str (L2 a b) := by rw [show (⟨#[93]⟩ : ByteArray) = str [93] from rfl, str_append]; simp [L2]
  have u6 : (str (91 :: 94 :: (hxs a ++ 45 :: hxs b))).size = 11 := str_size _
  have u7 : (str (L2 a b)).size = 12 := str_size _
  generalize str (91 :: 94 :: (hxs a ++ 45 :: hxs b)) = T6 at *
  generalize str (L2 a b) = T7 at *
  generalize str (hxs a) = T0 at *
  generalize str (hxs b) = T1 at *
  generalize str (hxs a ++ [45]) = T2 at *
  generalize str (hxs a ++ 45 :: hxs b) = T3 at *
  generalize str (91 :: (hxs a ++ 45 :: hxs b)) = T4 at *
  generalize str (L1 a b) = T5 at *
  go_enter Tryd.func8, Tryd.ntmps8
  go_wp2_with fail
  refine (begun_true _ hT).mono ?_
  rintro e w1 ⟨rfl, q1⟩
  go_wp2_with fail
  refine (s1 _).mono ?_
  rintro e w2 ⟨rfl, q2⟩
  go_wp2_with fail
  refine (s2 _).mono ?_
  rintro e w3 ⟨rfl, q3⟩
  clear s1 s2
  go_wp2_with fail
  refine (hP _).mono ?_
  rintro e w4 ⟨rfl, q4⟩
  have Q4 : Hid (Qt w w4) := ((q1.out.comp q2.out).comp q3.out).comp q4.out
  have HB : Hid (Bk w4.heap.size (no (btw a b)) (w4.alloc (.cells #[.int .u64 (limb (no (btw a b)) 0), .int .u64 (limb (no (btw a b)) 1), .int .u64 (limb (no (btw a b)) 2), .int .u64 (limb (no (btw a b)) 3)] 25))) := heap_alloc_new _ _
  go_wp2_with fail
  go_loopw [12] (fun s12 wr => ∃ i : Nat, i ≤ 256 ∧ s12 = .int .i64 i ∧ Hid (Qt (w4.alloc (.cells #[.int .u64 (limb (no (btw a b)) 0), .int .u64 (limb (no (btw a b)) 1), .int .u64 (limb (no (btw a b)) 2), .int .u64 (limb (no (btw a b)) 3)] 25)) wr)) (fun s12 _ => 256 - (intOf s12).toNat)
  case atStart => exact ⟨0, by omega, rfl, Qt.refl _⟩
  case round =>
    obtain ⟨i, hi, rfl, q5⟩ := hrel
    by_cases hlt : i < 256
    · obtain ⟨k0, k1, k2, k3, _⟩ := Bk.facts (Bk.mv HB q5.out (fun h => h))
      have hh := HH.out i hlt
      have wz : IntKind.u8.wrap (i : Int) = (i : Int) := by rw [IntKind.wrap_u8]; omega
      by_cases h1 : i < a
      · rw [show (no (btw a b)) i = true from by unfold no btw; simp; omega] at hh
        have c1 : ¬ (a : Int) ≤ (i : Int) := by omega
        go_wp2_with fail
        refine (hh _).mono ?_
        rintro e w6 ⟨rfl, q6⟩
        go_wp2_with fail
        exact ⟨⟨i + 1, by omega, by go_num, q5.out.comp q6.out⟩, by simp [intOf]; omega⟩
      by_cases h2 : b < i
      · rw [show (no (btw a b)) i = true from by unfold no btw; simp; omega] at hh
        have c1 : (a : Int) ≤ (i : Int) := by omega
        have c2 : ¬ (i : Int) ≤ (b : Int) := by omega
        go_wp2_with fail
        refine (hh _).mono ?_
        rintro e w6 ⟨rfl, q6⟩
        go_wp2_with fail
        exact ⟨⟨i + 1, by omega, by go_num, q5.out.comp q6.out⟩, by simp [intOf]; omega⟩
      rw [show (no (btw a b)) i = false from by unfold no btw; simp; omega] at hh
      have c1 : (a : Int) ≤ (i : Int) := by omega
      have c2 : (i : Int) ≤ (b : Int) := by omega
      go_wp2_with fail
      refine (hh _).mono ?_
      rintro e w6 ⟨rfl, q6⟩
      go_wp2_with fail
      exact ⟨⟨i + 1, by omega, by go_num, q5.out.comp q6.out⟩, by simp [intOf]; omega⟩
    · obtain rfl : i = 256 := by omega
      go_wp2_with fail
      go_ret
      exact ⟨rfl, (Q4.out.alloc _).comp q5.out⟩

theorem classRuns_walk (a b : Nat) (ha : a < 256) (hb : b < 256) (other : Bool) (w : World) (hT : Hid (Tab w)) : Calls Tryd.prog 8 #[.int .u8 (a : Int), .int .u8 (b : Int), .bool other] w fun e w' => e = .returned (.bool true) ∧ Hid (Qt w w') := by
  cases other with
  | false =>
    by_cases h : a ≤ b
    · exact runs_s1 a b ha hb h w hT
    · exact runs_n1 a b ha hb h w hT
  | true =>
    by_cases h : a ≤ b
    · by_cases h2 : a = 0 ∧ b = 255
      · exact runs_n3 a b ha hb (.inr h2) h2 w hT
      · by_cases h3 : a = 0
        · exact runs_s3 a b ha hb h h2 h3 w hT
        · exact runs_s2 a b ha hb h h2 h3 w hT
    · exact runs_n2 a b ha hb (.inl h) h w hT
theorem byte_of' {a : Int} (h : (Lit.int .u8 a).wf = true) : ∃ n : Nat, a = (n : Int) ∧ n < 256 := by
  have hb : 0 ≤ a ∧ a ≤ 255 := by
    simp [Lit.wf, IntKind.min, IntKind.max, IntKind.signed, IntKind.bits] at h
    omega
  exact ⟨a.toNat, by omega, by omega⟩
theorem classRuns_row (a : Int) (wa : (Lit.int .u8 a).wf = true) (b : Int) (wb : (Lit.int .u8 b).wf = true) (other : Bool) (w : World) (hT : Tab w) : Calls Tryd.prog 8 #[.int .u8 a, .int .u8 b, .bool other] w fun e w' => e = .returned (.bool true) ∧ Below w.heap.size w w' := by
  obtain ⟨n, rfl, hn⟩ := byte_of' wa
  obtain ⟨m, rfl, hm⟩ := byte_of' wb
  exact (classRuns_walk n m hn hm other w hT).mono fun e w' ⟨he, hq⟩ => ⟨he, hq.out.below (Nat.le_refl _) (fun _ _ h => h)⟩

end Go.Proofs.YtnchddgjeeaohaaDoor
