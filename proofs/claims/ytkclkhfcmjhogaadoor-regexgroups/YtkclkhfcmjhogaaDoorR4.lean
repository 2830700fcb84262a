/- The reference: sign. -/
import Derived.Test.YtkclkhfcmjhogaaDoorR3
namespace Go.Proofs.YtkclkhfcmjhogaaDoor
open Go.RowKit
set_option linter.unusedVariables false
set_option linter.unusedSimpArgs false

/-- What is left of a text from a place on. -/
def Sf (S : ByteArray) (k : Nat) (l : List Nat) : Prop := ∃ pre, bs S = pre ++ l ∧ pre.length = k
theorem Sf.size {S : ByteArray} {k : Nat} {l : List Nat} (h : Sf S k l) : k + l.length = S.size := by
  obtain ⟨pre, h1, h2⟩ := h
  rw [← bs_length, h1, List.length_append, h2]
theorem Sf.tail {S : ByteArray} {k c : Nat} {l : List Nat} (h : Sf S k (c :: l)) : Sf S (k + 1) l := by
  obtain ⟨pre, h1, h2⟩ := h
  exact ⟨pre ++ [c], by rw [h1]; simp, by simp [h2]⟩
theorem Sf.at {S : ByteArray} {k c : Nat} {l : List Nat} (h : Sf S k (c :: l)) : (∀ w, (Instr.index 9 (.string S) (.int .i64 (k : Int))).run Tryd.prog w = .ok (.int .u8 (c : Int)) w) ∧ c < 256 := by
  obtain ⟨pre, h1, h2⟩ := h
  refine ⟨fun w => ?_, bs_lt S c (by rw [h1]; simp)⟩
  rw [← h2]
  exact index_run S pre l c h1 w
theorem Sf.at1 {S : ByteArray} {k j c : Nat} {l : List Nat} (h : Sf S (k + j) (c :: l)) : (∀ w, (Instr.index 9 (.string S) (.int .i64 ((k : Int) + (j : Int)))).run Tryd.prog w = .ok (.int .u8 (c : Int)) w) ∧ c < 256 := by
  have := h.at
  rw [show ((k + j : Nat) : Int) = (k : Int) + (j : Int) from by omega] at this
  exact this
theorem Sf.zero (S : ByteArray) : Sf S 0 (bs S) := ⟨[], rfl, rfl⟩

set_option maxRecDepth 20000 in
set_option maxHeartbeats 2000000 in
theorem rs_end (S : ByteArray) (k : Nat)  (w : World)  (F : Hid (Sf S k ([]))) (hs : S.size < 1000000) :
    Calls Tryd.prog 107 #[.string S, .int .i64 (k : Int)] w fun e w' => e = .returned (.tuple #[.int .u8 0, .int .i64 (-1)]) ∧ Hid (Qt w w') := by
  have hz := F.out.size
  simp only [List.length_cons, List.length_nil] at hz
  have hw1 : IntKind.i64.wrap ((k : Int) + 1) = (k : Int) + 1 := by rw [IntKind.wrap_i64]; omega
  have hw2 : IntKind.i64.wrap ((k : Int) + 2) = (k : Int) + 2 := by rw [IntKind.wrap_i64]; omega
  have hw3 : IntKind.i64.wrap ((k : Int) + 3) = (k : Int) + 3 := by rw [IntKind.wrap_i64]; omega
  have hw4 : IntKind.i64.wrap ((k : Int) + 4) = (k : Int) + 4 := by rw [IntKind.wrap_i64]; omega
  have g0 : (S.size : Int) ≤ (k : Int) := by omega
  clear hz
  go_enter Tryd.func107, Tryd.ntmps107
  go_wp2_with fail
  go_ret2
  exact ⟨by simp, Qt.refl _⟩

set_option maxRecDepth 20000 in
set_option maxHeartbeats 2000000 in
theorem rs_lo (S : ByteArray) (k : Nat) (c : Nat) (t : List Nat) (w : World) (hne : c ≠ 92) (hlo : c < 33) (F : Hid (Sf S k (c :: t))) (hs : S.size < 1000000) :
    Calls Tryd.prog 107 #[.string S, .int .i64 (k : Int)] w fun e w' => e = .returned (.tuple #[.int .u8 0, .int .i64 (-1)]) ∧ Hid (Qt w w') := by
  have hz := F.out.size
  simp only [List.length_cons, List.length_nil] at hz
  have hw1 : IntKind.i64.wrap ((k : Int) + 1) = (k : Int) + 1 := by rw [IntKind.wrap_i64]; omega
  have hw2 : IntKind.i64.wrap ((k : Int) + 2) = (k : Int) + 2 := by rw [IntKind.wrap_i64]; omega
  have hw3 : IntKind.i64.wrap ((k : Int) + 3) = (k : Int) + 3 := by rw [IntKind.wrap_i64]; omega
  have hw4 : IntKind.i64.wrap ((k : Int) + 4) = (k : Int) + 4 := by rw [IntKind.wrap_i64]; omega
  obtain ⟨ic, hc⟩ := F.out.at
  have g0 : ¬ (S.size : Int) ≤ (k : Int) := by omega
  have h92 : ((c : Int) == 92) = false := by simp; omega
  have h92b : ((c : Int) != 92) = true := by rw [bne, h92]; rfl
  have g1 : (c : Int) < 33 := by omega
  clear hz
  go_enter Tryd.func107, Tryd.ntmps107
  go_wp2_with fail
  go_ret2
  exact ⟨by simp, Qt.refl _⟩

set_option maxRecDepth 20000 in
set_option maxHeartbeats 2000000 in
theorem rs_hi (S : ByteArray) (k : Nat) (c : Nat) (t : List Nat) (w : World) (hne : c ≠ 92) (hlo : ¬ c < 33) (hhi : 126 < c) (F : Hid (Sf S k (c :: t))) (hs : S.size < 1000000) :
    Calls Tryd.prog 107 #[.string S, .int .i64 (k : Int)] w fun e w' => e = .returned (.tuple #[.int .u8 0, .int .i64 (-1)]) ∧ Hid (Qt w w') := by
  have hz := F.out.size
  simp only [List.length_cons, List.length_nil] at hz
  have hw1 : IntKind.i64.wrap ((k : Int) + 1) = (k : Int) + 1 := by rw [IntKind.wrap_i64]; omega
  have hw2 : IntKind.i64.wrap ((k : Int) + 2) = (k : Int) + 2 := by rw [IntKind.wrap_i64]; omega
  have hw3 : IntKind.i64.wrap ((k : Int) + 3) = (k : Int) + 3 := by rw [IntKind.wrap_i64]; omega
  have hw4 : IntKind.i64.wrap ((k : Int) + 4) = (k : Int) + 4 := by rw [IntKind.wrap_i64]; omega
  obtain ⟨ic, hc⟩ := F.out.at
  have g0 : ¬ (S.size : Int) ≤ (k : Int) := by omega
  have h92 : ((c : Int) == 92) = false := by simp; omega
  have h92b : ((c : Int) != 92) = true := by rw [bne, h92]; rfl
  have g1 : ¬ (c : Int) < 33 := by omega
  have g2 : (126 : Int) < (c : Int) := by omega
  clear hz
  go_enter Tryd.func107, Tryd.ntmps107
  go_wp2_with fail
  go_ret2
  exact ⟨by simp, Qt.refl _⟩

set_option maxRecDepth 20000 in
set_option maxHeartbeats 2000000 in
theorem rs_mk (S : ByteArray) (k : Nat) (c : Nat) (t : List Nat) (w : World) (hne : c ≠ 92) (hlo : ¬ c < 33) (hhi : ¬ 126 < c) (hmk : mk c = true) (F : Hid (Sf S k (c :: t))) (hs : S.size < 1000000) :
    Calls Tryd.prog 107 #[.string S, .int .i64 (k : Int)] w fun e w' => e = .returned (.tuple #[.int .u8 0, .int .i64 (-1)]) ∧ Hid (Qt w w') := by
  have hz := F.out.size
  simp only [List.length_cons, List.length_nil] at hz
  have hw1 : IntKind.i64.wrap ((k : Int) + 1) = (k : Int) + 1 := by rw [IntKind.wrap_i64]; omega
  have hw2 : IntKind.i64.wrap ((k : Int) + 2) = (k : Int) + 2 := by rw [IntKind.wrap_i64]; omega
  have hw3 : IntKind.i64.wrap ((k : Int) + 3) = (k : Int) + 3 := by rw [IntKind.wrap_i64]; omega
  have hw4 : IntKind.i64.wrap ((k : Int) + 4) = (k : Int) + 4 := by rw [IntKind.wrap_i64]; omega
  obtain ⟨ic, hc⟩ := F.out.at
  have g0 : ¬ (S.size : Int) ≤ (k : Int) := by omega
  have h92 : ((c : Int) == 92) = false := by simp; omega
  have h92b : ((c : Int) != 92) = true := by rw [bne, h92]; rfl
  have g1 : ¬ (c : Int) < 33 := by omega
  have g2 : ¬ (126 : Int) < (c : Int) := by omega
  have hm := in_marks c hc
  rw [hmk] at hm
  have hd1 := rdigit 0 (by omega)
  have hd2 := rdigit 0 (by omega)
  clear hz
  go_enter Tryd.func107, Tryd.ntmps107
  go_wp2_with (first
    | (go_at_call 82; with_reducible refine (hm _).mono ?_; rintro e w1 ⟨rfl, rfl⟩)
    | (go_at_call 112; with_reducible refine (hd1 _).mono ?_; rintro e w1 ⟨rfl, rfl⟩)
    | (go_at_call 112; with_reducible refine (hd2 _).mono ?_; rintro e w1 ⟨rfl, rfl⟩))
  go_ret2
  exact ⟨by simp, Qt.refl _⟩

set_option maxRecDepth 20000 in
set_option maxHeartbeats 2000000 in
theorem rs_plain (S : ByteArray) (k : Nat) (c : Nat) (t : List Nat) (w : World) (hne : c ≠ 92) (hlo : ¬ c < 33) (hhi : ¬ 126 < c) (hmk : mk c = false) (F : Hid (Sf S k (c :: t))) (hs : S.size < 1000000) :
    Calls Tryd.prog 107 #[.string S, .int .i64 (k : Int)] w fun e w' => e = .returned (.tuple #[.int .u8 (c : Int), .int .i64 ((k : Int) + 1)]) ∧ Hid (Qt w w') := by
  have hz := F.out.size
  simp only [List.length_cons, List.length_nil] at hz
  have hw1 : IntKind.i64.wrap ((k : Int) + 1) = (k : Int) + 1 := by rw [IntKind.wrap_i64]; omega
  have hw2 : IntKind.i64.wrap ((k : Int) + 2) = (k : Int) + 2 := by rw [IntKind.wrap_i64]; omega
  have hw3 : IntKind.i64.wrap ((k : Int) + 3) = (k : Int) + 3 := by rw [IntKind.wrap_i64]; omega
  have hw4 : IntKind.i64.wrap ((k : Int) + 4) = (k : Int) + 4 := by rw [IntKind.wrap_i64]; omega
  obtain ⟨ic, hc⟩ := F.out.at
  have g0 : ¬ (S.size : Int) ≤ (k : Int) := by omega
  have h92 : ((c : Int) == 92) = false := by simp; omega
  have h92b : ((c : Int) != 92) = true := by rw [bne, h92]; rfl
  have g1 : ¬ (c : Int) < 33 := by omega
  have g2 : ¬ (126 : Int) < (c : Int) := by omega
  have hm := in_marks c hc
  rw [hmk] at hm
  have hd1 := rdigit 0 (by omega)
  have hd2 := rdigit 0 (by omega)
  clear hz
  go_enter Tryd.func107, Tryd.ntmps107
  go_wp2_with (first
    | (go_at_call 82; with_reducible refine (hm _).mono ?_; rintro e w1 ⟨rfl, rfl⟩)
    | (go_at_call 112; with_reducible refine (hd1 _).mono ?_; rintro e w1 ⟨rfl, rfl⟩)
    | (go_at_call 112; with_reducible refine (hd2 _).mono ?_; rintro e w1 ⟨rfl, rfl⟩))
  go_ret2
  exact ⟨by simp, Qt.refl _⟩

set_option maxRecDepth 20000 in
set_option maxHeartbeats 2000000 in
theorem rs_b0 (S : ByteArray) (k : Nat)  (w : World)  (F : Hid (Sf S k (92 :: []))) (hs : S.size < 1000000) :
    Calls Tryd.prog 107 #[.string S, .int .i64 (k : Int)] w fun e w' => e = .returned (.tuple #[.int .u8 0, .int .i64 (-1)]) ∧ Hid (Qt w w') := by
  have hz := F.out.size
  simp only [List.length_cons, List.length_nil] at hz
  have hw1 : IntKind.i64.wrap ((k : Int) + 1) = (k : Int) + 1 := by rw [IntKind.wrap_i64]; omega
  have hw2 : IntKind.i64.wrap ((k : Int) + 2) = (k : Int) + 2 := by rw [IntKind.wrap_i64]; omega
  have hw3 : IntKind.i64.wrap ((k : Int) + 3) = (k : Int) + 3 := by rw [IntKind.wrap_i64]; omega
  have hw4 : IntKind.i64.wrap ((k : Int) + 4) = (k : Int) + 4 := by rw [IntKind.wrap_i64]; omega
  obtain ⟨ic, hc⟩ := F.out.at
  have ic2 : ∀ w, (Instr.index 9 (.string S) (.int .i64 (k : Int))).run Tryd.prog w = .ok (.int .u8 92) w := ic
  clear ic
  have g0 : ¬ (S.size : Int) ≤ (k : Int) := by omega
  have g1 : ¬ (k : Int) + 1 < (S.size : Int) := by omega
  have g3 : ¬ (k : Int) + 3 < (S.size : Int) := by omega
  clear hz
  go_enter Tryd.func107, Tryd.ntmps107
  go_wp2_with fail
  go_ret2
  exact ⟨by simp, Qt.refl _⟩

set_option maxRecDepth 20000 in
set_option maxHeartbeats 2000000 in
theorem rs_b1 (S : ByteArray) (k : Nat) (d : Nat) (t : List Nat) (w : World) (hmk : mk d = true) (F : Hid (Sf S k (92 :: d :: t))) (hs : S.size < 1000000) :
    Calls Tryd.prog 107 #[.string S, .int .i64 (k : Int)] w fun e w' => e = .returned (.tuple #[.int .u8 (d : Int), .int .i64 ((k : Int) + 2)]) ∧ Hid (Qt w w') := by
  have hz := F.out.size
  simp only [List.length_cons, List.length_nil] at hz
  have hw1 : IntKind.i64.wrap ((k : Int) + 1) = (k : Int) + 1 := by rw [IntKind.wrap_i64]; omega
  have hw2 : IntKind.i64.wrap ((k : Int) + 2) = (k : Int) + 2 := by rw [IntKind.wrap_i64]; omega
  have hw3 : IntKind.i64.wrap ((k : Int) + 3) = (k : Int) + 3 := by rw [IntKind.wrap_i64]; omega
  have hw4 : IntKind.i64.wrap ((k : Int) + 4) = (k : Int) + 4 := by rw [IntKind.wrap_i64]; omega
  obtain ⟨ic, hc⟩ := F.out.at
  have ic2 : ∀ w, (Instr.index 9 (.string S) (.int .i64 (k : Int))).run Tryd.prog w = .ok (.int .u8 92) w := ic
  clear ic
  have g0 : ¬ (S.size : Int) ≤ (k : Int) := by omega
  obtain ⟨id, hd⟩ := (F.out.tail).at1 (j := 1)
  have id2 : ∀ w, (Instr.index 9 (.string S) (.int .i64 ((k : Int) + 1))).run Tryd.prog w = .ok (.int .u8 (d : Int)) w := id
  clear id
  have g1 : (k : Int) + 1 < (S.size : Int) := by omega
  have hm := in_marks d hd
  rw [hmk] at hm
  have hd1 := rdigit 0 (by omega)
  have hd2 := rdigit 0 (by omega)
  clear hz
  go_enter Tryd.func107, Tryd.ntmps107
  go_wp2_with (first
    | (go_at_call 82; with_reducible refine (hm _).mono ?_; rintro e w1 ⟨rfl, rfl⟩)
    | (go_at_call 112; with_reducible refine (hd1 _).mono ?_; rintro e w1 ⟨rfl, rfl⟩)
    | (go_at_call 112; with_reducible refine (hd2 _).mono ?_; rintro e w1 ⟨rfl, rfl⟩))
  go_ret2
  exact ⟨by simp, Qt.refl _⟩

set_option maxRecDepth 20000 in
set_option maxHeartbeats 2000000 in
theorem rs_b2 (S : ByteArray) (k : Nat) (d : Nat) (t : List Nat) (w : World) (hmk : mk d = false) (ht : t.length < 2) (F : Hid (Sf S k (92 :: d :: t))) (hs : S.size < 1000000) :
    Calls Tryd.prog 107 #[.string S, .int .i64 (k : Int)] w fun e w' => e = .returned (.tuple #[.int .u8 0, .int .i64 (-1)]) ∧ Hid (Qt w w') := by
  have hz := F.out.size
  simp only [List.length_cons, List.length_nil] at hz
  have hw1 : IntKind.i64.wrap ((k : Int) + 1) = (k : Int) + 1 := by rw [IntKind.wrap_i64]; omega
  have hw2 : IntKind.i64.wrap ((k : Int) + 2) = (k : Int) + 2 := by rw [IntKind.wrap_i64]; omega
  have hw3 : IntKind.i64.wrap ((k : Int) + 3) = (k : Int) + 3 := by rw [IntKind.wrap_i64]; omega
  have hw4 : IntKind.i64.wrap ((k : Int) + 4) = (k : Int) + 4 := by rw [IntKind.wrap_i64]; omega
  obtain ⟨ic, hc⟩ := F.out.at
  have ic2 : ∀ w, (Instr.index 9 (.string S) (.int .i64 (k : Int))).run Tryd.prog w = .ok (.int .u8 92) w := ic
  clear ic
  have g0 : ¬ (S.size : Int) ≤ (k : Int) := by omega
  obtain ⟨id, hd⟩ := (F.out.tail).at1 (j := 1)
  have id2 : ∀ w, (Instr.index 9 (.string S) (.int .i64 ((k : Int) + 1))).run Tryd.prog w = .ok (.int .u8 (d : Int)) w := id
  clear id
  have g1 : (k : Int) + 1 < (S.size : Int) := by omega
  have hm := in_marks d hd
  rw [hmk] at hm
  have g3 : ¬ (k : Int) + 3 < (S.size : Int) := by omega
  have hd1 := rdigit 0 (by omega)
  have hd2 := rdigit 0 (by omega)
  clear hz
  go_enter Tryd.func107, Tryd.ntmps107
  go_wp2_with (first
    | (go_at_call 82; with_reducible refine (hm _).mono ?_; rintro e w1 ⟨rfl, rfl⟩)
    | (go_at_call 112; with_reducible refine (hd1 _).mono ?_; rintro e w1 ⟨rfl, rfl⟩)
    | (go_at_call 112; with_reducible refine (hd2 _).mono ?_; rintro e w1 ⟨rfl, rfl⟩))
  go_ret2
  exact ⟨by simp, Qt.refl _⟩

set_option maxRecDepth 20000 in
set_option maxHeartbeats 2000000 in
theorem rs_b3 (S : ByteArray) (k : Nat) (d a b : Nat) (t : List Nat) (w : World) (hmk : mk d = false) (hx : d ≠ 120) (F : Hid (Sf S k (92 :: d :: a :: b :: t))) (hs : S.size < 1000000) :
    Calls Tryd.prog 107 #[.string S, .int .i64 (k : Int)] w fun e w' => e = .returned (.tuple #[.int .u8 0, .int .i64 (-1)]) ∧ Hid (Qt w w') := by
  have hz := F.out.size
  simp only [List.length_cons, List.length_nil] at hz
  have hw1 : IntKind.i64.wrap ((k : Int) + 1) = (k : Int) + 1 := by rw [IntKind.wrap_i64]; omega
  have hw2 : IntKind.i64.wrap ((k : Int) + 2) = (k : Int) + 2 := by rw [IntKind.wrap_i64]; omega
  have hw3 : IntKind.i64.wrap ((k : Int) + 3) = (k : Int) + 3 := by rw [IntKind.wrap_i64]; omega
  have hw4 : IntKind.i64.wrap ((k : Int) + 4) = (k : Int) + 4 := by rw [IntKind.wrap_i64]; omega
  obtain ⟨ic, hc⟩ := F.out.at
  have ic2 : ∀ w, (Instr.index 9 (.string S) (.int .i64 (k : Int))).run Tryd.prog w = .ok (.int .u8 92) w := ic
  clear ic
  have g0 : ¬ (S.size : Int) ≤ (k : Int) := by omega
  obtain ⟨id, hd⟩ := (F.out.tail).at1 (j := 1)
  have id2 : ∀ w, (Instr.index 9 (.string S) (.int .i64 ((k : Int) + 1))).run Tryd.prog w = .ok (.int .u8 (d : Int)) w := id
  clear id
  have g1 : (k : Int) + 1 < (S.size : Int) := by omega
  have hm := in_marks d hd
  rw [hmk] at hm
  have g3 : (k : Int) + 3 < (S.size : Int) := by omega
  have h120 : ((d : Int) == 120) = false := by simp; omega
  have hd1 := rdigit 0 (by omega)
  have hd2 := rdigit 0 (by omega)
  clear hz
  go_enter Tryd.func107, Tryd.ntmps107
  go_wp2_with (first
    | (go_at_call 82; with_reducible refine (hm _).mono ?_; rintro e w1 ⟨rfl, rfl⟩)
    | (go_at_call 112; with_reducible refine (hd1 _).mono ?_; rintro e w1 ⟨rfl, rfl⟩)
    | (go_at_call 112; with_reducible refine (hd2 _).mono ?_; rintro e w1 ⟨rfl, rfl⟩))
  go_ret2
  exact ⟨by simp, Qt.refl _⟩

set_option maxRecDepth 20000 in
set_option maxHeartbeats 2000000 in
theorem rs_b4 (S : ByteArray) (k : Nat) (a b : Nat) (t : List Nat) (w : World) (hda : dgt a = -1) (F : Hid (Sf S k (92 :: 120 :: a :: b :: t))) (hs : S.size < 1000000) :
    Calls Tryd.prog 107 #[.string S, .int .i64 (k : Int)] w fun e w' => e = .returned (.tuple #[.int .u8 0, .int .i64 (-1)]) ∧ Hid (Qt w w') := by
  have hz := F.out.size
  simp only [List.length_cons, List.length_nil] at hz
  have hw1 : IntKind.i64.wrap ((k : Int) + 1) = (k : Int) + 1 := by rw [IntKind.wrap_i64]; omega
  have hw2 : IntKind.i64.wrap ((k : Int) + 2) = (k : Int) + 2 := by rw [IntKind.wrap_i64]; omega
  have hw3 : IntKind.i64.wrap ((k : Int) + 3) = (k : Int) + 3 := by rw [IntKind.wrap_i64]; omega
  have hw4 : IntKind.i64.wrap ((k : Int) + 4) = (k : Int) + 4 := by rw [IntKind.wrap_i64]; omega
  obtain ⟨ic, hc⟩ := F.out.at
  have ic2 : ∀ w, (Instr.index 9 (.string S) (.int .i64 (k : Int))).run Tryd.prog w = .ok (.int .u8 92) w := ic
  clear ic
  have g0 : ¬ (S.size : Int) ≤ (k : Int) := by omega
  obtain ⟨ia, ha⟩ := (F.out.tail.tail).at1 (j := 2)
  have ia2 : ∀ w, (Instr.index 9 (.string S) (.int .i64 ((k : Int) + 2))).run Tryd.prog w = .ok (.int .u8 (a : Int)) w := ia
  clear ia
  obtain ⟨ib, hb⟩ := (F.out.tail.tail.tail).at1 (j := 3)
  have ib2 : ∀ w, (Instr.index 9 (.string S) (.int .i64 ((k : Int) + 3))).run Tryd.prog w = .ok (.int .u8 (b : Int)) w := ib
  clear ib
  obtain ⟨id, hd⟩ := (F.out.tail).at1 (j := 1)
  have id2 : ∀ w, (Instr.index 9 (.string S) (.int .i64 ((k : Int) + 1))).run Tryd.prog w = .ok (.int .u8 120) w := id
  clear id
  have g1 : (k : Int) + 1 < (S.size : Int) := by omega
  have hm : ∀ w, Calls Tryd.prog 82 #[.string ⟨#[92, 124, 42, 43, 63, 40, 41, 91, 93, 46, 94, 45]⟩, .int .u8 120] w fun e w' => e = .returned (.bool false) ∧ w' = w := in_marks 120 (by omega)
  have g3 : (k : Int) + 3 < (S.size : Int) := by omega
  have hd1 := rdigit a ha
  rw [hda] at hd1
  have hd2 := rdigit b hb
  clear hz
  go_enter Tryd.func107, Tryd.ntmps107
  go_wp2_with (first
    | (go_at_call 82; with_reducible refine (hm _).mono ?_; rintro e w1 ⟨rfl, rfl⟩)
    | (go_at_call 112; with_reducible refine (hd1 _).mono ?_; rintro e w1 ⟨rfl, rfl⟩)
    | (go_at_call 112; with_reducible refine (hd2 _).mono ?_; rintro e w1 ⟨rfl, rfl⟩))
  go_ret2
  exact ⟨by simp, Qt.refl _⟩

set_option maxRecDepth 20000 in
set_option maxHeartbeats 2000000 in
theorem rs_b5 (S : ByteArray) (k : Nat) (a b x : Nat) (t : List Nat) (w : World) (hda : dgt a = (x : Int)) (hx : x < 16) (hdb : dgt b = -1) (F : Hid (Sf S k (92 :: 120 :: a :: b :: t))) (hs : S.size < 1000000) :
    Calls Tryd.prog 107 #[.string S, .int .i64 (k : Int)] w fun e w' => e = .returned (.tuple #[.int .u8 0, .int .i64 (-1)]) ∧ Hid (Qt w w') := by
  have hz := F.out.size
  simp only [List.length_cons, List.length_nil] at hz
  have hw1 : IntKind.i64.wrap ((k : Int) + 1) = (k : Int) + 1 := by rw [IntKind.wrap_i64]; omega
  have hw2 : IntKind.i64.wrap ((k : Int) + 2) = (k : Int) + 2 := by rw [IntKind.wrap_i64]; omega
  have hw3 : IntKind.i64.wrap ((k : Int) + 3) = (k : Int) + 3 := by rw [IntKind.wrap_i64]; omega
  have hw4 : IntKind.i64.wrap ((k : Int) + 4) = (k : Int) + 4 := by rw [IntKind.wrap_i64]; omega
  obtain ⟨ic, hc⟩ := F.out.at
  have ic2 : ∀ w, (Instr.index 9 (.string S) (.int .i64 (k : Int))).run Tryd.prog w = .ok (.int .u8 92) w := ic
  clear ic
  have g0 : ¬ (S.size : Int) ≤ (k : Int) := by omega
  obtain ⟨ia, ha⟩ := (F.out.tail.tail).at1 (j := 2)
  have ia2 : ∀ w, (Instr.index 9 (.string S) (.int .i64 ((k : Int) + 2))).run Tryd.prog w = .ok (.int .u8 (a : Int)) w := ia
  clear ia
  obtain ⟨ib, hb⟩ := (F.out.tail.tail.tail).at1 (j := 3)
  have ib2 : ∀ w, (Instr.index 9 (.string S) (.int .i64 ((k : Int) + 3))).run Tryd.prog w = .ok (.int .u8 (b : Int)) w := ib
  clear ib
  obtain ⟨id, hd⟩ := (F.out.tail).at1 (j := 1)
  have id2 : ∀ w, (Instr.index 9 (.string S) (.int .i64 ((k : Int) + 1))).run Tryd.prog w = .ok (.int .u8 120) w := id
  clear id
  have g1 : (k : Int) + 1 < (S.size : Int) := by omega
  have hm : ∀ w, Calls Tryd.prog 82 #[.string ⟨#[92, 124, 42, 43, 63, 40, 41, 91, 93, 46, 94, 45]⟩, .int .u8 120] w fun e w' => e = .returned (.bool false) ∧ w' = w := in_marks 120 (by omega)
  have g3 : (k : Int) + 3 < (S.size : Int) := by omega
  have hd1 := rdigit a ha
  rw [hda] at hd1
  have hd2 := rdigit b hb
  rw [hdb] at hd2
  clear hz
  go_enter Tryd.func107, Tryd.ntmps107
  go_wp2_with (first
    | (go_at_call 82; with_reducible refine (hm _).mono ?_; rintro e w1 ⟨rfl, rfl⟩)
    | (go_at_call 112; with_reducible refine (hd1 _).mono ?_; rintro e w1 ⟨rfl, rfl⟩)
    | (go_at_call 112; with_reducible refine (hd2 _).mono ?_; rintro e w1 ⟨rfl, rfl⟩))
  go_ret2
  exact ⟨by simp, Qt.refl _⟩

set_option maxRecDepth 20000 in
set_option maxHeartbeats 2000000 in
theorem rs_b6 (S : ByteArray) (k : Nat) (a b x y : Nat) (t : List Nat) (w : World) (hda : dgt a = (x : Int)) (hx : x < 16) (hdb : dgt b = (y : Int)) (hy : y < 16) (F : Hid (Sf S k (92 :: 120 :: a :: b :: t))) (hs : S.size < 1000000) :
    Calls Tryd.prog 107 #[.string S, .int .i64 (k : Int)] w fun e w' => e = .returned (.tuple #[.int .u8 ((16 * x + y : Nat) : Int), .int .i64 ((k : Int) + 4)]) ∧ Hid (Qt w w') := by
  have hz := F.out.size
  simp only [List.length_cons, List.length_nil] at hz
  have hw1 : IntKind.i64.wrap ((k : Int) + 1) = (k : Int) + 1 := by rw [IntKind.wrap_i64]; omega
  have hw2 : IntKind.i64.wrap ((k : Int) + 2) = (k : Int) + 2 := by rw [IntKind.wrap_i64]; omega
  have hw3 : IntKind.i64.wrap ((k : Int) + 3) = (k : Int) + 3 := by rw [IntKind.wrap_i64]; omega
  have hw4 : IntKind.i64.wrap ((k : Int) + 4) = (k : Int) + 4 := by rw [IntKind.wrap_i64]; omega
  obtain ⟨ic, hc⟩ := F.out.at
  have ic2 : ∀ w, (Instr.index 9 (.string S) (.int .i64 (k : Int))).run Tryd.prog w = .ok (.int .u8 92) w := ic
  clear ic
  have g0 : ¬ (S.size : Int) ≤ (k : Int) := by omega
  obtain ⟨ia, ha⟩ := (F.out.tail.tail).at1 (j := 2)
  have ia2 : ∀ w, (Instr.index 9 (.string S) (.int .i64 ((k : Int) + 2))).run Tryd.prog w = .ok (.int .u8 (a : Int)) w := ia
  clear ia
  obtain ⟨ib, hb⟩ := (F.out.tail.tail.tail).at1 (j := 3)
  have ib2 : ∀ w, (Instr.index 9 (.string S) (.int .i64 ((k : Int) + 3))).run Tryd.prog w = .ok (.int .u8 (b : Int)) w := ib
  clear ib
  obtain ⟨id, hd⟩ := (F.out.tail).at1 (j := 1)
  have id2 : ∀ w, (Instr.index 9 (.string S) (.int .i64 ((k : Int) + 1))).run Tryd.prog w = .ok (.int .u8 120) w := id
  clear id
  have g1 : (k : Int) + 1 < (S.size : Int) := by omega
  have hm : ∀ w, Calls Tryd.prog 82 #[.string ⟨#[92, 124, 42, 43, 63, 40, 41, 91, 93, 46, 94, 45]⟩, .int .u8 120] w fun e w' => e = .returned (.bool false) ∧ w' = w := in_marks 120 (by omega)
  have g3 : (k : Int) + 3 < (S.size : Int) := by omega
  have hd1 := rdigit a ha
  rw [hda] at hd1
  have hd2 := rdigit b hb
  rw [hdb] at hd2
  have v1 : IntKind.i64.wrap ((x : Int) * 16) = (x : Int) * 16 := by rw [IntKind.wrap_i64]; omega
  have v2 : IntKind.i64.wrap ((x : Int) * 16 + (y : Int)) = (x : Int) * 16 + (y : Int) := by rw [IntKind.wrap_i64]; omega
  have v3 : IntKind.u8.wrap ((x : Int) * 16 + (y : Int)) = (x : Int) * 16 + (y : Int) := by rw [IntKind.wrap_u8]; omega
  have hfin : (x : Int) * 16 + (y : Int) = ((16 * x + y : Nat) : Int) := by omega
  clear hz
  go_enter Tryd.func107, Tryd.ntmps107
  go_wp2_with (first
    | (go_at_call 82; with_reducible refine (hm _).mono ?_; rintro e w1 ⟨rfl, rfl⟩)
    | (go_at_call 112; with_reducible refine (hd1 _).mono ?_; rintro e w1 ⟨rfl, rfl⟩)
    | (go_at_call 112; with_reducible refine (hd2 _).mono ?_; rintro e w1 ⟨rfl, rfl⟩))
  go_quiet ((first | (go_at_call 112; with_reducible exact Calls.quiet_of_same (hd1 _)) | (go_at_call 112; with_reducible exact Calls.quiet_of_same (hd2 _))))
  go_wp2_with fail
  go_ret2
  exact ⟨by simp [hfin], Mv.drewN _ _ _⟩


/-- What the reference's sign tells. -/
def rsv (S : ByteArray) (o : Option (Nat × List Nat)) : Value := match o with
  | none => .tuple #[.int .u8 0, .int .i64 (-1)]
  | some (c, t) => .tuple #[.int .u8 (c : Int), .int .i64 ((S.size - t.length : Nat) : Int)]
theorem rsign_any (S : ByteArray) (k : Nat) (l : List Nat) (w : World) (F : Hid (Sf S k l)) (hs : S.size < 1000000) : Calls Tryd.prog 107 #[.string S, .int .i64 (k : Int)] w fun e w' => e = .returned (rsv S (sgn l)) ∧ Hid (Qt w w') := by
  have hz := F.out.size
  match l, F, hz with
  | [], F, hz => exact rs_end S k w F hs
  | c :: t, F, hz =>
    by_cases h92 : c = 92
    · subst h92
      rw [sgn, if_pos rfl]
      match t, F, hz with
      | [], F, hz => exact rs_b0 S k w F hs
      | d :: t, F, hz =>
        by_cases h120 : d = 120
        · subst h120
          rw [esc, if_pos rfl]
          match t, F, hz with
          | [], F, hz => exact rs_b2 S k 120 [] w (by decide) (by simp) F hs
          | [a], F, hz => exact rs_b2 S k 120 [a] w (by decide) (by simp) F hs
          | a :: b :: t, F, hz =>
            rw [hx]
            cases hda : dig a with
            | none => exact rs_b4 S k a b t w (by unfold dgt; rw [hda]) F hs
            | some x =>
              cases hdb : dig b with
              | none => exact rs_b5 S k a b x t w (by unfold dgt; rw [hda]) (dig_lt hda) (by unfold dgt; rw [hdb]) F hs
              | some y =>
                have := rs_b6 S k a b x y t w (by unfold dgt; rw [hda]) (dig_lt hda) (by unfold dgt; rw [hdb]) (dig_lt hdb) F hs
                rw [show (k : Int) + 4 = ((S.size - t.length : Nat) : Int) from by simp at hz; omega] at this
                exact this
        · rw [esc, if_neg h120]
          cases hm : mk d with
          | true =>
            have := rs_b1 S k d t w hm F hs
            rw [show (k : Int) + 2 = ((S.size - t.length : Nat) : Int) from by simp at hz; omega] at this
            exact this
          | false =>
            match t, F, hz with
            | [], F, hz => exact rs_b2 S k d [] w hm (by simp) F hs
            | [a], F, hz => exact rs_b2 S k d [a] w hm (by simp) F hs
            | a :: b :: t, F, hz => exact rs_b3 S k d a b t w hm h120 F hs
    · rw [sgn, if_neg h92]
      by_cases hlo : c < 33
      · rw [if_neg (by unfold seen; simp; omega)]
        exact rs_lo S k c t w h92 hlo F hs
      · by_cases hhi : 126 < c
        · rw [if_neg (by unfold seen; simp; omega)]
          exact rs_hi S k c t w h92 hlo hhi F hs
        · cases hm : mk c with
          | true =>
            rw [if_neg (by simp)]
            exact rs_mk S k c t w h92 hlo hhi hm F hs
          | false =>
            rw [if_pos (by unfold seen; simp; omega)]
            have := rs_plain S k c t w h92 hlo hhi hm F hs
            rw [show (k : Int) + 1 = ((S.size - t.length : Nat) : Int) from by simp at hz; omega] at this
            exact this

end Go.Proofs.YtkclkhfcmjhogaaDoor
