/- The reader: a digit, a sign. -/
import Derived.Test.YtkclkhfcmjhogaaDoorL1
namespace Go.Proofs.YtkclkhfcmjhogaaDoor
open Go.RowKit
set_option linter.unusedVariables false

theorem Go1.comp {q : Nat} {S : ByteArray} {l : List Nat} {a b c : World} (h : Hid (Mv (fun k => k = q) a b)) (k : Hid (Go1 q S l b c)) : Go1 q S l a c := ⟨k.out.rd, h.out.trans k.out.mv (fun _ _ h => h)⟩
theorem bad2 {q : Nat} {a b c : World} (h : Hid (Mv (fun k => k = q) a b)) (k : Hid (Mv (fun k => k = q) b c)) : Hid (Mv (fun k => k = q) a c) := h.out.trans k.out (fun _ _ h => h)
theorem gm {q : Nat} {S : ByteArray} {l : List Nat} {a b : World} (h : Hid (Go1 q S l a b)) : Hid (Mv (fun k => k = q) a b) := h.out.mv

theorem conv_digit (x : Nat) (hx : x < 16) : IntKind.u8.wrap (x : Int) = (x : Int) := by
  have h : ∀ x : Fin 16, IntKind.u8.wrap ((x.val : Nat) : Int) = ((x.val : Nat) : Int) := by decide
  exact h ⟨x, hx⟩

set_option maxHeartbeats 1000000 in
theorem digit_ok (q : Nat) (S : ByteArray) (c x : Nat) (l : List Nat) (w : World) (hx : dig c = some x) (R : Hid (Rd q S (c :: l) w)) :
    Calls Tryd.prog 121 #[.pointer (some ⟨q, 0, none⟩)] w fun e w' => e = .returned (.int .u8 (x : Int)) ∧ Hid (Go1 q S l w w') := by
  obtain ⟨_, _, _, _, hc, _⟩ := R.out.split
  have hd := digits_at c hc
  rw [hx] at hd
  simp only at hd
  have hx16 := dig_lt hx
  have hi := fun W => index_byte ⟨#[48, 49, 50, 51, 52, 53, 54, 55, 56, 57, 97, 98, 99, 100, 101, 102]⟩ (c : Int) W
  rw [show Lib.indexByte (⟨#[48, 49, 50, 51, 52, 53, 54, 55, 56, 57, 97, 98, 99, 100, 101, 102]⟩ : ByteArray).data.toList (c : Int).toNat.toUInt8 = (x : Int) from hd] at hi
  have hw := conv_digit x hx16
  have HX : Hid _ := hx
  clear hd hx
  go_enter Tryd.func121, Tryd.ntmps121
  go_wp2_with fail
  refine (take_ok q S c l _ R.out).mono ?_
  rintro e w1 ⟨rfl, g1⟩
  go_wp2_with fail
  refine (hi _).mono ?_
  rintro e w2 ⟨rfl, rfl⟩
  go_wp2_with (go_at_call 111; refine (must_ok _).mono ?_; rintro e w3 ⟨rfl, rfl⟩)
  go_ret
  exact ⟨rfl, g1⟩
set_option maxHeartbeats 1000000 in
theorem digit_bad (q : Nat) (S : ByteArray) (c : Nat) (l : List Nat) (w : World) (hx : dig c = none) (R : Hid (Rd q S (c :: l) w)) :
    Calls Tryd.prog 121 #[.pointer (some ⟨q, 0, none⟩)] w fun e w' => e = .panicked badChain ∧ Hid (Mv (fun k => k = q) w w') := by
  obtain ⟨_, _, _, _, hc, _⟩ := R.out.split
  have hd := digits_at c hc
  rw [hx] at hd
  simp only at hd
  have hi := fun W => index_byte ⟨#[48, 49, 50, 51, 52, 53, 54, 55, 56, 57, 97, 98, 99, 100, 101, 102]⟩ (c : Int) W
  rw [show Lib.indexByte (⟨#[48, 49, 50, 51, 52, 53, 54, 55, 56, 57, 97, 98, 99, 100, 101, 102]⟩ : ByteArray).data.toList (c : Int).toNat.toUInt8 = (-1 : Int) from hd] at hi
  have HX : Hid _ := hx
  clear hd hx
  go_enter Tryd.func121, Tryd.ntmps121
  go_wp2_with fail
  refine (take_ok q S c l _ R.out).mono ?_
  rintro e w1 ⟨rfl, g1⟩
  go_wp2_with fail
  refine (hi _).mono ?_
  rintro e w2 ⟨rfl, rfl⟩
  go_wp2_with (go_at_call 111; refine (must_bad _).mono ?_; rintro e w3 ⟨rfl, rfl⟩)
  exact ⟨rfl, rfl, gm g1⟩
set_option maxHeartbeats 1000000 in
theorem digit_end (q : Nat) (S : ByteArray) (w : World) (R : Hid (Rd q S [] w)) :
    Calls Tryd.prog 121 #[.pointer (some ⟨q, 0, none⟩)] w fun e w' => e = .panicked badChain ∧ Hid (Mv (fun k => k = q) w w') := by
  go_enter Tryd.func121, Tryd.ntmps121
  go_wp2_with fail
  refine (take_bad q S _ R.out).mono ?_
  rintro e w1 ⟨rfl, g1⟩
  exact ⟨rfl, rfl, g1⟩

/-- The bytes of a sign. -/
theorem or_digits (x y : Nat) (hx : x < 16) (hy : y < 16) : bits .or .u8 ((x : Int) * 16) (y : Int) = ((16 * x + y : Nat) : Int) := by
  have h : ∀ x : Fin 16, ∀ y : Fin 16, bits .or .u8 ((x.val : Int) * 16) (y.val : Int) = ((16 * x.val + y.val : Nat) : Int) := by decide +kernel
  exact h ⟨x, hx⟩ ⟨y, hy⟩

set_option maxHeartbeats 1000000 in
theorem sign_hex (q : Nat) (S : ByteArray) (a b x y : Nat) (l : List Nat) (w : World) (hx : dig a = some x) (hy : dig b = some y) (R : Hid (Rd q S (92 :: 120 :: a :: b :: l) w)) :
    Calls Tryd.prog 116 #[.pointer (some ⟨q, 0, none⟩)] w fun e w' => e = .returned (.int .u8 ((16 * x + y : Nat) : Int)) ∧ Hid (Go1 q S l w w') := by
  have hx16 := dig_lt hx
  have hy16 := dig_lt hy
  have ho := or_digits x y hx16 hy16
  have HX : Hid _ := hx
  have HY : Hid _ := hy
  clear hx hy
  go_enter Tryd.func116, Tryd.ntmps116
  go_wp2_with fail
  refine (take_ok q S 92 _ _ R.out).mono ?_
  rintro e w1 ⟨rfl, g1⟩
  go_wp2_with fail
  refine (skip_yes q S 120 _ _ g1.out.rd).mono ?_
  rintro e w2 ⟨rfl, g2⟩
  go_wp2_with fail
  refine (digit_ok q S a x _ _ HX.out g2.out.rd).mono ?_
  rintro e w3 ⟨rfl, g3⟩
  go_wp2_with fail
  refine (digit_ok q S b y _ _ HY.out g3.out.rd).mono ?_
  rintro e w4 ⟨rfl, g4⟩
  go_wp2_with fail
  go_ret
  exact ⟨by simp, Go1.comp (bad2 (bad2 (gm g1) (gm g2)) (gm g3)) g4⟩
set_option maxHeartbeats 1000000 in
theorem sign_hex1 (q : Nat) (S : ByteArray)  (w : World)  (R : Hid (Rd q S (92 :: 120 :: []) w)) :
    Calls Tryd.prog 116 #[.pointer (some ⟨q, 0, none⟩)] w fun e w' => e = .panicked badChain ∧ Hid (Mv (fun k => k = q) w w') := by
  go_enter Tryd.func116, Tryd.ntmps116
  go_wp2_with fail
  refine (take_ok q S 92 _ _ R.out).mono ?_
  rintro e w1 ⟨rfl, g1⟩
  go_wp2_with fail
  refine (skip_yes q S 120 _ _ g1.out.rd).mono ?_
  rintro e w2 ⟨rfl, g2⟩
  go_wp2_with fail
  refine (digit_end q S _ g2.out.rd).mono ?_
  rintro e w3 ⟨rfl, g3⟩
  exact ⟨rfl, rfl, bad2 (bad2 (gm g1) (gm g2)) g3⟩
set_option maxHeartbeats 1000000 in
theorem sign_hex2 (q : Nat) (S : ByteArray) (a : Nat) (l : List Nat) (w : World) (hx : dig a = none) (R : Hid (Rd q S (92 :: 120 :: a :: l) w)) :
    Calls Tryd.prog 116 #[.pointer (some ⟨q, 0, none⟩)] w fun e w' => e = .panicked badChain ∧ Hid (Mv (fun k => k = q) w w') := by
  have HX : Hid _ := hx
  clear hx
  go_enter Tryd.func116, Tryd.ntmps116
  go_wp2_with fail
  refine (take_ok q S 92 _ _ R.out).mono ?_
  rintro e w1 ⟨rfl, g1⟩
  go_wp2_with fail
  refine (skip_yes q S 120 _ _ g1.out.rd).mono ?_
  rintro e w2 ⟨rfl, g2⟩
  go_wp2_with fail
  refine (digit_bad q S a _ _ HX.out g2.out.rd).mono ?_
  rintro e w3 ⟨rfl, g3⟩
  exact ⟨rfl, rfl, bad2 (bad2 (gm g1) (gm g2)) g3⟩
set_option maxHeartbeats 1000000 in
theorem sign_hex3 (q : Nat) (S : ByteArray) (a x : Nat) (w : World) (hx : dig a = some x) (R : Hid (Rd q S (92 :: 120 :: a :: []) w)) :
    Calls Tryd.prog 116 #[.pointer (some ⟨q, 0, none⟩)] w fun e w' => e = .panicked badChain ∧ Hid (Mv (fun k => k = q) w w') := by
  have hx16 := dig_lt hx
  have HX : Hid _ := hx
  clear hx
  go_enter Tryd.func116, Tryd.ntmps116
  go_wp2_with fail
  refine (take_ok q S 92 _ _ R.out).mono ?_
  rintro e w1 ⟨rfl, g1⟩
  go_wp2_with fail
  refine (skip_yes q S 120 _ _ g1.out.rd).mono ?_
  rintro e w2 ⟨rfl, g2⟩
  go_wp2_with fail
  refine (digit_ok q S a x _ _ HX.out g2.out.rd).mono ?_
  rintro e w3 ⟨rfl, g3⟩
  go_wp2_with fail
  refine (digit_end q S _ g3.out.rd).mono ?_
  rintro e w4 ⟨rfl, g4⟩
  exact ⟨rfl, rfl, bad2 (bad2 (bad2 (gm g1) (gm g2)) (gm g3)) g4⟩
set_option maxHeartbeats 1000000 in
theorem sign_hex4 (q : Nat) (S : ByteArray) (a b x : Nat) (l : List Nat) (w : World) (hx : dig a = some x) (hy : dig b = none) (R : Hid (Rd q S (92 :: 120 :: a :: b :: l) w)) :
    Calls Tryd.prog 116 #[.pointer (some ⟨q, 0, none⟩)] w fun e w' => e = .panicked badChain ∧ Hid (Mv (fun k => k = q) w w') := by
  have hx16 := dig_lt hx
  have HX : Hid _ := hx
  clear hx
  have HY : Hid _ := hy
  clear hy
  go_enter Tryd.func116, Tryd.ntmps116
  go_wp2_with fail
  refine (take_ok q S 92 _ _ R.out).mono ?_
  rintro e w1 ⟨rfl, g1⟩
  go_wp2_with fail
  refine (skip_yes q S 120 _ _ g1.out.rd).mono ?_
  rintro e w2 ⟨rfl, g2⟩
  go_wp2_with fail
  refine (digit_ok q S a x _ _ HX.out g2.out.rd).mono ?_
  rintro e w3 ⟨rfl, g3⟩
  go_wp2_with fail
  refine (digit_bad q S b _ _ HY.out g3.out.rd).mono ?_
  rintro e w4 ⟨rfl, g4⟩
  exact ⟨rfl, rfl, bad2 (bad2 (bad2 (gm g1) (gm g2)) (gm g3)) g4⟩
set_option maxHeartbeats 1000000 in
theorem sign_end (q : Nat) (S : ByteArray)  (w : World)  (R : Hid (Rd q S ([]) w)) :
    Calls Tryd.prog 116 #[.pointer (some ⟨q, 0, none⟩)] w fun e w' => e = .panicked badChain ∧ Hid (Mv (fun k => k = q) w w') := by
  go_enter Tryd.func116, Tryd.ntmps116
  go_wp2_with fail
  refine (take_bad q S _ R.out).mono ?_
  rintro e w1 ⟨rfl, g1⟩
  exact ⟨rfl, rfl, g1⟩
set_option maxHeartbeats 1000000 in
theorem sign_esc0 (q : Nat) (S : ByteArray)  (w : World)  (R : Hid (Rd q S (92 :: []) w)) :
    Calls Tryd.prog 116 #[.pointer (some ⟨q, 0, none⟩)] w fun e w' => e = .panicked badChain ∧ Hid (Mv (fun k => k = q) w w') := by
  go_enter Tryd.func116, Tryd.ntmps116
  go_wp2_with fail
  refine (take_ok q S 92 _ _ R.out).mono ?_
  rintro e w1 ⟨rfl, g1⟩
  go_wp2_with fail
  refine (skip_end q S 120 _ g1.out.rd).mono ?_
  rintro e w2 ⟨rfl, g2⟩
  go_wp2_with fail
  refine (take_bad q S _ g2.out.rd).mono ?_
  rintro e w3 ⟨rfl, g3⟩
  exact ⟨rfl, rfl, bad2 (bad2 (gm g1) (gm g2)) g3⟩
set_option maxHeartbeats 1000000 in
theorem sign_mark (q : Nat) (S : ByteArray) (c : Nat) (l : List Nat) (w : World) (hx : c ≠ 120) (hm : mk c = true) (R : Hid (Rd q S (92 :: c :: l) w)) :
    Calls Tryd.prog 116 #[.pointer (some ⟨q, 0, none⟩)] w fun e w' => e = .returned (.int .u8 (c : Int)) ∧ Hid (Go1 q S l w w') := by
  obtain ⟨k, _, _, _, _, hR2⟩ := R.out.split
  obtain ⟨_, _, _, _, hc, _⟩ := hR2.split
  clear hR2
  have hm2 := fun W => isMark_any c hc W
  rw [hm] at hm2
  clear hm
  go_enter Tryd.func116, Tryd.ntmps116
  go_wp2_with fail
  refine (take_ok q S 92 _ _ R.out).mono ?_
  rintro e w1 ⟨rfl, g1⟩
  go_wp2_with fail
  refine (skip_no q S 120 c _ _ hx g1.out.rd).mono ?_
  rintro e w2 ⟨rfl, g2⟩
  go_wp2_with fail
  refine (take_ok q S c _ _ g2.out.rd).mono ?_
  rintro e w3 ⟨rfl, g3⟩
  go_wp2_with fail
  refine (hm2 _).mono ?_
  rintro e w4 ⟨rfl, rfl⟩
  go_wp2_with fail
  refine (must_ok _).mono ?_
  rintro e w5 ⟨rfl, rfl⟩
  go_wp2_with fail
  go_ret
  exact ⟨rfl, Go1.comp (bad2 (gm g1) (gm g2)) g3⟩
set_option maxHeartbeats 1000000 in
theorem sign_mark0 (q : Nat) (S : ByteArray) (c : Nat) (l : List Nat) (w : World) (hx : c ≠ 120) (hm : mk c = false) (R : Hid (Rd q S (92 :: c :: l) w)) :
    Calls Tryd.prog 116 #[.pointer (some ⟨q, 0, none⟩)] w fun e w' => e = .panicked badChain ∧ Hid (Mv (fun k => k = q) w w') := by
  obtain ⟨k, _, _, _, _, hR2⟩ := R.out.split
  obtain ⟨_, _, _, _, hc, _⟩ := hR2.split
  clear hR2
  have hm2 := fun W => isMark_any c hc W
  rw [hm] at hm2
  clear hm
  go_enter Tryd.func116, Tryd.ntmps116
  go_wp2_with fail
  refine (take_ok q S 92 _ _ R.out).mono ?_
  rintro e w1 ⟨rfl, g1⟩
  go_wp2_with fail
  refine (skip_no q S 120 c _ _ hx g1.out.rd).mono ?_
  rintro e w2 ⟨rfl, g2⟩
  go_wp2_with fail
  refine (take_ok q S c _ _ g2.out.rd).mono ?_
  rintro e w3 ⟨rfl, g3⟩
  go_wp2_with fail
  refine (hm2 _).mono ?_
  rintro e w4 ⟨rfl, rfl⟩
  go_wp2_with fail
  refine (must_bad _).mono ?_
  rintro e w5 ⟨rfl, rfl⟩
  exact ⟨rfl, rfl, bad2 (bad2 (gm g1) (gm g2)) (gm g3)⟩
set_option maxHeartbeats 1000000 in
theorem sign_plain (q : Nat) (S : ByteArray) (c : Nat) (l : List Nat) (w : World) (hx : c ≠ 92) (hs : seen c = true) (hm : mk c = false) (R : Hid (Rd q S (c :: l) w)) :
    Calls Tryd.prog 116 #[.pointer (some ⟨q, 0, none⟩)] w fun e w' => e = .returned (.int .u8 (c : Int)) ∧ Hid (Go1 q S l w w') := by
  obtain ⟨_, _, _, _, hc, _⟩ := R.out.split
  have hs2 := fun W => isSeen_any c hc W
  rw [hs] at hs2
  clear hs
  have hm2 := fun W => isMark_any c hc W
  rw [hm] at hm2
  clear hm
  have hx2 : ((c : Int) == 92) = false := by simp; omega
  go_enter Tryd.func116, Tryd.ntmps116
  go_wp2_with fail
  refine (take_ok q S c _ _ R.out).mono ?_
  rintro e w1 ⟨rfl, g1⟩
  go_wp2_with fail
  refine (hs2 _).mono ?_
  rintro e w2 ⟨rfl, rfl⟩
  go_wp2_with fail
  refine (hm2 _).mono ?_
  rintro e w3 ⟨rfl, rfl⟩
  go_wp2_with fail
  refine (must_ok _).mono ?_
  rintro e w4 ⟨rfl, rfl⟩
  go_wp2_with fail
  go_ret
  exact ⟨rfl, g1⟩
set_option maxHeartbeats 1000000 in
theorem sign_plain0 (q : Nat) (S : ByteArray) (c : Nat) (l : List Nat) (w : World) (hx : c ≠ 92) (hs : seen c = true) (hm : mk c = true) (R : Hid (Rd q S (c :: l) w)) :
    Calls Tryd.prog 116 #[.pointer (some ⟨q, 0, none⟩)] w fun e w' => e = .panicked badChain ∧ Hid (Mv (fun k => k = q) w w') := by
  obtain ⟨_, _, _, _, hc, _⟩ := R.out.split
  have hs2 := fun W => isSeen_any c hc W
  rw [hs] at hs2
  clear hs
  have hm2 := fun W => isMark_any c hc W
  rw [hm] at hm2
  clear hm
  have hx2 : ((c : Int) == 92) = false := by simp; omega
  go_enter Tryd.func116, Tryd.ntmps116
  go_wp2_with fail
  refine (take_ok q S c _ _ R.out).mono ?_
  rintro e w1 ⟨rfl, g1⟩
  go_wp2_with fail
  refine (hs2 _).mono ?_
  rintro e w2 ⟨rfl, rfl⟩
  go_wp2_with fail
  refine (hm2 _).mono ?_
  rintro e w3 ⟨rfl, rfl⟩
  go_wp2_with fail
  refine (must_bad _).mono ?_
  rintro e w4 ⟨rfl, rfl⟩
  exact ⟨rfl, rfl, gm g1⟩
set_option maxHeartbeats 1000000 in
theorem sign_plain1 (q : Nat) (S : ByteArray) (c : Nat) (l : List Nat) (w : World) (hx : c ≠ 92) (hs : seen c = false) (R : Hid (Rd q S (c :: l) w)) :
    Calls Tryd.prog 116 #[.pointer (some ⟨q, 0, none⟩)] w fun e w' => e = .panicked badChain ∧ Hid (Mv (fun k => k = q) w w') := by
  obtain ⟨_, _, _, _, hc, _⟩ := R.out.split
  have hs2 := fun W => isSeen_any c hc W
  rw [hs] at hs2
  clear hs
  have hx2 : ((c : Int) == 92) = false := by simp; omega
  go_enter Tryd.func116, Tryd.ntmps116
  go_wp2_with fail
  refine (take_ok q S c _ _ R.out).mono ?_
  rintro e w1 ⟨rfl, g1⟩
  go_wp2_with fail
  refine (hs2 _).mono ?_
  rintro e w2 ⟨rfl, rfl⟩
  go_wp2_with fail
  refine (must_bad _).mono ?_
  rintro e w3 ⟨rfl, rfl⟩
  exact ⟨rfl, rfl, gm g1⟩

/-- What sign tells. -/
def Sg (q : Nat) (S : ByteArray) (w : World) (o : Option (Nat × List Nat)) (e : Ending) (w' : World) : Prop :=
  match o with
  | none => e = .panicked badChain ∧ Hid (Mv (fun k => k = q) w w')
  | some (c, t) => e = .returned (.int .u8 (c : Int)) ∧ Hid (Go1 q S t w w')
theorem sign_any (q : Nat) (S : ByteArray) (l : List Nat) (w : World) (R : Hid (Rd q S l w)) : Calls Tryd.prog 116 #[.pointer (some ⟨q, 0, none⟩)] w fun e w' => Sg q S w (sgn l) e w' := by
  match l, R with
  | [], R => exact sign_end q S w R
  | c :: l, R =>
    by_cases h92 : c = 92
    · subst h92
      rw [sgn, if_pos rfl]
      match l, R with
      | [], R => exact sign_esc0 q S w R
      | c :: l, R =>
        by_cases h120 : c = 120
        · subst h120
          rw [esc, if_pos rfl]
          match l, R with
          | [], R => exact sign_hex1 q S w R
          | [a], R =>
            rw [hx]
            · cases ha : dig a with
              | none => exact sign_hex2 q S a [] w ha R
              | some x => exact sign_hex3 q S a x w ha R
            · intro a b l h; simp at h
          | a :: b :: l, R =>
            rw [hx]
            cases ha : dig a with
            | none => exact sign_hex2 q S a (b :: l) w ha R
            | some x =>
              cases hb : dig b with
              | none => exact sign_hex4 q S a b x l w ha hb R
              | some y => exact sign_hex q S a b x y l w ha hb R
        · rw [esc, if_neg h120]
          cases hm : mk c with
          | false => exact sign_mark0 q S c l w h120 hm R
          | true => exact sign_mark q S c l w h120 hm R
    · rw [sgn, if_neg h92]
      cases hs : seen c with
      | false => exact sign_plain1 q S c l w h92 hs R
      | true =>
        cases hm : mk c with
        | false => exact sign_plain q S c l w h92 hs hm R
        | true => exact sign_plain0 q S c l w h92 hs hm R
theorem sign_some {q : Nat} {S : ByteArray} {l t : List Nat} {c : Nat} {w : World} (h : sgn l = some (c, t)) (R : Hid (Rd q S l w)) : Calls Tryd.prog 116 #[.pointer (some ⟨q, 0, none⟩)] w fun e w' => e = .returned (.int .u8 (c : Int)) ∧ Hid (Go1 q S t w w') := by
  have := sign_any q S l w R
  rw [h] at this
  exact this
theorem sign_none {q : Nat} {S : ByteArray} {l : List Nat} {w : World} (h : sgn l = none) (R : Hid (Rd q S l w)) : Calls Tryd.prog 116 #[.pointer (some ⟨q, 0, none⟩)] w fun e w' => e = .panicked badChain ∧ Hid (Mv (fun k => k = q) w w') := by
  have := sign_any q S l w R
  rw [h] at this
  exact this

end Go.Proofs.YtkclkhfcmjhogaaDoor
