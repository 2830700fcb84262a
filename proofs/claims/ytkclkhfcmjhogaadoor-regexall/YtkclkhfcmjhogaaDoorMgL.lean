/- The reader: a byte, a mark, a digit. -/
import Derived.Test.YtkclkhfcmjhogaaDoorMgA4
import Derived.Lib.Bytealg
import Derived.BigQuiet
import Derived.RegionDies
import Derived.Deep.RegionWith
import Derived.Test.YtkclkhfcmjhogaaDoorMgA2
namespace Go.Proofs.YtkclkhfcmjhogaaDoor
open Go.RowKit
set_option linter.unusedVariables false

/-- The panic of a text that is no class. -/
def badChain : List PanicEntry := [{ v := .iface 29 (.int .i64 2), recovered := false }]
set_option maxHeartbeats 400000 in
theorem must_ok (w : World) : Calls Tryd.prog 111 #[.bool true] w fun e w' => e = .returned (.tuple #[]) ∧ w' = w := by
  go_enter Tryd.func111, Tryd.ntmps111
  go_wp2
  go_end0
  exact ⟨rfl, rfl⟩
set_option maxHeartbeats 400000 in
theorem must_bad (w : World) : Calls Tryd.prog 111 #[.bool false] w fun e w' => e = .panicked badChain ∧ w' = w := by
  go_enter Tryd.func111, Tryd.ntmps111
  go_wp2
  exact ⟨rfl, rfl, rfl⟩

theorem marks_at (c : Nat) (hc : c < 256) : decide (0 ≤ Lib.indexByte [92, 124, 42, 43, 63, 40, 41, 91, 93, 46, 94, 45] (c : Int).toNat.toUInt8) = mk c := by
  have h : ∀ c : Fin 256, decide (0 ≤ Lib.indexByte [92, 124, 42, 43, 63, 40, 41, 91, 93, 46, 94, 45] ((c.val : Int)).toNat.toUInt8) = mk c.val := by decide +kernel
  exact h ⟨c, hc⟩
theorem digits_at (c : Nat) (hc : c < 256) : Lib.indexByte [48, 49, 50, 51, 52, 53, 54, 55, 56, 57, 97, 98, 99, 100, 101, 102] (c : Int).toNat.toUInt8 = (match dig c with | none => -1 | some x => (x : Int)) := by
  have h : ∀ c : Fin 256, Lib.indexByte [48, 49, 50, 51, 52, 53, 54, 55, 56, 57, 97, 98, 99, 100, 101, 102] ((c.val : Int)).toNat.toUInt8 = (match dig c.val with | none => -1 | some x => (x : Int)) := by decide +kernel
  exact h ⟨c, hc⟩

set_option maxHeartbeats 400000 in
theorem isMark_any (c : Nat) (hc : c < 256) (w : World) : Calls Tryd.prog 93 #[.int .u8 c] w fun e w' => e = .returned (.bool (mk c)) ∧ w' = w := by
  have hm := marks_at c hc
  have hi := fun W => index_byte ⟨#[92, 124, 42, 43, 63, 40, 41, 91, 93, 46, 94, 45]⟩ (c : Int) W
  generalize hx : Lib.indexByte (⟨#[92, 124, 42, 43, 63, 40, 41, 91, 93, 46, 94, 45]⟩ : ByteArray).data.toList (c : Int).toNat.toUInt8 = x at hi
  have hm2 : decide (0 ≤ x) = mk c := by rw [← hx]; exact hm
  clear hm hx
  go_enter Tryd.func93, Tryd.ntmps93
  go_wp2_with (go_at_call 101; refine (hi _).mono ?_; rintro e w' ⟨rfl, rfl⟩)
  go_ret
  exact ⟨by simp, rfl⟩

set_option maxHeartbeats 400000 in
theorem isSeen_any (c : Nat) (hc : c < 256) (w : World) : Calls Tryd.prog 94 #[.int .u8 c] w fun e w' => e = .returned (.bool (seen c)) ∧ w' = w := by
  by_cases h1 : 33 ≤ c
  · by_cases h2 : c ≤ 126
    · have e : seen c = true := by unfold seen; simp [h1, h2]
      rw [e]
      go_enter Tryd.func94, Tryd.ntmps94
      go_wp2
      go_ret
      exact ⟨by simp; omega, rfl⟩
    · have e : seen c = false := by unfold seen; simp [h1, h2]
      rw [e]
      go_enter Tryd.func94, Tryd.ntmps94
      go_wp2
      go_ret
      exact ⟨by simp; omega, rfl⟩
  · have e : seen c = false := by unfold seen; simp [h1]
    rw [e]
    go_enter Tryd.func94, Tryd.ntmps94
    go_wp2
    go_ret
    exact ⟨by simp, rfl⟩

/-- A text's bytes. -/
def bs (S : ByteArray) : List Nat := S.data.toList.map UInt8.toNat
theorem bs_length (S : ByteArray) : (bs S).length = S.size := by unfold bs; rw [List.length_map]; rfl
theorem bs_lt (S : ByteArray) : ∀ c ∈ bs S, c < 256 := by
  intro c hc
  obtain ⟨x, _, rfl⟩ := List.mem_map.1 hc
  exact x.toNat_lt
theorem bs_inj {S T : ByteArray} (h : bs S = bs T) : S = T := by
  have h2 : S.data.toList = T.data.toList := by
    have e : ∀ l : List UInt8, (l.map UInt8.toNat).map (fun n => UInt8.ofNat n) = l := by
      intro l; rw [List.map_map]; exact List.map_id'' (fun x => by simp) l
    have := congrArg (List.map (fun n => UInt8.ofNat n)) h
    unfold bs at this
    rwa [e, e] at this
  cases S; cases T; simp only [ByteArray.mk.injEq]
  exact Array.toList_inj.1 h2
theorem bs_append (S T : ByteArray) : bs (S ++ T) = bs S ++ bs T := by
  unfold bs
  rw [← List.map_append]
  congr 1
theorem index_run (S : ByteArray) (pre t : List Nat) (c : Nat) (h : bs S = pre ++ c :: t) (w : World) : (Instr.index 9 (.string S) (.int .i64 ((pre.length : Nat) : Int))).run Tryd.prog w = .ok (.int .u8 (c : Int)) w := by
  have hl : pre.length < S.size := by rw [← bs_length, h]; simp
  have hi : 0 ≤ ((pre.length : Nat) : Int) ∧ ((pre.length : Nat) : Int) < (S.size : Int) := by omega
  rw [run_index_string w 9 S .i64 _ Tryd.underlying9]
  rw [dif_pos hi]
  congr 3
  have h2 : (bs S)[pre.length]? = some c := by rw [h]; simp
  unfold bs at h2
  rw [List.getElem?_map, Option.map_eq_some_iff] at h2
  obtain ⟨x, hx, rfl⟩ := h2
  congr 1
  rw [Array.getElem?_toList] at hx
  obtain ⟨hlt, hx⟩ := Array.getElem?_eq_some_iff.1 hx
  rw [← hx]
  rfl

/-- A reader: its text, and what is not read yet. -/
structure Rd (q : Nat) (S : ByteArray) (l : List Nat) (w : World) : Prop where
  text : w.cell? ⟨q, 0, none⟩ = some (.string S)
  at_ : w.cell? ⟨q, 1, none⟩ = some (.int .i64 ((S.size - l.length : Nat) : Int))
  fz : w.frozen? ⟨q, 1, none⟩ = false
  lt : q < w.heap.size
  suf : ∃ pre, bs S = pre ++ l
  small : S.size < 1000000
theorem Rd.mv {q : Nat} {S : ByteArray} {l : List Nat} {w w' : World} {X : Nat → Prop} (h : Rd q S l w) (k : Mv X w w') (hx : ¬ X q) : Rd q S l w' :=
  ⟨k.cell (p := ⟨q, 0, none⟩) h.text hx, k.cell (p := ⟨q, 1, none⟩) h.at_ hx, by rw [k.frozen (p := ⟨q, 1, none⟩) h.lt hx]; exact h.fz, Nat.lt_of_lt_of_le h.lt k.size, h.suf, h.small⟩
theorem Rd.split {q : Nat} {S : ByteArray} {c : Nat} {l : List Nat} {w : World} (h : Rd q S (c :: l) w) : ∃ k : Nat, k + 1 + l.length = S.size ∧ w.cell? ⟨q, 1, none⟩ = some (.int .i64 (k : Int)) ∧ (∀ w, (Instr.index 9 (.string S) (.int .i64 (k : Int))).run Tryd.prog w = .ok (.int .u8 (c : Int)) w) ∧ c < 256 ∧ Rd q S l (w.setCell ⟨q, 1, none⟩ (.int .i64 ((k : Int) + 1))) := by
  obtain ⟨pre, hp⟩ := h.suf
  have hl : pre.length + 1 + l.length = S.size := by rw [← bs_length, hp]; simp; omega
  have e : S.size - (c :: l).length = pre.length := by simp; omega
  have ha := h.at_
  rw [e] at ha
  refine ⟨pre.length, hl, ha, fun W => index_run S pre l c hp W, bs_lt S c (by rw [hp]; simp), ?_⟩
  refine ⟨?_, ?_, ?_, ?_, ⟨pre ++ [c], by rw [hp]; simp⟩, h.small⟩
  · rw [World.cell?_setCell_other w _ _ _ (by simp)]; exact h.text
  · rw [World.cell?_setCell_same w _ _ ha]
    congr 2
    omega
  · rw [World.frozen?_setCell]; exact h.fz
  · exact Nat.lt_of_lt_of_le h.lt (Mv.setCell w _ _).size
theorem Rd.nil {q : Nat} {S : ByteArray} {w : World} (h : Rd q S [] w) : w.cell? ⟨q, 1, none⟩ = some (.int .i64 (S.size : Int)) := by
  have := h.at_
  simpa using this
/-- A reader behind a call. -/
structure Go1 (q : Nat) (S : ByteArray) (l : List Nat) (w w' : World) : Prop where
  rd : Rd q S l w'
  mv : Mv (fun k => k = q) w w'

set_option maxHeartbeats 1000000 in
theorem take_ok (q : Nat) (S : ByteArray) (c : Nat) (l : List Nat) (w : World) (R : Rd q S (c :: l) w) :
    Calls Tryd.prog 120 #[.pointer (some ⟨q, 0, none⟩)] w fun e w' => e = .returned (.int .u8 (c : Int)) ∧ Hid (Go1 q S l w w') := by
  obtain ⟨k, hk, ha, hix, hc, hR⟩ := R.split
  have ht := R.text
  have hf := R.fz
  have hs := R.small
  have H0 : Hid (Rd q S (c :: l) w) := R
  have hlt : decide (k < S.size) = true := by simp; omega
  clear R hR
  go_enter Tryd.func120, Tryd.ntmps120
  go_wp2_with fail
  go_quiet ((first | (go_at_call 111; exact Calls.quiet_of_same (must_ok _))))
  have R2 : Rd q S (c :: l) (w.drewN nq) := H0.out.mv (Mv.drewN (fun _ => False) w nq) (fun h => h)
  have M2 : Hid (Mv (fun j => j = q) w (w.drewN nq)) := Mv.drewN _ w nq
  clear ht ha hf
  obtain ⟨W, hW⟩ : ∃ W, W = w.drewN nq := ⟨_, rfl⟩
  rw [← hW] at R2 M2
  rw [← hW]
  clear hW
  obtain ⟨k2, hk2, ha, _, _, hR⟩ := R2.split
  obtain rfl : k2 = k := by omega
  have ht := R2.text
  have hf := R2.fz
  have HR : Hid _ := hR
  clear R2 hR hk2
  go_wp2_with fail
  go_quiet (fail)
  go_wp2_with fail
  go_ret
  exact ⟨rfl, HR.out.mv (X := fun _ => False) ⟨rfl, rfl, rfl, Nat.le_refl _, fun _ _ _ => rfl⟩ (fun h => h), (M2.out.trans (Mv.drewN (fun _ => False) W _) (fun _ _ h => h.elim)).trans (Mv.setCell _ _ _) (fun _ _ h => h)⟩

set_option maxHeartbeats 1000000 in
theorem take_bad (q : Nat) (S : ByteArray) (w : World) (R : Rd q S [] w) :
    Calls Tryd.prog 120 #[.pointer (some ⟨q, 0, none⟩)] w fun e w' => e = .panicked badChain ∧ Hid (Mv (fun k => k = q) w w') := by
  have ha := R.nil
  have ht := R.text
  have hs := R.small
  have hlt : decide (S.size < S.size) = false := by simp
  have hlt2 : decide ((S.size : Int) < (S.size : Int)) = false := by simp
  clear R
  go_enter Tryd.func120, Tryd.ntmps120
  go_wp2_with fail
  go_region_dies
  all_goals
    refine (must_bad _).mono ?_
    rintro e w' ⟨rfl, rfl⟩
    exact ⟨rfl, rfl, Mv.drewN _ w 1⟩

/-- skip: the next byte is b. -/
def skp (b : Nat) : List Nat → Bool × List Nat
  | [] => (false, [])
  | c :: l => if c = b then (true, l) else (false, c :: l)

set_option maxHeartbeats 1000000 in
theorem skip_yes (q : Nat) (S : ByteArray) (c : Nat) (l : List Nat) (w : World) (R : Rd q S (c :: l) w) :
    Calls Tryd.prog 114 #[.pointer (some ⟨q, 0, none⟩), .int .u8 (c : Int)] w fun e w' => e = .returned (.bool true) ∧ Hid (Go1 q S l w w') := by
  obtain ⟨k, hk, ha, hix, hc, hR⟩ := R.split
  have ht := R.text
  have hf := R.fz
  have hs := R.small
  have H0 : Hid (Rd q S (c :: l) w) := R
  have hlt : decide (k < S.size) = true := by simp; omega
  clear R hR
  go_enter Tryd.func114, Tryd.ntmps114
  go_wp2_with fail
  go_quiet (fail)
  have R2 : Rd q S (c :: l) (w.drewN nq) := H0.out.mv (Mv.drewN (fun _ => False) w nq) (fun h => h)
  have M2 : Hid (Mv (fun j => j = q) w (w.drewN nq)) := Mv.drewN _ w nq
  clear ht ha hf
  obtain ⟨W, hW⟩ : ∃ W, W = w.drewN nq := ⟨_, rfl⟩
  rw [← hW] at R2 M2
  rw [← hW]
  clear hW
  obtain ⟨k2, hk2, ha, _, _, hR⟩ := R2.split
  obtain rfl : k2 = k := by omega
  have ht := R2.text
  have hf := R2.fz
  have HR : Hid _ := hR
  clear R2 hR hk2
  go_wp2_with fail
  go_ret
  exact ⟨rfl, HR.out, M2.out.trans (Mv.setCell _ _ _) (fun _ _ h => h)⟩
set_option maxHeartbeats 1000000 in
theorem skip_no (q : Nat) (S : ByteArray) (b c : Nat) (l : List Nat) (w : World) (hb : c ≠ b) (R : Rd q S (c :: l) w) :
    Calls Tryd.prog 114 #[.pointer (some ⟨q, 0, none⟩), .int .u8 (b : Int)] w fun e w' => e = .returned (.bool false) ∧ Hid (Go1 q S (c :: l) w w') := by
  obtain ⟨k, hk, ha, hix, hc, hR⟩ := R.split
  have ht := R.text
  have hf := R.fz
  have hs := R.small
  have H0 : Hid (Rd q S (c :: l) w) := R
  have hlt : decide (k < S.size) = true := by simp; omega
  have hne : ((c : Int) == (b : Int)) = false := by simp; omega
  have hne2 : (c == b) = false := by simp; omega
  clear R hR
  go_enter Tryd.func114, Tryd.ntmps114
  go_wp2_with fail
  go_quiet (fail)
  go_wp2_with fail
  go_ret
  exact ⟨rfl, H0.out.mv (Mv.drewN (fun _ => False) w nq) (fun h => h), Mv.drewN _ w nq⟩
set_option maxHeartbeats 1000000 in
theorem skip_end (q : Nat) (S : ByteArray) (b : Nat) (w : World) (R : Rd q S [] w) :
    Calls Tryd.prog 114 #[.pointer (some ⟨q, 0, none⟩), .int .u8 (b : Int)] w fun e w' => e = .returned (.bool false) ∧ Hid (Go1 q S [] w w') := by
  have ha := R.nil
  have ht := R.text
  have hs := R.small
  have H0 : Hid (Rd q S [] w) := R
  have hlt : decide (S.size < S.size) = false := by simp
  clear R
  go_enter Tryd.func114, Tryd.ntmps114
  go_wp2_with fail
  go_quiet (fail)
  go_wp2_with fail
  go_ret
  exact ⟨rfl, H0.out.mv (Mv.drewN (fun _ => False) w nq) (fun h => h), Mv.drewN _ w nq⟩
theorem skip_any (q : Nat) (S : ByteArray) (b : Nat) (l : List Nat) (w : World) (R : Hid (Rd q S l w)) :
    Calls Tryd.prog 114 #[.pointer (some ⟨q, 0, none⟩), .int .u8 (b : Int)] w fun e w' => e = .returned (.bool (skp b l).1) ∧ Hid (Go1 q S (skp b l).2 w w') := by
  cases l with
  | nil => exact skip_end q S b w R.out
  | cons c l =>
    by_cases h : c = b
    · subst h
      have e : skp c (c :: l) = (true, l) := by simp [skp]
      rw [e]
      exact skip_yes q S c l w R.out
    · have e : skp b (c :: l) = (false, c :: l) := by simp [skp, h]
      rw [e]
      exact skip_no q S b c l w h R.out

end Go.Proofs.YtkclkhfcmjhogaaDoor

namespace Go.Proofs.YtkclkhfcmjhogaaDoor
open Go.RowKit
set_option linter.unusedVariables false

theorem Go1.comp {q : Nat} {S : ByteArray} {l : List Nat} {a b c : World} (h : Hid (Mv (fun k => k = q) a b)) (k : Hid (Go1 q S l b c)) : Go1 q S l a c := ⟨k.out.rd, h.out.trans k.out.mv (fun _ _ h => h)⟩
theorem bad2 {q : Nat} {a b c : World} (h : Hid (Mv (fun k => k = q) a b)) (k : Hid (Mv (fun k => k = q) b c)) : Hid (Mv (fun k => k = q) a c) := h.out.trans k.out (fun _ _ h => h)
theorem gm {q : Nat} {S : ByteArray} {l : List Nat} {a b : World} (h : Hid (Go1 q S l a b)) : Hid (Mv (fun k => k = q) a b) := h.out.mv

theorem conv_digit (x : Nat) (hx : x < 16) : IntKind.u8.wrap (x : Int) = (x : Int) := by
  have h : ∀ x : Fin 16, IntKind.u8.wrap ((x.val : Nat) : Int) = ((x.val : Nat) : Int) := by decide
  exact h ⟨x, hx⟩

set_option maxHeartbeats 1000000 in
theorem digit_ok (q : Nat) (S : ByteArray) (c x : Nat) (l : List Nat) (w : World) (hx : dig c = some x) (R : Hid (Rd q S (c :: l) w)) :
    Calls Tryd.prog 121 #[.pointer (some ⟨q, 0, none⟩)] w fun e w' => e = .returned (.int .u8 (x : Int)) ∧ Hid (Go1 q S l w w') := by
  obtain ⟨_, _, _, _, hc, _⟩ := R.out.split
  have hd := digits_at c hc
  rw [hx] at hd
  simp only at hd
  have hx16 := dig_lt hx
  have hi := fun W => index_byte ⟨#[48, 49, 50, 51, 52, 53, 54, 55, 56, 57, 97, 98, 99, 100, 101, 102]⟩ (c : Int) W
  rw [show Lib.indexByte (⟨#[48, 49, 50, 51, 52, 53, 54, 55, 56, 57, 97, 98, 99, 100, 101, 102]⟩ : ByteArray).data.toList (c : Int).toNat.toUInt8 = (x : Int) from hd] at hi
  have hw := conv_digit x hx16
  have HX : Hid _ := hx
  clear hd hx
  go_enter Tryd.func121, Tryd.ntmps121
  go_wp2_with fail
  refine (take_ok q S c l _ R.out).mono ?_
  rintro e w1 ⟨rfl, g1⟩
  go_wp2_with fail
  refine (hi _).mono ?_
  rintro e w2 ⟨rfl, rfl⟩
  go_wp2_with (go_at_call 111; refine (must_ok _).mono ?_; rintro e w3 ⟨rfl, rfl⟩)
  go_ret
  exact ⟨rfl, g1⟩
set_option maxHeartbeats 1000000 in
theorem digit_bad (q : Nat) (S : ByteArray) (c : Nat) (l : List Nat) (w : World) (hx : dig c = none) (R : Hid (Rd q S (c :: l) w)) :
    Calls Tryd.prog 121 #[.pointer (some ⟨q, 0, none⟩)] w fun e w' => e = .panicked badChain ∧ Hid (Mv (fun k => k = q) w w') := by
  obtain ⟨_, _, _, _, hc, _⟩ := R.out.split
  have hd := digits_at c hc
  rw [hx] at hd
  simp only at hd
  have hi := fun W => index_byte ⟨#[48, 49, 50, 51, 52, 53, 54, 55, 56, 57, 97, 98, 99, 100, 101, 102]⟩ (c : Int) W
  rw [show Lib.indexByte (⟨#[48, 49, 50, 51, 52, 53, 54, 55, 56, 57, 97, 98, 99, 100, 101, 102]⟩ : ByteArray).data.toList (c : Int).toNat.toUInt8 = (-1 : Int) from hd] at hi
  have HX : Hid _ := hx
  clear hd hx
  go_enter Tryd.func121, Tryd.ntmps121
  go_wp2_with fail
  refine (take_ok q S c l _ R.out).mono ?_
  rintro e w1 ⟨rfl, g1⟩
  go_wp2_with fail
  refine (hi _).mono ?_
  rintro e w2 ⟨rfl, rfl⟩
  go_wp2_with (go_at_call 111; refine (must_bad _).mono ?_; rintro e w3 ⟨rfl, rfl⟩)
  exact ⟨rfl, rfl, gm g1⟩
set_option maxHeartbeats 1000000 in
theorem digit_end (q : Nat) (S : ByteArray) (w : World) (R : Hid (Rd q S [] w)) :
    Calls Tryd.prog 121 #[.pointer (some ⟨q, 0, none⟩)] w fun e w' => e = .panicked badChain ∧ Hid (Mv (fun k => k = q) w w') := by
  go_enter Tryd.func121, Tryd.ntmps121
  go_wp2_with fail
  refine (take_bad q S _ R.out).mono ?_
  rintro e w1 ⟨rfl, g1⟩
  exact ⟨rfl, rfl, g1⟩

/-- The bytes of a sign. -/
theorem or_digits (x y : Nat) (hx : x < 16) (hy : y < 16) : bits .or .u8 ((x : Int) * 16) (y : Int) = ((16 * x + y : Nat) : Int) := by
  have h : ∀ x : Fin 16, ∀ y : Fin 16, bits .or .u8 ((x.val : Int) * 16) (y.val : Int) = ((16 * x.val + y.val : Nat) : Int) := by decide +kernel
  exact h ⟨x, hx⟩ ⟨y, hy⟩

set_option maxHeartbeats 1000000 in
theorem sign_hex (q : Nat) (S : ByteArray) (a b x y : Nat) (l : List Nat) (w : World) (hx : dig a = some x) (hy : dig b = some y) (R : Hid (Rd q S (92 :: 120 :: a :: b :: l) w)) :
    Calls Tryd.prog 116 #[.pointer (some ⟨q, 0, none⟩)] w fun e w' => e = .returned (.int .u8 ((16 * x + y : Nat) : Int)) ∧ Hid (Go1 q S l w w') := by
  have hx16 := dig_lt hx
  have hy16 := dig_lt hy
  have ho := or_digits x y hx16 hy16
  have HX : Hid _ := hx
  have HY : Hid _ := hy
  clear hx hy
  go_enter Tryd.func116, Tryd.ntmps116
  go_wp2_with fail
  refine (take_ok q S 92 _ _ R.out).mono ?_
  rintro e w1 ⟨rfl, g1⟩
  go_wp2_with fail
  refine (skip_yes q S 120 _ _ g1.out.rd).mono ?_
  rintro e w2 ⟨rfl, g2⟩
  go_wp2_with fail
  refine (digit_ok q S a x _ _ HX.out g2.out.rd).mono ?_
  rintro e w3 ⟨rfl, g3⟩
  go_wp2_with fail
  refine (digit_ok q S b y _ _ HY.out g3.out.rd).mono ?_
  rintro e w4 ⟨rfl, g4⟩
  go_wp2_with fail
  go_ret
  exact ⟨by simp, Go1.comp (bad2 (bad2 (gm g1) (gm g2)) (gm g3)) g4⟩
set_option maxHeartbeats 1000000 in
theorem sign_hex1 (q : Nat) (S : ByteArray)  (w : World)  (R : Hid (Rd q S (92 :: 120 :: []) w)) :
    Calls Tryd.prog 116 #[.pointer (some ⟨q, 0, none⟩)] w fun e w' => e = .panicked badChain ∧ Hid (Mv (fun k => k = q) w w') := by
  go_enter Tryd.func116, Tryd.ntmps116
  go_wp2_with fail
  refine (take_ok q S 92 _ _ R.out).mono ?_
  rintro e w1 ⟨rfl, g1⟩
  go_wp2_with fail
  refine (skip_yes q S 120 _ _ g1.out.rd).mono ?_
  rintro e w2 ⟨rfl, g2⟩
  go_wp2_with fail
  refine (digit_end q S _ g2.out.rd).mono ?_
  rintro e w3 ⟨rfl, g3⟩
  exact ⟨rfl, rfl, bad2 (bad2 (gm g1) (gm g2)) g3⟩
set_option maxHeartbeats 1000000 in
theorem sign_hex2 (q : Nat) (S : ByteArray) (a : Nat) (l : List Nat) (w : World) (hx : dig a = none) (R : Hid (Rd q S (92 :: 120 :: a :: l) w)) :
    Calls Tryd.prog 116 #[.pointer (some ⟨q, 0, none⟩)] w fun e w' => e = .panicked badChain ∧ Hid (Mv (fun k => k = q) w w') := by
  have HX : Hid _ := hx
  clear hx
  go_enter Tryd.func116, Tryd.ntmps116
  go_wp2_with fail
  refine (take_ok q S 92 _ _ R.out).mono ?_
  rintro e w1 ⟨rfl, g1⟩
  go_wp2_with fail
  refine (skip_yes q S 120 _ _ g1.out.rd).mono ?_
  rintro e w2 ⟨rfl, g2⟩
  go_wp2_with fail
  refine (digit_bad q S a _ _ HX.out g2.out.rd).mono ?_
  rintro e w3 ⟨rfl, g3⟩
  exact ⟨rfl, rfl, bad2 (bad2 (gm g1) (gm g2)) g3⟩
set_option maxHeartbeats 1000000 in
theorem sign_hex3 (q : Nat) (S : ByteArray) (a x : Nat) (w : World) (hx : dig a = some x) (R : Hid (Rd q S (92 :: 120 :: a :: []) w)) :
    Calls Tryd.prog 116 #[.pointer (some ⟨q, 0, none⟩)] w fun e w' => e = .panicked badChain ∧ Hid (Mv (fun k => k = q) w w') := by
  have hx16 := dig_lt hx
  have HX : Hid _ := hx
  clear hx
  go_enter Tryd.func116, Tryd.ntmps116
  go_wp2_with fail
  refine (take_ok q S 92 _ _ R.out).mono ?_
  rintro e w1 ⟨rfl, g1⟩
  go_wp2_with fail
  refine (skip_yes q S 120 _ _ g1.out.rd).mono ?_
  rintro e w2 ⟨rfl, g2⟩
  go_wp2_with fail
  refine (digit_ok q S a x _ _ HX.out g2.out.rd).mono ?_
  rintro e w3 ⟨rfl, g3⟩
  go_wp2_with fail
  refine (digit_end q S _ g3.out.rd).mono ?_
  rintro e w4 ⟨rfl, g4⟩
  exact ⟨rfl, rfl, bad2 (bad2 (bad2 (gm g1) (gm g2)) (gm g3)) g4⟩
set_option maxHeartbeats 1000000 in
theorem sign_hex4 (q : Nat) (S : ByteArray) (a b x : Nat) (l : List Nat) (w : World) (hx : dig a = some x) (hy : dig b = none) (R : Hid (Rd q S (92 :: 120 :: a :: b :: l) w)) :
    Calls Tryd.prog 116 #[.pointer (some ⟨q, 0, none⟩)] w fun e w' => e = .panicked badChain ∧ Hid (Mv (fun k => k = q) w w') := by
  have hx16 := dig_lt hx
  have HX : Hid _ := hx
  clear hx
  have HY : Hid _ := hy
  clear hy
  go_enter Tryd.func116, Tryd.ntmps116
  go_wp2_with fail
  refine (take_ok q S 92 _ _ R.out).mono ?_
  rintro e w1 ⟨rfl, g1⟩
  go_wp2_with fail
  refine (skip_yes q S 120 _ _ g1.out.rd).mono ?_
  rintro e w2 ⟨rfl, g2⟩
  go_wp2_with fail
  refine (digit_ok q S a x _ _ HX.out g2.out.rd).mono ?_
  rintro e w3 ⟨rfl, g3⟩
  go_wp2_with fail
  refine (digit_bad q S b _ _ HY.out g3.out.rd).mono ?_
  rintro e w4 ⟨rfl, g4⟩
  exact ⟨rfl, rfl, bad2 (bad2 (bad2 (gm g1) (gm g2)) (gm g3)) g4⟩
set_option maxHeartbeats 1000000 in
theorem sign_end (q : Nat) (S : ByteArray)  (w : World)  (R : Hid (Rd q S ([]) w)) :
    Calls Tryd.prog 116 #[.pointer (some ⟨q, 0, none⟩)] w fun e w' => e = .panicked badChain ∧ Hid (Mv (fun k => k = q) w w') := by
  go_enter Tryd.func116, Tryd.ntmps116
  go_wp2_with fail
  refine (take_bad q S _ R.out).mono ?_
  rintro e w1 ⟨rfl, g1⟩
  exact ⟨rfl, rfl, g1⟩
set_option maxHeartbeats 1000000 in
theorem sign_esc0 (q : Nat) (S : ByteArray)  (w : World)  (R : Hid (Rd q S (92 :: []) w)) :
    Calls Tryd.prog 116 #[.pointer (some ⟨q, 0, none⟩)] w fun e w' => e = .panicked badChain ∧ Hid (Mv (fun k => k = q) w w') := by
  go_enter Tryd.func116, Tryd.ntmps116
  go_wp2_with fail
  refine (take_ok q S 92 _ _ R.out).mono ?_
  rintro e w1 ⟨rfl, g1⟩
  go_wp2_with fail
  refine (skip_end q S 120 _ g1.out.rd).mono ?_
  rintro e w2 ⟨rfl, g2⟩
  go_wp2_with fail
  refine (take_bad q S _ g2.out.rd).mono ?_
  rintro e w3 ⟨rfl, g3⟩
  exact ⟨rfl, rfl, bad2 (bad2 (gm g1) (gm g2)) g3⟩
set_option maxHeartbeats 1000000 in
theorem sign_mark (q : Nat) (S : ByteArray) (c : Nat) (l : List Nat) (w : World) (hx : c ≠ 120) (hm : mk c = true) (R : Hid (Rd q S (92 :: c :: l) w)) :
    Calls Tryd.prog 116 #[.pointer (some ⟨q, 0, none⟩)] w fun e w' => e = .returned (.int .u8 (c : Int)) ∧ Hid (Go1 q S l w w') := by
  obtain ⟨k, _, _, _, _, hR2⟩ := R.out.split
  obtain ⟨_, _, _, _, hc, _⟩ := hR2.split
  clear hR2
  have hm2 := fun W => isMark_any c hc W
  rw [hm] at hm2
  clear hm
  go_enter Tryd.func116, Tryd.ntmps116
  go_wp2_with fail
  refine (take_ok q S 92 _ _ R.out).mono ?_
  rintro e w1 ⟨rfl, g1⟩
  go_wp2_with fail
  refine (skip_no q S 120 c _ _ hx g1.out.rd).mono ?_
  rintro e w2 ⟨rfl, g2⟩
  go_wp2_with fail
  refine (take_ok q S c _ _ g2.out.rd).mono ?_
  rintro e w3 ⟨rfl, g3⟩
  go_wp2_with fail
  refine (hm2 _).mono ?_
  rintro e w4 ⟨rfl, rfl⟩
  go_wp2_with fail
  refine (must_ok _).mono ?_
  rintro e w5 ⟨rfl, rfl⟩
  go_wp2_with fail
  go_ret
  exact ⟨rfl, Go1.comp (bad2 (gm g1) (gm g2)) g3⟩
set_option maxHeartbeats 1000000 in
theorem sign_mark0 (q : Nat) (S : ByteArray) (c : Nat) (l : List Nat) (w : World) (hx : c ≠ 120) (hm : mk c = false) (R : Hid (Rd q S (92 :: c :: l) w)) :
    Calls Tryd.prog 116 #[.pointer (some ⟨q, 0, none⟩)] w fun e w' => e = .panicked badChain ∧ Hid (Mv (fun k => k = q) w w') := by
  obtain ⟨k, _, _, _, _, hR2⟩ := R.out.split
  obtain ⟨_, _, _, _, hc, _⟩ := hR2.split
  clear hR2
  have hm2 := fun W => isMark_any c hc W
  rw [hm] at hm2
  clear hm
  go_enter Tryd.func116, Tryd.ntmps116
  go_wp2_with fail
  refine (take_ok q S 92 _ _ R.out).mono ?_
  rintro e w1 ⟨rfl, g1⟩
  go_wp2_with fail
  refine (skip_no q S 120 c _ _ hx g1.out.rd).mono ?_
  rintro e w2 ⟨rfl, g2⟩
  go_wp2_with fail
  refine (take_ok q S c _ _ g2.out.rd).mono ?_
  rintro e w3 ⟨rfl, g3⟩
  go_wp2_with fail
  refine (hm2 _).mono ?_
  rintro e w4 ⟨rfl, rfl⟩
  go_wp2_with fail
  refine (must_bad _).mono ?_
  rintro e w5 ⟨rfl, rfl⟩
  exact ⟨rfl, rfl, bad2 (bad2 (gm g1) (gm g2)) (gm g3)⟩
set_option maxHeartbeats 1000000 in
theorem sign_plain (q : Nat) (S : ByteArray) (c : Nat) (l : List Nat) (w : World) (hx : c ≠ 92) (hs : seen c = true) (hm : mk c = false) (R : Hid (Rd q S (c :: l) w)) :
    Calls Tryd.prog 116 #[.pointer (some ⟨q, 0, none⟩)] w fun e w' => e = .returned (.int .u8 (c : Int)) ∧ Hid (Go1 q S l w w') := by
  obtain ⟨_, _, _, _, hc, _⟩ := R.out.split
  have hs2 := fun W => isSeen_any c hc W
  rw [hs] at hs2
  clear hs
  have hm2 := fun W => isMark_any c hc W
  rw [hm] at hm2
  clear hm
  have hx2 : ((c : Int) == 92) = false := by simp; omega
  go_enter Tryd.func116, Tryd.ntmps116
  go_wp2_with fail
  refine (take_ok q S c _ _ R.out).mono ?_
  rintro e w1 ⟨rfl, g1⟩
  go_wp2_with fail
  refine (hs2 _).mono ?_
  rintro e w2 ⟨rfl, rfl⟩
  go_wp2_with fail
  refine (hm2 _).mono ?_
  rintro e w3 ⟨rfl, rfl⟩
  go_wp2_with fail
  refine (must_ok _).mono ?_
  rintro e w4 ⟨rfl, rfl⟩
  go_wp2_with fail
  go_ret
  exact ⟨rfl, g1⟩
set_option maxHeartbeats 1000000 in
theorem sign_plain0 (q : Nat) (S : ByteArray) (c : Nat) (l : List Nat) (w : World) (hx : c ≠ 92) (hs : seen c = true) (hm : mk c = true) (R : Hid (Rd q S (c :: l) w)) :
    Calls Tryd.prog 116 #[.pointer (some ⟨q, 0, none⟩)] w fun e w' => e = .panicked badChain ∧ Hid (Mv (fun k => k = q) w w') := by
  obtain ⟨_, _, _, _, hc, _⟩ := R.out.split
  have hs2 := fun W => isSeen_any c hc W
  rw [hs] at hs2
  clear hs
  have hm2 := fun W => isMark_any c hc W
  rw [hm] at hm2
  clear hm
  have hx2 : ((c : Int) == 92) = false := by simp; omega
  go_enter Tryd.func116, Tryd.ntmps116
  go_wp2_with fail
  refine (take_ok q S c _ _ R.out).mono ?_
  rintro e w1 ⟨rfl, g1⟩
  go_wp2_with fail
  refine (hs2 _).mono ?_
  rintro e w2 ⟨rfl, rfl⟩
  go_wp2_with fail
  refine (hm2 _).mono ?_
  rintro e w3 ⟨rfl, rfl⟩
  go_wp2_with fail
  refine (must_bad _).mono ?_
  rintro e w4 ⟨rfl, rfl⟩
  exact ⟨rfl, rfl, gm g1⟩
set_option maxHeartbeats 1000000 in
theorem sign_plain1 (q : Nat) (S : ByteArray) (c : Nat) (l : List Nat) (w : World) (hx : c ≠ 92) (hs : seen c = false) (R : Hid (Rd q S (c :: l) w)) :
    Calls Tryd.prog 116 #[.pointer (some ⟨q, 0, none⟩)] w fun e w' => e = .panicked badChain ∧ Hid (Mv (fun k => k = q) w w') := by
  obtain ⟨_, _, _, _, hc, _⟩ := R.out.split
  have hs2 := fun W => isSeen_any c hc W
  rw [hs] at hs2
  clear hs
  have hx2 : ((c : Int) == 92) = false := by simp; omega
  go_enter Tryd.func116, Tryd.ntmps116
  go_wp2_with fail
  refine (take_ok q S c _ _ R.out).mono ?_
  rintro e w1 ⟨rfl, g1⟩
  go_wp2_with fail
  refine (hs2 _).mono ?_
  rintro e w2 ⟨rfl, rfl⟩
  go_wp2_with fail
  refine (must_bad _).mono ?_
  rintro e w3 ⟨rfl, rfl⟩
  exact ⟨rfl, rfl, gm g1⟩

/-- What sign tells. -/
def Sg (q : Nat) (S : ByteArray) (w : World) (o : Option (Nat × List Nat)) (e : Ending) (w' : World) : Prop :=
  match o with
  | none => e = .panicked badChain ∧ Hid (Mv (fun k => k = q) w w')
  | some (c, t) => e = .returned (.int .u8 (c : Int)) ∧ Hid (Go1 q S t w w')
theorem sign_any (q : Nat) (S : ByteArray) (l : List Nat) (w : World) (R : Hid (Rd q S l w)) : Calls Tryd.prog 116 #[.pointer (some ⟨q, 0, none⟩)] w fun e w' => Sg q S w (sgn l) e w' := by
  match l, R with
  | [], R => exact sign_end q S w R
  | c :: l, R =>
    by_cases h92 : c = 92
    · subst h92
      rw [sgn, if_pos rfl]
      match l, R with
      | [], R => exact sign_esc0 q S w R
      | c :: l, R =>
        by_cases h120 : c = 120
        · subst h120
          rw [esc, if_pos rfl]
          match l, R with
          | [], R => exact sign_hex1 q S w R
          | [a], R =>
            rw [hx]
            · cases ha : dig a with
              | none => exact sign_hex2 q S a [] w ha R
              | some x => exact sign_hex3 q S a x w ha R
            · intro a b l h; simp at h
          | a :: b :: l, R =>
            rw [hx]
            cases ha : dig a with
            | none => exact sign_hex2 q S a (b :: l) w ha R
            | some x =>
              cases hb : dig b with
              | none => exact sign_hex4 q S a b x l w ha hb R
              | some y => exact sign_hex q S a b x y l w ha hb R
        · rw [esc, if_neg h120]
          cases hm : mk c with
          | false => exact sign_mark0 q S c l w h120 hm R
          | true => exact sign_mark q S c l w h120 hm R
    · rw [sgn, if_neg h92]
      cases hs : seen c with
      | false => exact sign_plain1 q S c l w h92 hs R
      | true =>
        cases hm : mk c with
        | false => exact sign_plain q S c l w h92 hs hm R
        | true => exact sign_plain0 q S c l w h92 hs hm R
theorem sign_some {q : Nat} {S : ByteArray} {l t : List Nat} {c : Nat} {w : World} (h : sgn l = some (c, t)) (R : Hid (Rd q S l w)) : Calls Tryd.prog 116 #[.pointer (some ⟨q, 0, none⟩)] w fun e w' => e = .returned (.int .u8 (c : Int)) ∧ Hid (Go1 q S t w w') := by
  have := sign_any q S l w R
  rw [h] at this
  exact this
theorem sign_none {q : Nat} {S : ByteArray} {l : List Nat} {w : World} (h : sgn l = none) (R : Hid (Rd q S l w)) : Calls Tryd.prog 116 #[.pointer (some ⟨q, 0, none⟩)] w fun e w' => e = .panicked badChain ∧ Hid (Mv (fun k => k = q) w w') := by
  have := sign_any q S l w R
  rw [h] at this
  exact this

end Go.Proofs.YtkclkhfcmjhogaaDoor

namespace Go.Proofs.YtkclkhfcmjhogaaDoor
open Go.RowKit
set_option linter.unusedVariables false

/-- A new set's block. -/
def zeros : Obj := .cells #[.int .u64 0, .int .u64 0, .int .u64 0, .int .u64 0] 25
def Zr (g : Nat) (w : World) : Prop := w.heap[g]? = some (.cells #[.int .u64 0, .int .u64 0, .int .u64 0, .int .u64 0] 25 (0, 0))
theorem Zr.mv {g : Nat} {w w' : World} {X : Nat → Prop} (h : Hid (Zr g w)) (k : Mv X w w') (hx : ¬ X g) : Hid (Zr g w') := by
  have := (Array.getElem?_eq_some_iff.1 h.out).1
  show w'.heap[g]? = _
  rw [k.block g this hx]; exact h.out
theorem Zr.facts {g : Nat} {w : World} (h : Hid (Zr g w)) : w.cell? ⟨g, 0, none⟩ = some (.int .u64 0) ∧ w.cell? ⟨g, 1, none⟩ = some (.int .u64 0) ∧ w.cell? ⟨g, 2, none⟩ = some (.int .u64 0) ∧ w.cell? ⟨g, 3, none⟩ = some (.int .u64 0) ∧ w.frozen? ⟨g, 0, none⟩ = false ∧ w.frozen? ⟨g, 1, none⟩ = false ∧ w.frozen? ⟨g, 2, none⟩ = false ∧ w.frozen? ⟨g, 3, none⟩ = false := by
  have e : w.heap[g]? = some (.cells #[.int .u64 0, .int .u64 0, .int .u64 0, .int .u64 0] 25 (0, 0)) := h.out
  exact ⟨by simp [World.cell?, e], by simp [World.cell?, e], by simp [World.cell?, e], by simp [World.cell?, e], by simp [World.frozen?, e], by simp [World.frozen?, e], by simp [World.frozen?, e], by simp [World.frozen?, e]⟩
/-- A set stored. -/
abbrev put4 (w : World) (g : Nat) (v0 v1 v2 v3 : Value) : World := (((w.setCell ⟨g, 0, none⟩ v0).setCell ⟨g, 1, none⟩ v1).setCell ⟨g, 2, none⟩ v2).setCell ⟨g, 3, none⟩ v3
theorem put4_heap {w : World} {g : Nat} {c0 c1 c2 c3 : Value} (h : w.heap[g]? = some (.cells #[c0, c1, c2, c3] 25 (0, 0))) (v0 v1 v2 v3 : Value) : (put4 w g v0 v1 v2 v3).heap[g]? = some (.cells #[v0, v1, v2, v3] 25 (0, 0)) :=
  heap_set (heap_set (heap_set (heap_set h)))
theorem put4_mv (w : World) (g : Nat) (v0 v1 v2 v3 : Value) : Mv (fun k => k = g) w (put4 w g v0 v1 v2 v3) :=
  (((Mv.setCell w ⟨g, 0, none⟩ v0).trans (Mv.setCell _ ⟨g, 1, none⟩ v1) (fun _ _ h => h)).trans (Mv.setCell _ ⟨g, 2, none⟩ v2) (fun _ _ h => h)).trans (Mv.setCell _ ⟨g, 3, none⟩ v3) (fun _ _ h => h)
theorem Rd.al {q : Nat} {S : ByteArray} {l : List Nat} {w : World} (h : Hid (Rd q S l w)) (o : Obj) : Hid (Rd q S l (w.alloc o)) := h.out.mv (Mv.alloc (fun _ => False) w o) (fun h => h)
/-- A reader's call out of a function that has laid its result. -/
theorem up1 {q : Nat} {w w' : World} {o : Obj} (h : Hid (Mv (fun k => k = q) (w.alloc o) w')) : Hid (Mv (fun k => k = q) w w') := (Mv.alloc (fun k => k = q) w o).trans h.out (fun _ _ h => h)
theorem ends4 {q : Nat} {S : ByteArray} {l : List Nat} {w w1 w2 : World} {o : Obj} (hq : q < w.heap.size) (m : Hid (Mv (fun k => k = q) (w.alloc o) w1)) (g : Hid (Rd q S l w1)) (k : Hid (Qt w1 w2)) (v0 v1 v2 v3 : Value) : Go1 q S l w (put4 w2 w.heap.size v0 v1 v2 v3) := by
  refine ⟨(g.out.mv k.out (fun h => h)).mv (put4_mv w2 w.heap.size v0 v1 v2 v3) (by omega), ?_⟩
  refine Mv.trans (T := fun k => k = w.heap.size) ((up1 m).out.trans k.out (fun _ _ h => h.elim)) (put4_mv w2 w.heap.size v0 v1 v2 v3) (fun j hj e => by omega)

set_option maxHeartbeats 1000000 in
theorem part_n1 (q : Nat) (S : ByteArray) (l : List Nat) (w : World) (hs : sgn l = none) (R : Hid (Rd q S l w)) :
    Calls Tryd.prog 118 #[.pointer (some ⟨q, 0, none⟩)] w fun e w' => e = .panicked badChain ∧ Hid (Mv (fun k => k = q) w w') := by
  have HQ : Hid (q < w.heap.size) := R.out.lt
  have HS : Hid _ := hs
  clear hs
  go_enter Tryd.func118, Tryd.ntmps118
  go_wp2_with fail
  refine (sign_none HS.out (Rd.al R _)).mono ?_
  rintro e w1 ⟨rfl, g1⟩
  exact ⟨rfl, rfl, up1 g1⟩
set_option maxHeartbeats 1000000 in
theorem part_one (q : Nat) (S : ByteArray) (a : Nat) (l t : List Nat) (w : World) (hs : sgn l = some (a, t)) (ht : skp 45 t = (false, t)) (R : Hid (Rd q S l w)) :
    Calls Tryd.prog 118 #[.pointer (some ⟨q, 0, none⟩)] w fun e w' => e = .returned (sv (btw a a)) ∧ Hid (Go1 q S t w w') := by
  have HQ : Hid (q < w.heap.size) := R.out.lt
  have ha := (sgn_len hs).2
  have hk := fun W R => skip_any q S 45 t W R
  rw [ht] at hk
  clear ht
  have HS : Hid _ := hs
  clear hs
  go_enter Tryd.func118, Tryd.ntmps118
  go_wp2_with fail
  refine (sign_some HS.out (Rd.al R _)).mono ?_
  rintro e w1 ⟨rfl, g1⟩
  go_wp2_with fail
  refine (hk _ g1.out.rd).mono ?_
  rintro e w2 ⟨rfl, g2⟩
  go_wp2_with fail
  refine (must_ok _).mono ?_
  rintro e w2 ⟨rfl, rfl⟩
  go_wp2_with fail
  refine (set_any a a ha ha _).mono ?_
  rintro e w3 ⟨rfl, g3⟩
  rw [sv_cells]
  have M : Hid (Mv (fun k => k = q) (w.alloc zeros) w2) := bad2 (gm g1) (gm g2)
  have Z : Hid (Zr w.heap.size w3) := Zr.mv (Zr.mv (w := w.alloc zeros) (heap_alloc_new w zeros) M.out (fun h => Nat.ne_of_lt HQ.out h.symm)) g3.out (fun h => h)
  obtain ⟨k0, k1, k2, k3, l0, l1, l2, l3⟩ := Zr.facts Z
  go_wp2_with fail
  refine bodyPost_ret (results_cell_row (p := 2) (ty := 25) rfl _ _ w.heap.size 25 _ (0, 0) _ rfl (put4_heap Z.out _ _ _ _) Tryd.underlying25 rfl (by kernel_rfl)) rfl ?_
  exact ⟨rfl, ends4 HQ.out M g2.out.rd g3 _ _ _ _⟩
set_option maxHeartbeats 1000000 in
theorem part_n2 (q : Nat) (S : ByteArray) (a : Nat) (l t t2 : List Nat) (w : World) (hs : sgn l = some (a, t)) (ht : skp 45 t = (true, t2)) (hu : sgn t2 = none) (R : Hid (Rd q S l w)) :
    Calls Tryd.prog 118 #[.pointer (some ⟨q, 0, none⟩)] w fun e w' => e = .panicked badChain ∧ Hid (Mv (fun k => k = q) w w') := by
  have HQ : Hid (q < w.heap.size) := R.out.lt
  have ha := (sgn_len hs).2
  have hk := fun W R => skip_any q S 45 t W R
  rw [ht] at hk
  have HU : Hid _ := hu
  clear ht hu
  have HS : Hid _ := hs
  clear hs
  go_enter Tryd.func118, Tryd.ntmps118
  go_wp2_with fail
  refine (sign_some HS.out (Rd.al R _)).mono ?_
  rintro e w1 ⟨rfl, g1⟩
  go_wp2_with fail
  refine (hk _ g1.out.rd).mono ?_
  rintro e w2 ⟨rfl, g2⟩
  go_wp2_with fail
  refine (sign_none HU.out g2.out.rd).mono ?_
  rintro e w3 ⟨rfl, g3⟩
  exact ⟨rfl, rfl, up1 (bad2 (bad2 (gm g1) (gm g2)) g3)⟩
set_option maxHeartbeats 1000000 in
theorem part_n3 (q : Nat) (S : ByteArray) (a b : Nat) (l t t2 t3 : List Nat) (w : World) (hs : sgn l = some (a, t)) (ht : skp 45 t = (true, t2)) (hu : sgn t2 = some (b, t3)) (hab : ¬ a ≤ b) (R : Hid (Rd q S l w)) :
    Calls Tryd.prog 118 #[.pointer (some ⟨q, 0, none⟩)] w fun e w' => e = .panicked badChain ∧ Hid (Mv (fun k => k = q) w w') := by
  have HQ : Hid (q < w.heap.size) := R.out.lt
  have ha := (sgn_len hs).2
  have hb := (sgn_len hu).2
  have hk := fun W R => skip_any q S 45 t W R
  rw [ht] at hk
  have HU : Hid _ := hu
  clear ht hu
  have HS : Hid _ := hs
  clear hs
  go_enter Tryd.func118, Tryd.ntmps118
  go_wp2_with fail
  refine (sign_some HS.out (Rd.al R _)).mono ?_
  rintro e w1 ⟨rfl, g1⟩
  go_wp2_with fail
  refine (hk _ g1.out.rd).mono ?_
  rintro e w2 ⟨rfl, g2⟩
  go_wp2_with fail
  refine (sign_some HU.out g2.out.rd).mono ?_
  rintro e w3 ⟨rfl, g3⟩
  go_wp2_with fail
  refine (must_bad _).mono ?_
  rintro e w4 ⟨rfl, rfl⟩
  exact ⟨rfl, rfl, up1 (bad2 (bad2 (gm g1) (gm g2)) (gm g3))⟩
set_option maxHeartbeats 1000000 in
theorem part_two (q : Nat) (S : ByteArray) (a b : Nat) (l t t2 t3 : List Nat) (w : World) (hs : sgn l = some (a, t)) (ht : skp 45 t = (true, t2)) (hu : sgn t2 = some (b, t3)) (hab : a ≤ b) (R : Hid (Rd q S l w)) :
    Calls Tryd.prog 118 #[.pointer (some ⟨q, 0, none⟩)] w fun e w' => e = .returned (sv (btw a b)) ∧ Hid (Go1 q S t3 w w') := by
  have HQ : Hid (q < w.heap.size) := R.out.lt
  have ha := (sgn_len hs).2
  have hb := (sgn_len hu).2
  have hk := fun W R => skip_any q S 45 t W R
  rw [ht] at hk
  have HU : Hid _ := hu
  clear ht hu
  have HS : Hid _ := hs
  clear hs
  go_enter Tryd.func118, Tryd.ntmps118
  go_wp2_with fail
  refine (sign_some HS.out (Rd.al R _)).mono ?_
  rintro e w1 ⟨rfl, g1⟩
  go_wp2_with fail
  refine (hk _ g1.out.rd).mono ?_
  rintro e w2 ⟨rfl, g2⟩
  go_wp2_with fail
  refine (sign_some HU.out g2.out.rd).mono ?_
  rintro e w3 ⟨rfl, g3⟩
  go_wp2_with fail
  refine (must_ok _).mono ?_
  rintro e w3 ⟨rfl, rfl⟩
  go_wp2_with fail
  refine (set_any a b ha hb _).mono ?_
  rintro e w4 ⟨rfl, g4⟩
  rw [sv_cells]
  have M : Hid (Mv (fun k => k = q) (w.alloc zeros) w3) := bad2 (bad2 (gm g1) (gm g2)) (gm g3)
  have Z : Hid (Zr w.heap.size w4) := Zr.mv (Zr.mv (w := w.alloc zeros) (heap_alloc_new w zeros) M.out (fun h => Nat.ne_of_lt HQ.out h.symm)) g4.out (fun h => h)
  obtain ⟨k0, k1, k2, k3, l0, l1, l2, l3⟩ := Zr.facts Z
  go_wp2_with fail
  refine bodyPost_ret (results_cell_row (p := 2) (ty := 25) rfl _ _ w.heap.size 25 _ (0, 0) _ rfl (put4_heap Z.out _ _ _ _) Tryd.underlying25 rfl (by kernel_rfl)) rfl ?_
  exact ⟨rfl, ends4 HQ.out M g3.out.rd g4 _ _ _ _⟩

theorem part_some {q : Nat} {S : ByteArray} {l t : List Nat} {a b : Nat} {w : World} (h : prt l = some ((a, b), t)) (R : Hid (Rd q S l w)) : Calls Tryd.prog 118 #[.pointer (some ⟨q, 0, none⟩)] w fun e w' => e = .returned (sv (btw a b)) ∧ Hid (Go1 q S t w w') := by
  unfold prt at h
  split at h
  · cases h
  · rename_i a' t' hs
    match t', hs, h with
    | [], hs, h =>
      simp [prt2] at h
      obtain ⟨⟨rfl, rfl⟩, rfl⟩ := h
      exact part_one q S a' l [] w hs rfl R
    | c :: u, hs, h =>
      by_cases hc : c = 45
      · subst hc
        rw [prt2, if_pos rfl] at h
        split at h
        · cases h
        · rename_i b' t2 hu
          split at h
          · rename_i hab
            simp at h
            obtain ⟨⟨rfl, rfl⟩, rfl⟩ := h
            exact part_two q S a' b' l _ u t2 w hs (by simp [skp]) hu hab R
          · cases h
      · rw [prt2, if_neg hc] at h
        simp at h
        obtain ⟨⟨rfl, rfl⟩, rfl⟩ := h
        exact part_one q S a' l _ w hs (by simp [skp, hc]) R
theorem part_none {q : Nat} {S : ByteArray} {l : List Nat} {w : World} (h : prt l = none) (R : Hid (Rd q S l w)) : Calls Tryd.prog 118 #[.pointer (some ⟨q, 0, none⟩)] w fun e w' => e = .panicked badChain ∧ Hid (Mv (fun k => k = q) w w') := by
  unfold prt at h
  split at h
  · rename_i hs
    exact part_n1 q S l w hs R
  · rename_i a' t' hs
    match t', hs, h with
    | [], hs, h => simp [prt2] at h
    | c :: u, hs, h =>
      by_cases hc : c = 45
      · subst hc
        rw [prt2, if_pos rfl] at h
        split at h
        · rename_i hu
          exact part_n2 q S a' l _ u w hs (by simp [skp]) hu R
        · rename_i b' t2 hu
          split at h
          · cases h
          · rename_i hab
            exact part_n3 q S a' b' l _ u t2 w hs (by simp [skp]) hu hab R
      · rw [prt2, if_neg hc] at h
        cases h

end Go.Proofs.YtkclkhfcmjhogaaDoor

namespace Go.Proofs.YtkclkhfcmjhogaaDoor
open Go.RowKit
set_option linter.unusedVariables false

/-- What a part, brackets, a class tell. -/
def Cl (q : Nat) (S : ByteArray) (w : World) (o : Option ((Nat → Bool) × List Nat)) (e : Ending) (w' : World) : Prop :=
  match o with
  | none => e = .panicked badChain ∧ Hid (Mv (fun k => k = q) w w')
  | some (p, t) => e = .returned (sv p) ∧ Hid (Go1 q S t w w')

/-- A block that holds the set p. -/
def Bk (g : Nat) (p : Nat → Bool) (w : World) : Prop := w.heap[g]? = some (.cells #[.int .u64 (limb p 0), .int .u64 (limb p 1), .int .u64 (limb p 2), .int .u64 (limb p 3)] 25 (0, 0))
theorem Bk.lt {g : Nat} {p : Nat → Bool} {w : World} (h : Bk g p w) : g < w.heap.size := (Array.getElem?_eq_some_iff.1 h).1
theorem Bk.mv {g : Nat} {p : Nat → Bool} {w w' : World} {X : Nat → Prop} (h : Hid (Bk g p w)) (k : Mv X w w') (hx : ¬ X g) : Hid (Bk g p w') := by
  show w'.heap[g]? = _
  rw [k.block g h.out.lt hx]; exact h.out
theorem Bk.facts {g : Nat} {p : Nat → Bool} {w : World} (h : Hid (Bk g p w)) : w.cell? ⟨g, 0, none⟩ = some (.int .u64 (limb p 0)) ∧ w.cell? ⟨g, 1, none⟩ = some (.int .u64 (limb p 1)) ∧ w.cell? ⟨g, 2, none⟩ = some (.int .u64 (limb p 2)) ∧ w.cell? ⟨g, 3, none⟩ = some (.int .u64 (limb p 3)) ∧ w.frozen? ⟨g, 0, none⟩ = false ∧ w.frozen? ⟨g, 1, none⟩ = false ∧ w.frozen? ⟨g, 2, none⟩ = false ∧ w.frozen? ⟨g, 3, none⟩ = false := by
  have e : w.heap[g]? = some (.cells #[.int .u64 (limb p 0), .int .u64 (limb p 1), .int .u64 (limb p 2), .int .u64 (limb p 3)] 25 (0, 0)) := h.out
  exact ⟨by simp [World.cell?, e], by simp [World.cell?, e], by simp [World.cell?, e], by simp [World.cell?, e], by simp [World.frozen?, e], by simp [World.frozen?, e], by simp [World.frozen?, e], by simp [World.frozen?, e]⟩

/-- Brackets while they are read. -/
structure Br (w wr : World) (q g : Nat) (S : ByteArray) (p : Nat → Bool) (t : List Nat) : Prop where
  rd : Rd q S t wr
  bk : Bk g p wr
  zr : Zr w.heap.size wr
  mv : Mv (fun k => k = q) w wr
  hq : q < w.heap.size
  hg : w.heap.size < g
theorem Br.go {w wr w' : World} {q g : Nat} {S : ByteArray} {p : Nat → Bool} {t t' : List Nat} (b : Hid (Br w wr q g S p t)) (h : Hid (Go1 q S t' wr w')) : Hid (Br w w' q g S p t') :=
  ⟨h.out.rd, (Bk.mv b.out.bk h.out.mv (by have := b.out.hq; have := b.out.hg; omega)).out, (Zr.mv b.out.zr h.out.mv (by have := b.out.hq; omega)).out, b.out.mv.trans h.out.mv (fun _ _ h => h), b.out.hq, b.out.hg⟩
theorem Br.qt {w wr w' : World} {q g : Nat} {S : ByteArray} {p : Nat → Bool} {t : List Nat} (b : Hid (Br w wr q g S p t)) (h : Hid (Qt wr w')) : Hid (Br w w' q g S p t) :=
  ⟨b.out.rd.mv h.out (fun h => h), (Bk.mv b.out.bk h.out (fun h => h)).out, (Zr.mv b.out.zr h.out (fun h => h)).out, b.out.mv.trans h.out (fun _ _ h => h.elim), b.out.hq, b.out.hg⟩
theorem Br.put {w wr : World} {q g : Nat} {S : ByteArray} {p : Nat → Bool} {t : List Nat} (b : Hid (Br w wr q g S p t)) (p' : Nat → Bool) : Hid (Br w (put4 wr g (.int .u64 (limb p' 0)) (.int .u64 (limb p' 1)) (.int .u64 (limb p' 2)) (.int .u64 (limb p' 3))) q g S p' t) := by
  have hq := b.out.hq
  have hg := b.out.hg
  exact ⟨b.out.rd.mv (put4_mv wr g _ _ _ _) (by omega), put4_heap b.out.bk _ _ _ _, (Zr.mv b.out.zr (put4_mv wr g _ _ _ _) (by omega)).out, b.out.mv.trans (put4_mv wr g _ _ _ _) (fun j hj e => by omega), hq, hg⟩
theorem Br.end {w wr : World} {q g : Nat} {S : ByteArray} {p : Nat → Bool} {t : List Nat} (b : Hid (Br w wr q g S p t)) (v0 v1 v2 v3 : Value) : Hid (Go1 q S t w (put4 wr w.heap.size v0 v1 v2 v3)) := by
  have hq := b.out.hq
  exact ⟨b.out.rd.mv (put4_mv wr w.heap.size _ _ _ _) (by omega), b.out.mv.trans (put4_mv wr w.heap.size _ _ _ _) (fun j hj e => by omega)⟩

/-- How much is left to read. -/
def left (q : Nat) (S : ByteArray) (w : World) : Nat := match w.cell? ⟨q, 1, none⟩ with
  | some v => S.size - (intOf v).toNat
  | none => 0
theorem Rd.left {q : Nat} {S : ByteArray} {l : List Nat} {w : World} (h : Rd q S l w) : left q S w = l.length := by
  obtain ⟨pre, hp⟩ := h.suf
  have hl : pre.length + l.length = S.size := by rw [← bs_length, hp]; simp
  unfold Go.Proofs.YtkclkhfcmjhogaaDoor.left
  rw [h.at_]
  simp [intOf]; omega
theorem Br.facts {w wr : World} {q g : Nat} {S : ByteArray} {p : Nat → Bool} {t : List Nat} (b : Hid (Br w wr q g S p t)) : wr.cell? ⟨g, 0, none⟩ = some (.int .u64 (limb p 0)) ∧ wr.cell? ⟨g, 1, none⟩ = some (.int .u64 (limb p 1)) ∧ wr.cell? ⟨g, 2, none⟩ = some (.int .u64 (limb p 2)) ∧ wr.cell? ⟨g, 3, none⟩ = some (.int .u64 (limb p 3)) ∧ wr.frozen? ⟨g, 0, none⟩ = false ∧ wr.frozen? ⟨g, 1, none⟩ = false ∧ wr.frozen? ⟨g, 2, none⟩ = false ∧ wr.frozen? ⟨g, 3, none⟩ = false := Bk.facts b.out.bk

set_option maxHeartbeats 2000000 in
theorem brackets_loop (q : Nat) (S : ByteArray) (l t0 : List Nat) (ot : Bool) (w : World) (hs : skp 94 l = (ot, t0)) (R : Hid (Rd q S l w)) :
    Calls Tryd.prog 115 #[.pointer (some ⟨q, 0, none⟩)] w fun e w' => Cl q S w (match brk t0 with | none => none | some (p, t) => some (if ot then no p else p, t)) e w' := by
  have HQ : Hid (q < w.heap.size) := R.out.lt
  have hk := fun W R => skip_any q S 94 l W R
  rw [hs] at hk
  clear hs
  obtain ⟨o, ho⟩ : ∃ o, o = brk t0 := ⟨_, rfl⟩
  rw [← ho]
  have HO : Hid _ := ho
  clear ho
  cases hp : prt t0 with
  | none =>
    have HP : Hid _ := hp
    clear hp
    obtain rfl : o = none := by rw [HO.out, brk, HP.out]
    go_enter Tryd.func115, Tryd.ntmps115
    go_wp2_with fail
    refine (hk _ (Rd.al R _)).mono ?_
    rintro e w1 ⟨rfl, g1⟩
    go_wp2_with fail
    refine (part_none HP.out g1.out.rd).mono ?_
    rintro e w2 ⟨rfl, g2⟩
    exact ⟨rfl, rfl, up1 (bad2 (gm g1) g2)⟩
  | some r =>
    obtain ⟨⟨a, b⟩, t⟩ := r
    have HP : Hid _ := hp
    clear hp
    go_enter Tryd.func115, Tryd.ntmps115
    go_wp2_with fail
    refine (hk _ (Rd.al R _)).mono ?_
    rintro e w1 ⟨rfl, g1⟩
    go_wp2_with fail
    refine (part_some HP.out g1.out.rd).mono ?_
    rintro e w2 ⟨rfl, g2⟩
    rw [sv_cells]
    go_wp2_with fail
    have B0 : Hid (Br w (w2.alloc (.cells #[.int .u64 (limb (btw a b) 0), .int .u64 (limb (btw a b) 1), .int .u64 (limb (btw a b) 2), .int .u64 (limb (btw a b) 3)] 25)) q w2.heap.size S (btw a b) t) := by
      have M : Hid (Mv (fun k => k = q) (w.alloc zeros) w2) := bad2 (gm g1) (gm g2)
      have hq := HQ.out
      have hz : Hid (Zr w.heap.size w2) := Zr.mv (w := w.alloc zeros) (heap_alloc_new w zeros) M.out (by omega)
      refine ⟨(Rd.al g2.out.rd _).out, heap_alloc_new _ _, (Zr.mv hz (Mv.alloc (fun _ => False) w2 _) (fun h => h)).out, (up1 M).out.trans (Mv.alloc (fun _ => False) w2 _) (fun _ _ h => h.elim), hq, (Array.getElem?_eq_some_iff.1 hz.out).1⟩
    have F0 : Hid (o = prs (t.length + 1) (btw a b) t ∧ t.length < t.length + 1) := ⟨by rw [HO.out, brk, HP.out], by omega⟩
    generalize w2.alloc (.cells #[.int .u64 (limb (btw a b) 0), .int .u64 (limb (btw a b) 1), .int .u64 (limb (btw a b) 2), .int .u64 (limb (btw a b) 3)] 25) = W2 at *
    generalize w2.heap.size = g at *
    generalize t.length + 1 = f0 at *
    generalize btw a b = p0 at *
    clear g1 g2 hk R HO HP
    go_loopw [9] (fun u wr => ∃ (p : Nat → Bool) (t : List Nat) (f : Nat), Hid (Br w wr q g S p t) ∧ Hid (o = prs f p t ∧ t.length < f)) (fun u wr => left q S wr)
    case atStart => exact ⟨_, _, _, B0, F0⟩
    case round =>
      clear B0 F0
      obtain ⟨p, t, f, B, F⟩ := hrel
      match t, B, F with
      | [], B, F =>
        obtain rfl : o = none := by rw [F.out.1]; cases f <;> rfl
        go_wp2_with fail
        refine (skip_end q S 93 _ B.out.rd).mono ?_
        rintro e w1 ⟨rfl, g1⟩
        have B1 := Br.go B g1
        obtain ⟨k0, k1, k2, k3, l0, l1, l2, l3⟩ := Br.facts B1
        go_wp2_with fail
        go_region_dies
        all_goals
          refine (part_none (l := []) rfl (Br.qt B1 (Mv.drewN _ w1 1)).out.rd).mono ?_
          rintro e w2 ⟨rfl, g2⟩
          exact ⟨rfl, rfl, bad2 (Br.qt B1 (Mv.drewN _ w1 1)).out.mv g2⟩
      | c :: u, B, F =>
        by_cases hc : c = 93
        · subst hc
          obtain rfl : o = some (p, u) := by rw [F.out.1]; obtain ⟨f, rfl⟩ : ∃ g, f = g + 1 := ⟨f - 1, by have := F.out.2; simp at this; omega⟩; simp [prs]
          cases ot with
          | true =>
            go_wp2_with fail
            refine (skip_yes q S 93 u _ B.out.rd).mono ?_
            rintro e w1 ⟨rfl, g1⟩
            have B1 := Br.go B g1
            obtain ⟨k0, k1, k2, k3, l0, l1, l2, l3⟩ := Br.facts B1
            go_wp2_with fail
            refine (not_any p _).mono ?_
            rintro e w2 ⟨rfl, g2⟩
            rw [sv_cells]
            have B2 := Br.qt B1 g2
            clear k0 k1 k2 k3 l0 l1 l2 l3
            obtain ⟨k0, k1, k2, k3, l0, l1, l2, l3⟩ := Zr.facts B2.out.zr
            go_wp2_with fail
            refine bodyPost_ret (results_cell_row (p := 2) (ty := 25) rfl _ _ w.heap.size 25 _ (0, 0) _ rfl (put4_heap B2.out.zr _ _ _ _) Tryd.underlying25 rfl (by kernel_rfl)) rfl ?_
            exact ⟨rfl, Br.end B2 _ _ _ _⟩
          | false =>
            go_wp2_with fail
            refine (skip_yes q S 93 u _ B.out.rd).mono ?_
            rintro e w1 ⟨rfl, g1⟩
            have B1 := Br.go B g1
            obtain ⟨k0, k1, k2, k3, l0, l1, l2, l3⟩ := Br.facts B1
            obtain ⟨i0, i1, i2, i3, j0, j1, j2, j3⟩ := Zr.facts B1.out.zr
            go_wp2_with fail
            refine bodyPost_ret (results_cell_row (p := 2) (ty := 25) rfl _ _ w.heap.size 25 _ (0, 0) _ rfl (put4_heap B1.out.zr _ _ _ _) Tryd.underlying25 rfl (by kernel_rfl)) rfl ?_
            exact ⟨rfl, Br.end B1 _ _ _ _⟩
        · cases hp : prt (c :: u) with
          | none =>
            obtain rfl : o = none := by
              rw [F.out.1]
              obtain ⟨f, rfl⟩ : ∃ g, f = g + 1 := ⟨f - 1, by have := F.out.2; simp at this; omega⟩
              rw [prs, if_neg hc, hp]
            have HP : Hid _ := hp
            clear hp
            go_wp2_with fail
            refine (skip_no q S 93 c u _ hc B.out.rd).mono ?_
            rintro e w1 ⟨rfl, g1⟩
            have B1 := Br.go B g1
            obtain ⟨k0, k1, k2, k3, l0, l1, l2, l3⟩ := Br.facts B1
            go_wp2_with fail
            go_region_dies
            all_goals
              refine (part_none HP.out (Br.qt B1 (Mv.drewN _ w1 1)).out.rd).mono ?_
              rintro e w2 ⟨rfl, g2⟩
              exact ⟨rfl, rfl, bad2 (Br.qt B1 (Mv.drewN _ w1 1)).out.mv g2⟩
          | some r =>
            obtain ⟨⟨a2, b2⟩, t2⟩ := r
            have F2 : Hid (∃ f2, o = prs f2 (fun x => p x || btw a2 b2 x) t2 ∧ t2.length < f2) := by
              obtain ⟨f, rfl⟩ : ∃ g, f = g + 1 := ⟨f - 1, by have := F.out.2; simp at this; omega⟩
              refine ⟨f, ?_, ?_⟩
              · rw [F.out.1, prs, if_neg hc, hp]
              · have := (prt_len hp).1; have := F.out.2; simp at *; omega
            have HL : Hid (t2.length < (c :: u).length) := (prt_len hp).1
            have HP : Hid _ := hp
            clear hp
            go_wp2_with fail
            refine (skip_no q S 93 c u _ hc B.out.rd).mono ?_
            rintro e w1 ⟨rfl, g1⟩
            have B1 : Hid (Br w w1.drew q g S p (c :: u)) := Br.qt (Br.go B g1) (Mv.drewN _ w1 1)
            obtain ⟨k0, k1, k2, k3, l0, l1, l2, l3⟩ := Br.facts (Br.go B g1)
            go_wp2_with fail
            go_region_with ((first
              | (go_at_call 118; refine (part_some HP.out B1.out.rd).mono ?_; rintro e w2 ⟨rfl, g2⟩; have B2 := Br.go B1 g2; obtain ⟨m0, m1, m2, m3, n0, n1, n2, n3⟩ := Br.facts B2)
              | (go_at_call 119; refine (or_any p (btw a2 b2) _).mono ?_; rintro e w3 ⟨rfl, g3⟩; rw [sv_cells]; have B3 := Br.qt B2 g3; obtain ⟨x0, x1, x2, x3, y0, y1, y2, y3⟩ := Br.facts B3)))
            all_goals
              have B4 := Br.put B3 (fun x => p x || btw a2 b2 x)
              have HL2 : Hid (left q S (put4 w3 g (.int .u64 (limb (fun x => p x || btw a2 b2 x) 0)) (.int .u64 (limb (fun x => p x || btw a2 b2 x) 1)) (.int .u64 (limb (fun x => p x || btw a2 b2 x) 2)) (.int .u64 (limb (fun x => p x || btw a2 b2 x) 3))) < left q S wr) := by
                show _ < _
                rw [B4.out.rd.left, B.out.rd.left]; exact HL.out
              clear k0 k1 k2 k3 l0 l1 l2 l3 m0 m1 m2 m3 n0 n1 n2 n3 x0 x1 x2 x3 y0 y1 y2 y3
              go_wp2_with fail
              obtain ⟨f2, F3⟩ := F2.out
              exact ⟨⟨_, _, f2, B4, F3⟩, HL2.out⟩

theorem brackets_any (q : Nat) (S : ByteArray) (l : List Nat) (w : World) (R : Hid (Rd q S l w)) :
    Calls Tryd.prog 115 #[.pointer (some ⟨q, 0, none⟩)] w fun e w' => Cl q S w (bks l) e w' := by
  match l, R with
  | [], R => exact brackets_loop q S [] [] false w rfl R
  | c :: l, R =>
    by_cases hc : c = 94
    · subst hc
      refine (brackets_loop q S _ l true w (by simp [skp]) R).mono ?_
      intro e w' h
      rw [bks, if_pos rfl]
      cases hb : brk l with
      | none => rw [hb] at h; exact h
      | some r => rw [hb] at h; exact h
    · refine (brackets_loop q S _ (c :: l) false w (by simp [skp, hc]) R).mono ?_
      intro e w' h
      rw [bks, if_neg hc]
      cases hb : brk (c :: l) with
      | none => rw [hb] at h; exact h
      | some r => rw [hb] at h; exact h

end Go.Proofs.YtkclkhfcmjhogaaDoor

namespace Go.Proofs.YtkclkhfcmjhogaaDoor
open Go.RowKit
set_option linter.unusedVariables false

theorem sv_none : sv (fun _ => false) = .agg #[.int .u64 0, .int .u64 0, .int .u64 0, .int .u64 0] := by
  rw [sv_cells, limb_none, limb_none, limb_none, limb_none]; rfl
theorem not_none (w : World) : Calls Tryd.prog 74 #[.agg #[.int .u64 0, .int .u64 0, .int .u64 0, .int .u64 0]] w fun e w' => e = .returned (sv (fun _ => true)) ∧ Hid (Qt w w') := by
  rw [← sv_none]
  exact not_any (fun _ => false) w

set_option maxHeartbeats 2000000 in
theorem class_any (q : Nat) (S : ByteArray) (l : List Nat) (w : World) (R : Hid (Rd q S l w)) :
    Calls Tryd.prog 110 #[.pointer (some ⟨q, 0, none⟩)] w fun e w' => Cl q S w (cls0 l) e w' := by
  have HQ : Hid (q < w.heap.size) := R.out.lt
  have Z0 : Hid (Zr w.heap.size (w.alloc zeros)) := heap_alloc_new w zeros
  match l, R with
  | [], R =>
    go_enter Tryd.func110, Tryd.ntmps110
    go_wp2_with fail
    refine (skip_end q S 46 _ (Rd.al R _).out).mono ?_
    rintro e w1 ⟨rfl, g1⟩
    go_wp2_with fail
    refine (skip_end q S 91 _ g1.out.rd).mono ?_
    rintro e w2 ⟨rfl, g2⟩
    go_wp2_with fail
    refine (sign_none (l := []) rfl g2.out.rd).mono ?_
    rintro e w3 ⟨rfl, g3⟩
    exact ⟨rfl, rfl, up1 (bad2 (bad2 (gm g1) (gm g2)) g3)⟩
  | c :: l, R =>
    by_cases h46 : c = 46
    · subst h46
      rw [cls0, if_pos rfl]
      go_enter Tryd.func110, Tryd.ntmps110
      go_wp2_with fail
      refine (skip_yes q S 46 l _ (Rd.al R _).out).mono ?_
      rintro e w1 ⟨rfl, g1⟩
      go_wp2_with fail
      refine (not_none _).mono ?_
      rintro e w2 ⟨rfl, g2⟩
      rw [sv_cells]
      have M : Hid (Mv (fun k => k = q) (w.alloc zeros) w1) := gm g1
      have Z : Hid (Zr w.heap.size w2) := Zr.mv (Zr.mv Z0 M.out (fun h => Nat.ne_of_lt HQ.out h.symm)) g2.out (fun h => h)
      obtain ⟨k0, k1, k2, k3, l0, l1, l2, l3⟩ := Zr.facts Z
      go_wp2_with fail
      refine bodyPost_ret (results_cell_row (p := 2) (ty := 25) rfl _ _ w.heap.size 25 _ (0, 0) _ rfl (put4_heap Z.out _ _ _ _) Tryd.underlying25 rfl (by kernel_rfl)) rfl ?_
      exact ⟨rfl, ends4 HQ.out M g1.out.rd g2 _ _ _ _⟩
    · by_cases h91 : c = 91
      · subst h91
        have hb := fun W R => brackets_any q S l W R
        rw [cls0, if_neg h46, if_pos rfl]
        obtain ⟨o, ho⟩ : ∃ o, o = bks l := ⟨_, rfl⟩
        rw [← ho] at hb
        rw [← ho]
        clear ho
        cases o with
        | none =>
          go_enter Tryd.func110, Tryd.ntmps110
          go_wp2_with fail
          refine (skip_no q S 46 91 l _ (by decide) (Rd.al R _).out).mono ?_
          rintro e w1 ⟨rfl, g1⟩
          go_wp2_with fail
          refine (skip_yes q S 91 l _ g1.out.rd).mono ?_
          rintro e w2 ⟨rfl, g2⟩
          go_wp2_with fail
          refine (hb _ g2.out.rd).mono ?_
          rintro e w3 ⟨rfl, g3⟩
          exact ⟨rfl, rfl, up1 (bad2 (bad2 (gm g1) (gm g2)) g3)⟩
        | some r =>
          obtain ⟨p, t⟩ := r
          go_enter Tryd.func110, Tryd.ntmps110
          go_wp2_with fail
          refine (skip_no q S 46 91 l _ (by decide) (Rd.al R _).out).mono ?_
          rintro e w1 ⟨rfl, g1⟩
          go_wp2_with fail
          refine (skip_yes q S 91 l _ g1.out.rd).mono ?_
          rintro e w2 ⟨rfl, g2⟩
          go_wp2_with fail
          refine (hb _ g2.out.rd).mono ?_
          rintro e w3 ⟨rfl, g3⟩
          have g4 : Hid (Qt w3 w3) := Qt.refl w3
          rw [sv_cells]
          have M : Hid (Mv (fun k => k = q) (w.alloc zeros) w3) := bad2 (bad2 (gm g1) (gm g2)) (gm g3)
          have Z : Hid (Zr w.heap.size w3) := Zr.mv (Zr.mv Z0 M.out (fun h => Nat.ne_of_lt HQ.out h.symm)) g4.out (fun h => h)
          obtain ⟨k0, k1, k2, k3, l0, l1, l2, l3⟩ := Zr.facts Z
          go_wp2_with fail
          refine bodyPost_ret (results_cell_row (p := 2) (ty := 25) rfl _ _ w.heap.size 25 _ (0, 0) _ rfl (put4_heap Z.out _ _ _ _) Tryd.underlying25 rfl (by kernel_rfl)) rfl ?_
          exact ⟨rfl, ends4 HQ.out M g3.out.rd g4 _ _ _ _⟩
      · rw [cls0, if_neg h46, if_neg h91]
        cases hs : sgn (c :: l) with
        | none =>
          have HS : Hid _ := hs
          clear hs
          go_enter Tryd.func110, Tryd.ntmps110
          go_wp2_with fail
          refine (skip_no q S 46 c l _ h46 (Rd.al R _).out).mono ?_
          rintro e w1 ⟨rfl, g1⟩
          go_wp2_with fail
          refine (skip_no q S 91 c l _ h91 g1.out.rd).mono ?_
          rintro e w2 ⟨rfl, g2⟩
          go_wp2_with fail
          refine (sign_none HS.out g2.out.rd).mono ?_
          rintro e w3 ⟨rfl, g3⟩
          exact ⟨rfl, rfl, up1 (bad2 (bad2 (gm g1) (gm g2)) g3)⟩
        | some r =>
          obtain ⟨a, t⟩ := r
          have ha := (sgn_len hs).2
          have HS : Hid _ := hs
          clear hs
          go_enter Tryd.func110, Tryd.ntmps110
          go_wp2_with fail
          refine (skip_no q S 46 c l _ h46 (Rd.al R _).out).mono ?_
          rintro e w1 ⟨rfl, g1⟩
          go_wp2_with fail
          refine (skip_no q S 91 c l _ h91 g1.out.rd).mono ?_
          rintro e w2 ⟨rfl, g2⟩
          go_wp2_with fail
          refine (sign_some HS.out g2.out.rd).mono ?_
          rintro e w3 ⟨rfl, g3⟩
          go_wp2_with fail
          refine (set_any a a ha ha _).mono ?_
          rintro e w4 ⟨rfl, g4⟩
          rw [sv_cells]
          have M : Hid (Mv (fun k => k = q) (w.alloc zeros) w3) := bad2 (bad2 (gm g1) (gm g2)) (gm g3)
          have Z : Hid (Zr w.heap.size w4) := Zr.mv (Zr.mv Z0 M.out (fun h => Nat.ne_of_lt HQ.out h.symm)) g4.out (fun h => h)
          obtain ⟨k0, k1, k2, k3, l0, l1, l2, l3⟩ := Zr.facts Z
          go_wp2_with fail
          refine bodyPost_ret (results_cell_row (p := 2) (ty := 25) rfl _ _ w.heap.size 25 _ (0, 0) _ rfl (put4_heap Z.out _ _ _ _) Tryd.underlying25 rfl (by kernel_rfl)) rfl ?_
          exact ⟨rfl, ends4 HQ.out M g3.out.rd g4 _ _ _ _⟩

end Go.Proofs.YtkclkhfcmjhogaaDoor

namespace Go.Proofs.YtkclkhfcmjhogaaDoor
open Go.RowKit
set_option linter.unusedVariables false

theorem make_fn (fn : Fn) (first cap : Array Value) (w : World) : (Instr.makeFunc fn first cap).run Tryd.prog w = .ok (.func fn first cap) w := rfl
set_option maxHeartbeats 400000 in
theorem catch_panicking (g : Nat) (w : World) (v0 v1 v2 v3 : Value) (x y : Value) (h0 : w.heap[g]? = some (.cells #[v0, v1, v2, v3] 25 (0, 0))) (h1 : w.cell? ⟨g + 1, 0, none⟩ = some x) (h2 : w.cell? ⟨g + 1 + 1, 0, none⟩ = some y) (f1 : w.frozen? ⟨g + 1, 0, none⟩ = false) (f2 : w.frozen? ⟨g + 1 + 1, 0, none⟩ = false) :
    CallsD Tryd.prog 109 #[.pointer (some ⟨g, 0, none⟩), .pointer (some ⟨g + 1, 0, none⟩), .pointer (some ⟨g + 1 + 1, 0, none⟩)] (.panicking badChain) w fun e u' w' =>
      e = .returned (.tuple #[]) ∧ u' = .panicking [{ v := .iface 29 (.int .i64 2), recovered := true }] ∧ w' = ((put4 w g (.int .u64 0) (.int .u64 0) (.int .u64 0) (.int .u64 0)).setCell ⟨g + 1, 0, none⟩ (.int .i64 0)).setCell ⟨g + 1 + 1, 0, none⟩ (.int .i64 2) := by
  have e0 : w.cell? ⟨g, 0, none⟩ = some v0 := by simp [World.cell?, h0]
  have e1 : w.cell? ⟨g, 1, none⟩ = some v1 := by simp [World.cell?, h0]
  have e2 : w.cell? ⟨g, 2, none⟩ = some v2 := by simp [World.cell?, h0]
  have e3 : w.cell? ⟨g, 3, none⟩ = some v3 := by simp [World.cell?, h0]
  have z0 : w.frozen? ⟨g, 0, none⟩ = false := by simp [World.frozen?, h0]
  have z1 : w.frozen? ⟨g, 1, none⟩ = false := by simp [World.frozen?, h0]
  have z2 : w.frozen? ⟨g, 2, none⟩ = false := by simp [World.frozen?, h0]
  have z3 : w.frozen? ⟨g, 3, none⟩ = false := by simp [World.frozen?, h0]
  refine callsD_of_wpS Tryd.func109 rfl fun c₀ cs hu => ?_
  unfold badChain at hu
  apply wpS_seq
  apply wpS_region
  simp [wpOpsS, go_sem, recoverD, hu, Tryd.ntmps109, Exit.thenS]
  refine wpS_cond (t := true) (by simp [Act.eval, Array.replicate]) ?_
  simp only [if_true]
  apply wpS_region
  simp [wpOpsS, go_sem, e0, e1, e2, e3, z0, z1, z2, z3, h1, h2, f1, f2, bodyPostS, results, Tryd.results109]

theorem catch_idle (p q r : Addr) (w : World) :
    CallsD Tryd.prog 109 #[.pointer (some p), .pointer (some q), .pointer (some r)] .returning w fun e u' w' => e = .returned (.tuple #[]) ∧ u' = .returning ∧ w' = w := by
  refine callsD_of_wpS Tryd.func109 rfl fun c₀ cs hu => ?_
  apply wpS_seq
  apply wpS_region
  simp [wpOpsS, go_sem, recoverD, hu, Tryd.ntmps109, Exit.thenS]
  refine wpS_cond (t := false) (by simp [Act.eval, Array.replicate]) ?_
  simp only [Bool.false_eq_true, if_false]
  refine wpS_of_wp (wp_skip ?_)
  cases c₀
  simp_all [bodyPostS, results, Tryd.results109]

theorem info3 : Tryd.prog.info? 3 = some Tryd.t3 := by kernel_rfl
theorem results3 (tmps : Array Value) (w : World) (g : Nat) (v0 v1 v2 v3 x y : Value) (h0 : tmps.getD 2 undef = .pointer (some ⟨g, 0, none⟩)) (h1 : tmps.getD 3 undef = .pointer (some ⟨g + 1, 0, none⟩)) (h2 : tmps.getD 4 undef = .pointer (some ⟨g + 1 + 1, 0, none⟩))
    (hg : w.heap[g]? = some (.cells #[v0, v1, v2, v3] 25 (0, 0))) (hx : w.cell? ⟨g + 1, 0, none⟩ = some x) (hy : w.cell? ⟨g + 1 + 1, 0, none⟩ = some y) :
    (results Tryd.f105 tmps).run Tryd.prog w = .ok (.tuple #[.agg #[v0, v1, v2, v3], x, y]) w := by
  have h0' : tmps[2]?.getD undef = .pointer (some ⟨g, 0, none⟩) := by simpa using h0
  have h1' : tmps[3]?.getD undef = .pointer (some ⟨g + 1, 0, none⟩) := by simpa using h1
  have h2' : tmps[4]?.getD undef = .pointer (some ⟨g + 1 + 1, 0, none⟩) := by simpa using h2
  have e0 : w.cell? ⟨g, 0, none⟩ = some v0 := by simp [World.cell?, hg]
  have e1 : w.cell? ⟨g, 1, none⟩ = some v1 := by simp [World.cell?, hg]
  have e2 : w.cell? ⟨g, 2, none⟩ = some v2 := by simp [World.cell?, hg]
  have e3 : w.cell? ⟨g, 3, none⟩ = some v3 := by simp [World.cell?, hg]
  simp [results, Tryd.results105, h0', h1', h2', asAddr, go_sem, hx, hy, e0, e1, e2, e3]

/-- The world in which a class is read. -/
abbrev w4 (S : ByteArray) (w : World) : World := (((w.alloc zeros).alloc (.cells #[.int .i64 0] 3)).alloc (.cells #[.int .i64 0] 29)).alloc (.cells #[.string S, .int .i64 0] 133)
structure P4 (w W : World) : Prop where
  qt : Qt w W
  zr : Zr w.heap.size W
  at1 : W.heap[w.heap.size + 1]? = some (.cells #[.int .i64 0] 3 (0, 0))
  at2 : W.heap[w.heap.size + 1 + 1]? = some (.cells #[.int .i64 0] 29 (0, 0))
theorem heap4 (w : World) (A B C D : Obj) : ((((w.alloc A).alloc B).alloc C).alloc D).heap[w.heap.size]? = some A ∧ ((((w.alloc A).alloc B).alloc C).alloc D).heap[w.heap.size + 1]? = some B ∧ ((((w.alloc A).alloc B).alloc C).alloc D).heap[w.heap.size + 1 + 1]? = some C ∧ ((((w.alloc A).alloc B).alloc C).alloc D).heap[w.heap.size + 3]? = some D := by
  refine ⟨?_, ?_, ?_, ?_⟩
  · show ((((w.heap.push A).push B).push C).push D)[w.heap.size]? = _
    rw [Array.getElem?_push, if_neg (by simp <;> omega), Array.getElem?_push, if_neg (by simp <;> omega), Array.getElem?_push, if_neg (by simp), Array.getElem?_push, if_pos (by simp)]
  · show ((((w.heap.push A).push B).push C).push D)[w.heap.size + 1]? = _
    rw [Array.getElem?_push, if_neg (by simp <;> omega), Array.getElem?_push, if_neg (by simp), Array.getElem?_push, if_pos (by simp)]
  · show ((((w.heap.push A).push B).push C).push D)[w.heap.size + 1 + 1]? = _
    rw [Array.getElem?_push, if_neg (by simp), Array.getElem?_push, if_pos (by simp)]
  · show ((((w.heap.push A).push B).push C).push D)[w.heap.size + 3]? = _
    rw [Array.getElem?_push, if_pos (by simp)]
theorem p4 (S : ByteArray) (w : World) : Hid (P4 w (w4 S w)) :=
  ⟨((((Qt.refl w).alloc _).alloc _).alloc _).alloc _, (heap4 w _ _ _ _).1, (heap4 w _ _ _ _).2.1, (heap4 w _ _ _ _).2.2.1⟩
theorem rd4 (S : ByteArray) (w : World) (hs : S.size < 1000000) : Hid (Rd (w.heap.size + 3) S (bs S) (w4 S w)) := by
  have h := (heap4 w zeros (.cells #[.int .i64 0] 3) (.cells #[.int .i64 0] 29) (.cells #[.string S, .int .i64 0] 133)).2.2.2
  have e : (w4 S w).heap[w.heap.size + 3]? = some (.cells #[.string S, .int .i64 0] 133 (0, 0)) := h
  refine ⟨by simp only [World.cell?, e]; rfl, ?_, by simp only [World.frozen?, e]; rfl, (Array.getElem?_eq_some_iff.1 e).1, ⟨[], rfl⟩, hs⟩
  rw [bs_length, Nat.sub_self]
  simp only [World.cell?, e]; rfl
theorem P4.mv {w W W' : World} (h : Hid (P4 w W)) (k : Hid (Mv (fun j => j = w.heap.size + 3) W W')) : Hid (P4 w W') := by
  refine ⟨Mv.trans h.out.qt k.out (fun j hj e => by omega), (Zr.mv h.out.zr k.out (by omega)).out, ?_, ?_⟩
  · rw [k.out.block _ (Array.getElem?_eq_some_iff.1 h.out.at1).1 (by omega)]; exact h.out.at1
  · rw [k.out.block _ (Array.getElem?_eq_some_iff.1 h.out.at2).1 (by omega)]; exact h.out.at2
theorem P4.cells {w W : World} (h : Hid (P4 w W)) : W.cell? ⟨w.heap.size + 1, 0, none⟩ = some (.int .i64 0) ∧ W.cell? ⟨w.heap.size + 1 + 1, 0, none⟩ = some (.int .i64 0) ∧ W.frozen? ⟨w.heap.size + 1, 0, none⟩ = false ∧ W.frozen? ⟨w.heap.size + 1 + 1, 0, none⟩ = false := by
  have e1 := h.out.at1
  have e2 := h.out.at2
  exact ⟨by simp [World.cell?, e1], by simp [World.cell?, e2], by simp [World.frozen?, e1], by simp [World.frozen?, e2]⟩

/-- What is left behind the results. -/
theorem out6 {w W : World} (h : Qt w W) (v0 v1 v2 v3 x y : Value) : Qt w (((put4 W w.heap.size v0 v1 v2 v3).setCell ⟨w.heap.size + 1, 0, none⟩ x).setCell ⟨w.heap.size + 1 + 1, 0, none⟩ y) := by
  refine Mv.trans (Mv.trans (Mv.trans h (put4_mv W w.heap.size v0 v1 v2 v3) (fun j hj e => by omega)) (Mv.setCell _ _ _) (fun j hj e => ?_)) (Mv.setCell _ _ _) (fun j hj e => ?_)
  · simp at e; omega
  · simp at e; omega
theorem cell6 {W : World} {g : Nat} {c0 c1 c2 c3 a b : Value} (hz : W.heap[g]? = some (.cells #[c0, c1, c2, c3] 25 (0, 0))) (h1 : W.cell? ⟨g + 1, 0, none⟩ = some a) (h2 : W.cell? ⟨g + 1 + 1, 0, none⟩ = some b) (v0 v1 v2 v3 x y : Value) :
    (((put4 W g v0 v1 v2 v3).setCell ⟨g + 1, 0, none⟩ x).setCell ⟨g + 1 + 1, 0, none⟩ y).heap[g]? = some (.cells #[v0, v1, v2, v3] 25 (0, 0)) ∧ (((put4 W g v0 v1 v2 v3).setCell ⟨g + 1, 0, none⟩ x).setCell ⟨g + 1 + 1, 0, none⟩ y).cell? ⟨g + 1, 0, none⟩ = some x ∧ (((put4 W g v0 v1 v2 v3).setCell ⟨g + 1, 0, none⟩ x).setCell ⟨g + 1 + 1, 0, none⟩ y).cell? ⟨g + 1 + 1, 0, none⟩ = some y := by
  have k1 : (put4 W g v0 v1 v2 v3).cell? ⟨g + 1, 0, none⟩ = some a := (put4_mv W g v0 v1 v2 v3).cell (p := ⟨g + 1, 0, none⟩) h1 (by simp)
  have k2 : (put4 W g v0 v1 v2 v3).cell? ⟨g + 1 + 1, 0, none⟩ = some b := (put4_mv W g v0 v1 v2 v3).cell (p := ⟨g + 1 + 1, 0, none⟩) h2 (by simp <;> omega)
  have hg := put4_heap hz v0 v1 v2 v3
  have hlt := (Array.getElem?_eq_some_iff.1 hg).1
  refine ⟨?_, ?_, ?_⟩
  · rw [(Mv.setCell _ ⟨g + 1 + 1, 0, none⟩ y).block g (Nat.lt_of_lt_of_le hlt (Mv.setCell _ ⟨g + 1, 0, none⟩ x).size) (by simp <;> omega), (Mv.setCell _ ⟨g + 1, 0, none⟩ x).block g hlt (by simp)]
    exact hg
  · rw [World.cell?_setCell_other _ _ _ _ (by simp)]
    exact World.cell?_setCell_same _ _ _ k1
  · refine World.cell?_setCell_same _ _ _ (u := b) ?_
    rw [World.cell?_setCell_other _ _ _ _ (by simp)]
    exact k2

set_option maxHeartbeats 1000000 in
theorem parse_panic (S : ByteArray) (w : World) (hs : S.size < 1000000) (hc : cls0 (bs S) = none) :
    Calls Tryd.prog 105 #[.string S] w fun e w' => e = .returned (.tuple #[sv (fun _ => false), .int .i64 0, .int .i64 2]) ∧ Hid (Qt w w') := by
  have hmf := make_fn
  have HR := class_any (w.heap.size + 3) S (bs S) (w4 S w) (rd4 S w hs)
  rw [hc] at HR
  clear hc hs
  rw [sv_none]
  go_enter_defers Tryd.func105, Tryd.ntmps105
  go_wp2_with fail
  refine HR.mono ?_
  rintro e W ⟨rfl, g1⟩
  have H4 := P4.mv (p4 S w) g1
  obtain ⟨k1, k2, f1, f2⟩ := P4.cells H4
  refine leaves_cons (f := 109) (args := #[.pointer (some ⟨w.heap.size, 0, none⟩), .pointer (some ⟨w.heap.size + 1, 0, none⟩), .pointer (some ⟨w.heap.size + 1 + 1, 0, none⟩)]) (by simp) (by simp [go_sem]) ?_
  refine (catch_panicking w.heap.size W _ _ _ _ _ _ H4.out.zr k1 k2 f1 f2).mono ?_
  rintro e u' w'' ⟨rfl, rfl, rfl⟩
  obtain ⟨c0, c1, c2⟩ := cell6 H4.out.zr k1 k2 (.int .u64 0) (.int .u64 0) (.int .u64 0) (.int .u64 0) (.int .i64 0) (.int .i64 2)
  exact ⟨_, results3 _ _ w.heap.size _ _ _ _ _ _ rfl rfl rfl c0 c1 c2, rfl, out6 H4.out.qt _ _ _ _ _ _⟩

theorem zr_put {w W : World} (h : Hid (P4 w W)) (v0 v1 v2 v3 : Value) : (put4 W w.heap.size v0 v1 v2 v3).cell? ⟨w.heap.size + 1, 0, none⟩ = some (.int .i64 0) ∧ (put4 W w.heap.size v0 v1 v2 v3).cell? ⟨w.heap.size + 1 + 1, 0, none⟩ = some (.int .i64 0) ∧ (put4 W w.heap.size v0 v1 v2 v3).frozen? ⟨w.heap.size + 1, 0, none⟩ = false ∧ (put4 W w.heap.size v0 v1 v2 v3).frozen? ⟨w.heap.size + 1 + 1, 0, none⟩ = false := by
  obtain ⟨k1, k2, f1, f2⟩ := P4.cells h
  have m := put4_mv W w.heap.size v0 v1 v2 v3
  refine ⟨m.cell (p := ⟨w.heap.size + 1, 0, none⟩) k1 (by simp), m.cell (p := ⟨w.heap.size + 1 + 1, 0, none⟩) k2 (by simp <;> omega), ?_, ?_⟩
  · rw [m.frozen (p := ⟨w.heap.size + 1, 0, none⟩) (World.block_lt_of_cell? W _ k1) (by simp)]; exact f1
  · rw [m.frozen (p := ⟨w.heap.size + 1 + 1, 0, none⟩) (World.block_lt_of_cell? W _ k2) (by simp <;> omega)]; exact f2

set_option maxHeartbeats 1000000 in
theorem parse_empty (S : ByteArray) (p : Nat → Bool) (t : List Nat) (w : World) (hs : S.size < 1000000) (hc : cls0 (bs S) = some (p, t)) (hp : any p = false) :
    Calls Tryd.prog 105 #[.string S] w fun e w' => e = .returned (.tuple #[sv (fun _ => false), .int .i64 0, .int .i64 2]) ∧ Hid (Qt w w') := by
  have hmf := make_fn
  have HR := class_any (w.heap.size + 3) S (bs S) (w4 S w) (rd4 S w hs)
  rw [hc] at HR
  have hne := fun W => neq_run p (fun _ => false) W
  rw [same_none, hp, sv_none, sv_cells] at hne
  clear hc hs hp
  rw [sv_none]
  go_enter_defers Tryd.func105, Tryd.ntmps105
  go_wp2_with fail
  refine HR.mono ?_
  rintro e W ⟨rfl, g1⟩
  rw [sv_cells]
  have H4 := P4.mv (p4 S w) g1.out.mv
  clear HR g1
  obtain ⟨k0, k1, k2, k3, l0, l1, l2, l3⟩ := Zr.facts H4.out.zr
  go_wp2_with fail
  refine (must_bad _).mono ?_
  rintro e w2 ⟨rfl, rfl⟩
  clear k0 k1 k2 k3 l0 l1 l2 l3
  have hz := put4_heap H4.out.zr (.int .u64 (limb p 0)) (.int .u64 (limb p 1)) (.int .u64 (limb p 2)) (.int .u64 (limb p 3))
  obtain ⟨k1, k2, f1, f2⟩ := zr_put H4 (.int .u64 (limb p 0)) (.int .u64 (limb p 1)) (.int .u64 (limb p 2)) (.int .u64 (limb p 3))
  refine leaves_cons (f := 109) (args := #[.pointer (some ⟨w.heap.size, 0, none⟩), .pointer (some ⟨w.heap.size + 1, 0, none⟩), .pointer (some ⟨w.heap.size + 1 + 1, 0, none⟩)]) (by simp) (by simp [go_sem]) ?_
  refine (catch_panicking w.heap.size _ _ _ _ _ _ _ hz k1 k2 f1 f2).mono ?_
  rintro e u' w'' ⟨rfl, rfl, rfl⟩
  obtain ⟨c0, c1, c2⟩ := cell6 hz k1 k2 (.int .u64 0) (.int .u64 0) (.int .u64 0) (.int .u64 0) (.int .i64 0) (.int .i64 2)
  exact ⟨_, results3 _ _ w.heap.size _ _ _ _ _ _ rfl rfl rfl c0 c1 c2, rfl, out6 (Mv.trans H4.out.qt (put4_mv W w.heap.size _ _ _ _) (fun j hj e => by omega)) _ _ _ _ _ _⟩

theorem drew_heap (X : World) : X.drew.heap = X.heap := rfl
theorem drew_cell (X : World) (a : Addr) : X.drew.cell? a = X.cell? a := rfl

set_option maxHeartbeats 1000000 in
theorem parse_ok (S : ByteArray) (p : Nat → Bool) (t : List Nat) (w : World) (hs : S.size < 1000000) (hc : cls0 (bs S) = some (p, t)) (hp : any p = true) :
    Calls Tryd.prog 105 #[.string S] w fun e w' => e = .returned (.tuple #[sv p, .int .i64 ((S.size - t.length : Nat) : Int), .int .i64 0]) ∧ Hid (Qt w w') := by
  have hmf := make_fn
  have HR := class_any (w.heap.size + 3) S (bs S) (w4 S w) (rd4 S w hs)
  rw [hc] at HR
  have hne := fun W => neq_run p (fun _ => false) W
  rw [same_none, hp, sv_none, sv_cells] at hne
  clear hc hs hp
  rw [sv_cells]
  obtain ⟨n, hn⟩ : ∃ n, n = S.size - t.length := ⟨_, rfl⟩
  rw [← hn]
  have HN : Hid (n = S.size - t.length) := hn
  clear hn
  go_enter_defers Tryd.func105, Tryd.ntmps105
  go_wp2_with fail
  refine HR.mono ?_
  rintro e W ⟨rfl, g1⟩
  rw [sv_cells]
  have H4 := P4.mv (p4 S w) g1.out.mv
  obtain ⟨k0, k1, k2, k3, l0, l1, l2, l3⟩ := Zr.facts H4.out.zr
  obtain ⟨i1, i2, f1, f2⟩ := P4.cells H4
  have ha := g1.out.rd.at_
  rw [← HN.out] at ha
  clear HR g1
  go_wp2_with fail
  refine (must_ok _).mono ?_
  rintro e w2 ⟨rfl, rfl⟩
  go_wp2_with fail
  go_region
  clear k0 k1 k2 k3 l0 l1 l2 l3 i1 i2 f1 f2 ha hne
  have hz := put4_heap H4.out.zr (.int .u64 (limb p 0)) (.int .u64 (limb p 1)) (.int .u64 (limb p 2)) (.int .u64 (limb p 3))
  obtain ⟨k1, k2, f1, f2⟩ := zr_put H4 (.int .u64 (limb p 0)) (.int .u64 (limb p 1)) (.int .u64 (limb p 2)) (.int .u64 (limb p 3))
  obtain ⟨c0, c1, c2⟩ := cell6 hz k1 k2 (.int .u64 (limb p 0)) (.int .u64 (limb p 1)) (.int .u64 (limb p 2)) (.int .u64 (limb p 3)) (.int .i64 n) (.int .i64 0)
  have hO : Hid _ := out6 (Mv.trans H4.out.qt (put4_mv W w.heap.size (.int .u64 (limb p 0)) (.int .u64 (limb p 1)) (.int .u64 (limb p 2)) (.int .u64 (limb p 3))) (fun j hj e => by omega)) (.int .u64 (limb p 0)) (.int .u64 (limb p 1)) (.int .u64 (limb p 2)) (.int .u64 (limb p 3)) (.int .i64 n) (.int .i64 0)
  have C0 : Hid _ := c0
  have C1 : Hid _ := c1
  have C2 : Hid _ := c2
  clear k1 k2 f1 f2 hz c0 c1 c2
  go_wp2_with fail
  refine leaves_cons (f := 109) (args := #[.pointer (some ⟨w.heap.size, 0, none⟩), .pointer (some ⟨w.heap.size + 1, 0, none⟩), .pointer (some ⟨w.heap.size + 1 + 1, 0, none⟩)]) (by simp) (by simp [go_sem]) ?_
  refine (catch_idle ⟨w.heap.size, 0, none⟩ ⟨w.heap.size + 1, 0, none⟩ ⟨w.heap.size + 1 + 1, 0, none⟩ _).mono ?_
  rintro e u' w'' ⟨rfl, rfl, hw⟩
  have D0 : w''.heap[w.heap.size]? = some (.cells #[.int .u64 (limb p 0), .int .u64 (limb p 1), .int .u64 (limb p 2), .int .u64 (limb p 3)] 25 (0, 0)) := by rw [hw, drew_heap]; exact C0.out
  have D1 : w''.cell? ⟨w.heap.size + 1, 0, none⟩ = some (.int .i64 n) := by rw [hw, drew_cell]; exact C1.out
  have D2 : w''.cell? ⟨w.heap.size + 1 + 1, 0, none⟩ = some (.int .i64 0) := by rw [hw, drew_cell]; exact C2.out
  have D3 : Qt w w'' := by rw [hw]; exact Qt.drew hO.out
  clear hw C0 C1 C2 hO
  exact ⟨_, results3 _ _ w.heap.size _ _ _ _ _ _ rfl rfl rfl D0 D1 D2, rfl, D3⟩

/-- What Parse tells. -/
def pset (S : ByteArray) : Nat → Bool := match cls (bs S) with | none => fun _ => false | some (p, _) => p
def plen (S : ByteArray) : Nat := match cls (bs S) with | none => 0 | some (_, t) => S.size - t.length
def perr (S : ByteArray) : Int := match cls (bs S) with | none => 2 | some _ => 0
theorem parse_any (S : ByteArray) (w : World) (hs : S.size < 1000000) :
    Calls Tryd.prog 105 #[.string S] w fun e w' => e = .returned (.tuple #[sv (pset S), .int .i64 (plen S : Int), .int .i64 (perr S)]) ∧ Hid (Qt w w') := by
  unfold pset plen perr cls
  cases h0 : cls0 (bs S) with
  | none => exact parse_panic S w hs h0
  | some r =>
    obtain ⟨p, t⟩ := r
    cases hp : any p with
    | false => simp only [hp]; exact parse_empty S p t w hs h0 hp
    | true => simp only [hp]; exact parse_ok S p t w hs h0 hp

end Go.Proofs.YtkclkhfcmjhogaaDoor
