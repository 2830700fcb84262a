/- The reader: a byte, a mark, a digit. -/
import Derived.Test.YtkclkhfcmjhogaaDoorC4
import Derived.Lib.Bytealg
import Derived.BigQuiet
import Derived.RegionDies
import Derived.Deep.RegionWith
namespace Go.Proofs.YtkclkhfcmjhogaaDoor
open Go.RowKit
set_option linter.unusedVariables false

/-- The panic of a text that is no class. -/
def badChain : List PanicEntry := [{ v := .iface 29 (.int .i64 2), recovered := false }]
set_option maxHeartbeats 400000 in
theorem must_ok (w : World) : Calls Tryd.prog 111 #[.bool true] w fun e w' => e = .returned (.tuple #[]) ∧ w' = w := by
  go_enter Tryd.func111, Tryd.ntmps111
  go_wp2
  go_end0
  exact ⟨rfl, rfl⟩
set_option maxHeartbeats 400000 in
theorem must_bad (w : World) : Calls Tryd.prog 111 #[.bool false] w fun e w' => e = .panicked badChain ∧ w' = w := by
  go_enter Tryd.func111, Tryd.ntmps111
  go_wp2
  exact ⟨rfl, rfl, rfl⟩

theorem marks_at (c : Nat) (hc : c < 256) : decide (0 ≤ Lib.indexByte [92, 124, 42, 43, 63, 40, 41, 91, 93, 46, 94, 45] (c : Int).toNat.toUInt8) = mk c := by
  have h : ∀ c : Fin 256, decide (0 ≤ Lib.indexByte [92, 124, 42, 43, 63, 40, 41, 91, 93, 46, 94, 45] ((c.val : Int)).toNat.toUInt8) = mk c.val := by decide +kernel
  exact h ⟨c, hc⟩
theorem digits_at (c : Nat) (hc : c < 256) : Lib.indexByte [48, 49, 50, 51, 52, 53, 54, 55, 56, 57, 97, 98, 99, 100, 101, 102] (c : Int).toNat.toUInt8 = (match dig c with | none => -1 | some x => (x : Int)) := by
  have h : ∀ c : Fin 256, Lib.indexByte [48, 49, 50, 51, 52, 53, 54, 55, 56, 57, 97, 98, 99, 100, 101, 102] ((c.val : Int)).toNat.toUInt8 = (match dig c.val with | none => -1 | some x => (x : Int)) := by decide +kernel
  exact h ⟨c, hc⟩

set_option maxHeartbeats 400000 in
theorem isMark_any (c : Nat) (hc : c < 256) (w : World) : Calls Tryd.prog 93 #[.int .u8 c] w fun e w' => e = .returned (.bool (mk c)) ∧ w' = w := by
  have hm := marks_at c hc
  have hi := fun W => index_byte ⟨#[92, 124, 42, 43, 63, 40, 41, 91, 93, 46, 94, 45]⟩ (c : Int) W
  generalize hx : Lib.indexByte (⟨#[92, 124, 42, 43, 63, 40, 41, 91, 93, 46, 94, 45]⟩ : ByteArray).data.toList (c : Int).toNat.toUInt8 = x at hi
  have hm2 : decide (0 ≤ x) = mk c := by rw [← hx]; exact hm
  clear hm hx
  go_enter Tryd.func93, Tryd.ntmps93
  go_wp2_with (go_at_call 101; refine (hi _).mono ?_; rintro e w' ⟨rfl, rfl⟩)
  go_ret
  exact ⟨by simp, rfl⟩

set_option maxHeartbeats 400000 in
theorem isSeen_any (c : Nat) (hc : c < 256) (w : World) : Calls Tryd.prog 94 #[.int .u8 c] w fun e w' => e = .returned (.bool (seen c)) ∧ w' = w := by
  by_cases h1 : 33 ≤ c
  · by_cases h2 : c ≤ 126
    · have e : seen c = true := by unfold seen; simp [h1, h2]
      rw [e]
      go_enter Tryd.func94, Tryd.ntmps94
      go_wp2
      go_ret
      exact ⟨by simp; omega, rfl⟩
    · have e : seen c = false := by unfold seen; simp [h1, h2]
      rw [e]
      go_enter Tryd.func94, Tryd.ntmps94
      go_wp2
      go_ret
      exact ⟨by simp; omega, rfl⟩
  · have e : seen c = false := by unfold seen; simp [h1]
    rw [e]
    go_enter Tryd.func94, Tryd.ntmps94
    go_wp2
    go_ret
    exact ⟨by simp, rfl⟩

/-- A text's bytes. -/
def bs (S : ByteArray) : List Nat := S.data.toList.map UInt8.toNat
theorem bs_length (S : ByteArray) : (bs S).length = S.size := by unfold bs; rw [List.length_map]; rfl
theorem bs_lt (S : ByteArray) : ∀ c ∈ bs S, c < 256 := by
  intro c hc
  obtain ⟨x, _, rfl⟩ := List.mem_map.1 hc
  exact x.toNat_lt
theorem bs_inj {S T : ByteArray} (h : bs S = bs T) : S = T := by
  have h2 : S.data.toList = T.data.toList := by
    have e : ∀ l : List UInt8, (l.map UInt8.toNat).map (fun n => UInt8.ofNat n) = l := by
      intro l; rw [List.map_map]; exact List.map_id'' (fun x => by simp) l
    have := congrArg (List.map (fun n => UInt8.ofNat n)) h
    unfold bs at this
    rwa [e, e] at this
  cases S; cases T; simp only [ByteArray.mk.injEq]
  exact Array.toList_inj.1 h2
theorem bs_append (S T : ByteArray) : bs (S ++ T) = bs S ++ bs T := by
  unfold bs
  rw [← List.map_append]
  congr 1
theorem index_run (S : ByteArray) (pre t : List Nat) (c : Nat) (h : bs S = pre ++ c :: t) (w : World) : (Instr.index 9 (.string S) (.int .i64 ((pre.length : Nat) : Int))).run Tryd.prog w = .ok (.int .u8 (c : Int)) w := by
  have hl : pre.length < S.size := by rw [← bs_length, h]; simp
  have hi : 0 ≤ ((pre.length : Nat) : Int) ∧ ((pre.length : Nat) : Int) < (S.size : Int) := by omega
  rw [run_index_string w 9 S .i64 _ Tryd.underlying9]
  rw [dif_pos hi]
  congr 3
  have h2 : (bs S)[pre.length]? = some c := by rw [h]; simp
  unfold bs at h2
  rw [List.getElem?_map, Option.map_eq_some_iff] at h2
  obtain ⟨x, hx, rfl⟩ := h2
  congr 1
  rw [Array.getElem?_toList] at hx
  obtain ⟨hlt, hx⟩ := Array.getElem?_eq_some_iff.1 hx
  rw [← hx]
  rfl

/-- A reader: its text, and what is not read yet. -/
structure Rd (q : Nat) (S : ByteArray) (l : List Nat) (w : World) : Prop where
  text : w.cell? ⟨q, 0, none⟩ = some (.string S)
  at_ : w.cell? ⟨q, 1, none⟩ = some (.int .i64 ((S.size - l.length : Nat) : Int))
  fz : w.frozen? ⟨q, 1, none⟩ = false
  lt : q < w.heap.size
  suf : ∃ pre, bs S = pre ++ l
  small : S.size < 1000000
theorem Rd.mv {q : Nat} {S : ByteArray} {l : List Nat} {w w' : World} {X : Nat → Prop} (h : Rd q S l w) (k : Mv X w w') (hx : ¬ X q) : Rd q S l w' :=
  ⟨k.cell (p := ⟨q, 0, none⟩) h.text hx, k.cell (p := ⟨q, 1, none⟩) h.at_ hx, by rw [k.frozen (p := ⟨q, 1, none⟩) h.lt hx]; exact h.fz, Nat.lt_of_lt_of_le h.lt k.size, h.suf, h.small⟩
theorem Rd.split {q : Nat} {S : ByteArray} {c : Nat} {l : List Nat} {w : World} (h : Rd q S (c :: l) w) : ∃ k : Nat, k + 1 + l.length = S.size ∧ w.cell? ⟨q, 1, none⟩ = some (.int .i64 (k : Int)) ∧ (∀ w, (Instr.index 9 (.string S) (.int .i64 (k : Int))).run Tryd.prog w = .ok (.int .u8 (c : Int)) w) ∧ c < 256 ∧ Rd q S l (w.setCell ⟨q, 1, none⟩ (.int .i64 ((k : Int) + 1))) := by
  obtain ⟨pre, hp⟩ := h.suf
  have hl : pre.length + 1 + l.length = S.size := by rw [← bs_length, hp]; simp; omega
  have e : S.size - (c :: l).length = pre.length := by simp; omega
  have ha := h.at_
  rw [e] at ha
  refine ⟨pre.length, hl, ha, fun W => index_run S pre l c hp W, bs_lt S c (by rw [hp]; simp), ?_⟩
  refine ⟨?_, ?_, ?_, ?_, ⟨pre ++ [c], by rw [hp]; simp⟩, h.small⟩
  · rw [World.cell?_setCell_other w _ _ _ (by simp)]; exact h.text
  · rw [World.cell?_setCell_same w _ _ ha]
    congr 2
    omega
  · rw [World.frozen?_setCell]; exact h.fz
  · exact Nat.lt_of_lt_of_le h.lt (Mv.setCell w _ _).size
theorem Rd.nil {q : Nat} {S : ByteArray} {w : World} (h : Rd q S [] w) : w.cell? ⟨q, 1, none⟩ = some (.int .i64 (S.size : Int)) := by
  have := h.at_
  simpa using this
/-- A reader behind a call. -/
structure Go1 (q : Nat) (S : ByteArray) (l : List Nat) (w w' : World) : Prop where
  rd : Rd q S l w'
  mv : Mv (fun k => k = q) w w'

set_option maxHeartbeats 1000000 in
theorem take_ok (q : Nat) (S : ByteArray) (c : Nat) (l : List Nat) (w : World) (R : Rd q S (c :: l) w) :
    Calls Tryd.prog 120 #[.pointer (some ⟨q, 0, none⟩)] w fun e w' => e = .returned (.int .u8 (c : Int)) ∧ Hid (Go1 q S l w w') := by
  obtain ⟨k, hk, ha, hix, hc, hR⟩ := R.split
  have ht := R.text
  have hf := R.fz
  have hs := R.small
  have H0 : Hid (Rd q S (c :: l) w) := R
  have hlt : decide (k < S.size) = true := by simp; omega
  clear R hR
  go_enter Tryd.func120, Tryd.ntmps120
  go_wp2_with fail
  go_quiet ((first | (go_at_call 111; exact Calls.quiet_of_same (must_ok _))))
  have R2 : Rd q S (c :: l) (w.drewN nq) := H0.out.mv (Mv.drewN (fun _ => False) w nq) (fun h => h)
  have M2 : Hid (Mv (fun j => j = q) w (w.drewN nq)) := Mv.drewN _ w nq
  clear ht ha hf
  obtain ⟨W, hW⟩ : ∃ W, W = w.drewN nq := ⟨_, rfl⟩
  rw [← hW] at R2 M2
  rw [← hW]
  clear hW
  obtain ⟨k2, hk2, ha, _, _, hR⟩ := R2.split
  obtain rfl : k2 = k := by omega
  have ht := R2.text
  have hf := R2.fz
  have HR : Hid _ := hR
  clear R2 hR hk2
  go_wp2_with fail
  go_quiet (fail)
  go_wp2_with fail
  go_ret
  exact ⟨rfl, HR.out.mv (X := fun _ => False) ⟨rfl, rfl, rfl, Nat.le_refl _, fun _ _ _ => rfl⟩ (fun h => h), (M2.out.trans (Mv.drewN (fun _ => False) W _) (fun _ _ h => h.elim)).trans (Mv.setCell _ _ _) (fun _ _ h => h)⟩

set_option maxHeartbeats 1000000 in
theorem take_bad (q : Nat) (S : ByteArray) (w : World) (R : Rd q S [] w) :
    Calls Tryd.prog 120 #[.pointer (some ⟨q, 0, none⟩)] w fun e w' => e = .panicked badChain ∧ Hid (Mv (fun k => k = q) w w') := by
  have ha := R.nil
  have ht := R.text
  have hs := R.small
  have hlt : decide (S.size < S.size) = false := by simp
  have hlt2 : decide ((S.size : Int) < (S.size : Int)) = false := by simp
  clear R
  go_enter Tryd.func120, Tryd.ntmps120
  go_wp2_with fail
  go_region_dies
  all_goals
    refine (must_bad _).mono ?_
    rintro e w' ⟨rfl, rfl⟩
    exact ⟨rfl, rfl, Mv.drewN _ w 1⟩

/-- skip: the next byte is b. -/
def skp (b : Nat) : List Nat → Bool × List Nat
  | [] => (false, [])
  | c :: l => if c = b then (true, l) else (false, c :: l)

set_option maxHeartbeats 1000000 in
theorem skip_yes (q : Nat) (S : ByteArray) (c : Nat) (l : List Nat) (w : World) (R : Rd q S (c :: l) w) :
    Calls Tryd.prog 114 #[.pointer (some ⟨q, 0, none⟩), .int .u8 (c : Int)] w fun e w' => e = .returned (.bool true) ∧ Hid (Go1 q S l w w') := by
  obtain ⟨k, hk, ha, hix, hc, hR⟩ := R.split
  have ht := R.text
  have hf := R.fz
  have hs := R.small
  have H0 : Hid (Rd q S (c :: l) w) := R
  have hlt : decide (k < S.size) = true := by simp; omega
  clear R hR
  go_enter Tryd.func114, Tryd.ntmps114
  go_wp2_with fail
  go_quiet (fail)
  have R2 : Rd q S (c :: l) (w.drewN nq) := H0.out.mv (Mv.drewN (fun _ => False) w nq) (fun h => h)
  have M2 : Hid (Mv (fun j => j = q) w (w.drewN nq)) := Mv.drewN _ w nq
  clear ht ha hf
  obtain ⟨W, hW⟩ : ∃ W, W = w.drewN nq := ⟨_, rfl⟩
  rw [← hW] at R2 M2
  rw [← hW]
  clear hW
  obtain ⟨k2, hk2, ha, _, _, hR⟩ := R2.split
  obtain rfl : k2 = k := by omega
  have ht := R2.text
  have hf := R2.fz
  have HR : Hid _ := hR
  clear R2 hR hk2
  go_wp2_with fail
  go_ret
  exact ⟨rfl, HR.out, M2.out.trans (Mv.setCell _ _ _) (fun _ _ h => h)⟩
set_option maxHeartbeats 1000000 in
theorem skip_no (q : Nat) (S : ByteArray) (b c : Nat) (l : List Nat) (w : World) (hb : c ≠ b) (R : Rd q S (c :: l) w) :
    Calls Tryd.prog 114 #[.pointer (some ⟨q, 0, none⟩), .int .u8 (b : Int)] w fun e w' => e = .returned (.bool false) ∧ Hid (Go1 q S (c :: l) w w') := by
  obtain ⟨k, hk, ha, hix, hc, hR⟩ := R.split
  have ht := R.text
  have hf := R.fz
  have hs := R.small
  have H0 : Hid (Rd q S (c :: l) w) := R
  have hlt : decide (k < S.size) = true := by simp; omega
  have hne : ((c : Int) == (b : Int)) = false := by simp; omega
  have hne2 : (c == b) = false := by simp; omega
  clear R hR
  go_enter Tryd.func114, Tryd.ntmps114
  go_wp2_with fail
  go_quiet (fail)
  go_wp2_with fail
  go_ret
  exact ⟨rfl, H0.out.mv (Mv.drewN (fun _ => False) w nq) (fun h => h), Mv.drewN _ w nq⟩
set_option maxHeartbeats 1000000 in
theorem skip_end (q : Nat) (S : ByteArray) (b : Nat) (w : World) (R : Rd q S [] w) :
    Calls Tryd.prog 114 #[.pointer (some ⟨q, 0, none⟩), .int .u8 (b : Int)] w fun e w' => e = .returned (.bool false) ∧ Hid (Go1 q S [] w w') := by
  have ha := R.nil
  have ht := R.text
  have hs := R.small
  have H0 : Hid (Rd q S [] w) := R
  have hlt : decide (S.size < S.size) = false := by simp
  clear R
  go_enter Tryd.func114, Tryd.ntmps114
  go_wp2_with fail
  go_quiet (fail)
  go_wp2_with fail
  go_ret
  exact ⟨rfl, H0.out.mv (Mv.drewN (fun _ => False) w nq) (fun h => h), Mv.drewN _ w nq⟩
theorem skip_any (q : Nat) (S : ByteArray) (b : Nat) (l : List Nat) (w : World) (R : Hid (Rd q S l w)) :
    Calls Tryd.prog 114 #[.pointer (some ⟨q, 0, none⟩), .int .u8 (b : Int)] w fun e w' => e = .returned (.bool (skp b l).1) ∧ Hid (Go1 q S (skp b l).2 w w') := by
  cases l with
  | nil => exact skip_end q S b w R.out
  | cons c l =>
    by_cases h : c = b
    · subst h
      have e : skp c (c :: l) = (true, l) := by simp [skp]
      rw [e]
      exact skip_yes q S c l w R.out
    · have e : skp b (c :: l) = (false, c :: l) := by simp [skp, h]
      rw [e]
      exact skip_no q S b c l w h R.out

end Go.Proofs.YtkclkhfcmjhogaaDoor
