/- The statements' first call: begun; bytes as texts. -/
import Derived.Test.YtjelclomigmlmaaD5
import Derived.Lib.SlBytesConst
namespace Go.Proofs.Ytjelclomigmlmaa
open Go.RowKit

/-- The text of the first n bytes. -/
def txt (f : Nat → Int) (n : Nat) : ByteArray := strOfNums ((List.range n).map f)
theorem conv_any (a : Option Addr) (n c : Nat) (f : Nat → Int) (w : World) (h : Sl w a n (By f)) : (convert 28 9 (.slice a n c)).run Try.prog w = .ok (.string (txt f n)) w := by
  by_cases h0 : n = 0
  · subst h0
    cases a with
    | none => exact run_convert_bytes_nil w 28 5 Try.underlying28 Try.underlying5 0 c 9 Try.underlying9
    | some p =>
      have hl : (loadCells p 0).run Try.prog w = .ok (([] : List Int).map (Value.int .u8)).toArray w := by simpa using run_loadCells_list (P := Try.prog) w p [] (by simp)
      rw [run_convert_bytes_string w 28 9 5 (some p) 0 c Try.underlying28 Try.underlying5 Try.underlying9, run_bytesToString w p 0 c [] hl]
      rfl
  · obtain ⟨b, off, rfl, _, _⟩ := h 0 (by omega)
    refine run_convert_bytes_arg w 28 5 Try.underlying28 Try.underlying5 b off n c _ (by simp) ?_ 9 Try.underlying9
    intro i hi
    obtain ⟨b', off', e, _, hc⟩ := h i hi
    cases e
    rw [hc]
    simp [By, List.getD, hi]

theorem Qt.below {w w' : World} (h : Qt w w') (B : Nat) (hB : B ≤ w.heap.size) : Below B w w' := Mv.below h hB (fun _ _ h => h)

/-- What begun's text is. -/
def L4 : List Bt := ins (sp1 ⟨false, 0, 4⟩) 2 2 0 1
theorem L4_nf : nf L4 = [⟨false, 0, 2⟩, ⟨true, 0, 1⟩, ⟨false, 2, 4⟩] := by rfl
/-- Bytes of a text that is written out. -/
theorem sl_lit (w : World) (C : Array Value) (fr : Nat × Nat) (f : Nat → Int) (hf : ∀ i, i < C.size → C[i]? = some (By f i)) : Sl (w.alloc (.cells C 5 fr)) (some ⟨w.heap.size, 0, none⟩) C.size (By f) := by
  intro i hi
  exact ⟨_, _, rfl, by simp, by rw [Nat.zero_add, World.cell?_alloc_mark]; exact hf i hi⟩
theorem sl_x (w : World) : Sl (w.alloc (.cells #[.int .u8 120] 5 (1, 2))) (some ⟨w.heap.size, 0, none⟩) 1 (By fun _ => 120) := sl_lit w #[.int .u8 120] (1, 2) (fun _ => 120) (fun i hi => by
  have hi : i < 1 := hi
  obtain rfl : i = 0 := by omega
  rfl)
theorem kc28 (w : World) (C : Array Value) (n c : Nat) : (convert 28 28 (.slice (some ⟨w.heap.size, 0, none⟩) n c)).run Try.prog (w.alloc (.cells C 5)) = .ok (.slice (some ⟨w.heap.size, 0, none⟩) n c) (w.alloc (.cells C 5 (C.size, C.size + 1))) := Lib.run_convert_bytes_const (P := Try.prog) w 28 5 C n c Try.underlying28 Try.underlying5
theorem txt_x : txt (catI (fun _ => 0) 0 (fun _ => 120)) (0 + 1) = ⟨#[120]⟩ := by rfl

/-- What a text keeps away from, its callers may turn; what is below B stays. -/
theorem Tx.edit {w w' w0 : World} {B : Nat} {Y : Nat → Prop} (h : Below B w0 w) (m : Mv (fun j => ¬ Y j) w w') (hB : B ≤ w0.heap.size) (hY : ∀ k, k < B → Y k) : Below B w0 w' :=
  h.trans (m.below (Nat.le_trans hB h.size) (fun k hk hn => hn (hY k hk)))

set_option maxHeartbeats 2000000 in
theorem begun_any (w : World) : Calls Try.prog 9 #[] w fun e w' => e = .returned (.bool true) ∧ Below w.heap.size w w' := by
  have e28 := kc28
  have N4 : Hid (nf L4 = [⟨false, 0, 2⟩, ⟨true, 0, 1⟩, ⟨false, 2, 4⟩]) := L4_nf
  go_enter Try.func9, Try.ntmps9
  go_wp2_with fail
  refine (new_any 4 (by omega) w).mono ?_
  rintro e w1 ⟨q, rfl, hq, T1⟩
  have T1a : Hid (Tx w1 q 4 (sp1 ⟨false, 0, 4⟩) 0 (fun _ => 0) (fun k => k < w.heap.size)) := T1.out.1
  have B1 : Hid (Below w.heap.size w w1) := T1.out.2.below _ (Nat.le_refl _)
  clear T1
  go_wp2_with fail
  have T1b : Hid (Tx (w1.alloc (.cells #[.int .u8 120] 5 (1, 2))) q 4 (sp1 ⟨false, 0, 4⟩) 0 (fun _ => 0) (fun k => k < w.heap.size)) := (T1a.out.qt ((Qt.refl w1).alloc _)).mono (fun k hk => .inl hk)
  refine (edit_ok T1b 2 2 (some ⟨w1.heap.size, 0, none⟩) 1 1 (fun _ => 120) (by omega) (by rw [sp1_length]; decide) (by omega) (sl_x w1) (fun e => by cases e) (by omega) (by rw [sp1_length]; decide)).mono ?_
  rintro e w2 ⟨rfl, T2⟩
  have T2a : Hid (Tx w2 q 4 L4 (0 + 1) (catI (fun _ => 0) 0 (fun _ => 120)) (fun k => k < w.heap.size)) := T2.out.1
  have B2 : Hid (Below w.heap.size w w2) := Tx.edit (B1.out.alloc B1.out.size _) T2.out.2 (Nat.le_refl _) (fun _ h => h)
  clear T2 T1a T1b B1
  go_wp2_with fail
  refine (pieces_any T2a).mono ?_
  rintro e w3 ⟨v, rfl, T3⟩
  have T3a : Hid (Tx w3 q 4 L4 (0 + 1) (catI (fun _ => 0) 0 (fun _ => 120)) (fun k => k < w.heap.size)) := (T2a.out.qt T3.out.2).mono (fun k hk => .inl hk)
  have B3 : Hid (Below w.heap.size w w3) := B2.out.trans (T3.out.2.below _ B2.out.size)
  obtain ⟨a3, c3, rfl, l3, -⟩ := ow_ls T3.out.1
  obtain ⟨b, off, rfl, hb, d0, -⟩ := ls_get (i := 1) (p := ⟨true, 0, 1⟩) l3 (by rw [N4.out]; rfl)
  have hL : (nf L4).length = 3 := by rw [N4.out]; rfl
  rw [hL]
  clear hL l3 T3 T2a B2
  go_wp2_with fail
  refine (find_ok T3a 3 (by decide)).mono ?_
  rintro e w4 ⟨rfl, q4⟩
  have hp1 : (plc (nf L4) 3).1 = 2 := by rw [N4.out]; rfl
  have hp2 : (plc (nf L4) 3).2 = 0 := by rw [N4.out]; rfl
  rw [hp1, hp2]
  clear hp1 hp2
  have T4a : Hid (Tx w4 q 4 L4 (0 + 1) (catI (fun _ => 0) 0 (fun _ => 120)) (fun k => k < w.heap.size)) := (T3a.out.qt q4.out).mono (fun k hk => .inl hk)
  have B4 : Hid (Below w.heap.size w w4) := B3.out.trans (q4.out.below _ B3.out.size)
  have d4 := q4.out.cell d0 (fun h => h)
  clear d0 q4 T3a B3
  go_wp2_with fail
  refine (len_any T4a).mono ?_
  rintro e w5 ⟨rfl, q5⟩
  have hL : L4.length = 5 := rfl
  rw [hL]
  clear hL
  have T5a : Hid (Tx w5 q 4 L4 (0 + 1) (catI (fun _ => 0) 0 (fun _ => 120)) (fun k => k < w.heap.size)) := (T4a.out.qt q5.out).mono (fun k hk => .inl hk)
  have B5 : Hid (Below w.heap.size w w5) := B4.out.trans (q5.out.below _ B4.out.size)
  clear q5 T4a B4
  go_wp2_with fail
  refine (added_any T5a).mono ?_
  rintro e w6 ⟨v, rfl, T6⟩
  have B6 : Hid (Below w.heap.size w w6) := B5.out.trans (T6.out.2.below _ B5.out.size)
  obtain ⟨a6, c6, rfl, s6, -⟩ := T6.out.1.sl
  have cv := conv_any a6 _ c6 _ w6 s6
  rw [txt_x] at cv
  clear s6 T6 T5a B5
  go_wp2_with fail
  go_ret
  exact ⟨by simp, B6.out⟩
end Go.Proofs.Ytjelclomigmlmaa
