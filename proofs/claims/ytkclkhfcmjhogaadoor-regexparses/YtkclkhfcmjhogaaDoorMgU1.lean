/- The reference's reader: its state; is, fail. -/
import Derived.Test.YtkclkhfcmjhogaaDoorMgX
import Derived.Test.YtkclkhfcmjhogaaDoorMgR
import Derived.Test.YtkclkhfcmjhogaaDoorMgB
import Derived.BigQuiet
namespace Go.Proofs.YtkclkhfcmjhogaaDoor
open Go.RowKit
set_option linter.unusedVariables false

/-- The reader, at a place: its text, the place, how deep, and what went wrong. -/
abbrev B4 (q : Nat) (S : ByteArray) (k d e : Int) (w : World) : Prop := w.heap[q]? = some (.cells #[.string S, .int .i64 k, .int .i64 d, .int .i64 e] 57 (0, 0))
theorem B4.mv {X : Nat → Prop} {q : Nat} {S : ByteArray} {k d e : Int} {w w' : World} (h : B4 q S k d e w) (m : Mv X w w') (hx : ¬ X q) : Hid (B4 q S k d e w') := (m.block q (Array.getElem?_eq_some_iff.1 h).1 hx).trans h
theorem B4.facts {q : Nat} {S : ByteArray} {k d e : Int} {w : World} (h : Hid (B4 q S k d e w)) : w.cell? ⟨q, 0, none⟩ = some (.string S) ∧ w.cell? ⟨q, 1, none⟩ = some (.int .i64 k) ∧ w.cell? ⟨q, 2, none⟩ = some (.int .i64 d) ∧ w.cell? ⟨q, 3, none⟩ = some (.int .i64 e) ∧ w.frozen? ⟨q, 1, none⟩ = false ∧ w.frozen? ⟨q, 2, none⟩ = false ∧ w.frozen? ⟨q, 3, none⟩ = false := by
  have h' := h.out
  unfold B4 at h'
  refine ⟨?_, ?_, ?_, ?_, ?_, ?_, ?_⟩ <;> simp [World.cell?, World.frozen?, h']
theorem B4.lt {q : Nat} {S : ByteArray} {k d e : Int} {w : World} (h : B4 q S k d e w) : q < w.heap.size := (Array.getElem?_eq_some_iff.1 h).1
theorem B4.at {q : Nat} {S : ByteArray} {k d e : Int} {w : World} (h : B4 q S k d e w) (k' : Int) : B4 q S k' d e (w.setCell ⟨q, 1, none⟩ (.int .i64 k')) := heap_set h
theorem B4.deep {q : Nat} {S : ByteArray} {k d e : Int} {w : World} (h : B4 q S k d e w) (d' : Int) : B4 q S k d' e (w.setCell ⟨q, 2, none⟩ (.int .i64 d')) := heap_set h
theorem B4.err {q : Nat} {S : ByteArray} {k d e : Int} {w : World} (h : B4 q S k d e w) (e' : Int) : B4 q S k d e' (w.setCell ⟨q, 3, none⟩ (.int .i64 e')) := heap_set h
/-- The reader reads: l is left. -/
structure Ok4 (q : Nat) (S : ByteArray) (l : List Nat) (n : Nat) (w : World) : Prop where
  at_ : B4 q S ((S.size - l.length : Nat) : Int) ((13 - n : Nat) : Int) 0 w
  sf : Sf S (S.size - l.length) l
  le : l.length ≤ S.size
  room : S.size ≤ 120
  deep : n ≤ 13
/-- Something went wrong. -/
structure Er4 (q : Nat) (S : ByteArray) (e : Int) (n : Nat) (w : World) : Prop where
  at_ : ∃ k d : Int, B4 q S k d e w ∧ (0 ≤ k ∧ k ≤ 300 + n) ∧ (-(300 + (n : Int)) ≤ d ∧ d ≤ 300)
  ne : e ≠ 0
  room : S.size ≤ 120

set_option maxRecDepth 20000 in
set_option maxHeartbeats 2000000 in
theorem ris_end (q : Nat) (S : ByteArray) (k d e : Int) (c : Nat) (w : World) (h : Hid (B4 q S k d e w)) (hk : (S.size : Int) ≤ k) (hs : S.size ≤ 120) : Calls Tryd.prog 49 #[.pointer (some ⟨q, 0, none⟩), .int .u8 c] w fun e w' => e = .returned (.bool false) ∧ Hid (Qt w w') := by
  obtain ⟨k0, k1, k2, k3, _⟩ := B4.facts h
  have hk2 : decide (k < (S.size : Int)) = false := by simp; omega
  go_enter Tryd.func49, Tryd.ntmps49
  go_wp2_with fail
  go_quiet (fail)
  go_wp2_with fail
  go_ret
  exact ⟨rfl, Mv.drewN _ _ _⟩
set_option maxRecDepth 20000 in
set_option maxHeartbeats 2000000 in
theorem ris_at (q : Nat) (S : ByteArray) (k : Nat) (d e : Int) (c x : Nat) (w : World) (h : Hid (B4 q S k d e w)) (hi : ∀ w, (Instr.index 9 (.string S) (.int .i64 (k : Int))).run Tryd.prog w = .ok (.int .u8 (x : Int)) w) (hk : k < S.size) (hs : S.size ≤ 120) (b : Bool) (hb : ((x : Int) == (c : Int)) = b) : Calls Tryd.prog 49 #[.pointer (some ⟨q, 0, none⟩), .int .u8 c] w fun e w' => e = .returned (.bool b) ∧ Hid (Qt w w') := by
  obtain ⟨k0, k1, k2, k3, _⟩ := B4.facts h
  have hk2 : decide (k < S.size) = true := by simp; omega
  have hk3 : decide ((k : Int) < (S.size : Int)) = true := by simp; omega
  have hk4 : (k : Int) < (S.size : Int) := by omega
  have hk5 : (0 : Int) ≤ (k : Int) := by omega
  go_enter Tryd.func49, Tryd.ntmps49
  go_wp2_with fail
  go_quiet (fail)
  go_wp2_with fail
  go_ret
  exact ⟨rfl, Mv.drewN _ _ _⟩

/-- Does c come next? -/
def hdc (l : List Nat) (c : Nat) : Bool := match l with
  | [] => false
  | x :: _ => x == c
theorem ris_ok {q : Nat} {S : ByteArray} {l : List Nat} {n : Nat} {w : World} (h : Hid (Ok4 q S l n w)) (c : Nat) : Calls Tryd.prog 49 #[.pointer (some ⟨q, 0, none⟩), .int .u8 c] w fun e w' => e = .returned (.bool (hdc l c)) ∧ Hid (Qt w w') := by
  cases l with
  | nil => exact ris_end q S _ _ _ c w (show Hid _ from h.out.at_) (by simp) h.out.room
  | cons x t =>
    have hs := h.out.sf.size
    have hl := h.out.le
    simp only [List.length_cons] at hs hl
    have hr := h.out.room
    exact ris_at q S (S.size - (x :: t).length) _ _ c x w (show Hid _ from h.out.at_) (h.out.sf.at).1 (by simp; omega) hr _ (by
      show ((x : Int) == (c : Int)) = (x == c)
      exact Bool.eq_iff_iff.2 (by simp; omega))
theorem ris_er {q n : Nat} {S : ByteArray} {e : Int} {w : World} (h : Hid (Er4 q S e n w)) (c : Nat) : Calls Tryd.prog 49 #[.pointer (some ⟨q, 0, none⟩), .int .u8 c] w fun r w' => (∃ b, r = .returned (.bool b)) ∧ Hid (Qt w w') := by
  obtain ⟨k, d, hB, ⟨hk0, hk1⟩, _⟩ := h.out.at_
  have hr := h.out.room
  by_cases hk : (S.size : Int) ≤ k
  · exact (ris_end q S k d e c w (show Hid _ from hB) hk hr).mono fun r w' ⟨h1, h2⟩ => ⟨⟨_, h1⟩, h2⟩
  · obtain ⟨m, rfl⟩ : ∃ m : Nat, k = m := ⟨k.toNat, by omega⟩
    have hm : m < (bs S).length := by rw [bs_length]; omega
    have hsp : bs S = (bs S).take m ++ (bs S)[m] :: (bs S).drop (m + 1) := by rw [← List.drop_eq_getElem_cons hm, List.take_append_drop]
    have hi := index_run S ((bs S).take m) ((bs S).drop (m + 1)) ((bs S)[m]) hsp
    rw [List.length_take, Nat.min_eq_left (Nat.le_of_lt hm)] at hi
    exact (ris_at q S m d e c ((bs S)[m]) w (show Hid _ from hB) hi (by omega) hr _ rfl).mono fun r w' ⟨h1, h2⟩ => ⟨⟨_, h1⟩, h2⟩

set_option maxRecDepth 20000 in
set_option maxHeartbeats 1000000 in
theorem rfail_ok (q : Nat) (S : ByteArray) (k d e : Int) (w : World) (h : Hid (B4 q S k d 0 w)) : Calls Tryd.prog 34 #[.pointer (some ⟨q, 0, none⟩), .int .i64 e] w fun r w' => r = .returned (.tuple #[]) ∧ w' = w.setCell ⟨q, 3, none⟩ (.int .i64 e) := by
  obtain ⟨k0, k1, k2, k3, f1, f2, f3⟩ := B4.facts h
  go_enter Tryd.func34, Tryd.ntmps34
  go_wp2_with fail
  go_end0
  exact ⟨rfl, rfl⟩
set_option maxRecDepth 20000 in
set_option maxHeartbeats 1000000 in
theorem rfail_er (q : Nat) (S : ByteArray) (k d e0 e : Int) (w : World) (h : Hid (B4 q S k d e0 w)) (hne : e0 ≠ 0) : Calls Tryd.prog 34 #[.pointer (some ⟨q, 0, none⟩), .int .i64 e] w fun r w' => r = .returned (.tuple #[]) ∧ w' = w := by
  obtain ⟨k0, k1, k2, k3, f1, f2, f3⟩ := B4.facts h
  have hb : (e0 == 0) = false := beq_false_of_ne hne
  go_enter Tryd.func34, Tryd.ntmps34
  go_wp2_with fail
  go_end0
  exact ⟨rfl, rfl⟩

theorem Ok4.mv {X : Nat → Prop} {q : Nat} {S : ByteArray} {l : List Nat} {n : Nat} {w w' : World} (h : Hid (Ok4 q S l n w)) (m : Mv X w w') (hx : ¬ X q) : Hid (Ok4 q S l n w') :=
  ⟨(B4.mv h.out.at_ m hx).out, h.out.sf, h.out.le, h.out.room, h.out.deep⟩
theorem Er4.mv {X : Nat → Prop} {q n : Nat} {S : ByteArray} {e : Int} {w w' : World} (h : Hid (Er4 q S e n w)) (m : Mv X w w') (hx : ¬ X q) : Hid (Er4 q S e n w') := by
  obtain ⟨k, d, hB, h1, h2⟩ := h.out.at_
  exact ⟨⟨k, d, (B4.mv hB m hx).out, h1, h2⟩, h.out.ne, h.out.room⟩
theorem Ok4.lt {q : Nat} {S : ByteArray} {l : List Nat} {n : Nat} {w : World} (h : Hid (Ok4 q S l n w)) : q < w.heap.size := h.out.at_.lt
theorem Ok4.bad {q : Nat} {S : ByteArray} {l : List Nat} {n : Nat} {w : World} (h : Hid (Ok4 q S l n w)) {e : Int} (he : e ≠ 0) : Hid (Er4 q S e n (w.setCell ⟨q, 3, none⟩ (.int .i64 e))) := by
  have hr := h.out.room
  have hd := h.out.deep
  exact ⟨⟨_, _, h.out.at_.err e, by omega, by omega⟩, he, hr⟩
/-- What a call of the reader tells, and leaves. -/
def Rr4 (q : Nat) (S : ByteArray) (n : Nat) (w : World) (r : Res) (e : Ending) (w' : World) : Prop :=
  ∃ x a c, e = .returned (.agg #[.int .i64 x.kind, .int .u64 (limb x.set 0), .int .u64 (limb x.set 1), .int .u64 (limb x.set 2), .int .u64 (limb x.set 3), .slice a x.args.length c]) ∧ Hid (Parts x.args (fun j => w.heap.size ≤ j) w' a c) ∧ Hid (Mv (fun j => j = q) w w') ∧
    match r with
    | .ok (y, t) => x = y ∧ Hid (Ok4 q S t n w')
    | .error k => Hid (Er4 q S k n w') ∧ x.args.length < 1000
theorem ext_of {S : ByteArray} {k : Nat} {l : List Nat} (h : Sf S k l) : S.extract k S.size = str l := by
  obtain ⟨pre, h1, h2⟩ := h
  apply bs_inj
  rw [bs_str l (fun c hc => bs_lt S c (by rw [h1]; simp [hc]))]
  have e : bs (S.extract k S.size) = (bs S).drop k := by
    unfold bs
    rw [ByteArray.data_extract, Array.toList_extract]
    simp [List.extract]
    rw [← List.map_drop, List.take_of_length_le]
    simp
  rw [e, h1, ← h2]
  simp

end Go.Proofs.YtkclkhfcmjhogaaDoor
