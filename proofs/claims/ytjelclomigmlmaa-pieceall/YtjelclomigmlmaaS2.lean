/- A text that is none. -/
import Derived.Test.YtjelclomigmlmaaR1
namespace Go.Proofs.Ytjelclomigmlmaa
open Go.RowKit

theorem find_nil (z : Int) (w : World) : Calls Try.prog 19 #[.pointer none, .int .i64 z] w fun e w' => e = .returned (.tuple #[.int .i64 0, .int .i64 0, .int .i64 1]) ∧ w' = w := by
  go_enter Try.func19, Try.ntmps19
  go_wp2_with fail
  go_ret3
  exact ⟨rfl, rfl⟩
theorem edit_nil (a b : Int) (v : Value) (w : World) : Calls Try.prog 13 #[.pointer none, .int .i64 a, .int .i64 b, v] w fun e w' => e = .returned (.int .i64 1) ∧ w' = w := by
  go_enter Try.func13, Try.ntmps13
  go_wp2_with fail
  go_ret
  exact ⟨rfl, rfl⟩
theorem len_nil (w : World) : Calls Try.prog 18 #[.pointer none] w fun e w' => e = .returned (.int .i64 0) ∧ w' = w := by
  go_enter Try.func18, Try.ntmps18
  go_wp2_with fail
  go_ret
  exact ⟨rfl, rfl⟩
theorem pieces_nil (w : World) : Calls Try.prog 22 #[.pointer none] w fun e w' => e = .returned (.slice none 0 0) ∧ w' = w := by
  go_enter Try.func22, Try.ntmps22
  go_wp2_with fail
  go_ret
  exact ⟨rfl, rfl⟩
theorem added_nil (w : World) : Calls Try.prog 24 #[.pointer none] w fun e w' => e = .returned (.slice none 0 0) ∧ w' = w := by
  go_enter Try.func24, Try.ntmps24
  go_wp2_with fail
  go_ret
  exact ⟨rfl, rfl⟩
theorem copy_nil (w : World) : Calls Try.prog 17 #[.pointer none] w fun e w' => e = .returned (.pointer none) ∧ w' = w := by
  go_enter Try.func17, Try.ntmps17
  go_wp2_with fail
  go_ret
  exact ⟨rfl, rfl⟩

set_option maxHeartbeats 1000000 in
theorem newText2 (z : Int) (hz : z ≤ 10000) (w : World) :
    Calls Try.prog 11 #[.int .i64 z] w fun e w' => e = .returned (.pointer (some ⟨w.heap.size, 0, none⟩)) ∧ ∃ vl, Hid (RxAt w' w.heap.size (sp1 ⟨false, 0, z.toNat⟩) 0 (fun _ => 0) vl (.slice none 0 0) ∧ Qt w w' ∧ ∀ j, vl.ownBlock = some j → w.heap.size < j) := by
  obtain ⟨n, hn⟩ : ∃ n : Nat, n = z.toNat := ⟨_, rfl⟩
  have hn' : n ≤ 10000 := by omega
  have HN : Hid (∀ i : Nat, (i : Int) < z ↔ i < n) := fun i => by omega
  rw [← hn]
  clear hn hz
  have START : Hid (RxAt (w.alloc (.cells #[.slice none 0 0, .slice none 0 0] 46)) w.heap.size (sp1 ⟨false, 0, 0⟩) 0 (fun _ => 0) (.slice none 0 0) (.slice none 0 0)) := ⟨(alloc_new w _ 46 0 _ rfl).1, (alloc_new w _ 46 1 _ rfl).1, (alloc_new w _ 46 0 _ rfl).2, (alloc_new w _ 46 1 _ rfl).2, ow_nil _ _ _ _, own_nil _ _ _ _⟩
  obtain ⟨r, hr⟩ : ∃ r, r = w.heap.size := ⟨_, rfl⟩
  have HR : Hid (r = w.heap.size) := hr
  rw [← hr] at START
  rw [← hr]
  go_enter Try.func11, Try.ntmps11
  go_wp2_with fail
  rw [← hr]
  clear hr
  go_loopw [4] (fun vi wr => ∃ i : Nat, i ≤ n ∧ vi = .int .i64 i ∧ ∃ vl, Hid (RxAt wr r (sp1 ⟨false, 0, i⟩) 0 (fun _ => 0) vl (.slice none 0 0) ∧ Qt w wr ∧ ∀ j, vl.ownBlock = some j → r < j)) (fun vi _ => n - (intOf vi).toNat)
  case atStart => exact ⟨0, by omega, rfl, _, START.out, (Qt.refl w).alloc _, fun j e => (by simp [Value.ownBlock] at e)⟩
  case round =>
    clear START
    obtain ⟨i, hi, rfl, vl, R⟩ := hrel
    by_cases hlt : i < n
    · have hltz : (i : Int) < z := (HN.out i).2 hlt
      have c0 := R.out.1.c0
      have z0 := R.out.1.z0
      have hl : (sp1 ⟨false, 0, i⟩).length < 90000 := by rw [sp1_length]; show i - 0 < _; omega
      obtain ⟨v', W, hr, o, mm, x⟩ := append_2one wr 0 vl (sp1 ⟨false, 0, i⟩) false (i : Int) i rfl R.out.1.ll hl (Nat.zero_le _)
      have nr : vl.ownBlock ≠ some r := fun e => by have := R.out.2.2 r e; omega
      have nr' : ∀ j, v'.ownBlock = some j → r < j := by
        intro j e
        rcases x with x | ⟨g, x, y⟩
        · rw [x] at e; exact R.out.2.2 j e
        · rw [x] at e; cases e
          have := R.out.1.lt
          omega
      have d0 := mm.cell c0 nr
      have y0 := (mm.frozen (p := ⟨r, 0, none⟩) R.out.1.lt nr).trans z0
      have R2 : Hid (RxAt (W.setCell ⟨r, 0, none⟩ v') r (sp1 ⟨false, 0, i + 1⟩) 0 (fun _ => 0) v' (.slice none 0 0) ∧ Qt w (W.setCell ⟨r, 0, none⟩ v') ∧ ∀ j, v'.ownBlock = some j → r < j) := by
        refine ⟨?_, ?_, nr'⟩
        · rw [sp1_snoc false 0 i (Nat.zero_le _)]
          have k := Mv.setCell W ⟨r, 0, none⟩ v'
          refine ⟨World.cell?_setCell_same _ _ _ d0, ?_, ?_, ?_, k.owns o (fun j e (e' : j = r) => by have := nr' j e; omega), own_nil _ _ _ _⟩
          · rw [World.cell?_setCell_other _ _ _ _ (fun e => by cases e)]; exact mm.cell R.out.1.c1 nr
          · rw [World.frozen?_setCell]; exact y0
          · rw [World.frozen?_setCell]; exact (mm.frozen (p := ⟨r, 1, none⟩) R.out.1.lt nr).trans R.out.1.z1
        · have q1 : Qt w W := R.out.2.1.trans mm (fun j hj e => by have := R.out.2.2 j e; have := HR.out; omega)
          exact q1.trans (Mv.setCell W ⟨r, 0, none⟩ v') (fun j hj e => by have := HR.out; have e : j = r := e; omega)
      obtain ⟨va0, ca0, rfl, -⟩ := ow_ls R.out.1.ll
      obtain ⟨va1, ca1, rfl, -⟩ := ow_ls o
      clear R o mm x nr nr'
      generalize (sp1 ⟨false, 0, i⟩).length = l0 at *
      generalize (sp1 ⟨false, 0, i⟩ ++ [(false, i)]).length = l1 at *
      go_wp2_with (at_builtin; first | (refine wpList_append_given rfl _ _ 44 rfl _ _ _ W rfl rfl hr ?_))
      go_wp2_with fail
      exact ⟨⟨i + 1, by omega, by go_num, _, R2⟩, by simp [intOf]; omega⟩
    · have hge : z ≤ (i : Int) := by have := (HN.out i); omega
      obtain rfl : i = n := by omega
      go_wp2_with fail
      go_ret
      exact ⟨rfl, _, R.out.1, R.out.2.1, fun j e => R.out.2.2 j e⟩
end Go.Proofs.Ytjelclomigmlmaa
