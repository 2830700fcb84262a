/- The statements' first call: begun. -/
import Derived.Test.YthfadeoanjjiaaaZ1
import Derived.Laws.NewBlocks
namespace Go.Proofs.Ythfadeoanjjiaaa
open Go.RowKit Srt

/-- The numbers of a list, nought behind. -/
def at' (l : List Nat) : Nat → Nat := fun i => l.getD i 0
theorem at_ok {l : List Nat} (h : ∀ x ∈ l, Fl.Ok x) (i : Nat) : Fl.Ok (at' l i) := by
  unfold at'
  by_cases hi : i < l.length
  · rw [show l.getD i 0 = l[i] from by simp [List.getD, List.getElem?_eq_getElem hi]]
    exact h _ (List.getElem_mem hi)
  · rw [show l.getD i 0 = 0 from by simp [List.getD, List.getElem?_eq_none (Nat.le_of_not_lt hi)]]
    unfold Fl.Ok; omega

theorem sl_lit (w : World) (l : List Nat) (cs : Array Value) (h : cs = (l.map (Value.float .f64)).toArray) : Sl (w.alloc (.cells cs 23)) (some ⟨w.heap.size, 0, none⟩) l.length (at' l) := by
  subst h
  intro i hi
  refine ⟨_, _, rfl, by simp, ?_⟩
  rw [Nat.zero_add]
  refine (alloc_new w _ 23 i _ ?_).1
  unfold at'
  simp [List.getD, List.getElem?_eq_getElem hi]

theorem got_lit {o : Option Nat} {r x : Nat} (h : Got o r) (k : o = some x) : r = x := by
  rcases h with ⟨h, _⟩ | ⟨h, _⟩
  · rw [k] at h; cases h; rfl
  · rw [k] at h; cases h
theorem got_nan {o : Option Nat} {r : Nat} (h : Got o r) (k : o = none) : Fl.nan r = true := by
  rcases h with ⟨h, _⟩ | ⟨_, h, _⟩
  · rw [k] at h; cases h
  · exact h

/-- Which one it is, of a list whose words are laid open. -/
theorem ext_is {side : Int} {l : List Nat} {n x : Nat} {is : Bool} (h : Ext side (at' l) n x is) (p : Nat) (hp : p < n) (hn : Fl.nan (at' l p) = false) (hq : ∀ i, i < n → Fl.nan (at' l i) = false → i ≠ p → ordB (at' l p) (at' l i) = side) : x = at' l p ∧ is = true := by
  rcases h with ⟨_, _, h⟩ | ⟨h1, ⟨i, hi, rfl⟩, h3, h4⟩
  · have := h p hp
    rw [hn] at this; cases this
  · refine ⟨?_, h1⟩
    by_cases e : i = p
    · rw [e]
    · exact absurd (hq i hi h3 e) (h4 p hp hn)

theorem least21 {x : Nat} {is : Bool} (h : Ext (-1) (at' [4611686018427387904, 4607182418800017408]) 2 x is) : x = 4607182418800017408 ∧ is = true :=
  ext_is h 1 (by omega) (by decide +kernel) (by decide +kernel)
theorem most21 {x : Nat} {is : Bool} (h : Ext 1 (at' [4611686018427387904, 4607182418800017408]) 2 x is) : x = 4611686018427387904 ∧ is = true :=
  ext_is h 0 (by omega) (by decide +kernel) (by decide +kernel)

theorem ok_all2 : ∀ i, Fl.Ok (at' [4611686018427387904, 4607182418800017408] i) := at_ok (by intro x hx; simp at hx; unfold Fl.Ok; omega)
theorem ok_all1 : ∀ i, Fl.Ok (at' [4607182418800017408] i) := at_ok (by intro x hx; simp at hx; unfold Fl.Ok; omega)

set_option maxRecDepth 100000 in
set_option maxHeartbeats 2000000 in
theorem begun_any (w : World) : Calls Try.prog 9 #[] w fun e w' => e = .returned (.bool true) ∧ Below w.heap.size w w' := by
  have q1 : (FloatKind.f64.format.order 4613937818241073152 4613937818241073152 == some .eq) = true := by decide +kernel
  have q2 : (FloatKind.f64.format.order 4618441417868443648 4618441417868443648 == some .eq) = true := by decide +kernel
  have q3 : (FloatKind.f64.format.order 4607182418800017408 4607182418800017408 == some .eq) = true := by decide +kernel
  have q4 : (FloatKind.f64.format.order 4611686018427387904 4611686018427387904 == some .eq) = true := by decide +kernel
  have s1 : Hid _ := sl_lit w [4611686018427387904, 4607182418800017408] _ rfl
  go_enter Try.func9, Try.ntmps9
  go_wp2_with fail
  refine (least_any _ 2 2 _ _ (by omega) s1 ok_all2).mono ?_
  rintro e W1 ⟨⟨x, is, rfl, hx⟩, hw⟩
  obtain ⟨rfl, rfl⟩ := least21 hx.out
  have b1 : Hid (Below w.heap.size w W1) := by show Below _ _ _; rw [hw]; exact (Below.refl w.heap.size w).alloc (Nat.le_refl _) _
  clear hx s1 hw
  have s2 : Hid _ := sl_lit W1 [4611686018427387904, 4607182418800017408] _ rfl
  go_wp2_with fail
  refine (most_any _ 2 2 _ _ (by omega) s2 ok_all2).mono ?_
  rintro e W2 ⟨⟨x, is, rfl, hx⟩, hw⟩
  obtain ⟨rfl, rfl⟩ := most21 hx.out
  have b2 : Hid (Below w.heap.size w W2) := by show Below _ _ _; rw [hw]; exact b1.out.alloc b1.out.size _
  clear hx s2 hw b1
  have s3 : Hid _ := sl_lit W2 [4607182418800017408, 4611686018427387904] _ rfl
  have b3 : Hid _ := b2.out.alloc b2.out.size (.cells #[.float .f64 4607182418800017408, .float .f64 4611686018427387904] 23)
  clear b2
  go_wp2_with fail
  refine (sum_any _ 2 2 _ _ (by omega) s3).mono ?_
  rintro e W3 ⟨r, rfl, hr, hb⟩
  obtain rfl := got_lit hr.out (show sumO (at' [4607182418800017408, 4611686018427387904]) 2 = some 4613937818241073152 by decide +kernel)
  have b4 : Hid (Below w.heap.size w W3) := chain b3.out hb
  clear hb hr b3 s3
  go_wp2_with fail
  refine (times_any 4611686018427387904 3 _).mono ?_
  rintro e W4 ⟨r, q, rfl, hr, hw⟩
  obtain rfl := got_lit hr.out (show Ieee.double.mul 4611686018427387904 (floatOfInt .f64 3) = some 4618441417868443648 by decide +kernel)
  have b5 : Hid (Below w.heap.size w W4) := by show Below _ _ _; rw [hw]; exact b4.out.trans (below_drewN _ _ _)
  clear hw hr b4
  have s5 : Hid _ := sl_lit W4 [4607182418800017408] _ rfl
  have b6 : Hid _ := b5.out.alloc b5.out.size (.cells #[.float .f64 4607182418800017408] 23)
  clear b5
  go_wp2_with fail
  refine (sort_any _ 1 1 _ _ (by omega) s5 ok_all1).mono ?_
  rintro e W5 ⟨blk, rfl, _, _, hb⟩
  have b7 : Hid (Below w.heap.size w W5) := chain b6.out hb.out
  clear hb b6
  go_wp2_with fail
  go_ret
  exact ⟨rfl, b7.out⟩

end Go.Proofs.Ythfadeoanjjiaaa
