/- Sort. -/
import Derived.Test.YthfadeoanjjiaaaY5
import Derived.Test.YthfadeoanjjiaaaF2
import Derived.Laws.MakeOwn
import Derived.Laws.OwnMore
import Derived.Laws.IdiomCopy
namespace Go.Proofs.Ythfadeoanjjiaaa
open Go.RowKit Srt

theorem made_run (n : Nat) (hn : n < 1000) (w : World) : (Instr.makeSlice 22 (.int .i64 n) (.int .i64 n)).run Try.prog w = .ok (.slice (some ⟨w.heap.size, 0, none⟩) n n) (w.alloc (.cells (madeCells #[.float .f64 0] n) 23)) := by
  have := run_makeSlice (P := Try.prog) w 22 23 Try.t23 (.float .f64 0) Try.underlying22 (by kernel_rfl) (by kernel_rfl) .i64 .i64 n n (by omega) (by omega) (by show (n : Int).toNat * 1 ≤ _; omega) (by show ((8 : Nat) : Int) * n ≤ _; omega) (by omega)
  have e : (n : Int).toNat = n := by omega
  rw [e, show n * Try.t23.size = n from by rw [show Try.t23.size = 1 from by kernel_rfl, Nat.mul_one]] at this
  exact this

theorem alloc_new (w : World) (cs : Array Value) (t : TypeId) (i : Nat) (v : Value) (h : cs[i]? = some v) : (w.alloc (.cells cs t)).cell? ⟨w.heap.size, i, none⟩ = some v ∧ (w.alloc (.cells cs t)).frozen? ⟨w.heap.size, i, none⟩ = false := by
  exact ⟨(World.cell?_alloc_at _ _ _ _ rfl).trans h, World.frozen?_alloc_at _ _ _ _ rfl⟩

theorem addr_add (b off i : Nat) : (⟨b, off, none⟩ : Addr).add i = ⟨b, off + i, none⟩ := by unfold Addr.add; split <;> simp_all
theorem below_setCells {B b : Nat} (hb : B ≤ b) (w0 : World) : ∀ (vs : List Value) (o : Nat) (w : World), Below B w0 w → Below B w0 (w.setCells b o vs)
  | [], _, _, h => h
  | v :: r, o, _, h => below_setCells hb w0 r (o + 1) _ (h.setCell (p := ⟨b, o, none⟩) hb v)

theorem copied_run (a : Option Addr) (n cap : Nat) (f : Nat → Nat) (w : World) (hl : Sl w a n f) : ∃ W, (Builtin.copy_ #[22, 22] 3 #[.slice (some ⟨w.heap.size, 0, none⟩) n n, .slice a n cap]).run Try.prog (w.alloc (.cells (madeCells #[.float .f64 0] n) 23)) = .ok (goInt n) W ∧ Rw W w.heap.size n f ∧ Below w.heap.size w W := by
  have hm : ∀ i, i < n → (madeCells #[Value.float .f64 0] n)[i]? = some (.float .f64 0) := by
    intro i hi
    have := toList_madeCells_one (.float .f64 0) n
    rw [← Array.getElem?_toList, this, List.getElem?_replicate, if_pos hi]
  have hb : Below w.heap.size w (w.alloc (.cells (madeCells #[.float .f64 0] n) 23)) := (Below.refl _ _).alloc (Nat.le_refl _) _
  by_cases h0 : n = 0
  · subst h0
    refine ⟨_, run_copy_none _ 22 22 3 23 _ _ 0 0 0 cap Try.underlying22 (by kernel_rfl) rfl, fun i hi => by omega, hb⟩
  · obtain ⟨b, off, rfl, _, _⟩ := hl 0 (by omega)
    have hcells : ∀ i, i < n → (w.alloc (.cells (madeCells #[Value.float .f64 0] n) 23)).cell? ⟨b, off + i, none⟩ = some (.float .f64 (f i)) := by
      intro i hi
      obtain ⟨b', off', e, hb', hc⟩ := hl i hi
      cases e
      exact (hb.cell hb').trans hc
    have hr := run_copy_cells (P := Try.prog) (w.alloc (.cells (madeCells #[.float .f64 0] n) 23)) 22 22 3 23 w.heap.size 0 n n ⟨b, off, none⟩ n cap ((row f n).map (Value.float .f64)) Try.underlying22 (by kernel_rfl) (by simp [row_length])
      (by
        intro j v hj
        rw [List.getElem?_map] at hj
        by_cases h : j < n
        · rw [List.getElem?_eq_getElem (by rw [row_length]; exact h), row_get] at hj
          cases hj
          rw [addr_add]
          exact hcells j h
        · rw [List.getElem?_eq_none (by rw [row_length]; omega)] at hj
          cases hj)
      (by
        intro j hj
        rw [List.length_map, row_length] at hj
        rw [Nat.zero_add, (alloc_new w _ 23 j _ (hm j hj)).1]
        rfl)
      (by
        intro j hj
        rw [List.length_map, row_length] at hj
        rw [Nat.zero_add]
        exact (alloc_new w _ 23 j _ (hm j hj)).2)
      (by
        intro v hv
        obtain ⟨x, _, rfl⟩ := List.mem_map.1 hv
        rfl)
    rw [List.length_map, row_length] at hr
    refine ⟨_, hr, ?_, ?_⟩
    · intro i hi
      have h1 := World.cell?_setCells_in w.heap.size ((row f n).map (Value.float .f64)) 0 (w.alloc (.cells (madeCells #[.float .f64 0] n) 23)) (by
        intro j hj
        rw [List.length_map, row_length] at hj
        rw [Nat.zero_add, (alloc_new w _ 23 j _ (hm j hj)).1]
        rfl) i (by rw [List.length_map, row_length]; exact hi)
      rw [Nat.zero_add, List.getElem_map, row_get] at h1
      refine ⟨h1, ?_⟩
      rw [World.frozen?_setCells]
      exact (alloc_new w _ 23 i _ (hm i hi)).2
    · exact below_setCells (Nat.le_refl _) w _ _ _ hb

set_option maxRecDepth 100000 in
set_option maxHeartbeats 1000000 in
theorem sort_any (a : Option Addr) (n cap : Nat) (f : Nat → Nat) (w : World) (hn : n < 40) (hl : Hid (Sl w a n f)) (hf : Hid (∀ i, Fl.Ok (f i))) :
    Calls Try.prog 20 #[.slice a n cap] w fun e w' => ∃ blk, e = .returned (.slice (some ⟨blk, 0, none⟩) n n) ∧ Hid (w.heap.size ≤ blk) ∧ Hid (∃ g, Rw w' blk n g ∧ Sw 0 n f g ∧ Up Fl.key g 0 n) ∧ Hid (Below w.heap.size w w') := by
  have hmk := made_run n (by omega) w
  obtain ⟨W, hcp, hR, hB⟩ := copied_run a n cap f w hl.out
  have R : Hid _ := hR
  have B : Hid _ := hB
  clear hR hB
  go_enter Try.func20, Try.ntmps20
  go_wp2_with fail
  refine (sortStable_any _ n f _ hn hf R).mono ?_
  rintro e w1 ⟨rfl, g, h1, h2, h3, h4⟩
  have D : Hid _ := h1
  have E : Hid _ := h2
  have F : Hid _ := h3
  have G : Hid _ := h4
  clear h1 h2 h3 h4
  go_wp2_with fail
  go_ret
  exact ⟨_, rfl, Nat.le_refl _, ⟨g, D, E, F⟩, B.out.trans G.out⟩

end Go.Proofs.Ythfadeoanjjiaaa
