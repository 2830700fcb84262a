/- The reference: Has, Of, in. -/
import Derived.Test.YtkclkhfcmjhogaaDoorG3
import Derived.Test.YtkclkhfcmjhogaaDoorB2
import Derived.Test.YtkclkhfcmjhogaaDoorS2
namespace Go.Proofs.YtkclkhfcmjhogaaDoor
open Go.RowKit
set_option linter.unusedVariables false

set_option maxHeartbeats 1000000 in
theorem rhas_at (x : Nat → Nat) (b r q : Nat) (w : World) (hb : b < 256) (hr : (b : Int) % 64 = (r : Int)) (hr2 : r < 64) (hq4 : q < 4) (hq : (b : Int) / 64 = (q : Int)) :
    Calls Tryd.prog 67 #[.agg #[.int .u64 (x 0), .int .u64 (x 1), .int .u64 (x 2), .int .u64 (x 3)], .int .u8 b] w fun e w' => e = .returned (.bool (bits .and .u64 ((x q : Int) / 2 ^ r) 1 == 1)) ∧ Hid (Qt w w') := by
  rcases (show q = 0 ∨ q = 1 ∨ q = 2 ∨ q = 3 from by omega) with rfl | rfl | rfl | rfl
  all_goals
    go_enter Tryd.func67, Tryd.ntmps67
    go_wp2
    go_ret
    exact ⟨rfl, (Qt.refl w).alloc _⟩
theorem rhas_any (p : Nat → Bool) (b : Nat) (hb : b < 256) (w : World) : Calls Tryd.prog 67 #[.agg #[.int .u64 (limb p 0), .int .u64 (limb p 1), .int .u64 (limb p 2), .int .u64 (limb p 3)], .int .u8 b] w fun e w' => e = .returned (.bool (p b)) ∧ Hid (Qt w w') := by
  refine (rhas_at (limb p) b (b % 64) (b / 64) w hb (by omega) (by omega) (by omega) (by omega)).mono ?_
  rintro e w' ⟨rfl, h⟩
  refine ⟨?_, h⟩
  have e1 : ((limb p (b / 64) : Nat) : Int) / 2 ^ (b % 64) = ((limb p (b / 64) >>> (b % 64) : Nat) : Int) := by
    rw [Nat.shiftRight_eq_div_pow]; push_cast; rfl
  have hlt : limb p (b / 64) >>> (b % 64) < 18446744073709551616 := by
    rw [Nat.shiftRight_eq_div_pow]; exact Nat.lt_of_le_of_lt (Nat.div_le_self _ _) (limb_lt p _)
  have e2 := bits_and_u64_nat (limb p (b / 64) >>> (b % 64)) 1 hlt (by decide)
  rw [e1, show (1 : Int) = ((1 : Nat) : Int) from rfl, e2, Nat.and_one_is_mod, limb_has]
  cases p b <;> rfl

theorem Made.drew {w wr : World} {g : Nat} {p : Nat → Bool} (M : Hid (Made w wr g p)) : Hid (Made w wr.drew g p) := ⟨Qt.drew M.out.qt, M.out.new, M.out.res, M.out.at_⟩
/-- The bytes of a list. -/
def inl (l : List Nat) : Nat → Bool := fun b => l.contains b
theorem inl_ofl (l : List Nat) : ofl (fun i => l.getD i 0) l.length = inl l := by
  funext b
  rw [Bool.eq_iff_iff]
  unfold ofl inl
  rw [List.any_eq_true, List.contains_iff_mem]
  constructor
  · rintro ⟨i, hi, h⟩
    rw [List.mem_range] at hi
    simp [List.getD, hi] at h
    rw [← h]; exact List.getElem_mem hi
  · intro h
    obtain ⟨i, hi, rfl⟩ := List.getElem_of_mem h
    exact ⟨i, List.mem_range.2 hi, by simp [List.getD, hi]⟩

set_option maxRecDepth 20000 in
set_option maxHeartbeats 4000000 in
theorem rof_f (a : Option Addr) (n c : Nat) (f : Nat → Nat) (w : World) (hs : Sl w a n (Bn f)) (hf : ∀ i, i < n → f i < 256) (hn : n < 1000000) :
    Calls Tryd.prog 28 #[.slice a n c] w fun e w' => e = .returned (sv (ofl f n)) ∧ Hid (Qt w w') := by
  go_enter Tryd.func28, Tryd.ntmps28
  go_wp2
  go_loopw [4] (fun s4 wr => ∃ i : Nat, i ≤ n ∧ s4 = .int .i64 i ∧ Hid (Made w wr (w.heap.size + 1) (ofl f i))) (fun s4 _ => n - (intOf s4).toNat)
  case atStart =>
    refine ⟨0, by omega, rfl, ⟨((Qt.refl w).alloc _).alloc _, by omega, heap2a _ _ _, ?_⟩⟩
    have e : ofl f 0 = fun _ => false := by funext b; simp [ofl]
    rw [e, limb_none, limb_none, limb_none, limb_none]
    exact heap_alloc2_new _ _ _
  case round =>
    obtain ⟨i, hi, rfl, M⟩ := hrel
    by_cases hlt : i < n
    · obtain ⟨b, off, rfl, hbl, hc⟩ := hs i hlt
      have hc2 : wr.cell? ⟨b, off + i, none⟩ = some (.int .u8 (f i : Int)) := M.out.qt.cell (p := ⟨b, off + i, none⟩) hc (fun h => h)
      have hb := hf i hlt
      have H : Hid (∀ q, q = f i / 64 → Made w (wr.setCell ⟨w.heap.size + 1, q, none⟩ (.int .u64 (bits .or .u64 (limb (ofl f i) q : Int) (IntKind.u64.wrap (2 ^ (f i % 64)))))) (w.heap.size + 1) (ofl f (i + 1))) := by
        intro q hq
        rw [ofl_succ]
        exact M.out.put (by omega) (f i) q hb hq
      have e1 : (f i : Int) % 64 = ((f i % 64 : Nat) : Int) := by omega
      have hr : f i % 64 < 64 := by omega
      have j1 : (0 : Int) ≤ (i : Int) := by omega
      have j2 : (i : Int) < (n : Int) := by omega
      generalize f i % 64 = r at *
      have HI : Hid (i < n) := hlt
      clear hs hc
      rcases (show f i / 64 = 0 ∨ f i / 64 = 1 ∨ f i / 64 = 2 ∨ f i / 64 = 3 from by omega) with hq | hq | hq | hq
      · have K : Hid _ := H.out 0 hq.symm
        obtain ⟨g0, z0⟩ := M.out.cells 0 (by decide)
        have hq2 : (f i : Int) / 64 = 0 := by omega
        clear H
        go_wp2_with fail
        go_region
        go_wp2_with fail
        exact ⟨⟨i + 1, by omega, by go_num, Made.drew K⟩, by simp [intOf]; omega⟩
      · have K : Hid _ := H.out 1 hq.symm
        obtain ⟨g0, z0⟩ := M.out.cells 1 (by decide)
        have hq2 : (f i : Int) / 64 = 1 := by omega
        clear H
        go_wp2_with fail
        go_region
        go_wp2_with fail
        exact ⟨⟨i + 1, by omega, by go_num, Made.drew K⟩, by simp [intOf]; omega⟩
      · have K : Hid _ := H.out 2 hq.symm
        obtain ⟨g0, z0⟩ := M.out.cells 2 (by decide)
        have hq2 : (f i : Int) / 64 = 2 := by omega
        clear H
        go_wp2_with fail
        go_region
        go_wp2_with fail
        exact ⟨⟨i + 1, by omega, by go_num, Made.drew K⟩, by simp [intOf]; omega⟩
      · have K : Hid _ := H.out 3 hq.symm
        obtain ⟨g0, z0⟩ := M.out.cells 3 (by decide)
        have hq2 : (f i : Int) / 64 = 3 := by omega
        clear H
        go_wp2_with fail
        go_region
        go_wp2_with fail
        exact ⟨⟨i + 1, by omega, by go_num, Made.drew K⟩, by simp [intOf]; omega⟩
    · obtain rfl : i = n := by omega
      obtain ⟨c0, _⟩ := M.out.cells 0 (by decide)
      obtain ⟨c1, _⟩ := M.out.cells 1 (by decide)
      obtain ⟨c2, _⟩ := M.out.cells 2 (by decide)
      obtain ⟨c3, _⟩ := M.out.cells 3 (by decide)
      obtain ⟨r0, f0⟩ := M.out.cellr 0 (by decide)
      obtain ⟨r1, f1⟩ := M.out.cellr 1 (by decide)
      obtain ⟨r2, f2⟩ := M.out.cellr 2 (by decide)
      obtain ⟨r3, f3⟩ := M.out.cellr 3 (by decide)
      clear hs hf
      go_wp2
      refine bodyPost_ret (results_cell_row (p := 2) (ty := 25) rfl _ _ w.heap.size 25 _ (0, 0) _ rfl (heap_set (heap_set (heap_set (heap_set M.out.res)))) Tryd.underlying25 rfl (by kernel_rfl)) rfl ?_
      exact ⟨rfl, M.out.four _ _ _ _⟩

/-- A row of bytes of one's own. -/
def Ol (w : World) (base : Nat) (v : Value) (l : List Nat) : Prop := w.ownsRow base 5 1 v l.length (nc l)
theorem Ol.mv {S : Nat → Prop} {w w' : World} {base : Nat} {v : Value} {l : List Nat} (h : Hid (Ol w base v l)) (k : Mv S w w') (hs : ∀ j, base ≤ j → ¬ S j) : Hid (Ol w' base v l) :=
  k.owns h.out (fun j hj => hs j (ow_blk h.out j hj).1)
theorem Ol.qt {w w' : World} {base : Nat} {v : Value} {l : List Nat} (h : Hid (Ol w base v l)) (k : Hid (Qt w w')) : Hid (Ol w' base v l) := k.out.owns h.out (fun _ _ h => h)
theorem Ol.nil (w : World) (base : Nat) : Hid (Ol w base (.slice none 0 0) []) := ow_nil _ _ _ _
theorem Ol.sl {w : World} {base : Nat} {v : Value} {l : List Nat} (h : Hid (Ol w base v l)) : ∃ a cap, v = .slice a l.length cap ∧ Sl w a l.length (Bn (fun i => l.getD i 0)) ∧ l.length ≤ cap ∧ (∀ p, a = some p → base ≤ p.block ∧ p.block < w.heap.size) := by
  obtain ⟨a, cap, e, hl, h1, _, h3⟩ := ow_ls h.out
  refine ⟨a, cap, e, fun i hi => ?_, h1, fun p hp => ow_blk h.out _ (h3 p hp)⟩
  obtain ⟨b, off, e1, e2, e3⟩ := hl i (.int .u8 (l.getD i 0 : Nat)) (by unfold nc; rw [List.getElem?_map]; simp [List.getD, hi])
  exact ⟨b, off, e1, e2, e3⟩
theorem push {w : World} {base : Nat} {v : Value} {l : List Nat} (h : Hid (Ol w base v l)) (hb : base ≤ w.heap.size) (hl : l.length < 90000) (c : Nat) :
    ∃ v' W, (Builtin.append_ #[37, 37] 37 #[v, .slice (some ⟨w.heap.size, 0, none⟩) 1 1]).run Tryd.prog (w.alloc (.cells #[.int .u8 (c : Int)] 5)) = .ok v' W ∧ Hid (Ol W base v' (l ++ [c])) ∧ Hid (Mv (fun j => base ≤ j) w W) := by
  have qW : Qt w (w.alloc (.cells #[.int .u8 (c : Int)] 5)) := (Qt.refl w).alloc _
  obtain ⟨v', W, hr, hown, hgr, _⟩ := append_ow 37 37 5 Tryd.t5 (.int .u8 0) 1 1 Tryd.underlying37 info5 zero5 size5 bytes5 (by rfl) (by omega) (by omega) (w.alloc (.cells #[.int .u8 (c : Int)] 5)) base v l.length 1 1 (nc l) [.int .u8 (c : Int)] (some ⟨w.heap.size, 0, none⟩) (qW.owns h.out (fun _ _ h => h)) (by simpa using Ls.new w #[.int .u8 (c : Int)] 5) rfl (by intro u hu; simp at hu; subst hu; rfl) (by omega) (by intro h; cases h) (by simp; omega)
  refine ⟨v', W, hr, ?_, ?_⟩
  · show W.ownsRow _ _ _ _ _ _
    rw [nc_append, List.length_append]; exact hown
  · exact Mv.trans (qW.mono (fun _ _ h => h.elim)) (Mv.of_grown hgr) (fun j hj e => (ow_blk h.out j e).1)
end Go.Proofs.YtkclkhfcmjhogaaDoor
