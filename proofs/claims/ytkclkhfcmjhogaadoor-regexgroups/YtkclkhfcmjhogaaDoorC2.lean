/- Has, Of, since, Least. -/
import Derived.Test.YtkclkhfcmjhogaaDoorC1
namespace Go.Proofs.YtkclkhfcmjhogaaDoor
open Go.RowKit
set_option linter.unusedVariables false

set_option maxHeartbeats 1000000 in
theorem has_at (x : Nat → Nat) (b r q : Nat) (w : World) (hb : b < 256) (hr : bits .and .u8 (b : Int) 63 = (r : Int)) (hr2 : r < 64) (hq4 : q < 4) (hq : (b : Int) / 64 = (q : Int)) :
    Calls Tryd.prog 83 #[.agg #[.int .u64 (x 0), .int .u64 (x 1), .int .u64 (x 2), .int .u64 (x 3)], .int .u8 b] w fun e w' => e = .returned (.bool (bits .and .u64 ((x q : Int) / 2 ^ r) 1 == 1)) ∧ Hid (Qt w w') := by
  rcases (show q = 0 ∨ q = 1 ∨ q = 2 ∨ q = 3 from by omega) with rfl | rfl | rfl | rfl
  all_goals
    go_enter Tryd.func83, Tryd.ntmps83
    go_wp2
    go_ret
    exact ⟨rfl, (Qt.refl w).alloc _⟩

theorem and63 (b : Nat) (hb : b < 256) : bits .and .u8 (b : Int) 63 = ((b % 64 : Nat) : Int) := by
  have h : ∀ b : Fin 256, bits .and .u8 ((b.val : Nat) : Int) 63 = ((b.val % 64 : Nat) : Int) := by decide +kernel
  exact h ⟨b, hb⟩

theorem has_any (p : Nat → Bool) (b : Nat) (hb : b < 256) (w : World) : Calls Tryd.prog 83 #[sv p, .int .u8 b] w fun e w' => e = .returned (.bool (p b)) ∧ Hid (Qt w w') := by
  refine (has_at (limb p) b (b % 64) (b / 64) w hb (and63 b hb) (by omega) (by omega) (by omega)).mono ?_
  rintro e w' ⟨rfl, h⟩
  refine ⟨?_, h⟩
  have e1 : ((limb p (b / 64) : Nat) : Int) / 2 ^ (b % 64) = ((limb p (b / 64) >>> (b % 64) : Nat) : Int) := by
    rw [Nat.shiftRight_eq_div_pow]; push_cast; rfl
  have hlt : limb p (b / 64) >>> (b % 64) < 18446744073709551616 := by
    rw [Nat.shiftRight_eq_div_pow]; exact Nat.lt_of_le_of_lt (Nat.div_le_self _ _) (limb_lt p _)
  have e2 := bits_and_u64_nat (limb p (b / 64) >>> (b % 64)) 1 hlt (by decide)
  rw [e1, show (1 : Int) = ((1 : Nat) : Int) from rfl, e2, Nat.and_one_is_mod, limb_has]
  cases p b <;> rfl

/-- All from n on. -/
def frm (n : Nat) : Nat → Bool := fun b => decide (n ≤ b)
theorem shl_ones (k : Nat) : IntKind.u64.wrap (18446744073709551615 * 2 ^ min k 64) = ((18446744073709551615 <<< k % 18446744073709551616 : Nat) : Int) := by
  rw [IntKind.wrap_u64, Nat.shiftLeft_eq]
  by_cases h : k ≤ 64
  · rw [Nat.min_eq_left h, Int.natCast_emod, Int.natCast_mul, Int.natCast_pow]
    rfl
  · rw [Nat.min_eq_right (by omega)]
    obtain ⟨d, rfl⟩ : ∃ d, k = 64 + d := ⟨k - 64, by omega⟩
    rw [Nat.pow_add, show (2 : Nat) ^ 64 = 18446744073709551616 from rfl, Nat.mul_comm 18446744073709551616, ← Nat.mul_assoc, Nat.mul_mod_left]
    rfl
theorem limb_frm (n i : Nat) : (limb (frm n) i : Int) = IntKind.u64.wrap (18446744073709551615 * 2 ^ min (n - 64 * i) 64) := by
  unfold frm
  rw [shl_ones, limb_since]

theorem ones_le {k : Nat} (h : k ≤ 64) : IntKind.u64.wrap (18446744073709551615 * 2 ^ min k 64) = IntKind.u64.wrap (18446744073709551615 * 2 ^ k) := by rw [Nat.min_eq_left h]
theorem ones_0 {k : Nat} (h : k = 0) : IntKind.u64.wrap (18446744073709551615 * 2 ^ min k 64) = 18446744073709551615 := by subst h; rfl
theorem ones_64 {k : Nat} (h : 64 ≤ k) : IntKind.u64.wrap (18446744073709551615 * 2 ^ min k 64) = 0 := by rw [Nat.min_eq_right h]; rfl
theorem agg4 {a b c d a' b' c' d' : Int} (h0 : a = a') (h1 : b = b') (h2 : c = c') (h3 : d = d') : Ending.returned (.agg #[.int .u64 a, .int .u64 b, .int .u64 c, .int .u64 d]) = .returned (.agg #[.int .u64 a', .int .u64 b', .int .u64 c', .int .u64 d']) := by
  subst h0 h1 h2 h3; rfl

theorem heap2a (w : World) (A B : Obj) : ((w.alloc A).alloc B).heap[w.heap.size]? = some A := by
  rw [heap_alloc_old (w.alloc A) B (h := by simp)]
  exact heap_alloc_new _ _
set_option maxHeartbeats 1000000 in
theorem since_0 (n : Nat) (w : World) (hb : 0 ≤ n) (hb2 : n < 64) :
    Calls Tryd.prog 92 #[.int .i64 n] w fun e w' => e = .returned (sv (frm n)) ∧ Hid (Qt w w') := by
  unfold sv
  rw [limb_frm, limb_frm, limb_frm, limb_frm, show n - 64 * 0 = n from by omega]
  go_enter Tryd.func92, Tryd.ntmps92
  go_wp2
  refine wp_loop_rounds 5 ?_
  rw [rounds_succ]; go_wp2
  rw [rounds_succ]; go_wp2
  rw [rounds_succ]; go_wp2
  rw [rounds_succ]; go_wp2
  rw [rounds_succ]; go_wp2
  refine bodyPost_ret (results_cell_row (p := 2) (ty := 25) rfl _ _ w.heap.size 25 _ (0, 0) _ rfl (heap2a _ _ _) Tryd.underlying25 rfl (by kernel_rfl)) rfl ?_
  refine ⟨?_, ((Qt.refl w).alloc _).alloc _⟩
  refine agg4 ?_ ?_ ?_ ?_
  · rw [ones_le (by omega)]
  · rw [ones_0 (by omega)]
  · rw [ones_0 (by omega)]
  · rw [ones_0 (by omega)]
set_option maxHeartbeats 1000000 in
theorem since_1 (n : Nat) (w : World) (hb : 64 ≤ n) (hb2 : n < 128) :
    Calls Tryd.prog 92 #[.int .i64 n] w fun e w' => e = .returned (sv (frm n)) ∧ Hid (Qt w w') := by
  unfold sv
  rw [limb_frm, limb_frm, limb_frm, limb_frm, show n - 64 * 0 = n from by omega]
  obtain ⟨m1, e1⟩ : ∃ m : Nat, (n : Int) - 64 = m := ⟨n - 64, by omega⟩
  rw [show n - 64 * 1 = m1 from by omega]
  go_enter Tryd.func92, Tryd.ntmps92
  go_wp2
  refine wp_loop_rounds 5 ?_
  rw [rounds_succ]; go_wp2
  rw [rounds_succ]; go_wp2
  rw [rounds_succ]; go_wp2
  rw [rounds_succ]; go_wp2
  rw [rounds_succ]; go_wp2
  refine bodyPost_ret (results_cell_row (p := 2) (ty := 25) rfl _ _ w.heap.size 25 _ (0, 0) _ rfl (heap2a _ _ _) Tryd.underlying25 rfl (by kernel_rfl)) rfl ?_
  refine ⟨?_, ((Qt.refl w).alloc _).alloc _⟩
  refine agg4 ?_ ?_ ?_ ?_
  · rw [ones_64 (by omega), IntKind.wrap_u64]; decide
  · rw [ones_le (by omega)]
  · rw [ones_0 (by omega)]
  · rw [ones_0 (by omega)]
set_option maxHeartbeats 1000000 in
theorem since_2 (n : Nat) (w : World) (hb : 128 ≤ n) (hb2 : n < 192) :
    Calls Tryd.prog 92 #[.int .i64 n] w fun e w' => e = .returned (sv (frm n)) ∧ Hid (Qt w w') := by
  unfold sv
  rw [limb_frm, limb_frm, limb_frm, limb_frm, show n - 64 * 0 = n from by omega]
  obtain ⟨m1, e1⟩ : ∃ m : Nat, (n : Int) - 64 = m := ⟨n - 64, by omega⟩
  rw [show n - 64 * 1 = m1 from by omega]
  obtain ⟨m2, e2⟩ : ∃ m : Nat, (n : Int) - 128 = m := ⟨n - 128, by omega⟩
  rw [show n - 64 * 2 = m2 from by omega]
  go_enter Tryd.func92, Tryd.ntmps92
  go_wp2
  refine wp_loop_rounds 5 ?_
  rw [rounds_succ]; go_wp2
  rw [rounds_succ]; go_wp2
  rw [rounds_succ]; go_wp2
  rw [rounds_succ]; go_wp2
  rw [rounds_succ]; go_wp2
  refine bodyPost_ret (results_cell_row (p := 2) (ty := 25) rfl _ _ w.heap.size 25 _ (0, 0) _ rfl (heap2a _ _ _) Tryd.underlying25 rfl (by kernel_rfl)) rfl ?_
  refine ⟨?_, ((Qt.refl w).alloc _).alloc _⟩
  refine agg4 ?_ ?_ ?_ ?_
  · rfl
  · rfl
  · rw [ones_le (by omega)]
  · rw [ones_0 (by omega)]
set_option maxHeartbeats 1000000 in
theorem since_3 (n : Nat) (w : World) (hb : 192 ≤ n) (hb2 : n < 257) :
    Calls Tryd.prog 92 #[.int .i64 n] w fun e w' => e = .returned (sv (frm n)) ∧ Hid (Qt w w') := by
  unfold sv
  rw [limb_frm, limb_frm, limb_frm, limb_frm, show n - 64 * 0 = n from by omega]
  obtain ⟨m1, e1⟩ : ∃ m : Nat, (n : Int) - 64 = m := ⟨n - 64, by omega⟩
  rw [show n - 64 * 1 = m1 from by omega]
  obtain ⟨m2, e2⟩ : ∃ m : Nat, (n : Int) - 128 = m := ⟨n - 128, by omega⟩
  rw [show n - 64 * 2 = m2 from by omega]
  obtain ⟨m3, e3⟩ : ∃ m : Nat, (n : Int) - 192 = m := ⟨n - 192, by omega⟩
  rw [show n - 64 * 3 = m3 from by omega]
  go_enter Tryd.func92, Tryd.ntmps92
  go_wp2
  refine wp_loop_rounds 5 ?_
  rw [rounds_succ]; go_wp2
  rw [rounds_succ]; go_wp2
  rw [rounds_succ]; go_wp2
  rw [rounds_succ]; go_wp2
  rw [rounds_succ]; go_wp2
  refine bodyPost_ret (results_cell_row (p := 2) (ty := 25) rfl _ _ w.heap.size 25 _ (0, 0) _ rfl (heap2a _ _ _) Tryd.underlying25 rfl (by kernel_rfl)) rfl ?_
  refine ⟨?_, ((Qt.refl w).alloc _).alloc _⟩
  refine agg4 ?_ ?_ ?_ ?_
  · rfl
  · rfl
  · rfl
  · rw [ones_le (by omega)]
theorem since_any (n : Nat) (w : World) (hb : n ≤ 256) : Calls Tryd.prog 92 #[.int .i64 n] w fun e w' => e = .returned (sv (frm n)) ∧ Hid (Qt w w') := by
  by_cases h1 : n < 64
  · exact since_0 n w (by omega) h1
  by_cases h2 : n < 128
  · exact since_1 n w (by omega) h2
  by_cases h3 : n < 192
  · exact since_2 n w (by omega) h3
  · exact since_3 n w (by omega) (by omega)

/-- Bytes in a row. -/
def Bn (f : Nat → Nat) : Nat → Value := fun i => .int .u8 (f i : Int)
/-- The bytes of a row. -/
def ofl (f : Nat → Nat) (n : Nat) : Nat → Bool := fun b => (List.range n).any (fun i => f i == b)
theorem ofl_succ (f : Nat → Nat) (n : Nat) : ofl f (n + 1) = fun b => ofl f n b || f n == b := by
  funext b
  unfold ofl
  rw [List.range_succ, List.any_append]
  simp

/-- The set while it is made. -/
structure Made (w wr : World) (g : Nat) (p : Nat → Bool) : Prop where
  qt : Qt w wr
  new : w.heap.size ≤ g
  res : wr.heap[w.heap.size]? = some (.cells #[.int .u64 0, .int .u64 0, .int .u64 0, .int .u64 0] 25 (0, 0))
  at_ : wr.heap[g]? = some (.cells #[.int .u64 (limb p 0), .int .u64 (limb p 1), .int .u64 (limb p 2), .int .u64 (limb p 3)] 25 (0, 0))

theorem heap_set {W : World} {g o : Nat} {v : Value} {cs : Array Value} {t : TypeId} {fr : Nat × Nat} (h : W.heap[g]? = some (.cells cs t fr)) : (W.setCell ⟨g, o, none⟩ v).heap[g]? = some (.cells (cs.setIfInBounds o v) t fr) := by
  obtain ⟨hlt, hk⟩ := Array.getElem?_eq_some_iff.1 h
  show (W.heap.modify g _)[g]? = _
  rw [Array.getElem?_eq_getElem (by rw [Array.size_modify]; exact hlt), Array.getElem_modify_self, hk]
  rfl
theorem or_one (p : Nat → Bool) (b : Nat) (q : Nat) (hq : q = b / 64) : bits .or .u64 (limb p q : Int) (IntKind.u64.wrap (2 ^ (b % 64))) = (limb (fun c => p c || b == c) q : Int) := by
  have h1 : (2 : Nat) ^ (b % 64) < 18446744073709551616 := show 2 ^ (b % 64) < 2 ^ 64 from Nat.pow_lt_pow_right (by decide) (by omega)
  have e : IntKind.u64.wrap (2 ^ (b % 64)) = ((2 ^ (b % 64) : Nat) : Int) := by
    rw [IntKind.wrap_u64, show ((2 : Int) ^ (b % 64)) = ((2 ^ (b % 64) : Nat) : Int) from by rw [Int.natCast_pow]; rfl]
    generalize (2 : Nat) ^ (b % 64) = X at h1
    omega
  rw [e, bits_or_u64_nat _ _ (limb_lt p q) h1, ← limb_one q (b % 64) (by omega), limb_or]
  congr 1
  refine limb_congr (fun k hk => ?_)
  congr 1
  rw [Bool.eq_iff_iff]; simp; omega
theorem limb_other (p : Nat → Bool) (b q : Nat) (hq : q ≠ b / 64) : limb (fun c => p c || b == c) q = limb p q := by
  refine limb_congr (fun k hk => ?_)
  have : (b == 64 * q + k) = false := by simp; omega
  rw [this, Bool.or_false]
theorem Made.put {w wr : World} {g : Nat} {p : Nat → Bool} (M : Made w wr g p) (hg : w.heap.size < g) (b q : Nat) (hb : b < 256) (hq : q = b / 64) :
    Made w (wr.setCell ⟨g, q, none⟩ (.int .u64 (bits .or .u64 (limb p q : Int) (IntKind.u64.wrap (2 ^ (b % 64)))))) g (fun c => p c || b == c) := by
  rw [or_one p b q hq]
  have hlt : g < wr.heap.size := (Array.getElem?_eq_some_iff.1 M.at_).1
  refine ⟨M.qt.trans (Mv.setCell wr _ _) (fun j hj e => by simp at e; omega), M.new, ?_, ?_⟩
  · rw [(Mv.setCell wr ⟨g, q, none⟩ _).block _ (by omega) (by simp; omega)]; exact M.res
  · rw [heap_set M.at_]
    rcases (show q = 0 ∨ q = 1 ∨ q = 2 ∨ q = 3 from by omega) with rfl | rfl | rfl | rfl
    · rw [limb_other p b 1 (by omega), limb_other p b 2 (by omega), limb_other p b 3 (by omega)]; rfl
    · rw [limb_other p b 0 (by omega), limb_other p b 2 (by omega), limb_other p b 3 (by omega)]; rfl
    · rw [limb_other p b 0 (by omega), limb_other p b 1 (by omega), limb_other p b 3 (by omega)]; rfl
    · rw [limb_other p b 0 (by omega), limb_other p b 1 (by omega), limb_other p b 2 (by omega)]; rfl
theorem Made.cells {w wr : World} {g : Nat} {p : Nat → Bool} (M : Made w wr g p) (q : Nat) (hq : q < 4) : wr.cell? ⟨g, q, none⟩ = some (.int .u64 (limb p q)) ∧ wr.frozen? ⟨g, q, none⟩ = false := by
  have h := M.at_
  rcases (show q = 0 ∨ q = 1 ∨ q = 2 ∨ q = 3 from by omega) with rfl | rfl | rfl | rfl <;> exact ⟨by simp [World.cell?, h], by simp [World.frozen?, h]⟩

theorem Made.cellr {w wr : World} {g : Nat} {p : Nat → Bool} (M : Made w wr g p) (q : Nat) (hq : q < 4) : wr.cell? ⟨w.heap.size, q, none⟩ = some (.int .u64 0) ∧ wr.frozen? ⟨w.heap.size, q, none⟩ = false := by
  have h := M.res
  rcases (show q = 0 ∨ q = 1 ∨ q = 2 ∨ q = 3 from by omega) with rfl | rfl | rfl | rfl <;> exact ⟨by simp [World.cell?, h], by simp [World.frozen?, h]⟩
theorem Qt.set {w wr : World} (h : Qt w wr) (g o : Nat) (v : Value) (hg : w.heap.size ≤ g) : Qt w (wr.setCell ⟨g, o, none⟩ v) :=
  Mv.trans h (Mv.setCell wr _ _) (fun j hj e => by simp at e; omega)
theorem Made.four {w wr : World} {g : Nat} {p : Nat → Bool} (M : Made w wr g p) (v0 v1 v2 v3 : Value) : Qt w ((((wr.setCell ⟨w.heap.size, 0, none⟩ v0).setCell ⟨w.heap.size, 1, none⟩ v1).setCell ⟨w.heap.size, 2, none⟩ v2).setCell ⟨w.heap.size, 3, none⟩ v3) :=
  (((M.qt.set _ _ _ (Nat.le_refl _)).set _ _ _ (Nat.le_refl _)).set _ _ _ (Nat.le_refl _)).set _ _ _ (Nat.le_refl _)

end Go.Proofs.YtkclkhfcmjhogaaDoor
