/- A file opened: cut, New. -/
import Derived.Test.YtjlnmkoggobbgaaC3
namespace Go.Proofs.Ytjlnmkoggobbgaa
open Go.RowKit

/-- Page i of a file that lies in block bf. -/
def pgV (bf n sz : Nat) (i : Nat) : Value := .slice (some ⟨bf, i * sz, none⟩) (min sz (n - i * sz)) (n - i * sz)

theorem sl_val (w : World) (v : Value) (e : TypeId) (B : Nat) (hB : B = w.heap.size) : Sl (w.alloc (.cells #[v] e)) (some ⟨B, 0, none⟩) 1 (fun _ => v) := by
  subst hB
  intro i hi
  obtain rfl : i = 0 := by omega
  exact ⟨_, _, rfl, by simp, (alloc_new w _ e 0 _ rfl).1⟩

/-- One page more. -/
theorem page_more (w : World) (base : Nat) (v x : Value) (bf n sz i : Nat) (h : Own w base 22 v i (pgV bf n sz)) (hx : x = pgV bf n sz i) (h1 : x.oneCell' = true) (hi : i < 50000) (hb : base ≤ w.heap.size) :
    ∃ v' W, (Builtin.append_ #[64, 64] 64 #[v, .slice (some ⟨w.heap.size, 0, none⟩) 1 1]).run Try.prog (w.alloc (.cells #[x] 22)) = .ok v' W ∧ Own W base 22 v' (i + 1) (pgV bf n sz) ∧ Below base w W := by
  have ho := h.mv (Mv.alloc (fun _ => False) w (.cells #[x] 22)) (fun _ _ h => h)
  obtain ⟨v', W, hr, h2, h3, _⟩ := append_own 64 64 22 Try.t22 (.slice none 0 0) 24 Try.underlying64 info22 (by kernel_rfl) (by kernel_rfl) (by kernel_rfl) rfl (by omega) _ base v i 1 1 (pgV bf n sz) (fun _ => x) _ ho (sl_val w x 22 _ rfl) (fun _ => h1) (by omega) (fun h => by cases h) (by simp; omega)
  refine ⟨v', W, hr, h2.congr (fun j hj => ?_), ?_⟩
  · unfold cat
    split
    · rfl
    · rw [hx, show i = j by omega]
  · exact ((Below.refl base w).alloc hb _).grown h3 (by simp; omega) (fun k hk => (ho.blk k hk).1)

set_option maxHeartbeats 1000000 in
theorem cut_any (bf n sz : Nat) (w : World) (hn : n ≤ 4000) (h0 : 0 < sz) (h1 : sz ≤ 512) :
    Calls Try.prog 33 #[.slice (some ⟨bf, 0, none⟩) n n, .int .i64 sz] w fun e w' => ∃ (m : Nat) (v : Value), e = .returned v ∧ Hid (Own w' w.heap.size 22 v m (pgV bf n sz)) ∧ Hid (∀ i, i * sz < n ↔ i < m) ∧ Hid (Below w.heap.size w w') := by
  go_enter Try.func33, Try.ntmps33
  go_wp2_with fail
  go_loopw [5, 6] (fun vp vq wr => ∃ (i q : Nat) (pa : Option Addr) (pc : Nat), vq = .int .i64 q ∧ vp = .slice pa i pc ∧ q ≤ n + sz ∧ Hid (q = i * sz) ∧ Hid (Own wr w.heap.size 22 (.slice pa i pc) i (pgV bf n sz)) ∧ Hid (∀ j, j < i → j * sz < n) ∧ Hid (Below w.heap.size w wr)) (fun _ vq _ => n + sz - (intOf vq).toNat)
  case atStart => exact ⟨0, 0, none, 0, rfl, rfl, by omega, (Nat.zero_mul _).symm, own_nil _ _ _ _, fun j hj => by omega, Below.refl _ _⟩
  case round =>
    obtain ⟨i, q, pa, pc, rfl, rfl, hq, Q, O, J, B⟩ := hrel
    by_cases hlt : q < n
    · have hltz : (q : Int) < (n : Int) := by omega
      have hi : i < 50000 := by
        have h2 : i * 1 ≤ i * sz := Nat.mul_le_mul_left i h0
        have := Q.out
        omega
      by_cases hle : q + sz ≤ n
      · have hlez : (q : Int) + sz ≤ n := by omega
        have hx : Value.slice (some ⟨bf, q, none⟩) sz (n - q) = pgV bf n sz i := by unfold pgV; rw [← Q.out, show min sz (n - q) = sz by omega]
        obtain ⟨v', W, hr, h2, h3⟩ := page_more wr w.heap.size (.slice pa i pc) _ bf n sz i O.out hx rfl hi B.out.size
        obtain ⟨pa', pc', rfl, _, _⟩ := h2.sl
        have O2 : Hid _ := h2
        have B2 : Hid _ := h3
        have J2 : Hid (∀ j, j < i + 1 → j * sz < n) := fun j hj => by
          by_cases e : j = i
          · rw [e, ← Q.out]; exact hlt
          · exact J.out j (by omega)
        have Q2 : Hid (q + sz = (i + 1) * sz) := by show _ = _; rw [Nat.succ_mul, ← Q.out]
        clear hx h2 h3
        go_wp2_with (at_builtin; first | (refine wpList_append_given rfl _ _ 64 rfl _ _ _ W rfl rfl hr ?_))
        go_wp2_with fail
        exact ⟨⟨i + 1, q + sz, pa', pc', by go_num, rfl, by omega, Q2, O2, J2, B.out.trans B2.out⟩, by simp [intOf]; omega⟩
      · have hlez : (n : Int) < (q : Int) + sz := by omega
        have hx : Value.slice (some ⟨bf, q, none⟩) (n - q) (n - q) = pgV bf n sz i := by unfold pgV; rw [← Q.out, show min sz (n - q) = n - q by omega]
        obtain ⟨v', W, hr, h2, h3⟩ := page_more wr w.heap.size (.slice pa i pc) _ bf n sz i O.out hx rfl hi B.out.size
        obtain ⟨pa', pc', rfl, _, _⟩ := h2.sl
        have O2 : Hid _ := h2
        have B2 : Hid _ := h3
        have J2 : Hid (∀ j, j < i + 1 → j * sz < n) := fun j hj => by
          by_cases e : j = i
          · rw [e, ← Q.out]; exact hlt
          · exact J.out j (by omega)
        have Q2 : Hid (q + sz = (i + 1) * sz) := by show _ = _; rw [Nat.succ_mul, ← Q.out]
        clear hx h2 h3
        go_wp2_with (at_builtin; first | (refine wpList_append_given rfl _ _ 64 rfl _ _ _ W rfl rfl hr ?_))
        go_wp2_with fail
        exact ⟨⟨i + 1, q + sz, pa', pc', by go_num, rfl, by omega, Q2, O2, J2, B.out.trans B2.out⟩, by simp [intOf]; omega⟩
    · have hge : (n : Int) ≤ (q : Int) := by omega
      have F : Hid (∀ j, j * sz < n ↔ j < i) := fun j => by
        refine ⟨fun h => ?_, J.out j⟩
        rcases Nat.lt_or_ge j i with h2 | h2
        · exact h2
        · have := Nat.mul_le_mul_right sz h2
          rw [← Q.out] at this
          omega
      go_wp2_with fail
      go_ret
      exact ⟨i, _, rfl, O, F, B⟩

/-- The values of 5 cells. -/
theorem box_cells (w : World) (s0 a b c e : Value) (t : TypeId) : (w.alloc (.cells #[s0, a, b, c, e] t)).cell? ⟨w.heap.size, 0, none⟩ = some s0 ∧ (w.alloc (.cells #[s0, a, b, c, e] t)).cell? ⟨w.heap.size, 1, none⟩ = some a ∧ (w.alloc (.cells #[s0, a, b, c, e] t)).cell? ⟨w.heap.size, 2, none⟩ = some b ∧ (w.alloc (.cells #[s0, a, b, c, e] t)).cell? ⟨w.heap.size, 3, none⟩ = some c ∧ (w.alloc (.cells #[s0, a, b, c, e] t)).cell? ⟨w.heap.size, 4, none⟩ = some e ∧ (w.alloc (.cells #[s0, a, b, c, e] t)).frozen? ⟨w.heap.size, 4, none⟩ = false := by
  refine ⟨?_, ?_, ?_, ?_, ?_, ?_⟩
  · exact (alloc_new w _ t 0 _ rfl).1
  · exact (alloc_new w _ t 1 _ rfl).1
  · exact (alloc_new w _ t 2 _ rfl).1
  · exact (alloc_new w _ t 3 _ rfl).1
  · exact (alloc_new w _ t 4 _ rfl).1
  · exact (alloc_new w _ t 4 _ rfl).2

theorem new_pg {w W1 W2 : World} {n m sz : Nat} {f : Nat → Int} {pa : Option Addr} {pc : Nat} (O1 : Own W1 w.heap.size 5 (.slice (some ⟨w.heap.size, 0, none⟩) n n) n (By f)) (B1 : Below w.heap.size w W1) (O2 : Own W2 W1.heap.size 22 (.slice pa m pc) m (pgV w.heap.size n sz)) (B2 : Below W1.heap.size W1 W2)
    (O3 : Own (W2.alloc (.cells (madeCells #[.bool false] m) 4)) W2.heap.size 4 (.slice (some ⟨W2.heap.size, 0, none⟩) m m) m (fun _ => .bool false)) (J : ∀ i, i * sz < n ↔ i < m) (hm : m ≤ n) (hn : n ≤ 4000) (h0 : 0 < sz) (h1 : sz ≤ 512) :
    Hid (Pg ((W2.alloc (.cells (madeCells #[.bool false] m) 4)).alloc (.cells #[.int .i64 sz, .slice (some ⟨w.heap.size, 0, none⟩) n n, .slice pa m pc, .slice (some ⟨W2.heap.size, 0, none⟩) m m, .slice none 0 0] 68)) ⟨w.heap.size, W2.heap.size + 2, W2.heap.size + 1, w.heap.size, W2.heap.size, pa, pc, n, sz, m, f⟩ none 0 (fun _ => false) 0 (fun _ => 0)) ∧
    Hid (Below w.heap.size w ((W2.alloc (.cells (madeCells #[.bool false] m) 4)).alloc (.cells #[.int .i64 sz, .slice (some ⟨w.heap.size, 0, none⟩) n n, .slice pa m pc, .slice (some ⟨W2.heap.size, 0, none⟩) m m, .slice none 0 0] 68))) := by
  have s1 := B1.size
  have s2 := B2.size
  have e1 : (W2.alloc (.cells (madeCells #[.bool false] m) 4)).heap.size = W2.heap.size + 1 := by simp
  have hlt : w.heap.size < W1.heap.size := (O1.blk _ rfl).2
  obtain ⟨qs, q0, q1, q2, q3, q4⟩ := box_cells (W2.alloc (.cells (madeCells #[.bool false] m) 4)) (.int .i64 sz) (.slice (some ⟨w.heap.size, 0, none⟩) n n) (.slice pa m pc) (.slice (some ⟨W2.heap.size, 0, none⟩) m m) (.slice none 0 0) 68
  rw [e1] at qs q0 q1 q2 q3 q4
  have M : Mv (fun _ => False) W2 ((W2.alloc (.cells (madeCells #[.bool false] m) 4)).alloc (.cells #[.int .i64 sz, .slice (some ⟨w.heap.size, 0, none⟩) n n, .slice pa m pc, .slice (some ⟨W2.heap.size, 0, none⟩) m m, .slice none 0 0] 68)) := (Mv.alloc _ _ _).trans (Mv.alloc (fun _ => False) _ _) (fun _ _ h => h)
  refine ⟨⟨⟨by show w.heap.size ≤ W2.heap.size + 1; omega, Nat.le_refl _, by show w.heap.size ≤ W2.heap.size; omega⟩, ⟨by show W2.heap.size + 1 < W2.heap.size + 2; omega, by show w.heap.size < W2.heap.size + 2; omega, by show W2.heap.size < W2.heap.size + 2; omega⟩, by simp, qs, q0, q1, q2, q3, q4, ?_, (O2.mv M (fun _ _ h => h)).base (by show w.heap.size ≤ _; omega), ?_, (O3.mv (Mv.alloc (fun _ => False) _ _) (fun _ _ h => h)).base (by show w.heap.size ≤ _; omega), own_nil _ _ _ _, ⟨by show ¬ W2.heap.size + 1 = w.heap.size; omega, by show ¬ W2.heap.size + 1 = W2.heap.size; omega, by show ¬ w.heap.size = W2.heap.size; omega⟩, J, ⟨by show n < 5000; omega, h0, h1, hm⟩⟩, ?_⟩
  · intro i hi
    exact M.cell ((B2.cell (p := ⟨w.heap.size, i, none⟩) hlt).trans (O1.at hi).1) (fun h => h)
  · intro j hj
    have := O2.blk j (by rw [own_blk]; exact hj)
    show j < W2.heap.size + 2 ∧ j ≠ W2.heap.size + 1 ∧ j ≠ W2.heap.size
    omega
  · exact ((B1.trans (B2.mono s1)).alloc (by omega) _).alloc (by simp; omega) _

set_option maxHeartbeats 1000000 in
theorem new_ok (a : Option Addr) (n c sz : Nat) (f : Nat → Int) (w : World) (hn : n ≤ 4000) (h0 : 0 < sz) (h1 : sz ≤ 512) (hl : Hid (Sl w a n (By f))) :
    Calls Try.prog 14 #[.slice a n c, .int .i64 sz] w fun e w' => ∃ d : Pd, e = .returned (.tuple #[.pointer (some ⟨d.bp, 0, none⟩), .int .i64 0]) ∧ Hid (d.base = w.heap.size ∧ d.top = w'.heap.size ∧ d.n = n ∧ d.sz = sz ∧ d.f = f) ∧ Hid (Pg w' d none 0 (fun _ => false) 0 (fun _ => 0)) ∧ Hid (Below w.heap.size w w') := by
  have z1 : ¬ ((sz : Int) < 1) := by omega
  have z2 : (sz : Int) ≤ 512 := by omega
  have z3 : (n : Int) ≤ 4000 := by omega
  go_enter Try.func14, Try.ntmps14
  go_wp2_with fail
  refine (copyB_any a n c f w (by omega) hl.out).mono ?_
  rintro e W1 ⟨rfl, O1, B1⟩
  go_wp2_with fail
  refine (cut_any w.heap.size n sz W1 hn h0 h1).mono ?_
  rintro e W2 ⟨m, v, rfl, O2, J, B2⟩
  obtain ⟨pa, pc, rfl, _, _⟩ := O2.out.sl
  have hm : m ≤ n := by
    rcases Nat.lt_or_ge n m with h | h
    · have h3 := (J.out n).2 h
      have h4 : n * 1 ≤ n * sz := Nat.mul_le_mul_left n h0
      omega
    · exact h
  obtain ⟨hmk, hO3⟩ := made 66 4 Try.t4 (.bool false) 1 Try.underlying66 info4 (by kernel_rfl) (by kernel_rfl) (by kernel_rfl) rfl (by omega) m (by omega) W2 W2.heap.size (Nat.le_refl _)
  have O3 : Hid _ := hO3
  clear hO3
  go_wp2_with fail
  go_ret2
  exact ⟨⟨w.heap.size, W2.heap.size + 2, W2.heap.size + 1, w.heap.size, W2.heap.size, pa, pc, n, sz, m, f⟩, rfl, ⟨rfl, by simp, rfl, rfl, rfl⟩, new_pg O1.out B1.out O2.out B2.out O3.out J.out hm hn h0 h1⟩
set_option maxHeartbeats 1000000 in
theorem new_bad (a : Option Addr) (n c : Nat) (sz : Int) (w : World) (h : sz < 1 ∨ 512 < sz ∨ 4000 < n) :
    Calls Try.prog 14 #[.slice a n c, .int .i64 sz] w fun e w' => e = .returned (.tuple #[.pointer none, .int .i64 1]) ∧ w' = w := by
  by_cases h1 : sz < 1
  · clear h
    go_enter Try.func14, Try.ntmps14
    go_wp2_with fail
    go_ret2
    exact ⟨rfl, rfl⟩
  · by_cases h2 : 512 < sz
    · clear h
      go_enter Try.func14, Try.ntmps14
      go_wp2_with fail
      go_ret2
      exact ⟨rfl, rfl⟩
    · have h3 : (4000 : Int) < n := by omega
      clear h
      have h4 : sz ≤ 512 := by omega
      go_enter Try.func14, Try.ntmps14
      go_wp2_with fail
      go_ret2
      exact ⟨rfl, rfl⟩
end Go.Proofs.Ytjlnmkoggobbgaa
