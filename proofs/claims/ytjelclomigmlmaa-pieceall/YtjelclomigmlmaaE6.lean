/- Parts of slices of bytes; appends of bytes in regions that draw. -/
import Derived.Test.YtjelclomigmlmaaE5
namespace Go.Proofs.Ytjelclomigmlmaa
open Go.RowKit

theorem elem28 : Try.prog.elem 28 = 5 := by kernel_rfl
theorem under28 : Try.prog.underlying 28 = some (.slice (Try.prog.elem 28)) := by rw [elem28]; exact Try.underlying28
theorem size5 (w : World) : (sizeOf 5).run Try.prog w = .ok 1 w := by
  have e : Try.t5.size = 1 := by kernel_rfl
  simp [sizeOf, typeInfo, info5, e]

theorem bv_take (l : List Int) (n : Nat) : (bv l).take n = bv (l.take n) := by rw [bv, bv, List.map_take]
theorem bv_drop (l : List Int) (n : Nat) : (bv l).drop n = bv (l.drop n) := by rw [bv, bv, List.map_drop]
theorem bv_length (l : List Int) : (bv l).length = l.length := by rw [bv, List.length_map]

/-- From y on, up to z. -/
theorem slice_midB (a : Option Addr) (n c y z : Nat) (h1 : y ≤ z) (h2 : z ≤ n) (h3 : n ≤ c) (h4 : a = none → n = 0 ∧ c = 0) : ∃ p k, (∀ w, (Instr.slice 28 (.slice a n c) (some (.int .i64 (y : Int))) (some (.int .i64 (z : Int))) none).run Try.prog w = .ok (.slice p (z - y) k) w) ∧ (∀ w l, l.length = n → Ls w a (bv l) → Ls w p (bv ((l.drop y).take (z - y)))) ∧ (p = none → z - y = 0 ∧ k = 0) := by
  refine ⟨if c = y then a else a.map (·.add (y * 1)), c - y, ?_, ?_, ?_⟩
  · intro w
    rw [run_slice_lh w 28 a n c under28 .i64 .i64 y z (by omega) (by omega) (by omega), elem28, size5]
    simp only [Result.andThen_ok, sliced, Int.toNat_natCast]
  · intro w l hl h
    split
    · have : (l.drop y).take (z - y) = [] := by rw [show z - y = 0 by omega, List.take_zero]
      rw [this]; exact Ls.nil _ _
    · rw [Nat.mul_one, ← bv_take, ← bv_drop]; exact (h.drop y).take _
  · intro e
    have : a = none := by
      split at e
      · exact e
      · cases a with
        | none => rfl
        | some p => simp at e
    have := h4 this
    omega
/-- The first z. -/
theorem slice_toB (a : Option Addr) (n c z : Nat) (h2 : z ≤ n) (h3 : n ≤ c) (h4 : a = none → n = 0 ∧ c = 0) : ∃ p k, (∀ w, (Instr.slice 28 (.slice a n c) none (some (.int .i64 (z : Int))) none).run Try.prog w = .ok (.slice p z k) w) ∧ (∀ w l, l.length = n → Ls w a (bv l) → Ls w p (bv (l.take z))) ∧ (p = none → z = 0 ∧ k = 0) := by
  refine ⟨if c = 0 then a else a.map (·.add (0 * 1)), c - 0, ?_, ?_, ?_⟩
  · intro w
    rw [run_slice_h w 28 a n c under28 .i64 z (by omega) (by omega), elem28, size5]
    simp only [Result.andThen_ok, sliced, Int.toNat_natCast, Nat.sub_zero]
  · intro w l hl h
    rw [← bv_take]
    split
    · exact h.take z
    · rw [Nat.zero_mul]
      have := (h.drop 0).take z
      rw [List.drop_zero] at this
      exact this
  · intro e
    have : a = none := by
      split at e
      · exact e
      · cases a with
        | none => rfl
        | some p => simp at e
    have := h4 this
    omega
/-- From y on. -/
theorem slice_fromB (a : Option Addr) (n c y : Nat) (h2 : y ≤ n) (h3 : n ≤ c) (h4 : a = none → n = 0 ∧ c = 0) : ∃ p k, (∀ w, (Instr.slice 28 (.slice a n c) (some (.int .i64 (y : Int))) none none).run Try.prog w = .ok (.slice p (n - y) k) w) ∧ (∀ w l, l.length = n → Ls w a (bv l) → Ls w p (bv (l.drop y))) ∧ (p = none → n - y = 0 ∧ k = 0) := by
  refine ⟨if c = y then a else a.map (·.add (y * 1)), c - y, ?_, ?_, ?_⟩
  · intro w
    rw [run_slice_l w 28 a n c under28 .i64 y (by omega) (by omega), elem28, size5]
    simp only [Result.andThen_ok, sliced, Int.toNat_natCast]
  · intro w l hl h
    split
    · have : l.drop y = [] := List.drop_eq_nil_of_le (by omega)
      rw [this]; exact Ls.nil _ _
    · rw [Nat.mul_one, ← bv_drop]; exact h.drop y
  · intro e
    have : a = none := by
      split at e
      · exact e
      · cases a with
        | none => rfl
        | some p => simp at e
    have := h4 this
    omega

/-- An append of bytes in a region that draws. -/
theorem step_append_b {ops : Array Oper} {o : Oper} {a : Act} {w : World} {K : Act → World → Prop} {Q : Exit → Act → World → Prop} {E : Prop} (hgd : o.guard = none) (s x : Operand)
    (ho : o.op = .call { callee := .builtin .append, args := #[s, x], argTypes := #[28, 28] })
    (base : Nat) (w0 : World) (v : Value) (l : List Int) (sl : Option Addr) (m c : Nat) (l' : List Int) (hs : a.eval s = v) (hx : a.eval x = .slice sl m c) (hm : m = l'.length)
    (hown : OB w base v l) (hsl : Ls w sl (bv l')) (hn : l.length + l'.length < 100000) (hnone : sl = none → l'.length = 0 ∧ c = 0) (hw0 : Below base w0 w) (hb : base ≤ w0.heap.size)
    (h : ∀ v' W, OB W base v' (l ++ l') → w.grownBy W v.ownBlock → Below base w0 W → K (a.put o.dst v') W) :
    if Region.wanted o (yielded ops a.tmps) = true then Oper.wp Try.prog o a w K Q else E := by
  have hw : Region.wanted o (yielded ops a.tmps) = true := by simp [Region.wanted, hgd]
  rw [if_pos hw]
  subst hm
  obtain ⟨v', W, h1, h2, h3, _⟩ := append_b o.type w base v l l' sl c hown hsl hn hnone (Nat.le_trans hb hw0.size)
  exact wp_append_given s x 28 ho v _ v' W hs hx h1 (h v' W h2 h3 (hw0.grown h3 (Nat.le_trans hb hw0.size) (fun k hk => (ow_blk hown k hk).1)))
theorem ob_empty (w : World) (base B : Nat) (hB : B = w.heap.size) (hb : base ≤ w.heap.size) : OB (w.alloc (.cells #[] 5)) base (.slice (some ⟨B, 0, none⟩) 0 0) [] := by
  subst hB
  exact ow_new w base 1 5 #[] 0 hb (by omega) rfl
theorem ob_empty_drew (w : World) (base B : Nat) (hB : B = w.heap.size) (hb : base ≤ w.heap.size) : OB (w.alloc (.cells #[] 5)).drew base (.slice (some ⟨B, 0, none⟩) 0 0) [] := ob_empty w base B hB hb

theorem range_part (g : Nat → Int) (n fr to : Nat) (h : to ≤ n) : (((List.range n).map g).drop fr).take (to - fr) = (List.range' fr (to - fr)).map g := by
  apply List.ext_getElem
  · simp
    omega
  · intro i h1 h2
    simp
theorem part_bt (G A : Nat → Int) (a : Bool) (n fr to : Nat) (h : to ≤ n) : (((List.range n).map (if a then A else G)).drop fr).take (to - fr) = (sp1 ⟨a, fr, to⟩).map (bt G A) := by
  rw [range_part _ _ _ _ h]
  unfold sp1
  rw [List.map_map]
  apply List.map_congr_left
  intro k _
  cases a <;> rfl
end Go.Proofs.Ytjelclomigmlmaa
