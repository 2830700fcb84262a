/- The document's text: Edit. -/
import Derived.Test.YtjelclomigmlmaaR1
namespace Go.Proofs.Ytjelclomigmlmaa
open Go.RowKit

theorem elem44 : Try.prog.elem 44 = 61 := by kernel_rfl
theorem under44 : Try.prog.underlying 44 = some (.slice (Try.prog.elem 44)) := by rw [elem44]; exact Try.underlying44
theorem size61 (w : World) : (sizeOf 61).run Try.prog w = .ok 2 w := by
  have e : Try.t61.size = 2 := by kernel_rfl
  simp [sizeOf, typeInfo, info61, e]
/-- The first z. -/
theorem slice_to2 (a : Option Addr) (n c z : Nat) (h2 : z ≤ n) (h3 : n ≤ c) (h4 : a = none → n = 0 ∧ c = 0) : ∃ p k, (∀ w, (Instr.slice 44 (.slice a n c) none (some (.int .i64 (z : Int))) none).run Try.prog w = .ok (.slice p z k) w) ∧ (∀ w L, L.length = n → Ls w a (cellsB L) → Ls w p (cellsB (L.take z))) ∧ (p = none → z = 0 ∧ k = 0) := by
  refine ⟨if c = 0 then a else a.map (·.add (0 * 2)), c - 0, ?_, ?_, ?_⟩
  · intro w
    rw [run_slice_h w 44 a n c under44 .i64 z (by omega) (by omega), elem44, size61]
    simp only [Result.andThen_ok, sliced, Int.toNat_natCast, Nat.sub_zero]
  · intro w L hl h
    rw [← cellsB_take]
    split
    · exact h.take _
    · rw [Nat.zero_mul]
      have := (h.drop 0).take (z * 2)
      rw [List.drop_zero] at this
      exact this
  · intro e
    have : a = none := by
      split at e
      · exact e
      · cases a with
        | none => rfl
        | some p => simp at e
    have := h4 this
    omega
/-- From y on. -/
theorem slice_from2 (a : Option Addr) (n c y : Nat) (h2 : y ≤ n) (h3 : n ≤ c) (h4 : a = none → n = 0 ∧ c = 0) : ∃ p k, (∀ w, (Instr.slice 44 (.slice a n c) (some (.int .i64 (y : Int))) none none).run Try.prog w = .ok (.slice p (n - y) k) w) ∧ (∀ w L, L.length = n → Ls w a (cellsB L) → Ls w p (cellsB (L.drop y))) ∧ (p = none → n - y = 0 ∧ k = 0) := by
  refine ⟨if c = y then a else a.map (·.add (y * 2)), c - y, ?_, ?_, ?_⟩
  · intro w
    rw [run_slice_l w 44 a n c under44 .i64 y (by omega) (by omega), elem44, size61]
    simp only [Result.andThen_ok, sliced, Int.toNat_natCast]
  · intro w L hl h
    split
    · have : L.drop y = [] := List.drop_eq_nil_of_le (by omega)
      rw [this]; exact Ls.nil _ _
    · rw [← cellsB_drop]; exact h.drop _
  · intro e
    have : a = none := by
      split at e
      · exact e
      · cases a with
        | none => rfl
        | some p => simp at e
    have := h4 this
    omega

/-- An append of such bytes in a region that draws. -/
theorem step_append_2 {ops : Array Oper} {o : Oper} {a : Act} {w : World} {K : Act → World → Prop} {Q : Exit → Act → World → Prop} {E : Prop} (hgd : o.guard = none) (s x : Operand)
    (ho : o.op = .call { callee := .builtin .append, args := #[s, x], argTypes := #[44, 44] })
    (base : Nat) (w0 : World) (v : Value) (l : List Bt) (sl : Option Addr) (m c : Nat) (l' : List Bt) (hs : a.eval s = v) (hx : a.eval x = .slice sl m c) (hm : m = l'.length)
    (hown : O2b w base v l) (hsl : Ls w sl (cellsB l')) (hn : l.length + l'.length < 100000) (hnone : sl = none → l'.length = 0 ∧ c = 0) (hw0 : Below base w0 w) (hb : base ≤ w0.heap.size)
    (h : ∀ v' W, O2b W base v' (l ++ l') → w.grownBy W v.ownBlock → Below base w0 W → K (a.put o.dst v') W) :
    if Region.wanted o (yielded ops a.tmps) = true then Oper.wp Try.prog o a w K Q else E := by
  have hw : Region.wanted o (yielded ops a.tmps) = true := by simp [Region.wanted, hgd]
  rw [if_pos hw]
  subst hm
  obtain ⟨v', W, h1, h2, h3, _⟩ := append_2 o.type w base v l l' sl c hown hsl hn hnone (Nat.le_trans hb hw0.size)
  exact wp_append_given s x 44 ho v _ v' W hs hx h1 (h v' W h2 h3 (hw0.grown h3 (Nat.le_trans hb hw0.size) (fun k hk => (ow_blk hown k hk).1)))

/-- Rows of two kinds lie apart. -/
theorem ne_blocks {w : World} {b b' k k' n n' : Nat} {e e' : TypeId} {v v' : Value} {xs xs' : List Value} (h : w.ownsRow b e k v n xs) (h' : w.ownsRow b' e' k' v' n' xs') (he : e ≠ e') : ∀ j, v.ownBlock = some j → ¬ v'.ownBlock = some j := by
  intro j hj hj'
  rcases h.2 with ⟨rfl, _⟩ | ⟨g, cap, cur, rfl, _, hg, _⟩
  · simp [Value.ownBlock] at hj
  · rcases h'.2 with ⟨rfl, _⟩ | ⟨g', cap', cur', rfl, _, hg', _⟩
    · simp [Value.ownBlock] at hj'
    · have e1 : g = j := by simpa [Value.ownBlock] using hj
      have e2 : g' = j := by simpa [Value.ownBlock] using hj'
      subst e1 e2
      rw [hg] at hg'
      injection hg' with h1
      injection h1 with _ h2
      exact he h2
/-- A row goes on while another one of another kind grows. -/
theorem carry {w W : World} {b b' k k' n n' : Nat} {e e' : TypeId} {v v' : Value} {xs xs' : List Value} (h : w.ownsRow b e k v n xs) (h' : w.ownsRow b' e' k' v' n' xs') (g : w.grownBy W v'.ownBlock) (he : e ≠ e') : W.ownsRow b e k v n xs :=
  (Mv.of_grown g).owns h (ne_blocks h h' he)
theorem ow_alloc {w : World} {b k n : Nat} {e : TypeId} {v : Value} {xs : List Value} (h : w.ownsRow b e k v n xs) (o : Obj) : (w.alloc o).ownsRow b e k v n xs := (Mv.alloc (fun _ => False) w o).owns h (fun _ _ h => h)
theorem ow_alloc_drew {w : World} {b k n : Nat} {e : TypeId} {v : Value} {xs : List Value} (h : w.ownsRow b e k v n xs) (o : Obj) : (w.alloc o).drew.ownsRow b e k v n xs := ow_alloc h o

theorem range_cat (A f : Nat → Int) (m k : Nat) : (List.range m).map A ++ (List.range k).map f = (List.range (m + k)).map (catI A m f) := by
  apply List.ext_getElem
  · simp
  · intro i h1 h2
    by_cases h : i < m
    · rw [List.getElem_append_left (by simpa using h)]
      simp [catI, h]
    · rw [List.getElem_append_right (by simpa using h)]
      simp [catI, h]
theorem ob_own {w : World} {base : Nat} {v : Value} {g : Nat → Int} {n : Nat} (h : OB w base v ((List.range n).map g)) : Own w base 5 v n (By g) := by
  unfold Own row
  have e : (List.range n).map (By g) = bv ((List.range n).map g) := by rw [bv, List.map_map]; rfl
  rw [e]
  have hl : ((List.range n).map g).length = n := by simp
  have h2 := h
  unfold OB at h2
  rw [hl] at h2
  exact h2

/-- What Edit leaves of the document's text. -/
theorem redit_fin {w W : World} {r : Nat} {L : List Bt} {m : Nat} {A : Nat → Int} {vl va v u : Value} {M : List Bt} {k : Nat} {B : Nat → Int} (h : RxAt w r L m A vl va) (b : Below w.heap.size w W) (o : O2b W w.heap.size v M) (p : OB W w.heap.size u ((List.range k).map B)) :
    RxAt ((W.setCell ⟨r, 0, none⟩ v).setCell ⟨r, 1, none⟩ u) r M k B v u ∧ Mv (fun j => j = r) w ((W.setCell ⟨r, 0, none⟩ v).setCell ⟨r, 1, none⟩ u) := by
  have hr := h.lt
  have q := qt_of_below b
  have h2 := h.qt q
  have M1 : Mv (fun j => j = r) W ((W.setCell ⟨r, 0, none⟩ v).setCell ⟨r, 1, none⟩ u) := (Mv.setCell W ⟨r, 0, none⟩ v).trans (Mv.setCell _ ⟨r, 1, none⟩ u) (fun _ _ h => h)
  refine ⟨⟨?_, ?_, ?_, ?_, ow_mono (M1.owns o (fun j e (e' : j = r) => by have := (ow_blk o j e).1; omega)) (fun _ _ => Nat.zero_le _), ob_own (ow_mono (M1.owns p (fun j e (e' : j = r) => by have := (ow_blk p j e).1; omega)) (fun _ _ => Nat.zero_le _))⟩, (q.mono (fun _ _ h => h.elim)).trans M1 (fun _ _ h => h)⟩
  · rw [World.cell?_setCell_other _ _ _ _ (fun e => by cases e)]
    exact World.cell?_setCell_same _ _ _ h2.c0
  · have e1 : (W.setCell ⟨r, 0, none⟩ v).cell? ⟨r, 1, none⟩ = some va := by
      rw [World.cell?_setCell_other _ _ _ _ (fun e => by cases e)]
      exact h2.c1
    exact World.cell?_setCell_same _ _ _ e1
  · rw [World.frozen?_setCell, World.frozen?_setCell]; exact h2.z0
  · rw [World.frozen?_setCell, World.frozen?_setCell]; exact h2.z1

section
variable {w : World} {r : Nat} {L : List Bt} {m : Nat} {A : Nat → Int} {vl va : Value}
set_option maxHeartbeats 1000000 in
theorem redit_arg (h : Hid (RxAt w r L m A vl va)) (a b : Int) (sa : Option Addr) (k sc : Nat) (hab : ¬ (0 ≤ a ∧ a ≤ b ∧ b ≤ L.length)) :
    Calls Try.prog 14 #[.pointer (some ⟨r, 0, none⟩), .int .i64 a, .int .i64 b, .slice sa k sc] w fun e w' => e = .returned (.int .i64 1) ∧ Hid (Qt w w') := by
  obtain ⟨la, lc, rfl, -⟩ := ow_ls h.out.ll
  have c0 := h.out.c0
  by_cases h1 : a < 0
  · clear hab
    generalize L.length = N at *
    go_enter Try.func14, Try.ntmps14
    go_wp2_with fail
    go_ret
    exact ⟨rfl, Qt.refl w⟩
  · by_cases h2 : b < a
    · clear hab
      generalize L.length = N at *
      go_enter Try.func14, Try.ntmps14
      go_wp2_with fail
      go_ret
      exact ⟨rfl, Qt.refl w⟩
    · have h3 : (L.length : Int) < b := by omega
      clear hab
      generalize L.length = N at *
      go_enter Try.func14, Try.ntmps14
      go_wp2_with fail
      go_ret
      exact ⟨rfl, Qt.refl w⟩
set_option maxHeartbeats 1000000 in
theorem redit_big (h : Hid (RxAt w r L m A vl va)) (a b : Int) (sa : Option Addr) (k sc : Nat) (hab : 0 ≤ a ∧ a ≤ b ∧ b ≤ L.length) (hk : 300 < k) :
    Calls Try.prog 14 #[.pointer (some ⟨r, 0, none⟩), .int .i64 a, .int .i64 b, .slice sa k sc] w fun e w' => e = .returned (.int .i64 10) ∧ Hid (Qt w w') := by
  obtain ⟨la, lc, rfl, -⟩ := ow_ls h.out.ll
  have c0 := h.out.c0
  obtain ⟨h1, h2, h3⟩ := hab
  have hkz : (300 : Int) < k := by omega
  generalize L.length = N at *
  go_enter Try.func14, Try.ntmps14
  go_wp2_with fail
  go_ret
  exact ⟨rfl, Qt.refl w⟩
end
end Go.Proofs.Ytjelclomigmlmaa
