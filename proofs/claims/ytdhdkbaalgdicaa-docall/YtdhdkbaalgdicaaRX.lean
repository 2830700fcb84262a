/- RX: r7_R1 r7_R5 r7_R6. -/
import Derived.BigRegion
import Derived.Deep.RegionLaw
import Derived.Test.YtdhdkbaalgdicaaTX
/- The document's text: byte by byte; NewText. -/
namespace Go.Proofs.Ytdhdkbaalgdicaa
open Go.RowKit

theorem info61 : Try.prog.info? 55 = some Try.t55 := by kernel_rfl
def bcs (x : Bt) : List Value := [.bool x.1, .int .i64 x.2]
def cellsB (L : List Bt) : List Value := L.flatMap bcs
theorem cellsB_nil : cellsB [] = [] := rfl
theorem cellsB_cons (x : Bt) (L : List Bt) : cellsB (x :: L) = bcs x ++ cellsB L := by simp [cellsB]
theorem cellsB_append (L M : List Bt) : cellsB (L ++ M) = cellsB L ++ cellsB M := by simp [cellsB]
theorem cellsB_length : ∀ L : List Bt, (cellsB L).length = L.length * 2
  | [] => rfl
  | x :: L => by rw [cellsB_cons, List.length_append, cellsB_length L, List.length_cons]; simp [bcs]; omega
theorem cellsB_one (L : List Bt) : ∀ u ∈ cellsB L, u.oneCell' = true := by
  intro u hu
  simp only [cellsB, List.mem_flatMap] at hu
  obtain ⟨p, _, hu⟩ := hu
  simp [bcs] at hu
  rcases hu with rfl | rfl <;> rfl
theorem cellsB_get : ∀ (L : List Bt) (i : Nat) (x : Bt), L[i]? = some x → (cellsB L)[i * 2]? = some (.bool x.1) ∧ (cellsB L)[i * 2 + 1]? = some (.int .i64 x.2)
  | [], i, p, h => by simp at h
  | q :: r, 0, p, h => by
    simp at h
    subst h
    rw [cellsB_cons]
    exact ⟨rfl, rfl⟩
  | q :: r, i + 1, p, h => by
    rw [List.getElem?_cons_succ] at h
    have ih := cellsB_get r i p h
    have e : ∀ j, (cellsB (q :: r))[(i + 1) * 2 + j]? = (cellsB r)[i * 2 + j]? := by
      intro j
      rw [cellsB_cons, List.getElem?_append_right (by simp [bcs]; omega)]
      congr 1
      simp [bcs]; omega
    have e0 := e 0
    simp only [Nat.add_zero] at e0
    exact ⟨by rw [e0]; exact ih.1, by rw [e 1]; exact ih.2⟩
theorem cellsB_take (L : List Bt) (i : Nat) : (cellsB L).take (i * 2) = cellsB (L.take i) := by
  by_cases h : i ≤ L.length
  · conv => lhs; rw [← List.take_append_drop i L, cellsB_append]
    rw [List.take_left' (by rw [cellsB_length, List.length_take]; omega)]
  · rw [List.take_of_length_le (by rw [cellsB_length]; omega), List.take_of_length_le (by omega)]
theorem cellsB_drop (L : List Bt) (i : Nat) : (cellsB L).drop (i * 2) = cellsB (L.drop i) := by
  by_cases h : i ≤ L.length
  · conv => lhs; rw [← List.take_append_drop i L, cellsB_append]
    rw [List.drop_left' (by rw [cellsB_length, List.length_take]; omega)]
  · rw [List.drop_eq_nil_of_le (by rw [cellsB_length]; omega), List.drop_eq_nil_of_le (by omega)]; rfl
theorem lsb_get {w : World} {a : Option Addr} {L : List Bt} {i : Nat} {x : Bt} (h : Ls w a (cellsB L)) (hi : L[i]? = some x) : ∃ b off, a = some ⟨b, off, none⟩ ∧ b < w.heap.size ∧ w.cell? ⟨b, off + i * 2, none⟩ = some (.bool x.1) ∧ w.cell? ⟨b, off + i * 2 + 1, none⟩ = some (.int .i64 x.2) := by
  obtain ⟨h0, h1⟩ := cellsB_get L i x hi
  obtain ⟨b, off, e, hb, c0⟩ := h _ _ h0
  obtain ⟨b1, off1, e1, _, c1⟩ := h _ _ h1
  rw [e] at e1
  cases e1
  exact ⟨b, off, e, hb, c0, by rw [Nat.add_assoc]; exact c1⟩

/-- A row of such bytes of its own. -/
abbrev O2b (w : World) (base : Nat) (v : Value) (L : List Bt) : Prop := w.ownsRow base 55 2 v L.length (cellsB L)
theorem append_2 (ty : TypeId) (w : World) (base : Nat) (v : Value) (L M : List Bt) (s : Option Addr) (c : Nat) (h : O2b w base v L) (hs : Ls w s (cellsB M)) (hn : L.length + M.length < 100000) (hnone : s = none → M.length = 0 ∧ c = 0) (hb : base ≤ w.heap.size) :
    ∃ v' W, (Builtin.append_ #[37, 37] ty #[v, .slice s M.length c]).run Try.prog w = .ok v' W ∧ O2b W base v' (L ++ M) ∧ w.grownBy W v.ownBlock ∧ (v'.ownBlock = v.ownBlock ∨ ∃ g, v'.ownBlock = some g ∧ w.heap.size ≤ g) := by
  obtain ⟨v', W, h1, h2, h3⟩ := append_ow 37 ty 55 Try.t55 (.agg #[.bool false, .int .i64 0]) 2 16 Try.underlying37 info61 (by kernel_rfl) (by kernel_rfl) (by kernel_rfl) (by rfl) (by omega) (by omega) w base v L.length M.length c (cellsB L) (cellsB M) s h hs (cellsB_length M) (cellsB_one M) hn hnone hb
  refine ⟨v', W, h1, ?_, h3⟩
  rw [← cellsB_append, ← List.length_append] at h2
  exact h2
/-- One more. -/
theorem append_2one (w : World) (base : Nat) (v : Value) (L : List Bt) (a : Bool) (z : Int) (k : Nat) (hz : z = k) (h : O2b w base v L) (hl : L.length < 90000) (hb : base ≤ w.heap.size) :
    ∃ v' W, (Builtin.append_ #[37, 37] 37 #[v, .slice (some ⟨w.heap.size, 0, none⟩) 1 1]).run Try.prog (w.alloc (.cells #[.bool a, .int .i64 z] 55)) = .ok v' W ∧ O2b W base v' (L ++ [(a, k)]) ∧ Mv (fun j => v.ownBlock = some j) w W ∧ (v'.ownBlock = v.ownBlock ∨ ∃ g, v'.ownBlock = some g ∧ w.heap.size ≤ g) := by
  subst hz
  have q : Qt w (w.alloc (.cells #[.bool a, .int .i64 k] 55)) := (Qt.refl w).alloc _
  obtain ⟨v', W, h1, h2, h3, h4⟩ := append_2 37 _ base v L [(a, k)] (some ⟨w.heap.size, 0, none⟩) 1 (q.owns h (fun _ _ h => h)) (Ls.new w #[.bool a, .int .i64 k] 55) (by simp; omega) (fun e => by cases e) (Nat.le_trans hb q.size)
  refine ⟨v', W, h1, h2, (q.mono (fun _ _ h => h.elim)).trans (Mv.of_grown h3) (fun _ _ h => h), ?_⟩
  rcases h4 with h4 | ⟨g, h4, h5⟩
  · exact .inl h4
  · exact .inr ⟨g, h4, Nat.le_trans q.size h5⟩

/-- The document's text: its block, its bytes, what was added. -/
structure RxAt (w : World) (r : Nat) (L : List Bt) (m : Nat) (A : Nat → Int) (vl va : Value) : Prop where
  c0 : w.cell? ⟨r, 0, none⟩ = some vl
  c1 : w.cell? ⟨r, 1, none⟩ = some va
  z0 : w.frozen? ⟨r, 0, none⟩ = false
  z1 : w.frozen? ⟨r, 1, none⟩ = false
  ll : O2b w 0 vl L
  ad : Own w 0 5 va m (By A)
section
variable {w w' : World} {r : Nat} {L : List Bt} {m : Nat} {A : Nat → Int} {vl va : Value}
theorem RxAt.mv {S : Nat → Prop} (h : RxAt w r L m A vl va) (k : Mv S w w') (hr : ¬ S r) (hl : ∀ j, vl.ownBlock = some j → ¬ S j) (ha : ∀ j, va.ownBlock = some j → ¬ S j) : RxAt w' r L m A vl va := by
  have hp : r < w.heap.size := World.block_lt_of_cell? _ _ h.c0
  exact ⟨k.cell h.c0 hr, k.cell h.c1 hr, (k.frozen (p := ⟨r, 0, none⟩) hp hr).trans h.z0, (k.frozen (p := ⟨r, 1, none⟩) hp hr).trans h.z1, k.owns h.ll hl, h.ad.mv k ha⟩
theorem RxAt.qt (h : RxAt w r L m A vl va) (k : Qt w w') : RxAt w' r L m A vl va := h.mv k (fun h => h) (fun _ _ h => h) (fun _ _ h => h)
theorem RxAt.lt (h : RxAt w r L m A vl va) : r < w.heap.size := World.block_lt_of_cell? _ _ h.c0
/-- One that is new. -/
theorem RxAt.set (h : RxAt w r L m A vl va) {v : Value} {M : List Bt} (o : O2b w 0 v M) (h1 : v.ownBlock ≠ some r) (h2 : va.ownBlock ≠ some r) : RxAt (w.setCell ⟨r, 0, none⟩ v) r M m A v va := by
  have k := Mv.setCell w ⟨r, 0, none⟩ v
  refine ⟨World.cell?_setCell_same _ _ _ h.c0, ?_, ?_, ?_, k.owns o (fun j e (e' : j = r) => h1 (by rw [← e']; exact e)), h.ad.mv k (fun j e (e' : j = r) => h2 (by rw [← e']; exact e))⟩
  · rw [World.cell?_setCell_other _ _ _ _ (fun e => by cases e)]; exact h.c1
  · rw [World.frozen?_setCell]; exact h.z0
  · rw [World.frozen?_setCell]; exact h.z1
end

set_option maxHeartbeats 1000000 in
theorem newText_any (z : Int) (hz : z ≤ 10000) (w : World) :
    Calls Try.prog 10 #[.int .i64 z] w fun e w' => e = .returned (.pointer (some ⟨w.heap.size, 0, none⟩)) ∧ ∃ vl, Hid (RxAt w' w.heap.size (sp1 ⟨false, 0, z.toNat⟩) 0 (fun _ => 0) vl (.slice none 0 0) ∧ Qt w w') := by
  obtain ⟨n, hn⟩ : ∃ n : Nat, n = z.toNat := ⟨_, rfl⟩
  have hn' : n ≤ 10000 := by omega
  have HN : Hid (∀ i : Nat, (i : Int) < z ↔ i < n) := fun i => by omega
  rw [← hn]
  clear hn hz
  have START : Hid (RxAt (w.alloc (.cells #[.slice none 0 0, .slice none 0 0] 39)) w.heap.size (sp1 ⟨false, 0, 0⟩) 0 (fun _ => 0) (.slice none 0 0) (.slice none 0 0)) := ⟨(alloc_new w _ 39 0 _ rfl).1, (alloc_new w _ 39 1 _ rfl).1, (alloc_new w _ 39 0 _ rfl).2, (alloc_new w _ 39 1 _ rfl).2, ow_nil _ _ _ _, own_nil _ _ _ _⟩
  obtain ⟨r, hr⟩ : ∃ r, r = w.heap.size := ⟨_, rfl⟩
  have HR : Hid (r = w.heap.size) := hr
  rw [← hr] at START
  rw [← hr]
  go_enter Try.func10, Try.ntmps10
  go_wp2_with fail
  rw [← hr]
  clear hr
  go_loopw [4] (fun vi wr => ∃ i : Nat, i ≤ n ∧ vi = .int .i64 i ∧ ∃ vl, Hid (RxAt wr r (sp1 ⟨false, 0, i⟩) 0 (fun _ => 0) vl (.slice none 0 0) ∧ Qt w wr ∧ ∀ j, vl.ownBlock = some j → r < j)) (fun vi _ => n - (intOf vi).toNat)
  case atStart => exact ⟨0, by omega, rfl, _, START.out, (Qt.refl w).alloc _, fun j e => (by simp [Value.ownBlock] at e)⟩
  case round =>
    clear START
    obtain ⟨i, hi, rfl, vl, R⟩ := hrel
    by_cases hlt : i < n
    · have hltz : (i : Int) < z := (HN.out i).2 hlt
      have c0 := R.out.1.c0
      have z0 := R.out.1.z0
      have hl : (sp1 ⟨false, 0, i⟩).length < 90000 := by rw [sp1_length]; show i - 0 < _; omega
      obtain ⟨v', W, hr, o, mm, x⟩ := append_2one wr 0 vl (sp1 ⟨false, 0, i⟩) false (i : Int) i rfl R.out.1.ll hl (Nat.zero_le _)
      have nr : vl.ownBlock ≠ some r := fun e => by have := R.out.2.2 r e; omega
      have nr' : ∀ j, v'.ownBlock = some j → r < j := by
        intro j e
        rcases x with x | ⟨g, x, y⟩
        · rw [x] at e; exact R.out.2.2 j e
        · rw [x] at e; cases e
          have := R.out.1.lt
          omega
      have d0 := mm.cell c0 nr
      have y0 := (mm.frozen (p := ⟨r, 0, none⟩) R.out.1.lt nr).trans z0
      have R2 : Hid (RxAt (W.setCell ⟨r, 0, none⟩ v') r (sp1 ⟨false, 0, i + 1⟩) 0 (fun _ => 0) v' (.slice none 0 0) ∧ Qt w (W.setCell ⟨r, 0, none⟩ v') ∧ ∀ j, v'.ownBlock = some j → r < j) := by
        refine ⟨?_, ?_, nr'⟩
        · rw [sp1_snoc false 0 i (Nat.zero_le _)]
          have k := Mv.setCell W ⟨r, 0, none⟩ v'
          refine ⟨World.cell?_setCell_same _ _ _ d0, ?_, ?_, ?_, k.owns o (fun j e (e' : j = r) => by have := nr' j e; omega), own_nil _ _ _ _⟩
          · rw [World.cell?_setCell_other _ _ _ _ (fun e => by cases e)]; exact mm.cell R.out.1.c1 nr
          · rw [World.frozen?_setCell]; exact y0
          · rw [World.frozen?_setCell]; exact (mm.frozen (p := ⟨r, 1, none⟩) R.out.1.lt nr).trans R.out.1.z1
        · have q1 : Qt w W := R.out.2.1.trans mm (fun j hj e => by have := R.out.2.2 j e; have := HR.out; omega)
          exact q1.trans (Mv.setCell W ⟨r, 0, none⟩ v') (fun j hj e => by have := HR.out; have e : j = r := e; omega)
      obtain ⟨va0, ca0, rfl, -⟩ := ow_ls R.out.1.ll
      obtain ⟨va1, ca1, rfl, -⟩ := ow_ls o
      clear R o mm x nr nr'
      generalize (sp1 ⟨false, 0, i⟩).length = l0 at *
      generalize (sp1 ⟨false, 0, i⟩ ++ [(false, i)]).length = l1 at *
      go_wp2_with (at_builtin; first | (refine wpList_append_given rfl _ _ 37 rfl _ _ _ W rfl rfl hr ?_))
      go_wp2_with fail
      exact ⟨⟨i + 1, by omega, by go_num, _, R2⟩, by simp [intOf]; omega⟩
    · have hge : z ≤ (i : Int) := by have := (HN.out i); omega
      obtain rfl : i = n := by omega
      go_wp2_with fail
      go_ret
      exact ⟨rfl, _, R.out.1, R.out.2.1⟩
end Go.Proofs.Ytdhdkbaalgdicaa

/- The document's text: Edit. -/
namespace Go.Proofs.Ytdhdkbaalgdicaa
open Go.RowKit

theorem qt_of_below {w w' : World} (h : Below w.heap.size w w') : Qt w w' := (Mv.of_below h).mono (fun j hj hh => by omega)
theorem elem44 : Try.prog.elem 37 = 55 := by kernel_rfl
theorem under44 : Try.prog.underlying 37 = some (.slice (Try.prog.elem 37)) := by rw [elem44]; exact Try.underlying37
theorem size61 (w : World) : (sizeOf 55).run Try.prog w = .ok 2 w := by
  have e : Try.t55.size = 2 := by kernel_rfl
  simp [sizeOf, typeInfo, info61, e]
/-- The first z. -/
theorem slice_to2 (a : Option Addr) (n c z : Nat) (h2 : z ≤ n) (h3 : n ≤ c) (h4 : a = none → n = 0 ∧ c = 0) : ∃ p k, (∀ w, (Instr.slice 37 (.slice a n c) none (some (.int .i64 (z : Int))) none).run Try.prog w = .ok (.slice p z k) w) ∧ (∀ w L, L.length = n → Ls w a (cellsB L) → Ls w p (cellsB (L.take z))) ∧ (p = none → z = 0 ∧ k = 0) := by
  refine ⟨if c = 0 then a else a.map (·.add (0 * 2)), c - 0, ?_, ?_, ?_⟩
  · intro w
    rw [run_slice_h w 37 a n c under44 .i64 z (by omega) (by omega), elem44, size61]
    simp only [Result.andThen_ok, sliced, Int.toNat_natCast, Nat.sub_zero]
  · intro w L hl h
    rw [← cellsB_take]
    split
    · exact h.take _
    · rw [Nat.zero_mul]
      have := (h.drop 0).take (z * 2)
      rw [List.drop_zero] at this
      exact this
  · intro e
    have : a = none := by
      split at e
      · exact e
      · cases a with
        | none => rfl
        | some p => simp at e
    have := h4 this
    omega
/-- From y on. -/
theorem slice_from2 (a : Option Addr) (n c y : Nat) (h2 : y ≤ n) (h3 : n ≤ c) (h4 : a = none → n = 0 ∧ c = 0) : ∃ p k, (∀ w, (Instr.slice 37 (.slice a n c) (some (.int .i64 (y : Int))) none none).run Try.prog w = .ok (.slice p (n - y) k) w) ∧ (∀ w L, L.length = n → Ls w a (cellsB L) → Ls w p (cellsB (L.drop y))) ∧ (p = none → n - y = 0 ∧ k = 0) := by
  refine ⟨if c = y then a else a.map (·.add (y * 2)), c - y, ?_, ?_, ?_⟩
  · intro w
    rw [run_slice_l w 37 a n c under44 .i64 y (by omega) (by omega), elem44, size61]
    simp only [Result.andThen_ok, sliced, Int.toNat_natCast]
  · intro w L hl h
    split
    · have : L.drop y = [] := List.drop_eq_nil_of_le (by omega)
      rw [this]; exact Ls.nil _ _
    · rw [← cellsB_drop]; exact h.drop _
  · intro e
    have : a = none := by
      split at e
      · exact e
      · cases a with
        | none => rfl
        | some p => simp at e
    have := h4 this
    omega

/-- An append of such bytes in a region that draws. -/
theorem step_append_2 {ops : Array Oper} {o : Oper} {a : Act} {w : World} {K : Act → World → Prop} {Q : Exit → Act → World → Prop} {E : Prop} (hgd : o.guard = none) (s x : Operand)
    (ho : o.op = .call { callee := .builtin .append, args := #[s, x], argTypes := #[37, 37] })
    (base : Nat) (w0 : World) (v : Value) (l : List Bt) (sl : Option Addr) (m c : Nat) (l' : List Bt) (hs : a.eval s = v) (hx : a.eval x = .slice sl m c) (hm : m = l'.length)
    (hown : O2b w base v l) (hsl : Ls w sl (cellsB l')) (hn : l.length + l'.length < 100000) (hnone : sl = none → l'.length = 0 ∧ c = 0) (hw0 : Below base w0 w) (hb : base ≤ w0.heap.size)
    (h : ∀ v' W, O2b W base v' (l ++ l') → w.grownBy W v.ownBlock → Below base w0 W → K (a.put o.dst v') W) :
    if Region.wanted o (yielded ops a.tmps) = true then Oper.wp Try.prog o a w K Q else E := by
  have hw : Region.wanted o (yielded ops a.tmps) = true := by simp [Region.wanted, hgd]
  rw [if_pos hw]
  subst hm
  obtain ⟨v', W, h1, h2, h3, _⟩ := append_2 o.type w base v l l' sl c hown hsl hn hnone (Nat.le_trans hb hw0.size)
  exact wp_append_given s x 37 ho v _ v' W hs hx h1 (h v' W h2 h3 (hw0.grown h3 (Nat.le_trans hb hw0.size) (fun k hk => (ow_blk hown k hk).1)))

/-- Rows of two kinds lie apart. -/
theorem ne_blocks {w : World} {b b' k k' n n' : Nat} {e e' : TypeId} {v v' : Value} {xs xs' : List Value} (h : w.ownsRow b e k v n xs) (h' : w.ownsRow b' e' k' v' n' xs') (he : e ≠ e') : ∀ j, v.ownBlock = some j → ¬ v'.ownBlock = some j := by
  intro j hj hj'
  rcases h.2 with ⟨rfl, _⟩ | ⟨g, cap, cur, rfl, _, hg, _⟩
  · simp [Value.ownBlock] at hj
  · rcases h'.2 with ⟨rfl, _⟩ | ⟨g', cap', cur', rfl, _, hg', _⟩
    · simp [Value.ownBlock] at hj'
    · have e1 : g = j := by simpa [Value.ownBlock] using hj
      have e2 : g' = j := by simpa [Value.ownBlock] using hj'
      subst e1 e2
      rw [hg] at hg'
      injection hg' with h1
      injection h1 with _ h2
      exact he h2
/-- A row goes on while another one of another kind grows. -/
theorem carry {w W : World} {b b' k k' n n' : Nat} {e e' : TypeId} {v v' : Value} {xs xs' : List Value} (h : w.ownsRow b e k v n xs) (h' : w.ownsRow b' e' k' v' n' xs') (g : w.grownBy W v'.ownBlock) (he : e ≠ e') : W.ownsRow b e k v n xs :=
  (Mv.of_grown g).owns h (ne_blocks h h' he)
theorem ow_alloc {w : World} {b k n : Nat} {e : TypeId} {v : Value} {xs : List Value} (h : w.ownsRow b e k v n xs) (o : Obj) : (w.alloc o).ownsRow b e k v n xs := (Mv.alloc (fun _ => False) w o).owns h (fun _ _ h => h)
theorem ow_alloc_drew {w : World} {b k n : Nat} {e : TypeId} {v : Value} {xs : List Value} (h : w.ownsRow b e k v n xs) (o : Obj) : (w.alloc o).drew.ownsRow b e k v n xs := ow_alloc h o

theorem range_cat (A f : Nat → Int) (m k : Nat) : (List.range m).map A ++ (List.range k).map f = (List.range (m + k)).map (catI A m f) := by
  apply List.ext_getElem
  · simp
  · intro i h1 h2
    by_cases h : i < m
    · rw [List.getElem_append_left (by simpa using h)]
      simp [catI, h]
    · rw [List.getElem_append_right (by simpa using h)]
      simp [catI, h]
theorem ob_own {w : World} {base : Nat} {v : Value} {g : Nat → Int} {n : Nat} (h : OB w base v ((List.range n).map g)) : Own w base 5 v n (By g) := by
  unfold Own row
  have e : (List.range n).map (By g) = bv ((List.range n).map g) := by rw [bv, List.map_map]; rfl
  rw [e]
  have hl : ((List.range n).map g).length = n := by simp
  have h2 := h
  unfold OB at h2
  rw [hl] at h2
  exact h2

/-- What Edit leaves of the document's text. -/
theorem redit_fin {w W : World} {r : Nat} {L : List Bt} {m : Nat} {A : Nat → Int} {vl va v u : Value} {M : List Bt} {k : Nat} {B : Nat → Int} (h : RxAt w r L m A vl va) (b : Below w.heap.size w W) (o : O2b W w.heap.size v M) (p : OB W w.heap.size u ((List.range k).map B)) :
    RxAt ((W.setCell ⟨r, 0, none⟩ v).setCell ⟨r, 1, none⟩ u) r M k B v u ∧ Mv (fun j => j = r) w ((W.setCell ⟨r, 0, none⟩ v).setCell ⟨r, 1, none⟩ u) := by
  have hr := h.lt
  have q := qt_of_below b
  have h2 := h.qt q
  have M1 : Mv (fun j => j = r) W ((W.setCell ⟨r, 0, none⟩ v).setCell ⟨r, 1, none⟩ u) := (Mv.setCell W ⟨r, 0, none⟩ v).trans (Mv.setCell _ ⟨r, 1, none⟩ u) (fun _ _ h => h)
  refine ⟨⟨?_, ?_, ?_, ?_, ow_mono (M1.owns o (fun j e (e' : j = r) => by have := (ow_blk o j e).1; omega)) (fun _ _ => Nat.zero_le _), ob_own (ow_mono (M1.owns p (fun j e (e' : j = r) => by have := (ow_blk p j e).1; omega)) (fun _ _ => Nat.zero_le _))⟩, (q.mono (fun _ _ h => h.elim)).trans M1 (fun _ _ h => h)⟩
  · rw [World.cell?_setCell_other _ _ _ _ (fun e => by cases e)]
    exact World.cell?_setCell_same _ _ _ h2.c0
  · have e1 : (W.setCell ⟨r, 0, none⟩ v).cell? ⟨r, 1, none⟩ = some va := by
      rw [World.cell?_setCell_other _ _ _ _ (fun e => by cases e)]
      exact h2.c1
    exact World.cell?_setCell_same _ _ _ e1
  · rw [World.frozen?_setCell, World.frozen?_setCell]; exact h2.z0
  · rw [World.frozen?_setCell, World.frozen?_setCell]; exact h2.z1

section
variable {w : World} {r : Nat} {L : List Bt} {m : Nat} {A : Nat → Int} {vl va : Value}
set_option maxHeartbeats 1000000 in
theorem redit_arg (h : Hid (RxAt w r L m A vl va)) (a b : Int) (sa : Option Addr) (k sc : Nat) (hab : ¬ (0 ≤ a ∧ a ≤ b ∧ b ≤ L.length)) :
    Calls Try.prog 13 #[.pointer (some ⟨r, 0, none⟩), .int .i64 a, .int .i64 b, .slice sa k sc] w fun e w' => e = .returned (.int .i64 1) ∧ Hid (Qt w w') := by
  obtain ⟨la, lc, rfl, -⟩ := ow_ls h.out.ll
  have c0 := h.out.c0
  by_cases h1 : a < 0
  · clear hab
    generalize L.length = N at *
    go_enter Try.func13, Try.ntmps13
    go_wp2_with fail
    go_ret
    exact ⟨rfl, Qt.refl w⟩
  · by_cases h2 : b < a
    · clear hab
      generalize L.length = N at *
      go_enter Try.func13, Try.ntmps13
      go_wp2_with fail
      go_ret
      exact ⟨rfl, Qt.refl w⟩
    · have h3 : (L.length : Int) < b := by omega
      clear hab
      generalize L.length = N at *
      go_enter Try.func13, Try.ntmps13
      go_wp2_with fail
      go_ret
      exact ⟨rfl, Qt.refl w⟩
set_option maxHeartbeats 1000000 in
theorem redit_big (h : Hid (RxAt w r L m A vl va)) (a b : Int) (sa : Option Addr) (k sc : Nat) (hab : 0 ≤ a ∧ a ≤ b ∧ b ≤ L.length) (hk : 300 < k) :
    Calls Try.prog 13 #[.pointer (some ⟨r, 0, none⟩), .int .i64 a, .int .i64 b, .slice sa k sc] w fun e w' => e = .returned (.int .i64 10) ∧ Hid (Qt w w') := by
  obtain ⟨la, lc, rfl, -⟩ := ow_ls h.out.ll
  have c0 := h.out.c0
  obtain ⟨h1, h2, h3⟩ := hab
  have hkz : (300 : Int) < k := by omega
  generalize L.length = N at *
  go_enter Try.func13, Try.ntmps13
  go_wp2_with fail
  go_ret
  exact ⟨rfl, Qt.refl w⟩
end
end Go.Proofs.Ytdhdkbaalgdicaa

/- The document's text: Edit, where it may be done. -/
namespace Go.Proofs.Ytdhdkbaalgdicaa
open Go.RowKit

theorem step_append_given {P : Program} {ops : Array Oper} {o : Oper} {a : Act} {w : World} {K : Act → World → Prop} {Q : Exit → Act → World → Prop} {E : Prop}
    (hg : o.guard = none) (s x : Operand) (t : TypeId) (hop : o.op = Op.call { callee := Callee.builtin Builtin.append, args := #[s, x], argTypes := #[t, t] })
    (sv xv v' : Value) (hs : a.eval s = sv) (hx : a.eval x = xv) (W : World) (hr : (Builtin.append_ #[t, t] o.type #[sv, xv]).run P w = .ok v' W)
    (hK : K (a.put o.dst v') W) : if Region.wanted o (yielded ops a.tmps) = true then Oper.wp P o a w K Q else E := by
  have hw : Region.wanted o (yielded ops a.tmps) = true := by simp [Region.wanted, hg]
  rw [if_pos hw]
  unfold Oper.wp
  simp [execOp, hop, resolve, invoke, builtin, hs, hx, hr, Result.andThen]
  exact hK

section
variable {w : World} {r : Nat} {L : List Bt} {m : Nat} {A : Nat → Int} {vl va : Value}
set_option maxHeartbeats 8000000 in
set_option maxRecDepth 20000 in
theorem redit_ok (h : Hid (RxAt w r L m A vl va)) (a b : Nat) (sa : Option Addr) (k sc : Nat) (f : Nat → Int) (hab : a ≤ b) (hb : b ≤ L.length) (hk : k ≤ 300) (hs : Hid (Sl w sa k (By f))) (hn : Hid (sa = none → k = 0 ∧ sc = 0)) (hm : m + k ≤ 20000) (hl : L.length + k ≤ 20000) :
    Calls Try.prog 13 #[.pointer (some ⟨r, 0, none⟩), .int .i64 a, .int .i64 b, .slice sa k sc] w fun e w' => e = .returned (.int .i64 0) ∧ ∃ vl' va', Hid (RxAt w' r (ins L a b m k) (m + k) (catI A m f) vl' va' ∧ Mv (fun j => j = r) w w' ∧ (∀ j, vl'.ownBlock = some j → w.heap.size ≤ j) ∧ ∀ j, va'.ownBlock = some j → w.heap.size ≤ j) := by
  obtain ⟨la, lc, rfl, ls, hlc, hln, -⟩ := ow_ls h.out.ll
  obtain ⟨aa, ac, rfl, asl, -, han⟩ := h.out.ad.sl
  have LS : Hid (Ls w la (cellsB L)) := ls
  have AS : Hid (Ls w aa (bv ((List.range m).map A))) := sl_ls asl
  have SS : Hid (Ls w sa (bv ((List.range k).map f))) := sl_ls hs.out
  have hrl := h.out.lt
  obtain ⟨N, hN⟩ : ∃ N, N = L.length := ⟨_, rfl⟩
  have HN : Hid (N = L.length) := hN
  have RC : Hid (∀ W, Below w.heap.size w W → W.cell? ⟨r, 0, none⟩ = some (.slice la N lc) ∧ W.cell? ⟨r, 1, none⟩ = some (.slice aa m ac) ∧ W.frozen? ⟨r, 0, none⟩ = false ∧ W.frozen? ⟨r, 1, none⟩ = false) := by
    intro W bW
    have := h.out.qt (qt_of_below bW)
    exact ⟨by rw [hN]; exact this.c0, this.c1, this.z0, this.z1⟩
  rw [← hN] at hlc hln hb hl
  clear hN ls asl
  obtain ⟨p1, k1, s1, f1, z1⟩ := slice_to2 la N lc a (by omega) hlc hln
  obtain ⟨p2, k2, s2, f2, z2⟩ := slice_from2 la N lc b hb hlc hln
  have P1 : Hid (Ls w p1 (cellsB (L.take a))) := f1 w L HN.out.symm LS.out
  have P2 : Hid (Ls w p2 (cellsB (L.drop b))) := f2 w L HN.out.symm LS.out
  have n1 : Hid ((L.take a).length = a) := by show _ = _; rw [List.length_take]; have := HN.out; omega
  have n2 : Hid ((L.drop b).length = N - b) := by show _ = _; rw [List.length_drop]; have := HN.out; omega
  have Z2 : Hid (p2 = none → (L.drop b).length = 0 ∧ k2 = 0) := by rw [n2.out]; exact z2
  have nA : Hid (((List.range m).map A).length = m) := by show _ = _; simp
  have nS : Hid (((List.range k).map f).length = k) := by show _ = _; simp
  have ZA : Hid (aa = none → ((List.range m).map A).length = 0 ∧ ac = 0) := by rw [nA.out]; exact han
  have ZS : Hid (sa = none → ((List.range k).map f).length = 0 ∧ sc = 0) := by rw [nS.out]; exact hn.out
  have q0 : Qt w (w.alloc (.cells #[] 55)) := (Qt.refl w).alloc _
  obtain ⟨v1, W1, hr1, o1, g1, -⟩ := append_2 37 (w.alloc (.cells #[] 55)) w.heap.size (.slice (some ⟨w.heap.size, 0, none⟩) 0 0) [] (L.take a) p1 k1 (ow_new w w.heap.size 2 55 #[] 0 (Nat.le_refl _) (by omega) rfl) (P1.out.qt q0) (by rw [n1.out]; simp only [List.length_nil]; omega) (by rw [n1.out]; exact z1) q0.size
  have Q1 : Hid (Qt w W1) := q0.trans (Mv.of_grown g1) (fun j hj e => by simp [Value.ownBlock] at e; omega)
  have OL1 : Hid (O2b W1 w.heap.size v1 (L.take a ++ sp1 ⟨true, m, m + 0⟩)) := by
    rw [sp1_none true m (m + 0) (by omega), List.append_nil]
    exact o1
  rw [n1.out] at hr1
  clear o1 g1 q0 f1 f2 z1 z2 hlc hln han
  have habz : (a : Int) ≤ b := by omega
  have hbz : (b : Int) ≤ N := by omega
  have hkz : (k : Int) ≤ 300 := by omega
  have haz : (a : Int) ≤ N := by omega
  have c0 := (RC.out w (Below.refl _ _)).1
  go_enter Try.func13, Try.ntmps13
  go_wp2_with (at_builtin; first | (refine wpList_append_given rfl _ _ 37 rfl _ _ _ W1 rfl rfl hr1 ?_))
  go_loopw [9, 10] (fun vo vi wr => ∃ i : Nat, i ≤ k ∧ vi = .int .i64 i ∧ Hid (O2b wr w.heap.size vo (L.take a ++ sp1 ⟨true, m, m + i⟩) ∧ Qt w wr)) (fun _ vi _ => k - (intOf vi).toNat)
  case atStart => exact ⟨0, by omega, rfl, OL1.out, Q1.out⟩
  case round =>
    clear hr1 OL1 Q1 c0
    obtain ⟨i, hi, rfl, S⟩ := hrel
    obtain ⟨c0, c1, y0, y1⟩ := RC.out _ (S.out.2.below _ (Nat.le_refl _))
    by_cases hlt : i < k
    · have hltz : (i : Int) < (k : Int) := by omega
      have hmz : (m : Int) + i ≤ 20000 := by omega
      obtain ⟨v', W, hr, o, mm, -⟩ := append_2one wr w.heap.size u9 _ true ((m : Int) + i) (m + i) (by omega) S.out.1 (by rw [List.length_append, n1.out, sp1_length]; show a + (m + i - m) < _; omega) S.out.2.size
      have S2 : Hid (O2b W w.heap.size v' (L.take a ++ sp1 ⟨true, m, m + (i + 1)⟩) ∧ Qt w W) := by
        refine ⟨?_, S.out.2.trans mm (fun j hj e => by have := (ow_blk S.out.1 j e).1; omega)⟩
        rw [show m + (i + 1) = m + i + 1 by omega, sp1_snoc true m (m + i) (by omega), ← List.append_assoc]
        exact o
      clear S o mm
      go_wp2_with (at_builtin; first | (refine wpList_append_given rfl _ _ 37 rfl _ _ _ W rfl rfl hr ?_))
      go_wp2_with fail
      exact ⟨⟨i + 1, by omega, by go_num, S2⟩, by simp [intOf]; omega⟩
    · obtain rfl : i = k := by omega
      have BE : Hid (Below w.heap.size w wr) := S.out.2.below _ (Nat.le_refl _)
      have ol : O2b wr w.heap.size u9 (L.take a ++ sp1 ⟨true, m, m + i⟩) := S.out.1
      have nl : Hid ((L.take a ++ sp1 ⟨true, m, m + i⟩).length = a + i) := by show _ = _; rw [List.length_append, n1.out, sp1_length]; show a + (m + i - m) = _; omega
      have FIN : Hid (∀ W v u, Below w.heap.size w W → O2b W w.heap.size v (L.take a ++ sp1 ⟨true, m, m + i⟩ ++ L.drop b) → OB W w.heap.size u ([] ++ (List.range m).map A ++ (List.range i).map f) → RxAt ((W.setCell ⟨r, 0, none⟩ v).setCell ⟨r, 1, none⟩ u) r (ins L a b m i) (m + i) (catI A m f) v u ∧ Mv (fun j => j = r) w ((W.setCell ⟨r, 0, none⟩ v).setCell ⟨r, 1, none⟩ u) ∧ (∀ j, v.ownBlock = some j → w.heap.size ≤ j) ∧ ∀ j, u.ownBlock = some j → w.heap.size ≤ j) := by
        intro W v u bW o p
        rw [List.nil_append, range_cat] at p
        have := redit_fin h.out bW o p
        exact ⟨this.1, this.2, fun j e => (ow_blk o j e).1, fun j e => (ow_blk p j e).1⟩
      clear S
      have LB64 : (L.take a ++ sp1 ⟨true, m, m + i⟩).length + (L.drop b).length < 100000 := by have h1 := nl.out; have h2 := n2.out; omega
      have LB70 : ([] : List Int).length + ((List.range m).map A).length < 100000 := by have h1 := nA.out; simp only [List.length_nil]; omega
      have LB72 : ([] ++ (List.range m).map A).length + ((List.range i).map f).length < 100000 := by have h1 := nA.out; have h2 := nS.out; simp only [List.nil_append]; omega
      have b0 : Below w.heap.size w wr.drew := BE.out.drew
      have bX : Below w.heap.size w (wr.alloc (.cells #[] 5)).drew := (BE.out.alloc BE.out.size _).drew
      have ol0 : O2b wr.drew w.heap.size u9 (L.take a ++ sp1 ⟨true, m, m + i⟩) := ol
      have olX : O2b (wr.alloc (.cells #[] 5)).drew w.heap.size u9 (L.take a ++ sp1 ⟨true, m, m + i⟩) := ow_alloc_drew ol _
      have eX : OB (wr.alloc (.cells #[] 5)).drew w.heap.size (.slice (some ⟨wr.heap.size, 0, none⟩) 0 0) [] := ob_empty_drew wr w.heap.size _ rfl BE.out.size
      obtain ⟨v64a, W64a, h64a, o64a, g64a, -⟩ := append_2 37 wr.drew w.heap.size u9 (L.take a ++ sp1 ⟨true, m, m + i⟩) (L.drop b) p2 k2 ol0 (P2.out.below b0) LB64 Z2.out (Below.size b0)
      have b64a := Below.grown b0 g64a (Below.size b0) (fun j hj => (ow_blk ol0 j hj).1)
      have bEa : Below w.heap.size w (W64a.alloc (.cells #[] 5)) := b64a.alloc b64a.size _
      have eEa : OB (W64a.alloc (.cells #[] 5)) w.heap.size (.slice (some ⟨W64a.heap.size, 0, none⟩) 0 0) [] := ob_empty W64a w.heap.size _ rfl b64a.size
      obtain ⟨v70a, W70a, h70a, o70a, g70a, -⟩ := append_b 22 (W64a.alloc (.cells #[] 5)) w.heap.size (.slice (some ⟨W64a.heap.size, 0, none⟩) 0 0) [] ((List.range m).map A) aa ac eEa (AS.out.below bEa) LB70 ZA.out (Below.size bEa)
      have b70a := Below.grown bEa g70a (Below.size bEa) (fun j hj => (ow_blk eEa j hj).1)
      obtain ⟨v72a, W72a, h72a, o72a, g72a, -⟩ := append_b 22 W70a w.heap.size v70a ([] ++ (List.range m).map A) ((List.range i).map f) sa sc o70a (SS.out.below b70a) LB72 ZS.out (Below.size b70a)
      have b72a := Below.grown b70a g72a (Below.size b70a) (fun j hj => (ow_blk o70a j hj).1)
      have f64a := carry (carry (ow_alloc o64a _) eEa g70a (by decide)) o70a g72a (by decide)
      obtain ⟨v64b, W64b, h64b, o64b, g64b, -⟩ := append_2 37 (wr.alloc (.cells #[] 5)).drew w.heap.size u9 (L.take a ++ sp1 ⟨true, m, m + i⟩) (L.drop b) p2 k2 olX (P2.out.below bX) LB64 Z2.out (Below.size bX)
      have b64b := Below.grown bX g64b (Below.size bX) (fun j hj => (ow_blk olX j hj).1)
      have eXb := carry eX olX g64b (by decide)
      obtain ⟨v70b, W70b, h70b, o70b, g70b, -⟩ := append_b 22 W64b w.heap.size (.slice (some ⟨wr.heap.size, 0, none⟩) 0 0) [] ((List.range m).map A) aa ac eXb (AS.out.below b64b) LB70 ZA.out (Below.size b64b)
      have b70b := Below.grown b64b g70b (Below.size b64b) (fun j hj => (ow_blk eXb j hj).1)
      obtain ⟨v72b, W72b, h72b, o72b, g72b, -⟩ := append_b 22 W70b w.heap.size v70b ([] ++ (List.range m).map A) ((List.range i).map f) sa sc o70b (SS.out.below b70b) LB72 ZS.out (Below.size b70b)
      have b72b := Below.grown b70b g72b (Below.size b70b) (fun j hj => (ow_blk o70b j hj).1)
      have f64b := carry (carry o64b eXb g70b (by decide)) o70b g72b (by decide)
      obtain ⟨v70c, W70c, h70c, o70c, g70c, -⟩ := append_b 22 (wr.alloc (.cells #[] 5)).drew w.heap.size (.slice (some ⟨wr.heap.size, 0, none⟩) 0 0) [] ((List.range m).map A) aa ac eX (AS.out.below bX) LB70 ZA.out (Below.size bX)
      have b70c := Below.grown bX g70c (Below.size bX) (fun j hj => (ow_blk eX j hj).1)
      have olc := carry olX eX g70c (by decide)
      obtain ⟨v64c, W64c, h64c, o64c, g64c, -⟩ := append_2 37 W70c w.heap.size u9 (L.take a ++ sp1 ⟨true, m, m + i⟩) (L.drop b) p2 k2 olc (P2.out.below b70c) LB64 Z2.out (Below.size b70c)
      have b64c := Below.grown b70c g64c (Below.size b70c) (fun j hj => (ow_blk olc j hj).1)
      have o70c2 := carry o70c olc g64c (by decide)
      obtain ⟨v72c, W72c, h72c, o72c, g72c, -⟩ := append_b 22 W64c w.heap.size v70c ([] ++ (List.range m).map A) ((List.range i).map f) sa sc o70c2 (SS.out.below b64c) LB72 ZS.out (Below.size b64c)
      have b72c := Below.grown b64c g72c (Below.size b64c) (fun j hj => (ow_blk o70c2 j hj).1)
      have f64c := carry o64c o70c2 g72c (by decide)
      obtain ⟨v72d, W72d, h72d, o72d, g72d, -⟩ := append_b 22 W70c w.heap.size v70c ([] ++ (List.range m).map A) ((List.range i).map f) sa sc o70c (SS.out.below b70c) LB72 ZS.out (Below.size b70c)
      have b72d := Below.grown b70c g72d (Below.size b70c) (fun j hj => (ow_blk o70c j hj).1)
      have old := carry olc o70c g72d (by decide)
      obtain ⟨v64d, W64d, h64d, o64d, g64d, -⟩ := append_2 37 W72d w.heap.size u9 (L.take a ++ sp1 ⟨true, m, m + i⟩) (L.drop b) p2 k2 old (P2.out.below b72d) LB64 Z2.out (Below.size b72d)
      have b64d := Below.grown b72d g64d (Below.size b72d) (fun j hj => (ow_blk old j hj).1)
      have f72d := carry o72d old g64d (by decide)
      have FA : Hid _ := FIN.out W72a v64a v72a b72a f64a o72a
      have FB : Hid _ := FIN.out W72b v64b v72b b72b f64b o72b
      have FC : Hid _ := FIN.out W72c v64c v72c b72c f64c o72c
      have FD : Hid _ := FIN.out W64d v64d v72d b64d o64d f72d
      obtain ⟨x64a, y64a, rfl, -⟩ := ow_ls o64a
      obtain ⟨x64b, y64b, rfl, -⟩ := ow_ls o64b
      obtain ⟨x64c, y64c, rfl, -⟩ := ow_ls o64c
      obtain ⟨x64d, y64d, rfl, -⟩ := ow_ls o64d
      obtain ⟨x72a, y72a, rfl, -⟩ := ow_ls o72a
      obtain ⟨x72b, y72b, rfl, -⟩ := ow_ls o72b
      obtain ⟨x72c, y72c, rfl, -⟩ := ow_ls o72c
      obtain ⟨x72d, y72d, rfl, -⟩ := ow_ls o72d
      obtain ⟨x70a, y70a, rfl, -⟩ := ow_ls o70a
      obtain ⟨x70b, y70b, rfl, -⟩ := ow_ls o70b
      obtain ⟨x70c, y70c, rfl, -⟩ := ow_ls o70c
      obtain ⟨c064a, c164a, -, -⟩ := RC.out W64a b64a
      obtain ⟨c0Ea, c1Ea, -, -⟩ := RC.out (W64a.alloc (.cells #[] 5)) bEa
      obtain ⟨c0X, c1X, -, -⟩ := RC.out (wr.alloc (.cells #[] 5)) (BE.out.alloc BE.out.size _)
      obtain ⟨c070a, c170a, -, -⟩ := RC.out W70a b70a
      obtain ⟨c072a, c172a, q072a, q172a⟩ := RC.out W72a b72a
      obtain ⟨c064b, c164b, -, -⟩ := RC.out W64b b64b
      obtain ⟨c070b, c170b, -, -⟩ := RC.out W70b b70b
      obtain ⟨c072b, c172b, q072b, q172b⟩ := RC.out W72b b72b
      obtain ⟨c070c, c170c, -, -⟩ := RC.out W70c b70c
      obtain ⟨c064c, c164c, -, -⟩ := RC.out W64c b64c
      obtain ⟨c072c, c172c, q072c, q172c⟩ := RC.out W72c b72c
      obtain ⟨c072d, c172d, -, -⟩ := RC.out W72d b72d
      obtain ⟨c064d, c164d, q064d, q164d⟩ := RC.out W64d b64d
      clear f64a f64b f64c f72d old olc eX eXb eEa olX ol0 ol o70c2 o64a o70a o72a o64b o70b o72b o70c o64c o72c o72d o64d g64a g70a g72a g64b g70b g72b g70c g64c g72c g72d g64d b64a b70a b72a b64b b70b b72b b70c b64c b72c b72d b64d b0 bX bEa
      have n70 : ([] ++ (List.range m).map A).length = m := by simp
      have n72 : ([] ++ (List.range m).map A ++ (List.range i).map f).length = m + i := by simp
      rw [n2.out] at h64a h64b h64c h64d
      rw [n70] at h70a h70b h70c h72a h72b h72c h72d
      rw [n72] at h72a h72b h72c h72d FA FB FC FD
      clear n70 n72
      generalize (L.take a ++ sp1 ⟨true, m, m + i⟩ ++ L.drop b).length = ln at *
      rw [nA.out] at h70a h70b h70c
      rw [nS.out] at h72a h72b h72c h72d
      go_wp2_with fail
      go_region_law (first
        | ((with_reducible show (if _ then Oper.wp _ _ _ (wr.drew) _ _ else _)); refine step_append_given rfl (.tmp 57) (.tmp 63) 37 rfl _ _ _ rfl rfl W64a h64a ?_)
        | ((with_reducible show (if _ then Oper.wp _ _ _ (W64a.alloc (.cells #[] 5)) _ _ else _)); refine step_append_given rfl (.tmp 65) (.tmp 69) 22 rfl _ _ _ rfl rfl W70a h70a ?_)
        | ((with_reducible show (if _ then Oper.wp _ _ _ (W70a) _ _ else _)); refine step_append_given rfl (.tmp 70) (.tmp 71) 22 rfl _ _ _ rfl rfl W72a h72a ?_)
        | ((with_reducible show (if _ then Oper.wp _ _ _ ((wr.alloc (.cells #[] 5)).drew) _ _ else _)); refine step_append_given rfl (.tmp 57) (.tmp 63) 37 rfl _ _ _ rfl rfl W64b h64b ?_)
        | ((with_reducible show (if _ then Oper.wp _ _ _ (W64b) _ _ else _)); refine step_append_given rfl (.tmp 65) (.tmp 69) 22 rfl _ _ _ rfl rfl W70b h70b ?_)
        | ((with_reducible show (if _ then Oper.wp _ _ _ (W70b) _ _ else _)); refine step_append_given rfl (.tmp 70) (.tmp 71) 22 rfl _ _ _ rfl rfl W72b h72b ?_)
        | ((with_reducible show (if _ then Oper.wp _ _ _ ((wr.alloc (.cells #[] 5)).drew) _ _ else _)); refine step_append_given rfl (.tmp 65) (.tmp 69) 22 rfl _ _ _ rfl rfl W70c h70c ?_)
        | ((with_reducible show (if _ then Oper.wp _ _ _ (W70c) _ _ else _)); refine step_append_given rfl (.tmp 57) (.tmp 63) 37 rfl _ _ _ rfl rfl W64c h64c ?_)
        | ((with_reducible show (if _ then Oper.wp _ _ _ (W64c) _ _ else _)); refine step_append_given rfl (.tmp 70) (.tmp 71) 22 rfl _ _ _ rfl rfl W72c h72c ?_)
        | ((with_reducible show (if _ then Oper.wp _ _ _ (W70c) _ _ else _)); refine step_append_given rfl (.tmp 70) (.tmp 71) 22 rfl _ _ _ rfl rfl W72d h72d ?_)
        | ((with_reducible show (if _ then Oper.wp _ _ _ (W72d) _ _ else _)); refine step_append_given rfl (.tmp 57) (.tmp 63) 37 rfl _ _ _ rfl rfl W64d h64d ?_))
      all_goals (go_wp2_with fail; go_ret; first | exact ⟨rfl, _, _, FA⟩ | exact ⟨rfl, _, _, FB⟩ | exact ⟨rfl, _, _, FC⟩ | exact ⟨rfl, _, _, FD⟩)
end
end Go.Proofs.Ytdhdkbaalgdicaa
