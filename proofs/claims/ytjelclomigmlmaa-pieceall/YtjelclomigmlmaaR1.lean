/- The document's text: byte by byte; NewText. -/
import Derived.Test.YtjelclomigmlmaaE6
namespace Go.Proofs.Ytjelclomigmlmaa
open Go.RowKit

theorem info61 : Try.prog.info? 61 = some Try.t61 := by kernel_rfl
def bcs (x : Bt) : List Value := [.bool x.1, .int .i64 x.2]
def cellsB (L : List Bt) : List Value := L.flatMap bcs
theorem cellsB_nil : cellsB [] = [] := rfl
theorem cellsB_cons (x : Bt) (L : List Bt) : cellsB (x :: L) = bcs x ++ cellsB L := by simp [cellsB]
theorem cellsB_append (L M : List Bt) : cellsB (L ++ M) = cellsB L ++ cellsB M := by simp [cellsB]
theorem cellsB_length : ∀ L : List Bt, (cellsB L).length = L.length * 2
  | [] => rfl
  | x :: L => by rw [cellsB_cons, List.length_append, cellsB_length L, List.length_cons]; simp [bcs]; omega
theorem cellsB_one (L : List Bt) : ∀ u ∈ cellsB L, u.oneCell' = true := by
  intro u hu
  simp only [cellsB, List.mem_flatMap] at hu
  obtain ⟨p, _, hu⟩ := hu
  simp [bcs] at hu
  rcases hu with rfl | rfl <;> rfl
theorem cellsB_get : ∀ (L : List Bt) (i : Nat) (x : Bt), L[i]? = some x → (cellsB L)[i * 2]? = some (.bool x.1) ∧ (cellsB L)[i * 2 + 1]? = some (.int .i64 x.2)
  | [], i, p, h => by simp at h
  | q :: r, 0, p, h => by
    simp at h
    subst h
    rw [cellsB_cons]
    exact ⟨rfl, rfl⟩
  | q :: r, i + 1, p, h => by
    rw [List.getElem?_cons_succ] at h
    have ih := cellsB_get r i p h
    have e : ∀ j, (cellsB (q :: r))[(i + 1) * 2 + j]? = (cellsB r)[i * 2 + j]? := by
      intro j
      rw [cellsB_cons, List.getElem?_append_right (by simp [bcs]; omega)]
      congr 1
      simp [bcs]; omega
    have e0 := e 0
    simp only [Nat.add_zero] at e0
    exact ⟨by rw [e0]; exact ih.1, by rw [e 1]; exact ih.2⟩
theorem cellsB_take (L : List Bt) (i : Nat) : (cellsB L).take (i * 2) = cellsB (L.take i) := by
  by_cases h : i ≤ L.length
  · conv => lhs; rw [← List.take_append_drop i L, cellsB_append]
    rw [List.take_left' (by rw [cellsB_length, List.length_take]; omega)]
  · rw [List.take_of_length_le (by rw [cellsB_length]; omega), List.take_of_length_le (by omega)]
theorem cellsB_drop (L : List Bt) (i : Nat) : (cellsB L).drop (i * 2) = cellsB (L.drop i) := by
  by_cases h : i ≤ L.length
  · conv => lhs; rw [← List.take_append_drop i L, cellsB_append]
    rw [List.drop_left' (by rw [cellsB_length, List.length_take]; omega)]
  · rw [List.drop_eq_nil_of_le (by rw [cellsB_length]; omega), List.drop_eq_nil_of_le (by omega)]; rfl
theorem lsb_get {w : World} {a : Option Addr} {L : List Bt} {i : Nat} {x : Bt} (h : Ls w a (cellsB L)) (hi : L[i]? = some x) : ∃ b off, a = some ⟨b, off, none⟩ ∧ b < w.heap.size ∧ w.cell? ⟨b, off + i * 2, none⟩ = some (.bool x.1) ∧ w.cell? ⟨b, off + i * 2 + 1, none⟩ = some (.int .i64 x.2) := by
  obtain ⟨h0, h1⟩ := cellsB_get L i x hi
  obtain ⟨b, off, e, hb, c0⟩ := h _ _ h0
  obtain ⟨b1, off1, e1, _, c1⟩ := h _ _ h1
  rw [e] at e1
  cases e1
  exact ⟨b, off, e, hb, c0, by rw [Nat.add_assoc]; exact c1⟩

/-- A row of such bytes of its own. -/
abbrev O2b (w : World) (base : Nat) (v : Value) (L : List Bt) : Prop := w.ownsRow base 61 2 v L.length (cellsB L)
theorem append_2 (ty : TypeId) (w : World) (base : Nat) (v : Value) (L M : List Bt) (s : Option Addr) (c : Nat) (h : O2b w base v L) (hs : Ls w s (cellsB M)) (hn : L.length + M.length < 100000) (hnone : s = none → M.length = 0 ∧ c = 0) (hb : base ≤ w.heap.size) :
    ∃ v' W, (Builtin.append_ #[44, 44] ty #[v, .slice s M.length c]).run Try.prog w = .ok v' W ∧ O2b W base v' (L ++ M) ∧ w.grownBy W v.ownBlock ∧ (v'.ownBlock = v.ownBlock ∨ ∃ g, v'.ownBlock = some g ∧ w.heap.size ≤ g) := by
  obtain ⟨v', W, h1, h2, h3⟩ := append_ow 44 ty 61 Try.t61 (.agg #[.bool false, .int .i64 0]) 2 16 Try.underlying44 info61 (by kernel_rfl) (by kernel_rfl) (by kernel_rfl) (by rfl) (by omega) (by omega) w base v L.length M.length c (cellsB L) (cellsB M) s h hs (cellsB_length M) (cellsB_one M) hn hnone hb
  refine ⟨v', W, h1, ?_, h3⟩
  rw [← cellsB_append, ← List.length_append] at h2
  exact h2
/-- One more. -/
theorem append_2one (w : World) (base : Nat) (v : Value) (L : List Bt) (a : Bool) (z : Int) (k : Nat) (hz : z = k) (h : O2b w base v L) (hl : L.length < 90000) (hb : base ≤ w.heap.size) :
    ∃ v' W, (Builtin.append_ #[44, 44] 44 #[v, .slice (some ⟨w.heap.size, 0, none⟩) 1 1]).run Try.prog (w.alloc (.cells #[.bool a, .int .i64 z] 61)) = .ok v' W ∧ O2b W base v' (L ++ [(a, k)]) ∧ Mv (fun j => v.ownBlock = some j) w W ∧ (v'.ownBlock = v.ownBlock ∨ ∃ g, v'.ownBlock = some g ∧ w.heap.size ≤ g) := by
  subst hz
  have q : Qt w (w.alloc (.cells #[.bool a, .int .i64 k] 61)) := (Qt.refl w).alloc _
  obtain ⟨v', W, h1, h2, h3, h4⟩ := append_2 44 _ base v L [(a, k)] (some ⟨w.heap.size, 0, none⟩) 1 (q.owns h (fun _ _ h => h)) (Ls.new w #[.bool a, .int .i64 k] 61) (by simp; omega) (fun e => by cases e) (Nat.le_trans hb q.size)
  refine ⟨v', W, h1, h2, (q.mono (fun _ _ h => h.elim)).trans (Mv.of_grown h3) (fun _ _ h => h), ?_⟩
  rcases h4 with h4 | ⟨g, h4, h5⟩
  · exact .inl h4
  · exact .inr ⟨g, h4, Nat.le_trans q.size h5⟩

/-- The document's text: its block, its bytes, what was added. -/
structure RxAt (w : World) (r : Nat) (L : List Bt) (m : Nat) (A : Nat → Int) (vl va : Value) : Prop where
  c0 : w.cell? ⟨r, 0, none⟩ = some vl
  c1 : w.cell? ⟨r, 1, none⟩ = some va
  z0 : w.frozen? ⟨r, 0, none⟩ = false
  z1 : w.frozen? ⟨r, 1, none⟩ = false
  ll : O2b w 0 vl L
  ad : Own w 0 5 va m (By A)
section
variable {w w' : World} {r : Nat} {L : List Bt} {m : Nat} {A : Nat → Int} {vl va : Value}
theorem RxAt.mv {S : Nat → Prop} (h : RxAt w r L m A vl va) (k : Mv S w w') (hr : ¬ S r) (hl : ∀ j, vl.ownBlock = some j → ¬ S j) (ha : ∀ j, va.ownBlock = some j → ¬ S j) : RxAt w' r L m A vl va := by
  have hp : r < w.heap.size := World.block_lt_of_cell? _ _ h.c0
  exact ⟨k.cell h.c0 hr, k.cell h.c1 hr, (k.frozen (p := ⟨r, 0, none⟩) hp hr).trans h.z0, (k.frozen (p := ⟨r, 1, none⟩) hp hr).trans h.z1, k.owns h.ll hl, h.ad.mv k ha⟩
theorem RxAt.qt (h : RxAt w r L m A vl va) (k : Qt w w') : RxAt w' r L m A vl va := h.mv k (fun h => h) (fun _ _ h => h) (fun _ _ h => h)
theorem RxAt.lt (h : RxAt w r L m A vl va) : r < w.heap.size := World.block_lt_of_cell? _ _ h.c0
/-- One that is new. -/
theorem RxAt.set (h : RxAt w r L m A vl va) {v : Value} {M : List Bt} (o : O2b w 0 v M) (h1 : v.ownBlock ≠ some r) (h2 : va.ownBlock ≠ some r) : RxAt (w.setCell ⟨r, 0, none⟩ v) r M m A v va := by
  have k := Mv.setCell w ⟨r, 0, none⟩ v
  refine ⟨World.cell?_setCell_same _ _ _ h.c0, ?_, ?_, ?_, k.owns o (fun j e (e' : j = r) => h1 (by rw [← e']; exact e)), h.ad.mv k (fun j e (e' : j = r) => h2 (by rw [← e']; exact e))⟩
  · rw [World.cell?_setCell_other _ _ _ _ (fun e => by cases e)]; exact h.c1
  · rw [World.frozen?_setCell]; exact h.z0
  · rw [World.frozen?_setCell]; exact h.z1
end

set_option maxHeartbeats 1000000 in
theorem newText_any (z : Int) (hz : z ≤ 10000) (w : World) :
    Calls Try.prog 11 #[.int .i64 z] w fun e w' => e = .returned (.pointer (some ⟨w.heap.size, 0, none⟩)) ∧ ∃ vl, Hid (RxAt w' w.heap.size (sp1 ⟨false, 0, z.toNat⟩) 0 (fun _ => 0) vl (.slice none 0 0) ∧ Qt w w') := by
  obtain ⟨n, hn⟩ : ∃ n : Nat, n = z.toNat := ⟨_, rfl⟩
  have hn' : n ≤ 10000 := by omega
  have HN : Hid (∀ i : Nat, (i : Int) < z ↔ i < n) := fun i => by omega
  rw [← hn]
  clear hn hz
  have START : Hid (RxAt (w.alloc (.cells #[.slice none 0 0, .slice none 0 0] 46)) w.heap.size (sp1 ⟨false, 0, 0⟩) 0 (fun _ => 0) (.slice none 0 0) (.slice none 0 0)) := ⟨(alloc_new w _ 46 0 _ rfl).1, (alloc_new w _ 46 1 _ rfl).1, (alloc_new w _ 46 0 _ rfl).2, (alloc_new w _ 46 1 _ rfl).2, ow_nil _ _ _ _, own_nil _ _ _ _⟩
  obtain ⟨r, hr⟩ : ∃ r, r = w.heap.size := ⟨_, rfl⟩
  have HR : Hid (r = w.heap.size) := hr
  rw [← hr] at START
  rw [← hr]
  go_enter Try.func11, Try.ntmps11
  go_wp2_with fail
  rw [← hr]
  clear hr
  go_loopw [4] (fun vi wr => ∃ i : Nat, i ≤ n ∧ vi = .int .i64 i ∧ ∃ vl, Hid (RxAt wr r (sp1 ⟨false, 0, i⟩) 0 (fun _ => 0) vl (.slice none 0 0) ∧ Qt w wr ∧ ∀ j, vl.ownBlock = some j → r < j)) (fun vi _ => n - (intOf vi).toNat)
  case atStart => exact ⟨0, by omega, rfl, _, START.out, (Qt.refl w).alloc _, fun j e => (by simp [Value.ownBlock] at e)⟩
  case round =>
    clear START
    obtain ⟨i, hi, rfl, vl, R⟩ := hrel
    by_cases hlt : i < n
    · have hltz : (i : Int) < z := (HN.out i).2 hlt
      have c0 := R.out.1.c0
      have z0 := R.out.1.z0
      have hl : (sp1 ⟨false, 0, i⟩).length < 90000 := by rw [sp1_length]; show i - 0 < _; omega
      obtain ⟨v', W, hr, o, mm, x⟩ := append_2one wr 0 vl (sp1 ⟨false, 0, i⟩) false (i : Int) i rfl R.out.1.ll hl (Nat.zero_le _)
      have nr : vl.ownBlock ≠ some r := fun e => by have := R.out.2.2 r e; omega
      have nr' : ∀ j, v'.ownBlock = some j → r < j := by
        intro j e
        rcases x with x | ⟨g, x, y⟩
        · rw [x] at e; exact R.out.2.2 j e
        · rw [x] at e; cases e
          have := R.out.1.lt
          omega
      have d0 := mm.cell c0 nr
      have y0 := (mm.frozen (p := ⟨r, 0, none⟩) R.out.1.lt nr).trans z0
      have R2 : Hid (RxAt (W.setCell ⟨r, 0, none⟩ v') r (sp1 ⟨false, 0, i + 1⟩) 0 (fun _ => 0) v' (.slice none 0 0) ∧ Qt w (W.setCell ⟨r, 0, none⟩ v') ∧ ∀ j, v'.ownBlock = some j → r < j) := by
        refine ⟨?_, ?_, nr'⟩
        · rw [sp1_snoc false 0 i (Nat.zero_le _)]
          have k := Mv.setCell W ⟨r, 0, none⟩ v'
          refine ⟨World.cell?_setCell_same _ _ _ d0, ?_, ?_, ?_, k.owns o (fun j e (e' : j = r) => by have := nr' j e; omega), own_nil _ _ _ _⟩
          · rw [World.cell?_setCell_other _ _ _ _ (fun e => by cases e)]; exact mm.cell R.out.1.c1 nr
          · rw [World.frozen?_setCell]; exact y0
          · rw [World.frozen?_setCell]; exact (mm.frozen (p := ⟨r, 1, none⟩) R.out.1.lt nr).trans R.out.1.z1
        · have q1 : Qt w W := R.out.2.1.trans mm (fun j hj e => by have := R.out.2.2 j e; have := HR.out; omega)
          exact q1.trans (Mv.setCell W ⟨r, 0, none⟩ v') (fun j hj e => by have := HR.out; have e : j = r := e; omega)
      obtain ⟨va0, ca0, rfl, -⟩ := ow_ls R.out.1.ll
      obtain ⟨va1, ca1, rfl, -⟩ := ow_ls o
      clear R o mm x nr nr'
      generalize (sp1 ⟨false, 0, i⟩).length = l0 at *
      generalize (sp1 ⟨false, 0, i⟩ ++ [(false, i)]).length = l1 at *
      go_wp2_with (at_builtin; first | (refine wpList_append_given rfl _ _ 44 rfl _ _ _ W rfl rfl hr ?_))
      go_wp2_with fail
      exact ⟨⟨i + 1, by omega, by go_num, _, R2⟩, by simp [intOf]; omega⟩
    · have hge : z ≤ (i : Int) := by have := (HN.out i); omega
      obtain rfl : i = n := by omega
      go_wp2_with fail
      go_ret
      exact ⟨rfl, _, R.out.1, R.out.2.1⟩
end Go.Proofs.Ytjelclomigmlmaa
