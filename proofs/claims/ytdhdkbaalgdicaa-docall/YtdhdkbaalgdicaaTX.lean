/- TX: r7_D1 r7_D2 r7_D3 r7_D4 r7_D5 r7_E1 r7_E2 r7_E6. -/
import Derived.Lib.SlBytesConst
import Derived.Test.YtdhdkbaalgdicaaPZ
/- A text of pieces; Len, Pieces, Added. -/
namespace Go.Proofs.Ytdhdkbaalgdicaa
open Go.RowKit

/-- Each byte is one of the file's n, or of the m that were added. -/
def Wf (n m : Nat) (L : List Bt) : Prop := ∀ x ∈ L, (x.1 = false → x.2 < n) ∧ (x.1 = true → x.2 < m)
theorem Wf.lt {n m : Nat} {L : List Bt} (h : Wf n m L) {x : Bt} (hx : x ∈ L) : x.2 < n + m := by
  obtain ⟨h1, h2⟩ := h x hx
  cases e : x.1
  · have := h1 e; omega
  · have := h2 e; omega
theorem Wf.fit {n m : Nat} {L : List Bt} (h : Wf n m L) (hs : n + m < 900000) : Fit (nf L) := fun p hp => ⟨Nat.le_of_lt (nf_pos L p hp), by have := nf_bound (M := n + m) (fun x hx => h.lt hx) p hp; omega⟩

/-- A text: its block, the file's length, its bytes, what was added; what it keeps away from. -/
structure TxAt (w : World) (p n : Nat) (L : List Bt) (m : Nat) (A : Nat → Int) (vp va : Value) (Y : Nat → Prop) : Prop where
  c0 : w.cell? ⟨p, 0, none⟩ = some vp
  c1 : w.cell? ⟨p, 1, none⟩ = some va
  z0 : w.frozen? ⟨p, 0, none⟩ = false
  z1 : w.frozen? ⟨p, 1, none⟩ = false
  pl : Op3 w 0 vp (nf L)
  ad : Own w 0 5 va m (By A)
  away : ∀ k, Y k → k < w.heap.size ∧ k ≠ p ∧ vp.ownBlock ≠ some k ∧ va.ownBlock ≠ some k
  sep : vp.ownBlock ≠ some p ∧ va.ownBlock ≠ some p ∧ ∀ k, vp.ownBlock = some k → va.ownBlock ≠ some k
  wf : Wf n m L
  small : n ≤ 20000 ∧ m ≤ 20000 ∧ L.length ≤ 20000
def Tx (w : World) (p n : Nat) (L : List Bt) (m : Nat) (A : Nat → Int) (Y : Nat → Prop) : Prop := ∃ vp va, TxAt w p n L m A vp va Y

section
variable {w w' : World} {p n : Nat} {L : List Bt} {m : Nat} {A : Nat → Int} {Y Z : Nat → Prop} {vp va : Value}
theorem Tx.mono (h : Tx w p n L m A Y) (hz : ∀ k, Z k → Y k) : Tx w p n L m A Z := by
  obtain ⟨vp, va, h⟩ := h
  exact ⟨vp, va, h.c0, h.c1, h.z0, h.z1, h.pl, h.ad, fun k hk => h.away k (hz k hk), h.sep, h.wf, h.small⟩
/-- Others turn what it keeps away from; what is new since, it keeps away from too. -/
theorem Tx.mv (h : Tx w p n L m A Y) (k : Mv Y w w') : Tx w' p n L m A (fun j => Y j ∨ w.heap.size ≤ j ∧ j < w'.heap.size) := by
  obtain ⟨vp, va, h⟩ := h
  have hp : p < w.heap.size := World.block_lt_of_cell? _ _ h.c0
  have np : ¬ Y p := fun e => (h.away p e).2.1 rfl
  have npa : ∀ j, vp.ownBlock = some j → ¬ Y j := fun j e y => (h.away _ y).2.2.1 e
  have naa : ∀ j, va.ownBlock = some j → ¬ Y j := fun j e y => (h.away _ y).2.2.2 e
  refine ⟨vp, va, k.cell h.c0 np, k.cell h.c1 np, (k.frozen (p := ⟨p, 0, none⟩) hp np).trans h.z0, (k.frozen (p := ⟨p, 1, none⟩) hp np).trans h.z1, k.owns h.pl npa, h.ad.mv k naa, ?_, h.sep, h.wf, h.small⟩
  intro j hj
  rcases hj with hj | ⟨h1, h2⟩
  · obtain ⟨a, b, c, d⟩ := h.away j hj
    exact ⟨Nat.lt_of_lt_of_le a k.size, b, c, d⟩
  · refine ⟨h2, by omega, fun e => ?_, fun e => ?_⟩
    · have := (ow_blk h.pl j e).2
      omega
    · have := (h.ad.blk j e).2
      omega
theorem Tx.qt (h : Tx w p n L m A Y) (k : Qt w w') : Tx w' p n L m A (fun j => Y j ∨ w.heap.size ≤ j ∧ j < w'.heap.size) := h.mv (k.mono (fun _ _ h => h.elim))
theorem Tx.lt (h : Tx w p n L m A Y) : p < w.heap.size := by
  obtain ⟨vp, va, h⟩ := h
  exact World.block_lt_of_cell? _ _ h.c0
theorem Tx.old (h : Tx w p n L m A Y) : ∀ k, Y k → k < w.heap.size := by
  obtain ⟨vp, va, h⟩ := h
  exact fun k hk => (h.away k hk).1
theorem TxAt.fit (h : TxAt w p n L m A vp va Y) : Fit (nf L) := h.wf.fit (by have := h.small; omega)
theorem TxAt.len (h : TxAt w p n L m A vp va Y) : (nf L).length ≤ 20000 := by have := h.small; have := nf_length L; omega
theorem TxAt.li (h : TxAt w p n L m A vp va Y) : ∃ a c, vp = .slice a (nf L).length c ∧ zLi w a c (nf L) := by
  obtain ⟨a, c, e, h1, h2, h3, _⟩ := ow_ls h.pl
  exact ⟨a, c, e, h1, h2, h3⟩
end

set_option maxHeartbeats 1000000 in
theorem zlen_any {w : World} {p n : Nat} {L : List Bt} {m : Nat} {A : Nat → Int} {Y : Nat → Prop} (h : Hid (Tx w p n L m A Y)) :
    Calls Try.prog 27 #[.pointer (some ⟨p, 0, none⟩)] w fun e w' => e = .returned (.int .i64 L.length) ∧ Hid (Qt w w') := by
  obtain ⟨vp, va, H⟩ := h.out
  obtain ⟨sa, sc, rfl, li⟩ := H.li
  have c0 := H.c0
  have F : Hid (Fit (nf L)) := H.fit
  have LI : Hid (zLi w sa sc (nf L)) := li
  have hl : (nf L).length ≤ 20000 := H.len
  have LL : Hid ((spl (nf L)).length = L.length) := by show _ = _; rw [spl_nf]
  have LS : Hid (L.length ≤ 20000) := H.small.2.2
  clear H li
  obtain ⟨N, hN⟩ : ∃ N, N = (nf L).length := ⟨_, rfl⟩
  have HN : Hid (N = (nf L).length) := hN
  rw [← hN] at c0 hl
  clear hN
  generalize nf L = ps at *
  go_enter Try.func27, Try.ntmps27
  go_wp2_with fail
  go_loopw [3, 13] (fun vs vi wr => ∃ i s : Nat, i ≤ N ∧ s ≤ 20000 ∧ vi = .int .i64 i ∧ vs = .int .i64 s ∧ Hid (s = (spl (ps.take i)).length) ∧ Hid (Qt w wr)) (fun _ vi _ => N - (intOf vi).toNat)
  case atStart => exact ⟨0, 0, by omega, by omega, rfl, rfl, rfl, Qt.refl w⟩
  case round =>
    obtain ⟨i, s, hi, hs, rfl, rfl, S, Q⟩ := hrel
    by_cases hlt : i < N
    · have hltz : (i : Int) < (N : Int) := by omega
      obtain ⟨q, hq⟩ : ∃ p, ps[i]? = some p := ⟨ps[i]'(by have := HN.out; omega), List.getElem?_eq_getElem _⟩
      obtain ⟨b, off, rfl, hb, d0, d1, d2⟩ := ls_get (LI.out.ls.qt Q.out) hq
      have ft := F.out q (List.mem_of_getElem? hq)
      have D : Hid (s + (q.to - q.fr) = (spl (ps.take (i + 1))).length) := by
        show _ = _
        rw [take_succ_get hq, spl_append, List.length_append, ← S.out, spl_cons, spl_nil, List.append_nil, sp1_length]
      have DB : s + (q.to - q.fr) ≤ 20000 := by
        have h1 := D.out
        have h2 : (spl (ps.take (i + 1))).length ≤ (spl ps).length := by
          conv => rhs; rw [← List.take_append_drop (i + 1) ps, spl_append, List.length_append]
          omega
        have h3 := LL.out
        have h4 := LS.out
        omega
      obtain ⟨a, f, t⟩ := q
      simp only at d0 d1 d2 ft D DB
      obtain ⟨ft1, ft2⟩ := ft
      clear hq hb
      go_wp2_with fail
      refine (zsize_any a f t _ ft1 ft2).mono ?_
      rintro e w1 ⟨rfl, q1⟩
      have Q1 : Hid (Qt w w1) := (Q.out.alloc _).comp q1.out
      clear d0 d1 d2 q1 Q
      generalize t - f = z at *
      go_wp2_with fail
      exact ⟨⟨i + 1, s + z, by omega, by omega, by go_num, by go_num, D, Q1⟩, by simp [intOf]; omega⟩
    · obtain rfl : i = N := by omega
      have E : Hid (s = L.length) := by
        show _ = _
        rw [S.out, List.take_of_length_le (by have := HN.out; omega), LL.out]
      go_wp2_with fail
      go_ret
      exact ⟨by rw [← E.out]; rfl, Q⟩

theorem own_cells (w : World) (base : Nat) (v : Value) (ps : List Pc) (h : Op3 w base v ps) : ∃ a c, v = .slice a ps.length c ∧ zLi w a c ps ∧ ∀ q, a = some q → v.ownBlock = some q.block := by
  obtain ⟨a, c, e, h1, h2, h3, h4⟩ := ow_ls h
  exact ⟨a, c, e, ⟨h1, h2, h3⟩, h4⟩

theorem nil41 (n c : Nat) (w : World) : (binOp .eql 64 (.slice none n c) (.slice none 0 0)).run Try.prog w = .ok (.bool true) w := by kernel_rfl
theorem some41 (q : Addr) (n c : Nat) (w : World) : (binOp .eql 64 (.slice (some q) n c) (.slice none 0 0)).run Try.prog w = .ok (.bool false) w := by kernel_rfl
theorem nil28 (n c : Nat) (w : World) : (binOp .eql 22 (.slice none n c) (.slice none 0 0)).run Try.prog w = .ok (.bool true) w := by kernel_rfl
theorem some28 (q : Addr) (n c : Nat) (w : World) : (binOp .eql 22 (.slice (some q) n c) (.slice none 0 0)).run Try.prog w = .ok (.bool false) w := by kernel_rfl

set_option maxHeartbeats 1000000 in
theorem cloneP (a : Option Addr) (c : Nat) (ps : List Pc) (w : World) (h : Hid (zLi w a c ps)) (hl : ps.length ≤ 20000) :
    Calls Try.prog 47 #[.slice a ps.length c] w fun e w' => ∃ v, e = .returned v ∧ Hid (Op3 w' w.heap.size v ps ∧ Qt w w') := by
  cases a with
  | none =>
    have h0 := (h.out.none rfl).1
    obtain rfl : ps = [] := List.length_eq_zero_iff.1 h0
    have e0 := nil41 0 c
    go_enter Try.func47, Try.ntmps47
    go_wp2_with fail
    go_ret
    exact ⟨_, rfl, ow_nil _ _ _ _, Qt.refl w⟩
  | some q =>
    have q1 : Qt w (w.alloc (.cells #[] 67)) := (Qt.refl w).alloc _
    obtain ⟨v', W, hr, h2, h3, h4⟩ := append_pc 64 (w.alloc (.cells #[] 67)) w.heap.size (.slice (some ⟨w.heap.size, 0, none⟩) 0 0) [] ps (some q) c (ow_new w w.heap.size 3 67 #[] 0 (Nat.le_refl _) (by omega) rfl) (h.out.ls.qt q1) (by simp; omega) (fun e => by cases e) q1.size
    have FIN : Hid (Op3 W w.heap.size v' ps ∧ Qt w W) := by
      refine ⟨h2, q1.trans (Mv.of_grown h3) (fun j hj e => ?_)⟩
      simp [Value.ownBlock] at e
      omega
    clear h2 h3 h4 q1
    have e0 := some41 q
    generalize ps.length = k at *
    go_enter Try.func47, Try.ntmps47
    go_wp2_with (at_builtin; first | (refine wpList_append_given rfl _ _ 64 rfl _ _ _ W rfl rfl hr ?_))
    go_ret
    exact ⟨v', rfl, FIN⟩

set_option maxHeartbeats 1000000 in
theorem cloneB (a : Option Addr) (m c : Nat) (A : Nat → Int) (w : World) (h : Hid (Sl w a m (By A))) (hn : a = none → m = 0 ∧ c = 0) (hl : m ≤ 20000) :
    Calls Try.prog 46 #[.slice a m c] w fun e w' => ∃ v, e = .returned v ∧ Hid (Own w' w.heap.size 5 v m (By A) ∧ Qt w w') := by
  cases a with
  | none =>
    obtain ⟨rfl, rfl⟩ := hn rfl
    clear hn
    have e0 := nil28 0 0
    go_enter Try.func46, Try.ntmps46
    go_wp2_with fail
    go_ret
    exact ⟨_, rfl, own_nil _ _ _ _, Qt.refl w⟩
  | some q =>
    clear hn
    have q1 : Qt w (w.alloc (.cells #[] 5)) := (Qt.refl w).alloc _
    obtain ⟨v', W, hr, h2, h3, h4⟩ := append_own 22 22 5 Try.t5 (.int .u8 0) 1 Try.underlying22 info5 (by kernel_rfl) (by kernel_rfl) (by kernel_rfl) rfl (by omega) (w.alloc (.cells #[] 5)) w.heap.size (.slice (some ⟨w.heap.size, 0, none⟩) 0 0) 0 m c (By A) (By A) (some q) (own_empty w w.heap.size _ 5 rfl (Nat.le_refl _) _) (h.out.mv q1 (fun _ _ h => h)) (fun _ => rfl) (by omega) (fun e => by cases e) q1.size
    have FIN : Hid (Own W w.heap.size 5 v' m (By A) ∧ Qt w W) := by
      refine ⟨?_, q1.trans (Mv.of_grown h3) (fun j hj e => ?_)⟩
      · rw [Nat.zero_add] at h2
        exact h2.congr (fun i hi => by simp [cat])
      · simp [Value.ownBlock] at e
        omega
    clear h2 h3 h4 q1
    have e0 := some28 q
    go_enter Try.func46, Try.ntmps46
    go_wp2_with (at_builtin; first | (refine wpList_append_given rfl _ _ 22 rfl _ _ _ W rfl rfl hr ?_))
    go_ret
    exact ⟨v', rfl, FIN⟩

set_option maxHeartbeats 1000000 in
theorem pieces_any {w : World} {p n : Nat} {L : List Bt} {m : Nat} {A : Nat → Int} {Y : Nat → Prop} (h : Hid (Tx w p n L m A Y)) :
    Calls Try.prog 43 #[.pointer (some ⟨p, 0, none⟩)] w fun e w' => ∃ v, e = .returned v ∧ Hid (Op3 w' w.heap.size v (nf L) ∧ Qt w w') := by
  obtain ⟨vp, va, H⟩ := h.out
  obtain ⟨sa, sc, rfl, li⟩ := H.li
  have c0 := H.c0
  have C := cloneP sa sc (nf L) w li H.len
  clear H li
  generalize (nf L).length = k at *
  go_enter Try.func43, Try.ntmps43
  go_wp2_with fail
  refine C.mono ?_
  rintro e w1 ⟨v, rfl, F⟩
  go_wp2_with fail
  go_ret
  exact ⟨_, rfl, F⟩
set_option maxHeartbeats 1000000 in
theorem added_any {w : World} {p n : Nat} {L : List Bt} {m : Nat} {A : Nat → Int} {Y : Nat → Prop} (h : Hid (Tx w p n L m A Y)) :
    Calls Try.prog 41 #[.pointer (some ⟨p, 0, none⟩)] w fun e w' => ∃ v, e = .returned v ∧ Hid (Own w' w.heap.size 5 v m (By A) ∧ Qt w w') := by
  obtain ⟨vp, va, H⟩ := h.out
  obtain ⟨sa, sc, rfl, sl, _, hn⟩ := H.ad.sl
  have c1 := H.c1
  have C := cloneB sa m sc A w sl hn H.small.2.1
  clear H sl hn
  go_enter Try.func41, Try.ntmps41
  go_wp2_with fail
  refine C.mono ?_
  rintro e w1 ⟨v, rfl, F⟩
  go_wp2_with fail
  go_ret
  exact ⟨_, rfl, F⟩
end Go.Proofs.Ytdhdkbaalgdicaa

/- What is added: add. -/
namespace Go.Proofs.Ytdhdkbaalgdicaa
open Go.RowKit

/-- Bytes behind bytes. -/
def catI (A : Nat → Int) (m : Nat) (f : Nat → Int) : Nat → Int := fun i => if i < m then A i else f (i - m)
theorem by_catI (A : Nat → Int) (m : Nat) (f : Nat → Int) : cat (By A) m (By f) = By (catI A m f) := by
  funext i
  unfold cat By catI
  split <;> rfl
theorem Wf.mono {n m k : Nat} {L : List Bt} (h : Wf n m L) (hk : m ≤ k) : Wf n k L := fun x hx => ⟨(h x hx).1, fun e => Nat.lt_of_lt_of_le ((h x hx).2 e) hk⟩

/-- What add leaves. -/
def AddLeft (w w' : World) (p n : Nat) (L : List Bt) (m : Nat) (A : Nat → Int) (vp va va' : Value) (Y : Nat → Prop) : Prop := TxAt w' p n L m A vp va' Y ∧ Mv (fun j => j = p ∨ va.ownBlock = some j) w w'

theorem heap_set {W : World} {g o : Nat} {v : Value} {cs : Array Value} {t : TypeId} {fr : Nat × Nat} (h : W.heap[g]? = some (.cells cs t fr)) : (W.setCell ⟨g, o, none⟩ v).heap[g]? = some (.cells (cs.setIfInBounds o v) t fr) := by
  obtain ⟨hlt, hk⟩ := Array.getElem?_eq_some_iff.1 h
  show (W.heap.modify g _)[g]? = _
  rw [Array.getElem?_eq_getElem (by rw [Array.size_modify]; exact hlt), Array.getElem_modify_self, hk]
  rfl

theorem add_fin {w W : World} {p n : Nat} {L : List Bt} {m k : Nat} {A f : Nat → Int} {Y : Nat → Prop} {vp va v1 x y z : Value} (h : TxAt w p n L m A vp va Y) (hm : m + k ≤ 20000) (M1 : Mv (fun j => va.ownBlock = some j) w W) (h2 : Own W 0 5 v1 (m + k) (By (catI A m f))) (h4 : v1.ownBlock = va.ownBlock ∨ ∃ g, v1.ownBlock = some g ∧ w.heap.size + 1 ≤ g) :
    AddLeft w ((((W.setCell ⟨p, 1, none⟩ v1).setCell ⟨w.heap.size, 0, none⟩ x).setCell ⟨w.heap.size, 1, none⟩ y).setCell ⟨w.heap.size, 2, none⟩ z) p n L (m + k) (catI A m f) vp va v1 Y := by
  have hp : p < w.heap.size := World.block_lt_of_cell? _ _ h.c1
  have np : ¬ va.ownBlock = some p := h.sep.2.1
  have MW : Mv (fun j => j = p ∨ j = w.heap.size) W ((((W.setCell ⟨p, 1, none⟩ v1).setCell ⟨w.heap.size, 0, none⟩ x).setCell ⟨w.heap.size, 1, none⟩ y).setCell ⟨w.heap.size, 2, none⟩ z) := by
    refine ((((Mv.setCell W ⟨p, 1, none⟩ v1).mono (T := fun j => j = p ∨ j = w.heap.size) (fun j _ e => .inl e)).trans (Mv.setCell _ ⟨w.heap.size, 0, none⟩ x) (fun j _ e => .inr e)).trans (Mv.setCell _ ⟨w.heap.size, 1, none⟩ y) (fun j _ e => .inr e)).trans (Mv.setCell _ ⟨w.heap.size, 2, none⟩ z) (fun j _ e => .inr e)
  have MR : Mv (fun j => j = w.heap.size) (W.setCell ⟨p, 1, none⟩ v1) ((((W.setCell ⟨p, 1, none⟩ v1).setCell ⟨w.heap.size, 0, none⟩ x).setCell ⟨w.heap.size, 1, none⟩ y).setCell ⟨w.heap.size, 2, none⟩ z) := by
    refine ((Mv.setCell _ ⟨w.heap.size, 0, none⟩ x).trans (Mv.setCell _ ⟨w.heap.size, 1, none⟩ y) (fun j _ e => e)).trans (Mv.setCell _ ⟨w.heap.size, 2, none⟩ z) (fun j _ e => e)
  have d0 : W.cell? ⟨p, 0, none⟩ = some vp := M1.cell h.c0 np
  have d1 : W.cell? ⟨p, 1, none⟩ = some va := M1.cell h.c1 np
  have hpr : ¬ p = w.heap.size := by omega
  have hsz := M1.size
  have M2 : Mv (fun j => j = p ∨ va.ownBlock = some j) w ((((W.setCell ⟨p, 1, none⟩ v1).setCell ⟨w.heap.size, 0, none⟩ x).setCell ⟨w.heap.size, 1, none⟩ y).setCell ⟨w.heap.size, 2, none⟩ z) := by
    refine (M1.mono (fun j _ e => .inr e)).trans MW (fun j hj e => ?_)
    rcases e with e | e
    · exact .inl e
    · omega
  have v1p : ∀ j, v1.ownBlock = some j → ¬ (j = p ∨ j = w.heap.size) := by
    intro j hj e
    rcases h4 with h4 | ⟨g, h4, h5⟩
    · rw [h4] at hj
      rcases e with e | e
      · subst e; exact np hj
      · have := (h.ad.blk j hj).2
        omega
    · rw [h4] at hj
      cases hj
      omega
  refine ⟨⟨?_, ?_, ?_, ?_, ?_, h2.mv MW v1p, ?_, ?_, h.wf.mono (by omega), ⟨h.small.1, hm, h.small.2.2⟩⟩, M2⟩
  · refine MR.cell (p := ⟨p, 0, none⟩) ?_ hpr
    rw [World.cell?_setCell_other _ _ _ _ (fun e => by cases e)]; exact d0
  · refine MR.cell (p := ⟨p, 1, none⟩) ?_ hpr
    exact World.cell?_setCell_same _ _ _ d1
  · refine (MR.frozen (p := ⟨p, 0, none⟩) (by simp [World.setCell]; omega) hpr).trans ?_
    rw [World.frozen?_setCell]; exact (M1.frozen (p := ⟨p, 0, none⟩) hp np).trans h.z0
  · refine (MR.frozen (p := ⟨p, 1, none⟩) (by simp [World.setCell]; omega) hpr).trans ?_
    rw [World.frozen?_setCell]; exact (M1.frozen (p := ⟨p, 1, none⟩) hp np).trans h.z1
  · refine M2.owns h.pl (fun j hj e => ?_)
    rcases e with e | e
    · subst e; exact h.sep.1 hj
    · exact h.sep.2.2 j hj e
  · intro j hj
    obtain ⟨a, b, c, d⟩ := h.away j hj
    refine ⟨Nat.lt_of_lt_of_le a M2.size, b, c, ?_⟩
    intro e
    rcases h4 with h4 | ⟨g, h4, h5⟩
    · rw [h4] at e; exact d e
    · rw [h4] at e; cases e; omega
  · refine ⟨h.sep.1, fun e => v1p p e (.inl rfl), fun j hj e => ?_⟩
    rcases h4 with h4 | ⟨g, h4, h5⟩
    · rw [h4] at e; exact h.sep.2.2 j hj e
    · rw [h4] at e; cases e
      have := (ow_blk h.pl j hj).2
      omega

set_option maxHeartbeats 1000000 in
theorem add_any {w : World} {p n : Nat} {L : List Bt} {m : Nat} {A : Nat → Int} {Y : Nat → Prop} {vp va : Value} (h : Hid (TxAt w p n L m A vp va Y)) (sa : Option Addr) (k sc : Nat) (f : Nat → Int) (hs : Hid (Sl w sa k (By f))) (hn : Hid (sa = none → k = 0 ∧ sc = 0)) (hm : m + k ≤ 20000) :
    Calls Try.prog 29 #[.pointer (some ⟨p, 0, none⟩), .slice sa k sc] w fun e w' => e = .returned (.agg #[.bool true, .int .i64 m, .int .i64 ((m + k : Nat) : Int)]) ∧ ∃ va', Hid (AddLeft w w' p n L (m + k) (catI A m f) vp va va' Y) := by
  have c1 := h.out.c1
  have hp : p < w.heap.size := World.block_lt_of_cell? _ _ c1
  have q1 : Qt w (w.alloc (.cells #[.bool false, .int .i64 0, .int .i64 0] 67)) := (Qt.refl w).alloc _
  obtain ⟨v', W, hr, h2, h3, h4⟩ := append_own 22 22 5 Try.t5 (.int .u8 0) 1 Try.underlying22 info5 (by kernel_rfl) (by kernel_rfl) (by kernel_rfl) rfl (by omega) (w.alloc (.cells #[.bool false, .int .i64 0, .int .i64 0] 67)) 0 va m k sc (By A) (By f) sa (h.out.ad.mv q1 (fun _ _ h => h)) (hs.out.mv q1 (fun _ _ h => h)) (fun _ => rfl) (by omega) hn.out (Nat.zero_le _)
  have M1 : Mv (fun j => va.ownBlock = some j) w W := (q1.mono (fun _ _ h => h.elim)).trans (Mv.of_grown h3) (fun _ _ h => h)
  have np : ¬ va.ownBlock = some p := h.out.sep.2.1
  have nr : ¬ va.ownBlock = some w.heap.size := fun e => by have := (h.out.ad.blk _ e).2; omega
  have d1 : W.cell? ⟨p, 1, none⟩ = some va := M1.cell c1 np
  have y1 : W.frozen? ⟨p, 1, none⟩ = false := (M1.frozen (p := ⟨p, 1, none⟩) hp np).trans h.out.z1
  have r0 := (Mv.of_grown h3).cell (alloc_new w #[.bool false, .int .i64 0, .int .i64 0] 67 0 _ rfl).1 nr
  have r1 := (Mv.of_grown h3).cell (alloc_new w #[.bool false, .int .i64 0, .int .i64 0] 67 1 _ rfl).1 nr
  have r2 := (Mv.of_grown h3).cell (alloc_new w #[.bool false, .int .i64 0, .int .i64 0] 67 2 _ rfl).1 nr
  have t0 := ((Mv.of_grown h3).frozen (p := ⟨w.heap.size, 0, none⟩) (by simp) nr).trans (alloc_new w #[.bool false, .int .i64 0, .int .i64 0] 67 0 _ rfl).2
  have t1 := ((Mv.of_grown h3).frozen (p := ⟨w.heap.size, 1, none⟩) (by simp) nr).trans (alloc_new w #[.bool false, .int .i64 0, .int .i64 0] 67 1 _ rfl).2
  have t2 := ((Mv.of_grown h3).frozen (p := ⟨w.heap.size, 2, none⟩) (by simp) nr).trans (alloc_new w #[.bool false, .int .i64 0, .int .i64 0] 67 2 _ rfl).2
  obtain ⟨va0, ca0, rfl, _⟩ := h.out.ad.sl
  obtain ⟨va1, ca1, rfl, _⟩ := h2.sl
  have hrp : ¬ p = w.heap.size := by omega
  have HG : Hid ((W.setCell ⟨p, 1, none⟩ (.slice va1 (m + k) ca1)).heap[w.heap.size]? = some (.cells #[.bool false, .int .i64 0, .int .i64 0] 67 (0, 0))) := by
    show _ = _
    rw [Below.heap_setCell _ _ _ _ (show ¬ w.heap.size = p by omega), h3.block _ (by simp) (fun e => nr e.symm)]
    exact heap_alloc_new _ _
  have H2 : Hid (Own W 0 5 (.slice va1 (m + k) ca1) (m + k) (cat (By A) m (By f))) := h2
  have H4 : Hid _ := h4
  have HM1 : Hid _ := M1
  clear h2 h3 h4 q1 M1 np nr
  go_enter Try.func29, Try.ntmps29
  go_wp2_with (at_builtin; first | (refine wpList_append_given rfl _ _ 22 rfl _ _ _ W rfl rfl hr ?_))
  refine bodyPost_ret (results_cell_row (p := 4) (ty := 67) rfl _ _ w.heap.size 67 _ (0, 0) _ rfl (heap_set (heap_set (heap_set HG.out))) Try.underlying67 rfl (by kernel_rfl)) rfl ?_
  refine ⟨by simp, _, add_fin h.out hm HM1.out ?_ ?_⟩
  · have := H2.out
    rw [by_catI] at this
    exact this
  · rcases H4.out with h4 | ⟨g, h4, h5⟩
    · exact .inl h4
    · exact .inr ⟨g, h4, by simpa using h5⟩
end Go.Proofs.Ytdhdkbaalgdicaa

/- New, Find, Copy, Edit. -/
namespace Go.Proofs.Ytdhdkbaalgdicaa
open Go.RowKit

section
variable {w : World} {p n : Nat} {L : List Bt} {m : Nat} {A : Nat → Int} {Y : Nat → Prop}

end

theorem wf_file (n : Nat) : Wf n 0 (sp1 ⟨false, 0, n⟩) := by
  intro x hx
  obtain ⟨h1, h2, h3⟩ := sp1_mem.1 hx
  exact ⟨fun _ => h3, fun e => by rw [h1] at e; cases e⟩


theorem jd_nf {w w' : World} {v : Value} {qs : List Pc} (h : Jd w w' v qs) (f : Fit qs) : Op3 w' w.heap.size v (nf (spl qs)) := by
  have := h.1
  rw [putP_fold _ _ (fit_le f)] at this
  exact this

theorem new_core (w : World) (x : Int) (n : Nat) (hx : x = n) (hn' : n ≤ 10000) :
    Calls Try.prog 26 #[.slice (some ⟨w.heap.size + 1, 0, none⟩) 1 1] ((w.alloc (.cells #[.bool false, .int .i64 0, .int .i64 x] 67)).alloc (.cells #[.slice (some ⟨w.heap.size, 0, none⟩) 1 1] 64)) fun e w' => ∃ a k c, e = .returned (.slice a k c) ∧ w.heap.size ≤ w'.heap.size ∧
      Hid (Tx (w'.alloc (.cells #[.slice a k c, .slice none 0 0] 69)) w'.heap.size n (sp1 ⟨false, 0, n⟩) 0 (fun _ => 0) (fun k => k < w.heap.size) ∧ Qt w (w'.alloc (.cells #[.slice a k c, .slice none 0 0] 69))) := by
  subst hx
  obtain ⟨W2, hW2⟩ : ∃ W2, W2 = (w.alloc (.cells #[.bool false, .int .i64 0, .int .i64 n] 67)).alloc (.cells #[.slice (some ⟨w.heap.size, 0, none⟩) 1 1] 64) := ⟨_, rfl⟩
  have q2 : Qt w W2 := by rw [hW2]; exact Qt.two _ _ _
  have fit : Fit [⟨false, 0, n⟩] := by
    intro p hp
    simp at hp
    subst hp
    exact ⟨Nat.zero_le _, by show n < _; omega⟩
  have J := join_any (some ⟨w.heap.size + 1, 0, none⟩) 1 [(some ⟨w.heap.size, 0, none⟩, 1, [⟨false, 0, n⟩])] W2 (by
    refine ⟨?_, ?_⟩
    · rw [hW2]
      have := Ls.new (w.alloc (.cells #[.bool false, .int .i64 0, .int .i64 n] 67)) #[.slice (some ⟨w.heap.size, 0, none⟩) 1 1] 64
      simp only [World.size_alloc] at this
      exact this
    · intro s hs
      simp at hs
      subst hs
      refine ⟨?_, fit⟩
      rw [hW2]
      exact (Ls.new w #[.bool false, .int .i64 0, .int .i64 n] 67).qt (Mv.alloc _ _ _)) (by simp [pre]) (by simp)
  rw [← hW2]
  refine J.mono ?_
  rintro e W ⟨v, rfl, jh⟩
  have j : Jd W2 W v [⟨false, 0, n⟩] := jh.out
  have o := jd_nf j fit
  rw [spl_cons, spl_nil, List.append_nil] at o
  have s1 := q2.size
  have s2 := j.2.size
  have b := fun k e => ow_blk o k e
  obtain ⟨a, c, rfl, _⟩ := ow_ls o
  have qa : Qt W (W.alloc (.cells #[.slice a (nf (sp1 ⟨false, 0, n⟩)).length c, .slice none 0 0] 69)) := (Qt.refl W).alloc _
  refine ⟨a, _, c, rfl, Nat.le_trans s1 s2, ⟨_, .slice none 0 0, (alloc_new W _ 69 0 _ rfl).1, (alloc_new W _ 69 1 _ rfl).1, (alloc_new W _ 69 0 _ rfl).2, (alloc_new W _ 69 1 _ rfl).2, ow_mono (qa.owns o (fun _ _ h => h)) (fun _ _ => Nat.zero_le _), own_nil _ _ _ _, ?_, ?_, wf_file n, ?_⟩, (q2.comp j.2).comp qa⟩
  · intro k hk
    refine ⟨by simp; omega, by omega, fun e => ?_, fun e => by simp [Value.ownBlock] at e⟩
    have := b k e; omega
  · refine ⟨fun e => ?_, fun e => by simp [Value.ownBlock] at e, fun k e e' => by simp [Value.ownBlock] at e'⟩
    have := b _ e; omega
  · refine ⟨by omega, by omega, ?_⟩
    rw [sp1_length]; show n - 0 ≤ _; omega

set_option maxHeartbeats 1000000 in
theorem new_any (z : Int) (hz : z ≤ 10000) (w : World) :
    Calls Try.prog 9 #[.int .i64 z] w fun e w' => ∃ q, e = .returned (.pointer (some ⟨q, 0, none⟩)) ∧ w.heap.size ≤ q ∧ Hid (Tx w' q z.toNat (sp1 ⟨false, 0, z.toNat⟩) 0 (fun _ => 0) (fun k => k < w.heap.size) ∧ Qt w w') := by
  by_cases h0 : z < 0
  · have J := new_core w 0 z.toNat (by omega) (by omega)
    go_enter Try.func9, Try.ntmps9
    go_wp2_with fail
    · refine J.mono ?_
      rintro e W ⟨a, k, c, rfl, LE, F⟩
      clear J
      go_wp2_with fail
      go_ret
      exact ⟨_, rfl, LE, F⟩
  · have J := new_core w z z.toNat (by omega) (by omega)
    have h1 : 0 ≤ z := by omega
    clear h0
    go_enter Try.func9, Try.ntmps9
    go_wp2_with fail
    · refine J.mono ?_
      rintro e W ⟨a, k, c, rfl, LE, F⟩
      clear J
      go_wp2_with fail
      go_ret
      exact ⟨_, rfl, LE, F⟩
end Go.Proofs.Ytdhdkbaalgdicaa

/- Edit. -/
namespace Go.Proofs.Ytdhdkbaalgdicaa
open Go.RowKit

/-- k bytes, the first of which is the m-th that was added, in the place of those from a to b. -/
def ins (L : List Bt) (a b m k : Nat) : List Bt := L.take a ++ sp1 ⟨true, m, m + k⟩ ++ L.drop b
theorem ins_length (L : List Bt) (a b m k : Nat) (h1 : a ≤ b) (h2 : b ≤ L.length) : (ins L a b m k).length = L.length - (b - a) + k := by
  unfold ins
  rw [List.length_append, List.length_append, List.length_take, List.length_drop, sp1_length]
  show min a L.length + (m + k - m) + (L.length - b) = _
  omega
theorem ins_wf {n m : Nat} {L : List Bt} (h : Wf n m L) (a b k : Nat) : Wf n (m + k) (ins L a b m k) := by
  intro x hx
  unfold ins at hx
  rcases List.mem_append.1 hx with hx | hx
  · rcases List.mem_append.1 hx with hx | hx
    · exact h.mono (by omega) x (List.mem_of_mem_take hx)
    · obtain ⟨h1, _, h3⟩ := sp1_mem.1 hx
      exact ⟨fun e => (by rw [h1] at e; cases e), fun _ => h3⟩
  · exact h.mono (by omega) x (List.mem_of_mem_drop hx)

section
variable {w : World} {p n : Nat} {L : List Bt} {m : Nat} {A : Nat → Int} {Y : Nat → Prop}

theorem TxAt.qt {w' : World} {vp va : Value} (h : TxAt w p n L m A vp va Y) (k : Qt w w') : TxAt w' p n L m A vp va Y := by
  have hp : p < w.heap.size := World.block_lt_of_cell? _ _ h.c0
  refine ⟨k.cell h.c0 (fun h => h), k.cell h.c1 (fun h => h), (k.frozen (p := ⟨p, 0, none⟩) hp (fun h => h)).trans h.z0, (k.frozen (p := ⟨p, 1, none⟩) hp (fun h => h)).trans h.z1, k.owns h.pl (fun _ _ h => h), h.ad.mv k (fun _ _ h => h), ?_, h.sep, h.wf, h.small⟩
  intro j hj
  obtain ⟨a, b, c, d⟩ := h.away j hj
  exact ⟨Nat.lt_of_lt_of_le a k.size, b, c, d⟩

theorem edit_fin {w4 w5 w6 : World} {vp va v : Value} {L' : List Bt} (h : TxAt w4 p n L m A vp va Y) (q5 : Qt w4 w5) (q6 : Qt w5 w6) (o : Op3 w6 w5.heap.size v (nf L')) (hw : Wf n m L') (hl : L'.length ≤ 20000) :
    TxAt (w6.setCell ⟨p, 0, none⟩ v) p n L' m A v va Y ∧ Mv (fun j => j = p) w4 (w6.setCell ⟨p, 0, none⟩ v) := by
  have q : Qt w4 w6 := q5.comp q6
  have h6 := h.qt q
  have hp : p < w4.heap.size := World.block_lt_of_cell? _ _ h.c0
  have s5 := q5.size
  have M : Mv (fun j => j = p) w6 (w6.setCell ⟨p, 0, none⟩ v) := Mv.setCell w6 ⟨p, 0, none⟩ v
  have b := fun j e => ow_blk o j e
  have np : ∀ j, v.ownBlock = some j → ¬ j = p := fun j e e' => by have := (b j e).1; omega
  refine ⟨⟨World.cell?_setCell_same _ _ _ h6.c0, ?_, ?_, ?_, ?_, h6.ad.mv M (fun j e e' => h.sep.2.1 (by rw [← e']; exact e)), ?_, ?_, hw, ⟨h.small.1, h.small.2.1, hl⟩⟩, (q.mono (fun _ _ h => h.elim)).trans M (fun _ _ h => h)⟩
  · rw [World.cell?_setCell_other _ _ _ _ (fun e => by cases e)]; exact h6.c1
  · rw [World.frozen?_setCell]; exact h6.z0
  · rw [World.frozen?_setCell]; exact h6.z1
  · exact ow_mono (M.owns o np) (fun _ _ => Nat.zero_le _)
  · intro j hj
    obtain ⟨x1, x2, x3, x4⟩ := h.away j hj
    refine ⟨Nat.lt_of_lt_of_le x1 (Nat.le_trans q.size M.size), x2, fun e => ?_, x4⟩
    have := (b j e).1; omega
  · refine ⟨fun e => np p e rfl, h.sep.2.1, fun j e e' => ?_⟩
    have h1 := (b j e).1
    have h2 := (h.ad.blk j e').2
    omega

set_option maxHeartbeats 1000000 in
theorem edit_arg (h : Hid (Tx w p n L m A Y)) (a b : Int) (sa : Option Addr) (k sc : Nat) (hab : ¬ (0 ≤ a ∧ a ≤ b ∧ b ≤ L.length)) :
    Calls Try.prog 12 #[.pointer (some ⟨p, 0, none⟩), .int .i64 a, .int .i64 b, .slice sa k sc] w fun e w' => e = .returned (.int .i64 1) ∧ Hid (Qt w w') := by
  by_cases h1 : a < 0
  · clear hab
    go_enter Try.func12, Try.ntmps12
    go_wp2_with fail
    go_ret
    exact ⟨rfl, Qt.refl w⟩
  · by_cases h2 : b < a
    · clear hab
      go_enter Try.func12, Try.ntmps12
      go_wp2_with fail
      go_ret
      exact ⟨rfl, Qt.refl w⟩
    · have h3 : (L.length : Int) < b := by omega
      have C := zlen_any h
      clear hab
      generalize L.length = k at *
      go_enter Try.func12, Try.ntmps12
      go_wp2_with fail
      refine C.mono ?_
      rintro e w1 ⟨rfl, q⟩
      go_wp2_with fail
      go_ret
      exact ⟨rfl, q⟩

set_option maxHeartbeats 1000000 in
theorem edit_big (h : Hid (Tx w p n L m A Y)) (a b : Int) (sa : Option Addr) (k sc : Nat) (hab : 0 ≤ a ∧ a ≤ b ∧ b ≤ L.length) (hk : 300 < k) :
    Calls Try.prog 12 #[.pointer (some ⟨p, 0, none⟩), .int .i64 a, .int .i64 b, .slice sa k sc] w fun e w' => e = .returned (.int .i64 10) ∧ Hid (Qt w w') := by
  obtain ⟨h1, h2, h3⟩ := hab
  have hkz : (300 : Int) < k := by omega
  have C := zlen_any h
  generalize L.length = k at *
  go_enter Try.func12, Try.ntmps12
  go_wp2_with fail
  refine C.mono ?_
  rintro e w1 ⟨rfl, q⟩
  go_wp2_with fail
  go_ret
  exact ⟨rfl, q⟩
end
end Go.Proofs.Ytdhdkbaalgdicaa

/- Edit, where it may be done. -/
namespace Go.Proofs.Ytdhdkbaalgdicaa
open Go.RowKit

section
variable {w : World} {p n : Nat} {L : List Bt} {m : Nat} {A : Nat → Int} {Y : Nat → Prop}

theorem joined (w4 : World) (a1 : Option Addr) (c1 : Nat) (ps1 : List Pc) (a4 : Option Addr) (c4 : Nat) (ps4 : List Pc) (m k : Nat) (l1 : zLi w4 a1 c1 ps1) (l4 : zLi w4 a4 c4 ps4) (f1 : Fit ps1) (f4 : Fit ps4) (hm : m + k ≤ 20000) (h1 : ps1.length ≤ 30000) (h4 : ps4.length ≤ 30000) :
    Calls Try.prog 26 #[.slice (some ⟨w4.heap.size + 1, 0, none⟩) 3 3] ((w4.alloc (.cells #[.bool true, .int .i64 m, .int .i64 ((m : Int) + k)] 67)).alloc (.cells #[.slice a1 ps1.length c1, .slice (some ⟨w4.heap.size, 0, none⟩) 1 1, .slice a4 ps4.length c4] 64)) fun e w' => ∃ v, e = .returned v ∧
      Hid (∃ w5, Qt w4 w5 ∧ Qt w5 w' ∧ Op3 w' w5.heap.size v (nf (spl ps1 ++ sp1 ⟨true, m, m + k⟩ ++ spl ps4))) := by
  obtain ⟨W2, hW2⟩ : ∃ W2, W2 = (w4.alloc (.cells #[.bool true, .int .i64 m, .int .i64 ((m : Int) + k)] 67)).alloc (.cells #[.slice a1 ps1.length c1, .slice (some ⟨w4.heap.size, 0, none⟩) 1 1, .slice a4 ps4.length c4] 64) := ⟨_, rfl⟩
  have q2 : Qt w4 W2 := by rw [hW2]; exact Qt.two _ _ _
  have fit : Fit [⟨true, m, m + k⟩] := by
    intro p hp
    simp at hp
    subst hp
    exact ⟨by show m ≤ m + k; omega, by show m + k < _; omega⟩
  have J := join_any (some ⟨w4.heap.size + 1, 0, none⟩) 3 [(a1, c1, ps1), (some ⟨w4.heap.size, 0, none⟩, 1, [⟨true, m, m + k⟩]), (a4, c4, ps4)] W2 (by
    refine ⟨?_, ?_⟩
    · rw [hW2]
      have := Ls.new (w4.alloc (.cells #[.bool true, .int .i64 m, .int .i64 ((m : Int) + k)] 67)) #[.slice a1 ps1.length c1, .slice (some ⟨w4.heap.size, 0, none⟩) 1 1, .slice a4 ps4.length c4] 64
      simp only [World.size_alloc] at this
      exact this
    · intro s hs
      simp at hs
      rcases hs with rfl | rfl | rfl
      · exact ⟨l1.ls.qt q2, f1⟩
      · refine ⟨?_, fit⟩
        rw [hW2]
        exact (ls_one w4 true m ((m : Int) + k) m (m + k) _ rfl rfl (by simp)).qt (Mv.alloc _ _ _)
      · exact ⟨l4.ls.qt q2, f4⟩) (by simp [pre]; omega) (by simp)
  rw [← hW2]
  refine J.mono ?_
  rintro e W ⟨v, rfl, jh⟩
  have j : Jd W2 W v (ps1 ++ [⟨true, m, m + k⟩] ++ ps4) := by
    have := jh.out
    have e : pre [(a1, c1, ps1), (some ⟨w4.heap.size, 0, none⟩, 1, [⟨true, m, m + k⟩]), (a4, c4, ps4)] [((a1, c1, ps1) : Sg), (some ⟨w4.heap.size, 0, none⟩, 1, [⟨true, m, m + k⟩]), (a4, c4, ps4)].length = ps1 ++ [⟨true, m, m + k⟩] ++ ps4 := by simp [pre]
    rw [e] at this
    exact this
  refine ⟨v, rfl, W2, q2, j.2, ?_⟩
  have fa : Fit (ps1 ++ [⟨true, m, m + k⟩] ++ ps4) := by
    intro x hx
    rcases List.mem_append.1 hx with hx | hx
    · rcases List.mem_append.1 hx with hx | hx
      · exact f1 x hx
      · exact fit x hx
    · exact f4 x hx
  have := jd_nf j fa
  rw [spl_append, spl_append, spl_cons, spl_nil, List.append_nil] at this
  exact this

set_option maxHeartbeats 2000000 in
theorem edit_ok (h : Hid (Tx w p n L m A Y)) (a b : Nat) (sa : Option Addr) (k sc : Nat) (f : Nat → Int) (hab : a ≤ b) (hb : b ≤ L.length) (hk : k ≤ 300) (hs : Hid (Sl w sa k (By f))) (hn : Hid (sa = none → k = 0 ∧ sc = 0)) (hm : m + k ≤ 20000) (hl : L.length + k ≤ 20000) :
    Calls Try.prog 12 #[.pointer (some ⟨p, 0, none⟩), .int .i64 a, .int .i64 b, .slice sa k sc] w fun e w' => e = .returned (.int .i64 0) ∧ Hid (Tx w' p n (ins L a b m k) (m + k) (catI A m f) Y ∧ Mv (fun j => ¬ Y j) w w') := by
  have C := zlen_any h
  obtain ⟨vp, va, H0⟩ := h.out
  obtain ⟨pa, pc, rfl, li0⟩ := H0.li
  have H : Hid (TxAt w p n L m A (.slice pa (nf L).length pc) va Y) := H0
  have c0 := H0.c0
  have LI : Hid (zLi w pa pc (nf L)) := li0
  have F : Hid (Fit (nf L)) := H0.fit
  have NL : Hid ((nf L).length ≤ 20000) := H0.len
  have hal : a < 1000000 := by omega
  have hbl : b - a < 1000000 := by omega
  have hbz : (b : Int) ≤ L.length := by omega
  have habz : (a : Int) ≤ b := by omega
  have hkz : (k : Int) ≤ 300 := by omega
  have hba : (b : Int) - a = ((b - a : Nat) : Int) := by omega
  have LW : Hid ((ins L a b m k).length ≤ 20000) := by
    show _ ≤ _
    rw [ins_length L a b m k hab hb]; omega
  have WF : Hid (Wf n (m + k) (ins L a b m k)) := ins_wf H0.wf a b k
  have BD : Hid (a ≤ b ∧ b ≤ L.length) := ⟨hab, hb⟩
  have HPA : Hid (∀ j, (∃ q0, pa = some q0 ∧ j = q0.block) ∨ w.heap.size ≤ j → ¬ (j = p ∨ va.ownBlock = some j)) := by
    have hp : p < w.heap.size := World.block_lt_of_cell? _ _ H0.c0
    obtain ⟨pa', pc', e', _, _, _, g⟩ := ow_ls H0.pl
    cases e'
    intro j hj e
    rcases hj with ⟨q0, e1, rfl⟩ | hj
    · have := g q0 e1
      rcases e with e | e
      · exact H0.sep.1 (by rw [← e]; exact this)
      · exact H0.sep.2.2 _ this e
    · rcases e with e | e
      · omega
      · have := (H0.ad.blk j e).2
        omega
  clear H0 li0 h
  obtain ⟨N, hN⟩ : ∃ N, N = (nf L).length := ⟨_, rfl⟩
  have HN : Hid (N = (nf L).length) := hN
  rw [← hN] at c0
  clear hN
  obtain ⟨K, hK⟩ : ∃ K, K = L.length := ⟨_, rfl⟩
  rw [← hK] at C hbz
  clear hK hb hl
  go_enter Try.func12, Try.ntmps12
  go_wp2_with fail
  refine C.mono ?_
  rintro e w1 ⟨rfl, q1⟩
  clear C
  have d0 := q1.out.cell c0 (fun h => h)
  clear c0
  have S1 := split_any pa pc (nf L) a w1 (LI.out.qt q1.out) F (by have := NL.out; omega) hal
  rw [← HN.out] at S1
  go_wp2_with fail
  refine S1.mono ?_
  rintro e w2 ⟨v, rfl, T⟩
  clear S1
  obtain ⟨a1, c1, ps1, a2, c2, ps2, rfl, l1, l2, f1, f2, e1, e2, n1, n2, q2, g1, g2⟩ := T.out
  have T2 : Hid (zLi w2 a1 c1 ps1 ∧ zLi w2 a2 c2 ps2 ∧ Fit ps1 ∧ Fit ps2 ∧ spl ps1 = (spl (nf L)).take a ∧ spl ps2 = (spl (nf L)).drop a ∧ ps1.length ≤ N + 1 ∧ ps2.length ≤ N + 1 ∧ Qt w1 w2 ∧ Nigh w1 pa a1 ∧ Nigh w1 pa a2) := ⟨l1, l2, f1, f2, e1, e2, n1, n2, q2, g1, g2⟩
  clear T l1 l2 f1 f2 e1 e2 n1 n2 q2 g1 g2 d0
  have S2 := split_any a2 c2 ps2 (b - a) w2 T2.out.2.1 T2.out.2.2.2.1 (by have h1 := T2.out.2.2.2.2.2.2.2.1; have h2 := NL.out; have h3 := HN.out; omega) hbl
  obtain ⟨n1, hn1⟩ : ∃ n1, n1 = ps1.length := ⟨_, rfl⟩
  obtain ⟨n2, hn2⟩ : ∃ n2, n2 = ps2.length := ⟨_, rfl⟩
  have HN1 : Hid (n1 = ps1.length) := hn1
  have HN2 : Hid (n2 = ps2.length) := hn2
  rw [← hn1]
  rw [← hn2] at S2 ⊢
  clear hn1 hn2
  go_wp2_with fail
  refine S2.mono ?_
  rintro e w3 ⟨v, rfl, T⟩
  clear S2
  obtain ⟨a3, c3, ps3, a4, c4, ps4, rfl, l3, l4, f3, f4, e3, e4, n3, n4, q3, g3, g4⟩ := T.out
  have T3 : Hid (zLi w3 a4 c4 ps4 ∧ Fit ps4 ∧ spl ps4 = (spl ps2).drop (b - a) ∧ ps4.length ≤ n2 + 1 ∧ Qt w2 w3 ∧ Nigh w2 a2 a4) := ⟨l4, f4, e4, n4, q3, g4⟩
  clear T l3 l4 f3 f4 e3 e4 n3 n4 q3 g3 g4
  have Q3 : Hid (Qt w w3) := (q1.out.comp T2.out.2.2.2.2.2.2.2.2.1).comp T3.out.2.2.2.2.1
  have AD := add_any (H.out.qt Q3.out) sa k sc f (hs.out.mv Q3.out (fun _ _ h => h)) hn hm
  obtain ⟨n4, hn4⟩ : ∃ n4, n4 = ps4.length := ⟨_, rfl⟩
  have HN4 : Hid (n4 = ps4.length) := hn4
  rw [← hn4]
  clear hn4
  generalize ps3.length = n3
  go_wp2_with fail
  refine AD.mono ?_
  rintro e w4 ⟨rfl, va', AL⟩
  clear AD
  have Q2 : Hid (Qt w1 w2) := T2.out.2.2.2.2.2.2.2.2.1
  have Q23 : Hid (Qt w2 w3) := T3.out.2.2.2.2.1
  have b1 : ∀ q, a1 = some q → ¬ (q.block = p ∨ va.ownBlock = some q.block) := by
    intro q e
    refine HPA.out _ ?_
    rcases T2.out.2.2.2.2.2.2.2.2.2.1 q e with h1 | h1
    · exact .inl h1
    · exact .inr (Nat.le_trans q1.out.size h1)
  have b4 : ∀ q, a4 = some q → ¬ (q.block = p ∨ va.ownBlock = some q.block) := by
    intro q e
    refine HPA.out _ ?_
    rcases T3.out.2.2.2.2.2 q e with ⟨q0, e0, e1⟩ | h1
    · rw [e1]
      rcases T2.out.2.2.2.2.2.2.2.2.2.2 q0 e0 with h1 | h1
      · exact .inl h1
      · exact .inr (Nat.le_trans q1.out.size h1)
    · exact .inr (Nat.le_trans (q1.out.comp Q2.out).size h1)
  have l1 : zLi w4 a1 c1 ps1 := by
    have := T2.out.1.qt Q23.out
    exact ⟨this.ls.mv AL.out.2 b1, this.cap, this.none⟩
  have l4 : zLi w4 a4 c4 ps4 := ⟨T3.out.1.ls.mv AL.out.2 b4, T3.out.1.cap, T3.out.1.none⟩
  have JN := joined w4 a1 c1 ps1 a4 c4 ps4 m k l1 l4 T2.out.2.2.1 T3.out.2.1 hm (by
    have h1 := T2.out.2.2.2.2.2.2.1
    have h2 := NL.out
    have h3 := HN.out
    omega) (by
    have h1 := T2.out.2.2.2.2.2.2.2.1
    have h2 := NL.out
    have h3 := HN.out
    have h4 := T3.out.2.2.2.1
    have h5 := HN2.out
    omega)
  have SP : Hid (spl ps1 ++ sp1 ⟨true, m, m + k⟩ ++ spl ps4 = ins L a b m k) := by
    show _ = _
    rw [T3.out.2.2.1, T2.out.2.2.2.2.1, T2.out.2.2.2.2.2.1, spl_nf, List.drop_drop, show a + (b - a) = b by omega]
    rfl
  rw [SP.out, ← HN1.out, ← HN4.out] at JN
  have d0 : w4.cell? ⟨p, 0, none⟩ = some (.slice pa N pc) := by rw [HN.out]; exact AL.out.1.c0
  have z0 := AL.out.1.z0
  clear b1 b4 l1 l4
  go_wp2_with fail
  refine JN.mono ?_
  rintro e w6 ⟨v, rfl, J⟩
  obtain ⟨w5, x5, x6, x7⟩ := J.out
  have q46 : Qt w4 w6 := x5.comp x6
  have d6 := q46.cell d0 (fun h => h)
  have z6 := (q46.frozen (p := ⟨p, 0, none⟩) (World.block_lt_of_cell? _ _ d0) (fun h => h)).trans z0
  have FN := edit_fin AL.out.1 x5 x6 x7 WF.out LW.out
  have MV : Mv (fun j => ¬ Y j) w (w6.setCell ⟨p, 0, none⟩ v) := by
    refine ((Q3.out.mono (fun _ _ h => h.elim)).trans (AL.out.2.trans FN.2 (fun j _ e => .inl e)) (fun j hj e => ?_))
    intro y
    obtain ⟨_, y1, y2, y3⟩ := H.out.away j y
    rcases e with e | e
    · exact y1 e
    · exact y3 e
  have FIN : Hid (Tx (w6.setCell ⟨p, 0, none⟩ v) p n (ins L a b m k) (m + k) (catI A m f) Y ∧ Mv (fun j => ¬ Y j) w (w6.setCell ⟨p, 0, none⟩ v)) := ⟨⟨_, _, FN.1⟩, MV⟩
  obtain ⟨va6, vc6, rfl, -⟩ := ow_ls x7
  clear FN MV x5 x6 x7 J JN
  generalize (nf (ins L a b m k)).length = nn at *
  go_wp2_with fail
  go_ret
  exact ⟨rfl, FIN⟩
end
end Go.Proofs.Ytdhdkbaalgdicaa

/- The statements' first call: begun; bytes as texts. -/
namespace Go.Proofs.Ytdhdkbaalgdicaa
open Go.RowKit

theorem Qt.below {w w' : World} (h : Qt w w') (B : Nat) (hB : B ≤ w.heap.size) : Below B w w' := Mv.below h hB (fun _ _ h => h)

/-- What begun's text is. -/
def L4 : List Bt := ins (sp1 ⟨false, 0, 4⟩) 2 2 0 1
theorem L4_nf : nf L4 = [⟨false, 0, 2⟩, ⟨true, 0, 1⟩, ⟨false, 2, 4⟩] := by rfl
/-- Bytes of a text that is written out. -/
theorem sl_lit (w : World) (C : Array Value) (fr : Nat × Nat) (f : Nat → Int) (hf : ∀ i, i < C.size → C[i]? = some (By f i)) : Sl (w.alloc (.cells C 5 fr)) (some ⟨w.heap.size, 0, none⟩) C.size (By f) := by
  intro i hi
  exact ⟨_, _, rfl, by simp, by rw [Nat.zero_add, World.cell?_alloc_mark]; exact hf i hi⟩
theorem sl_x (w : World) : Sl (w.alloc (.cells #[.int .u8 120] 5 (1, 2))) (some ⟨w.heap.size, 0, none⟩) 1 (By fun _ => 120) := sl_lit w #[.int .u8 120] (1, 2) (fun _ => 120) (fun i hi => by
  have hi : i < 1 := hi
  obtain rfl : i = 0 := by omega
  rfl)
theorem kc28 (w : World) (C : Array Value) (n c : Nat) : (convert 22 22 (.slice (some ⟨w.heap.size, 0, none⟩) n c)).run Try.prog (w.alloc (.cells C 5)) = .ok (.slice (some ⟨w.heap.size, 0, none⟩) n c) (w.alloc (.cells C 5 (C.size, C.size + 1))) := Lib.run_convert_bytes_const (P := Try.prog) w 22 5 C n c Try.underlying22 Try.underlying5
theorem txt_x : txt (catI (fun _ => 0) 0 (fun _ => 120)) (0 + 1) = ⟨#[120]⟩ := by rfl

/-- What a text keeps away from, its callers may turn; what is below B stays. -/
theorem Tx.edit {w w' w0 : World} {B : Nat} {Y : Nat → Prop} (h : Below B w0 w) (m : Mv (fun j => ¬ Y j) w w') (hB : B ≤ w0.heap.size) (hY : ∀ k, k < B → Y k) : Below B w0 w' :=
  h.trans (m.below (Nat.le_trans hB h.size) (fun k hk hn => hn (hY k hk)))

end Go.Proofs.Ytdhdkbaalgdicaa

/- Rows of bytes, as lists; what a text spells: spell. -/
namespace Go.Proofs.Ytdhdkbaalgdicaa
open Go.RowKit

def bv (l : List Int) : List Value := l.map (Value.int .u8)
/-- A row of bytes of its own. -/
abbrev OB (w : World) (base : Nat) (v : Value) (l : List Int) : Prop := w.ownsRow base 5 1 v l.length (bv l)
theorem bv_one (l : List Int) : ∀ u ∈ bv l, u.oneCell' = true := by
  intro u hu
  obtain ⟨x, _, rfl⟩ := List.mem_map.1 hu
  rfl
theorem append_b (ty : TypeId) (w : World) (base : Nat) (v : Value) (l l' : List Int) (s : Option Addr) (c : Nat) (h : OB w base v l) (hs : Ls w s (bv l')) (hn : l.length + l'.length < 100000) (hnone : s = none → l'.length = 0 ∧ c = 0) (hb : base ≤ w.heap.size) :
    ∃ v' W, (Builtin.append_ #[22, 22] ty #[v, .slice s l'.length c]).run Try.prog w = .ok v' W ∧ OB W base v' (l ++ l') ∧ w.grownBy W v.ownBlock ∧ (v'.ownBlock = v.ownBlock ∨ ∃ g, v'.ownBlock = some g ∧ w.heap.size ≤ g) := by
  obtain ⟨v', W, h1, h2, h3⟩ := append_ow 22 ty 5 Try.t5 (.int .u8 0) 1 1 Try.underlying22 info5 (by kernel_rfl) (by kernel_rfl) (by kernel_rfl) (by rfl) (by omega) (by omega) w base v l.length l'.length c (bv l) (bv l') s h hs (by rw [bv, List.length_map, Nat.mul_one]) (bv_one l') hn hnone hb
  refine ⟨v', W, h1, ?_, h3⟩
  have e : bv l ++ bv l' = bv (l ++ l') := by rw [bv, bv, bv, List.map_append]
  rw [e, ← List.length_append] at h2
  exact h2
theorem ls_sl {w : World} {a : Option Addr} {l : List Int} (h : Ls w a (bv l)) : Sl w a l.length (By fun i => l.getD i 0) := by
  intro i hi
  have : (bv l)[i]? = some (.int .u8 (l.getD i 0)) := by
    rw [bv, List.getElem?_map, List.getElem?_eq_getElem hi]
    simp [List.getD, List.getElem?_eq_getElem hi]
  exact h i _ this
theorem sl_ls {w : World} {a : Option Addr} {n : Nat} {f : Nat → Int} (h : Sl w a n (By f)) : Ls w a (bv ((List.range n).map f)) := by
  intro i u hi
  have hl : i < n := by
    have := (List.getElem?_eq_some_iff.1 hi).1
    rw [bv, List.length_map, List.length_map, List.length_range] at this
    exact this
  have e : u = By f i := by
    rw [bv, List.getElem?_map, List.getElem?_map, List.getElem?_range hl] at hi
    simp at hi
    exact hi.symm
  rw [e]
  exact h i hl
theorem txt_list (l : List Int) : txt (fun i => l.getD i 0) l.length = strOfNums l := by
  unfold txt
  congr 1
  apply List.ext_getElem
  · simp
  · intro i h1 h2
    simp [List.getD, List.getElem?_eq_getElem h2]
theorem conv_list (v : Value) (base : Nat) (l : List Int) (w : World) (h : OB w base v l) : ∃ a c, v = .slice a l.length c ∧ (convert 22 9 (.slice a l.length c)).run Try.prog w = .ok (.string (strOfNums l)) w := by
  obtain ⟨a, c, e, h1, _⟩ := ow_ls h
  refine ⟨a, c, e, ?_⟩
  rw [← txt_list]
  exact conv_any a l.length c _ w (ls_sl h1)

/-- One byte more. -/
theorem append_byte (w : World) (base : Nat) (v : Value) (l : List Int) (x : Int) (h : OB w base v l) (hl : l.length < 90000) (hb : base ≤ w.heap.size) :
    ∃ v' W, (Builtin.append_ #[22, 22] 22 #[v, .slice (some ⟨w.heap.size, 0, none⟩) 1 1]).run Try.prog (w.alloc (.cells #[.int .u8 x] 5)) = .ok v' W ∧ OB W base v' (l ++ [x]) ∧ Mv (fun j => v.ownBlock = some j) w W := by
  have q : Qt w (w.alloc (.cells #[.int .u8 x] 5)) := (Qt.refl w).alloc _
  obtain ⟨v', W, h1, h2, h3, _⟩ := append_b 22 _ base v l [x] (some ⟨w.heap.size, 0, none⟩) 1 (q.owns h (fun _ _ h => h)) (Ls.new w #[.int .u8 x] 5) (by simp; omega) (fun e => by cases e) (Nat.le_trans hb q.size)
  exact ⟨v', W, h1, h2, (q.mono (fun _ _ h => h.elim)).trans (Mv.of_grown h3) (fun _ _ h => h)⟩

/-- The byte that stands there, over a file G. -/
def bt (G A : Nat → Int) (x : Bt) : Int := if x.1 then A x.2 else G x.2
/-- A file of bytes that rise. -/
def Gr : Nat → Int := fun k => (k : Int)

/-- What was spelt so far: new memory. -/
def Sp (w wr : World) (v : Value) (l : List Int) : Prop := OB wr w.heap.size v l ∧ Qt w wr
theorem Sp.put {w wr W : World} {v v' : Value} {l : List Int} {x : Int} (h : Sp w wr v l) (o : OB W w.heap.size v' (l ++ [x])) (m : Mv (fun j => v.ownBlock = some j) wr W) : Sp w W v' (l ++ [x]) :=
  ⟨o, h.2.trans m (fun j hj e => by have := (ow_blk h.1 j e).1; omega)⟩

end Go.Proofs.Ytdhdkbaalgdicaa

/- Parts of slices of bytes; appends of bytes in regions that draw. -/
namespace Go.Proofs.Ytdhdkbaalgdicaa
open Go.RowKit

theorem elem28 : Try.prog.elem 22 = 5 := by kernel_rfl
theorem under28 : Try.prog.underlying 22 = some (.slice (Try.prog.elem 22)) := by rw [elem28]; exact Try.underlying22
theorem size5 (w : World) : (sizeOf 5).run Try.prog w = .ok 1 w := by
  have e : Try.t5.size = 1 := by kernel_rfl
  simp [sizeOf, typeInfo, info5, e]

theorem bv_take (l : List Int) (n : Nat) : (bv l).take n = bv (l.take n) := by rw [bv, bv, List.map_take]
theorem bv_drop (l : List Int) (n : Nat) : (bv l).drop n = bv (l.drop n) := by rw [bv, bv, List.map_drop]
theorem bv_length (l : List Int) : (bv l).length = l.length := by rw [bv, List.length_map]

/-- From y on, up to z. -/
theorem slice_midB (a : Option Addr) (n c y z : Nat) (h1 : y ≤ z) (h2 : z ≤ n) (h3 : n ≤ c) (h4 : a = none → n = 0 ∧ c = 0) : ∃ p k, (∀ w, (Instr.slice 22 (.slice a n c) (some (.int .i64 (y : Int))) (some (.int .i64 (z : Int))) none).run Try.prog w = .ok (.slice p (z - y) k) w) ∧ (∀ w l, l.length = n → Ls w a (bv l) → Ls w p (bv ((l.drop y).take (z - y)))) ∧ (p = none → z - y = 0 ∧ k = 0) := by
  refine ⟨if c = y then a else a.map (·.add (y * 1)), c - y, ?_, ?_, ?_⟩
  · intro w
    rw [run_slice_lh w 22 a n c under28 .i64 .i64 y z (by omega) (by omega) (by omega), elem28, size5]
    simp only [Result.andThen_ok, sliced, Int.toNat_natCast]
  · intro w l hl h
    split
    · have : (l.drop y).take (z - y) = [] := by rw [show z - y = 0 by omega, List.take_zero]
      rw [this]; exact Ls.nil _ _
    · rw [Nat.mul_one, ← bv_take, ← bv_drop]; exact (h.drop y).take _
  · intro e
    have : a = none := by
      split at e
      · exact e
      · cases a with
        | none => rfl
        | some p => simp at e
    have := h4 this
    omega
/-- The first z. -/
theorem slice_toB (a : Option Addr) (n c z : Nat) (h2 : z ≤ n) (h3 : n ≤ c) (h4 : a = none → n = 0 ∧ c = 0) : ∃ p k, (∀ w, (Instr.slice 22 (.slice a n c) none (some (.int .i64 (z : Int))) none).run Try.prog w = .ok (.slice p z k) w) ∧ (∀ w l, l.length = n → Ls w a (bv l) → Ls w p (bv (l.take z))) ∧ (p = none → z = 0 ∧ k = 0) := by
  refine ⟨if c = 0 then a else a.map (·.add (0 * 1)), c - 0, ?_, ?_, ?_⟩
  · intro w
    rw [run_slice_h w 22 a n c under28 .i64 z (by omega) (by omega), elem28, size5]
    simp only [Result.andThen_ok, sliced, Int.toNat_natCast, Nat.sub_zero]
  · intro w l hl h
    rw [← bv_take]
    split
    · exact h.take z
    · rw [Nat.zero_mul]
      have := (h.drop 0).take z
      rw [List.drop_zero] at this
      exact this
  · intro e
    have : a = none := by
      split at e
      · exact e
      · cases a with
        | none => rfl
        | some p => simp at e
    have := h4 this
    omega
/-- From y on. -/
theorem slice_fromB (a : Option Addr) (n c y : Nat) (h2 : y ≤ n) (h3 : n ≤ c) (h4 : a = none → n = 0 ∧ c = 0) : ∃ p k, (∀ w, (Instr.slice 22 (.slice a n c) (some (.int .i64 (y : Int))) none none).run Try.prog w = .ok (.slice p (n - y) k) w) ∧ (∀ w l, l.length = n → Ls w a (bv l) → Ls w p (bv (l.drop y))) ∧ (p = none → n - y = 0 ∧ k = 0) := by
  refine ⟨if c = y then a else a.map (·.add (y * 1)), c - y, ?_, ?_, ?_⟩
  · intro w
    rw [run_slice_l w 22 a n c under28 .i64 y (by omega) (by omega), elem28, size5]
    simp only [Result.andThen_ok, sliced, Int.toNat_natCast]
  · intro w l hl h
    split
    · have : l.drop y = [] := List.drop_eq_nil_of_le (by omega)
      rw [this]; exact Ls.nil _ _
    · rw [Nat.mul_one, ← bv_drop]; exact h.drop y
  · intro e
    have : a = none := by
      split at e
      · exact e
      · cases a with
        | none => rfl
        | some p => simp at e
    have := h4 this
    omega

/-- An append of bytes in a region that draws. -/
theorem step_append_b {ops : Array Oper} {o : Oper} {a : Act} {w : World} {K : Act → World → Prop} {Q : Exit → Act → World → Prop} {E : Prop} (hgd : o.guard = none) (s x : Operand)
    (ho : o.op = .call { callee := .builtin .append, args := #[s, x], argTypes := #[22, 22] })
    (base : Nat) (w0 : World) (v : Value) (l : List Int) (sl : Option Addr) (m c : Nat) (l' : List Int) (hs : a.eval s = v) (hx : a.eval x = .slice sl m c) (hm : m = l'.length)
    (hown : OB w base v l) (hsl : Ls w sl (bv l')) (hn : l.length + l'.length < 100000) (hnone : sl = none → l'.length = 0 ∧ c = 0) (hw0 : Below base w0 w) (hb : base ≤ w0.heap.size)
    (h : ∀ v' W, OB W base v' (l ++ l') → w.grownBy W v.ownBlock → Below base w0 W → K (a.put o.dst v') W) :
    if Region.wanted o (yielded ops a.tmps) = true then Oper.wp Try.prog o a w K Q else E := by
  have hw : Region.wanted o (yielded ops a.tmps) = true := by simp [Region.wanted, hgd]
  rw [if_pos hw]
  subst hm
  obtain ⟨v', W, h1, h2, h3, _⟩ := append_b o.type w base v l l' sl c hown hsl hn hnone (Nat.le_trans hb hw0.size)
  exact wp_append_given s x 22 ho v _ v' W hs hx h1 (h v' W h2 h3 (hw0.grown h3 (Nat.le_trans hb hw0.size) (fun k hk => (ow_blk hown k hk).1)))
theorem ob_empty (w : World) (base B : Nat) (hB : B = w.heap.size) (hb : base ≤ w.heap.size) : OB (w.alloc (.cells #[] 5)) base (.slice (some ⟨B, 0, none⟩) 0 0) [] := by
  subst hB
  exact ow_new w base 1 5 #[] 0 hb (by omega) rfl
theorem ob_empty_drew (w : World) (base B : Nat) (hB : B = w.heap.size) (hb : base ≤ w.heap.size) : OB (w.alloc (.cells #[] 5)).drew base (.slice (some ⟨B, 0, none⟩) 0 0) [] := ob_empty w base B hB hb

theorem range_part (g : Nat → Int) (n fr to : Nat) (h : to ≤ n) : (((List.range n).map g).drop fr).take (to - fr) = (List.range' fr (to - fr)).map g := by
  apply List.ext_getElem
  · simp
    omega
  · intro i h1 h2
    simp
theorem part_bt (G A : Nat → Int) (a : Bool) (n fr to : Nat) (h : to ≤ n) : (((List.range n).map (if a then A else G)).drop fr).take (to - fr) = (sp1 ⟨a, fr, to⟩).map (bt G A) := by
  rw [range_part _ _ _ _ h]
  unfold sp1
  rw [List.map_map]
  apply List.map_congr_left
  intro k _
  cases a <;> rfl
end Go.Proofs.Ytdhdkbaalgdicaa
