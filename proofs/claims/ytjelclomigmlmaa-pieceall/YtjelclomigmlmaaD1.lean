/- A text of pieces; Len, Pieces, Added. -/
import Derived.Test.YtjelclomigmlmaaC6
namespace Go.Proofs.Ytjelclomigmlmaa
open Go.RowKit

theorem info5 : Try.prog.info? 5 = some Try.t5 := by kernel_rfl
def By (f : Nat → Int) : Nat → Value := fun i => .int .u8 (f i)

/-- Each byte is one of the file's n, or of the m that were added. -/
def Wf (n m : Nat) (L : List Bt) : Prop := ∀ x ∈ L, (x.1 = false → x.2 < n) ∧ (x.1 = true → x.2 < m)
theorem Wf.lt {n m : Nat} {L : List Bt} (h : Wf n m L) {x : Bt} (hx : x ∈ L) : x.2 < n + m := by
  obtain ⟨h1, h2⟩ := h x hx
  cases e : x.1
  · have := h1 e; omega
  · have := h2 e; omega
theorem Wf.fit {n m : Nat} {L : List Bt} (h : Wf n m L) (hs : n + m < 900000) : Fit (nf L) := fun p hp => ⟨Nat.le_of_lt (nf_pos L p hp), by have := nf_bound (M := n + m) (fun x hx => h.lt hx) p hp; omega⟩

/-- A text: its block, the file's length, its bytes, what was added; what it keeps away from. -/
structure TxAt (w : World) (p n : Nat) (L : List Bt) (m : Nat) (A : Nat → Int) (vp va : Value) (Y : Nat → Prop) : Prop where
  c0 : w.cell? ⟨p, 0, none⟩ = some vp
  c1 : w.cell? ⟨p, 1, none⟩ = some va
  z0 : w.frozen? ⟨p, 0, none⟩ = false
  z1 : w.frozen? ⟨p, 1, none⟩ = false
  pl : Op3 w 0 vp (nf L)
  ad : Own w 0 5 va m (By A)
  away : ∀ k, Y k → k < w.heap.size ∧ k ≠ p ∧ vp.ownBlock ≠ some k ∧ va.ownBlock ≠ some k
  sep : vp.ownBlock ≠ some p ∧ va.ownBlock ≠ some p ∧ ∀ k, vp.ownBlock = some k → va.ownBlock ≠ some k
  wf : Wf n m L
  small : n ≤ 20000 ∧ m ≤ 20000 ∧ L.length ≤ 20000
def Tx (w : World) (p n : Nat) (L : List Bt) (m : Nat) (A : Nat → Int) (Y : Nat → Prop) : Prop := ∃ vp va, TxAt w p n L m A vp va Y

section
variable {w w' : World} {p n : Nat} {L : List Bt} {m : Nat} {A : Nat → Int} {Y Z : Nat → Prop} {vp va : Value}
theorem Tx.mono (h : Tx w p n L m A Y) (hz : ∀ k, Z k → Y k) : Tx w p n L m A Z := by
  obtain ⟨vp, va, h⟩ := h
  exact ⟨vp, va, h.c0, h.c1, h.z0, h.z1, h.pl, h.ad, fun k hk => h.away k (hz k hk), h.sep, h.wf, h.small⟩
/-- Others turn what it keeps away from; what is new since, it keeps away from too. -/
theorem Tx.mv (h : Tx w p n L m A Y) (k : Mv Y w w') : Tx w' p n L m A (fun j => Y j ∨ w.heap.size ≤ j ∧ j < w'.heap.size) := by
  obtain ⟨vp, va, h⟩ := h
  have hp : p < w.heap.size := World.block_lt_of_cell? _ _ h.c0
  have np : ¬ Y p := fun e => (h.away p e).2.1 rfl
  have npa : ∀ j, vp.ownBlock = some j → ¬ Y j := fun j e y => (h.away _ y).2.2.1 e
  have naa : ∀ j, va.ownBlock = some j → ¬ Y j := fun j e y => (h.away _ y).2.2.2 e
  refine ⟨vp, va, k.cell h.c0 np, k.cell h.c1 np, (k.frozen (p := ⟨p, 0, none⟩) hp np).trans h.z0, (k.frozen (p := ⟨p, 1, none⟩) hp np).trans h.z1, k.owns h.pl npa, h.ad.mv k naa, ?_, h.sep, h.wf, h.small⟩
  intro j hj
  rcases hj with hj | ⟨h1, h2⟩
  · obtain ⟨a, b, c, d⟩ := h.away j hj
    exact ⟨Nat.lt_of_lt_of_le a k.size, b, c, d⟩
  · refine ⟨h2, by omega, fun e => ?_, fun e => ?_⟩
    · have := (ow_blk h.pl j e).2
      omega
    · have := (h.ad.blk j e).2
      omega
theorem Tx.qt (h : Tx w p n L m A Y) (k : Qt w w') : Tx w' p n L m A (fun j => Y j ∨ w.heap.size ≤ j ∧ j < w'.heap.size) := h.mv (k.mono (fun _ _ h => h.elim))
theorem Tx.lt (h : Tx w p n L m A Y) : p < w.heap.size := by
  obtain ⟨vp, va, h⟩ := h
  exact World.block_lt_of_cell? _ _ h.c0
theorem Tx.old (h : Tx w p n L m A Y) : ∀ k, Y k → k < w.heap.size := by
  obtain ⟨vp, va, h⟩ := h
  exact fun k hk => (h.away k hk).1
theorem TxAt.fit (h : TxAt w p n L m A vp va Y) : Fit (nf L) := h.wf.fit (by have := h.small; omega)
theorem TxAt.len (h : TxAt w p n L m A vp va Y) : (nf L).length ≤ 20000 := by have := h.small; have := nf_length L; omega
theorem TxAt.li (h : TxAt w p n L m A vp va Y) : ∃ a c, vp = .slice a (nf L).length c ∧ Li w a c (nf L) := by
  obtain ⟨a, c, e, h1, h2, h3, _⟩ := ow_ls h.pl
  exact ⟨a, c, e, h1, h2, h3⟩
end

set_option maxHeartbeats 1000000 in
theorem len_any {w : World} {p n : Nat} {L : List Bt} {m : Nat} {A : Nat → Int} {Y : Nat → Prop} (h : Hid (Tx w p n L m A Y)) :
    Calls Try.prog 18 #[.pointer (some ⟨p, 0, none⟩)] w fun e w' => e = .returned (.int .i64 L.length) ∧ Hid (Qt w w') := by
  obtain ⟨vp, va, H⟩ := h.out
  obtain ⟨sa, sc, rfl, li⟩ := H.li
  have c0 := H.c0
  have F : Hid (Fit (nf L)) := H.fit
  have LI : Hid (Li w sa sc (nf L)) := li
  have hl : (nf L).length ≤ 20000 := H.len
  have LL : Hid ((spl (nf L)).length = L.length) := by show _ = _; rw [spl_nf]
  have LS : Hid (L.length ≤ 20000) := H.small.2.2
  clear H li
  obtain ⟨N, hN⟩ : ∃ N, N = (nf L).length := ⟨_, rfl⟩
  have HN : Hid (N = (nf L).length) := hN
  rw [← hN] at c0 hl
  clear hN
  generalize nf L = ps at *
  go_enter Try.func18, Try.ntmps18
  go_wp2_with fail
  go_loopw [3, 13] (fun vs vi wr => ∃ i s : Nat, i ≤ N ∧ s ≤ 20000 ∧ vi = .int .i64 i ∧ vs = .int .i64 s ∧ Hid (s = (spl (ps.take i)).length) ∧ Hid (Qt w wr)) (fun _ vi _ => N - (intOf vi).toNat)
  case atStart => exact ⟨0, 0, by omega, by omega, rfl, rfl, rfl, Qt.refl w⟩
  case round =>
    obtain ⟨i, s, hi, hs, rfl, rfl, S, Q⟩ := hrel
    by_cases hlt : i < N
    · have hltz : (i : Int) < (N : Int) := by omega
      obtain ⟨q, hq⟩ : ∃ p, ps[i]? = some p := ⟨ps[i]'(by have := HN.out; omega), List.getElem?_eq_getElem _⟩
      obtain ⟨b, off, rfl, hb, d0, d1, d2⟩ := ls_get (LI.out.ls.qt Q.out) hq
      have ft := F.out q (List.mem_of_getElem? hq)
      have D : Hid (s + (q.to - q.fr) = (spl (ps.take (i + 1))).length) := by
        show _ = _
        rw [take_succ_get hq, spl_append, List.length_append, ← S.out, spl_cons, spl_nil, List.append_nil, sp1_length]
      have DB : s + (q.to - q.fr) ≤ 20000 := by
        have h1 := D.out
        have h2 : (spl (ps.take (i + 1))).length ≤ (spl ps).length := by
          conv => rhs; rw [← List.take_append_drop (i + 1) ps, spl_append, List.length_append]
          omega
        have h3 := LL.out
        have h4 := LS.out
        omega
      obtain ⟨a, f, t⟩ := q
      simp only at d0 d1 d2 ft D DB
      obtain ⟨ft1, ft2⟩ := ft
      clear hq hb
      go_wp2_with fail
      refine (size_any a f t _ ft1 ft2).mono ?_
      rintro e w1 ⟨rfl, q1⟩
      have Q1 : Hid (Qt w w1) := (Q.out.alloc _).comp q1.out
      clear d0 d1 d2 q1 Q
      generalize t - f = z at *
      go_wp2_with fail
      exact ⟨⟨i + 1, s + z, by omega, by omega, by go_num, by go_num, D, Q1⟩, by simp [intOf]; omega⟩
    · obtain rfl : i = N := by omega
      have E : Hid (s = L.length) := by
        show _ = _
        rw [S.out, List.take_of_length_le (by have := HN.out; omega), LL.out]
      go_wp2_with fail
      go_ret
      exact ⟨by rw [← E.out]; rfl, Q⟩

theorem own_cells (w : World) (base : Nat) (v : Value) (ps : List Pc) (h : Op3 w base v ps) : ∃ a c, v = .slice a ps.length c ∧ Li w a c ps ∧ ∀ q, a = some q → v.ownBlock = some q.block := by
  obtain ⟨a, c, e, h1, h2, h3, h4⟩ := ow_ls h
  exact ⟨a, c, e, ⟨h1, h2, h3⟩, h4⟩

theorem nil41 (n c : Nat) (w : World) : (binOp .eql 41 (.slice none n c) (.slice none 0 0)).run Try.prog w = .ok (.bool true) w := by kernel_rfl
theorem some41 (q : Addr) (n c : Nat) (w : World) : (binOp .eql 41 (.slice (some q) n c) (.slice none 0 0)).run Try.prog w = .ok (.bool false) w := by kernel_rfl
theorem nil28 (n c : Nat) (w : World) : (binOp .eql 28 (.slice none n c) (.slice none 0 0)).run Try.prog w = .ok (.bool true) w := by kernel_rfl
theorem some28 (q : Addr) (n c : Nat) (w : World) : (binOp .eql 28 (.slice (some q) n c) (.slice none 0 0)).run Try.prog w = .ok (.bool false) w := by kernel_rfl

set_option maxHeartbeats 1000000 in
theorem cloneP (a : Option Addr) (c : Nat) (ps : List Pc) (w : World) (h : Hid (Li w a c ps)) (hl : ps.length ≤ 20000) :
    Calls Try.prog 32 #[.slice a ps.length c] w fun e w' => ∃ v, e = .returned v ∧ Hid (Op3 w' w.heap.size v ps ∧ Qt w w') := by
  cases a with
  | none =>
    have h0 := (h.out.none rfl).1
    obtain rfl : ps = [] := List.length_eq_zero_iff.1 h0
    have e0 := nil41 0 c
    go_enter Try.func32, Try.ntmps32
    go_wp2_with fail
    go_ret
    exact ⟨_, rfl, ow_nil _ _ _ _, Qt.refl w⟩
  | some q =>
    have q1 : Qt w (w.alloc (.cells #[] 50)) := (Qt.refl w).alloc _
    obtain ⟨v', W, hr, h2, h3, h4⟩ := append_pc 41 (w.alloc (.cells #[] 50)) w.heap.size (.slice (some ⟨w.heap.size, 0, none⟩) 0 0) [] ps (some q) c (ow_new w w.heap.size 3 50 #[] 0 (Nat.le_refl _) (by omega) rfl) (h.out.ls.qt q1) (by simp; omega) (fun e => by cases e) q1.size
    have FIN : Hid (Op3 W w.heap.size v' ps ∧ Qt w W) := by
      refine ⟨h2, q1.trans (Mv.of_grown h3) (fun j hj e => ?_)⟩
      simp [Value.ownBlock] at e
      omega
    clear h2 h3 h4 q1
    have e0 := some41 q
    generalize ps.length = k at *
    go_enter Try.func32, Try.ntmps32
    go_wp2_with (at_builtin; first | (refine wpList_append_given rfl _ _ 41 rfl _ _ _ W rfl rfl hr ?_))
    go_ret
    exact ⟨v', rfl, FIN⟩

set_option maxHeartbeats 1000000 in
theorem cloneB (a : Option Addr) (m c : Nat) (A : Nat → Int) (w : World) (h : Hid (Sl w a m (By A))) (hn : a = none → m = 0 ∧ c = 0) (hl : m ≤ 20000) :
    Calls Try.prog 33 #[.slice a m c] w fun e w' => ∃ v, e = .returned v ∧ Hid (Own w' w.heap.size 5 v m (By A) ∧ Qt w w') := by
  cases a with
  | none =>
    obtain ⟨rfl, rfl⟩ := hn rfl
    clear hn
    have e0 := nil28 0 0
    go_enter Try.func33, Try.ntmps33
    go_wp2_with fail
    go_ret
    exact ⟨_, rfl, own_nil _ _ _ _, Qt.refl w⟩
  | some q =>
    clear hn
    have q1 : Qt w (w.alloc (.cells #[] 5)) := (Qt.refl w).alloc _
    obtain ⟨v', W, hr, h2, h3, h4⟩ := append_own 28 28 5 Try.t5 (.int .u8 0) 1 Try.underlying28 info5 (by kernel_rfl) (by kernel_rfl) (by kernel_rfl) rfl (by omega) (w.alloc (.cells #[] 5)) w.heap.size (.slice (some ⟨w.heap.size, 0, none⟩) 0 0) 0 m c (By A) (By A) (some q) (own_empty w w.heap.size _ 5 rfl (Nat.le_refl _) _) (h.out.mv q1 (fun _ _ h => h)) (fun _ => rfl) (by omega) (fun e => by cases e) q1.size
    have FIN : Hid (Own W w.heap.size 5 v' m (By A) ∧ Qt w W) := by
      refine ⟨?_, q1.trans (Mv.of_grown h3) (fun j hj e => ?_)⟩
      · rw [Nat.zero_add] at h2
        exact h2.congr (fun i hi => by simp [cat])
      · simp [Value.ownBlock] at e
        omega
    clear h2 h3 h4 q1
    have e0 := some28 q
    go_enter Try.func33, Try.ntmps33
    go_wp2_with (at_builtin; first | (refine wpList_append_given rfl _ _ 28 rfl _ _ _ W rfl rfl hr ?_))
    go_ret
    exact ⟨v', rfl, FIN⟩

set_option maxHeartbeats 1000000 in
theorem pieces_any {w : World} {p n : Nat} {L : List Bt} {m : Nat} {A : Nat → Int} {Y : Nat → Prop} (h : Hid (Tx w p n L m A Y)) :
    Calls Try.prog 22 #[.pointer (some ⟨p, 0, none⟩)] w fun e w' => ∃ v, e = .returned v ∧ Hid (Op3 w' w.heap.size v (nf L) ∧ Qt w w') := by
  obtain ⟨vp, va, H⟩ := h.out
  obtain ⟨sa, sc, rfl, li⟩ := H.li
  have c0 := H.c0
  have C := cloneP sa sc (nf L) w li H.len
  clear H li
  generalize (nf L).length = k at *
  go_enter Try.func22, Try.ntmps22
  go_wp2_with fail
  refine C.mono ?_
  rintro e w1 ⟨v, rfl, F⟩
  go_wp2_with fail
  go_ret
  exact ⟨_, rfl, F⟩
set_option maxHeartbeats 1000000 in
theorem added_any {w : World} {p n : Nat} {L : List Bt} {m : Nat} {A : Nat → Int} {Y : Nat → Prop} (h : Hid (Tx w p n L m A Y)) :
    Calls Try.prog 24 #[.pointer (some ⟨p, 0, none⟩)] w fun e w' => ∃ v, e = .returned v ∧ Hid (Own w' w.heap.size 5 v m (By A) ∧ Qt w w') := by
  obtain ⟨vp, va, H⟩ := h.out
  obtain ⟨sa, sc, rfl, sl, _, hn⟩ := H.ad.sl
  have c1 := H.c1
  have C := cloneB sa m sc A w sl hn H.small.2.1
  clear H sl hn
  go_enter Try.func24, Try.ntmps24
  go_wp2_with fail
  refine C.mono ?_
  rintro e w1 ⟨v, rfl, F⟩
  go_wp2_with fail
  go_ret
  exact ⟨_, rfl, F⟩
end Go.Proofs.Ytjelclomigmlmaa
