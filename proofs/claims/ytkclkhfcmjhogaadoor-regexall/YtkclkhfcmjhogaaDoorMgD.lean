/- Of the play's trees: what signs make of them. -/
import Derived.Test.YtkclkhfcmjhogaaDoorMgP
import Derived.Test.YtkclkhfcmjhogaaDoorMgX
import Derived.Test.YtkclkhfcmjhogaaDoorMgG1
namespace Go.Proofs.YtkclkhfcmjhogaaDoor
open Go.RowKit
set_option linter.unusedVariables false

theorem Nd_le {d : Nat} (h : d ≤ 3) : Nd d ≤ 40 := by
  rcases (show d = 0 ∨ d = 1 ∨ d = 2 ∨ d = 3 from by omega) with rfl | rfl | rfl | rfl <;> decide
theorem Nd_le2 {d : Nat} (h : d ≤ 2) : Nd d ≤ 13 := by
  rcases (show d = 0 ∨ d = 1 ∨ d = 2 from by omega) with rfl | rfl | rfl <;> decide
theorem may_of {x : RX} (h1 : x.formed = true) (h2 : x.nodes ≤ 40) (h3 : x.depth ≤ 12) : may x = 0 := by
  unfold may
  rw [h1, if_neg (by simp), if_pos ⟨h2, h3⟩]
theorem Pl.may {d : Nat} {x : RX} (h : Pl d x) (hd : d ≤ 3) : may x = 0 :=
  may_of h.formed (Nat.le_trans h.nodes (Nd_le hd)) (by have := h.depth; omega)
theorem Pl.tall {d : Nat} {x : RX} (h : Pl d x) (hd : d ≤ 3) : x.tall < 90000 := by
  have := tall_nodes x
  have := Nat.le_trans h.nodes (Nd_le hd)
  omega
/-- A sign behind a tree that is none. -/
theorem sign_pl {d : Nat} {x : RX} (h : Pl d x) (hd : d ≤ 2) (h4 : x.kind < 4) {k : Int} (hk : k = 4 ∨ k = 5 ∨ k = 6) : Proofs.YtkclkhfcmjhogaaDoor.may ⟨k, fun _ => false, [x]⟩ = 0 := by
  have h1 := h.kind
  refine may_of ?_ ?_ ?_
  · rw [formed_eq]
    simp only [List.all_cons, List.all_nil, h.formed, any_none, node, List.length_cons, List.length_nil]
    have hl : lvl x.kind ≠ lvl k := by
      unfold lvl
      generalize x.kind = m at *
      rcases (show m = 1 ∨ m = 2 ∨ m = 3 from by omega) with rfl | rfl | rfl <;> rcases hk with rfl | rfl | rfl <;> simp
    rcases hk with rfl | rfl | rfl <;> simp [hl]
  · rw [nodes_eq]
    have := Nat.le_trans h.nodes (Nd_le2 hd)
    simp; omega
  · rw [depth_eq]
    have := h.depth
    simp [maxl]; omega
theorem sign_tall2 {d : Nat} {x : RX} (h : Pl d x) (hd : d ≤ 2) (k : Int) : RX.tall ⟨k, fun _ => false, [x]⟩ < 90000 := by
  have := h.tall (by omega : d ≤ 3)
  have h2 := tall_nodes x
  have := Nat.le_trans h.nodes (Nd_le2 hd)
  rw [tall_eq]
  simp [maxl]; omega
theorem inX_at {bt : Nat → Nat} {n : Nat} {x : RX} (hn : n ≤ 60) (h : may x = 0) : inX bt n x = x.mt bt n 0 n := by
  unfold inX
  rw [decide_eq_true hn, h]
  simp
theorem star_self {N : Nat} {f : Mat} (hf : Fwd N f) {i : Nat} (hi : i < N) : starM N f i i = true := (starM_true hf hi).2 (.inl rfl)
/-- Nothing at all: a star, an option, a plus. -/
theorem null_star {bt : Nat → Nat} {n : Nat} {x : RX} (hn : n ≤ 60) (h : may ⟨4, fun _ => false, [x]⟩ = 0) (h0 : n = 0) : inX bt n ⟨4, fun _ => false, [x]⟩ = true := by
  subst h0
  rw [inX_at hn h, mt_eq, if_neg (by decide)]
  simp only [List.map_cons, List.map_nil, mtK4]
  exact star_self (mt_fwd bt 0 x) (by omega)
theorem null_opt {bt : Nat → Nat} {x : RX} (h : may ⟨6, fun _ => false, [x]⟩ = 0) : inX bt 0 ⟨6, fun _ => false, [x]⟩ = true := by
  rw [inX_at (by omega) h, mt_eq, if_neg (by decide)]
  simp only [List.map_cons, List.map_nil, mtK6]
  simp [orM, idM]
theorem null_plus {bt : Nat → Nat} {x : RX} (hx : may x = 0) (h : may ⟨5, fun _ => false, [x]⟩ = 0) : inX bt 0 ⟨5, fun _ => false, [x]⟩ = inX bt 0 x := by
  rw [inX_at (by omega) h, inX_at (by omega) hx, mt_eq, if_neg (by decide)]
  simp only [List.map_cons, List.map_nil, mtK5]
  apply bool_iff
  rw [thenM_true]
  constructor
  · rintro ⟨k, hk, h1, _⟩
    obtain rfl : k = 0 := by omega
    exact h1
  · intro h1
    exact ⟨0, by omega, h1, star_self (mt_fwd bt 0 x) (by omega)⟩
theorem null_kind4 {bt : Nat → Nat} {x : RX} (h : may x = 0) (hk : x.kind = 4) : inX bt 0 x = true := by
  obtain ⟨k, p, l⟩ := x
  have e : k = 4 := hk
  subst e
  have hl := (formed_kd (may_small h).1).2.2.2.2 (by show (4 : Int) ≤ 4; decide)
  match l, hl with
  | [y], _ =>
    rw [inX_at (by omega) h, mt_eq, if_neg (by decide)]
    simp only [List.map_cons, List.map_nil, mtK4]
    exact star_self (mt_fwd bt 0 y) (by omega)

end Go.Proofs.YtkclkhfcmjhogaaDoor

namespace Go.Proofs.YtkclkhfcmjhogaaDoor
open Go.RowKit
set_option linter.unusedVariables false

/-- A tree in its box. -/
structure Tr (x : RX) (pa : Option Addr) (pc gx : Nat) (W : World) : Prop where
  parts : Parts x.args (fun j => j < W.heap.size) W pa pc
  box : (B6 gx (.int .i64 x.kind) (.int .u64 (limb x.set 0)) (.int .u64 (limb x.set 1)) (.int .u64 (limb x.set 2)) (.int .u64 (limb x.set 3)) (.slice pa x.args.length pc) W)
  tab : Tab W
theorem Tr.qt {x : RX} {pa : Option Addr} {pc gx : Nat} {W W' : World} (h : Hid (Tr x pa pc gx W)) (q : Hid (Qt W W')) : Hid (Tr x pa pc gx W') :=
  ⟨(h.out.parts.mv q.out (fun _ _ h => h)).mono (fun j hj => Nat.lt_of_lt_of_le hj q.out.size), B6.mv h.out.box q.out (fun h => h), h.out.tab.qt q.out⟩
theorem Tr.new {x : RX} {pa : Option Addr} {pc : Nat} {K : Nat → Prop} {W : World} (h : Parts x.args K W pa pc) (hT : Tab W) : Hid (Tr x pa pc W.heap.size (W.alloc (.cells #[.int .i64 x.kind, .int .u64 (limb x.set 0), .int .u64 (limb x.set 1), .int .u64 (limb x.set 2), .int .u64 (limb x.set 3), .slice pa x.args.length pc] 28))) :=
  ⟨(h.lt.mv (Mv.alloc (fun _ => False) W _) (fun _ _ h => h)).mono (fun j hj => Nat.lt_of_lt_of_le hj.2 (Mv.alloc (fun _ => False) W _).size), heap_alloc_new W _, hT.qt (Mv.alloc _ _ _)⟩
theorem Tr.b {x : RX} {pa : Option Addr} {pc gx : Nat} {W : World} (h : Hid (Tr x pa pc gx W)) : Hid (B6 gx (.int .i64 x.kind) (.int .u64 (limb x.set 0)) (.int .u64 (limb x.set 1)) (.int .u64 (limb x.set 2)) (.int .u64 (limb x.set 3)) (.slice pa x.args.length pc) W) := h.out.box
/-- A row of one tree. -/
structure Sn (x : RX) (a : Option Addr) (W : World) : Prop where
  parts : Parts [x] (fun j => j < W.heap.size) W a 1
  tab : Tab W
theorem Sn.qt {x : RX} {a : Option Addr} {W W' : World} (h : Sn x a W) (q : Qt W W') : Sn x a W' :=
  ⟨(h.parts.mv q (fun _ _ h => h)).mono (fun j hj => Nat.lt_of_lt_of_le hj q.size), h.tab.qt q⟩
theorem Sn.new {x : RX} {pa : Option Addr} {pc : Nat} {K : Nat → Prop} {W : World} (h : Parts x.args K W pa pc) (hT : Tab W) : Sn x (some ⟨W.heap.size, 0, none⟩) (W.alloc (.cells #[.int .i64 x.kind, .int .u64 (limb x.set 0), .int .u64 (limb x.set 1), .int .u64 (limb x.set 2), .int .u64 (limb x.set 3), .slice pa x.args.length pc] 28)) := by
  refine ⟨Parts.mono (fun j hj => ?_) (parts_new1 h.lt), hT.qt (Mv.alloc _ _ _)⟩
  rcases hj with hj | hj
  · exact Nat.lt_of_lt_of_le hj.2 (Mv.alloc (fun _ => False) W _).size
  · rw [hj]; simp
/-- Three signs behind one another, each with a row of its own. -/
structure Ld3 (x : RX) (wr V : World) : Prop where
  b9 : (B6 (wr.heap.size + 1) (.int .i64 4) (.int .u64 0) (.int .u64 0) (.int .u64 0) (.int .u64 0) (.slice (some ⟨wr.heap.size, 0, none⟩) 1 1) V)
  b10 : (B6 (wr.heap.size + 1 + 1 + 1) (.int .i64 5) (.int .u64 0) (.int .u64 0) (.int .u64 0) (.int .u64 0) (.slice (some ⟨wr.heap.size + 1 + 1, 0, none⟩) 1 1) V)
  b11 : (B6 (wr.heap.size + 1 + 1 + 1 + 1 + 1) (.int .i64 6) (.int .u64 0) (.int .u64 0) (.int .u64 0) (.int .u64 0) (.slice (some ⟨wr.heap.size + 1 + 1 + 1 + 1, 0, none⟩) 1 1) V)
  s9 : Sn x (some ⟨wr.heap.size, 0, none⟩) V
  s10 : Sn x (some ⟨wr.heap.size + 1 + 1, 0, none⟩) V
  s11 : Sn x (some ⟨wr.heap.size + 1 + 1 + 1 + 1, 0, none⟩) V
theorem laid3x (x : RX) (pa : Option Addr) (pc gx : Nat) (wr V1 V2 V3 : World) (h1 : V1 = (wr.alloc (.cells #[.int .i64 x.kind, .int .u64 (limb x.set 0), .int .u64 (limb x.set 1), .int .u64 (limb x.set 2), .int .u64 (limb x.set 3), .slice pa x.args.length pc] 28)).alloc (.cells #[.int .i64 4, .int .u64 0, .int .u64 0, .int .u64 0, .int .u64 0, .slice (some ⟨wr.heap.size, 0, none⟩) 1 1] 28)) (h2 : V2 = (V1.alloc (.cells #[.int .i64 x.kind, .int .u64 (limb x.set 0), .int .u64 (limb x.set 1), .int .u64 (limb x.set 2), .int .u64 (limb x.set 3), .slice pa x.args.length pc] 28)).alloc (.cells #[.int .i64 5, .int .u64 0, .int .u64 0, .int .u64 0, .int .u64 0, .slice (some ⟨wr.heap.size + 1 + 1, 0, none⟩) 1 1] 28)) (h3 : V3 = (V2.alloc (.cells #[.int .i64 x.kind, .int .u64 (limb x.set 0), .int .u64 (limb x.set 1), .int .u64 (limb x.set 2), .int .u64 (limb x.set 3), .slice pa x.args.length pc] 28)).alloc (.cells #[.int .i64 6, .int .u64 0, .int .u64 0, .int .u64 0, .int .u64 0, .slice (some ⟨wr.heap.size + 1 + 1 + 1 + 1, 0, none⟩) 1 1] 28)) (hX : Hid (Tr x pa pc gx wr)) : Hid (Ld3 x wr V3) := by
  have q1 : Qt wr V1 := by rw [h1]; exact ((Qt.refl wr).alloc _).alloc _
  have q2 : Qt V1 V2 := by rw [h2]; exact ((Qt.refl V1).alloc _).alloc _
  have q3 : Qt V2 V3 := by rw [h3]; exact ((Qt.refl V2).alloc _).alloc _
  have e1 : V1.heap.size = wr.heap.size + 1 + 1 := by rw [h1]; simp
  have e2 : V2.heap.size = wr.heap.size + 1 + 1 + 1 + 1 := by rw [h2]; simp [e1]
  have b9 : (B6 (wr.heap.size + 1) (.int .i64 4) (.int .u64 0) (.int .u64 0) (.int .u64 0) (.int .u64 0) (.slice (some ⟨wr.heap.size, 0, none⟩) 1 1) V1) := by
    have h := heap_alloc_new (wr.alloc (.cells #[.int .i64 x.kind, .int .u64 (limb x.set 0), .int .u64 (limb x.set 1), .int .u64 (limb x.set 2), .int .u64 (limb x.set 3), .slice pa x.args.length pc] 28)) (.cells #[.int .i64 4, .int .u64 0, .int .u64 0, .int .u64 0, .int .u64 0, .slice (some ⟨wr.heap.size, 0, none⟩) 1 1] 28)
    rw [show (wr.alloc (.cells #[.int .i64 x.kind, .int .u64 (limb x.set 0), .int .u64 (limb x.set 1), .int .u64 (limb x.set 2), .int .u64 (limb x.set 3), .slice pa x.args.length pc] 28)).heap.size = wr.heap.size + 1 from by simp, ← h1] at h
    exact h
  have b10 : (B6 (wr.heap.size + 1 + 1 + 1) (.int .i64 5) (.int .u64 0) (.int .u64 0) (.int .u64 0) (.int .u64 0) (.slice (some ⟨wr.heap.size + 1 + 1, 0, none⟩) 1 1) V2) := by
    have h := heap_alloc_new (V1.alloc (.cells #[.int .i64 x.kind, .int .u64 (limb x.set 0), .int .u64 (limb x.set 1), .int .u64 (limb x.set 2), .int .u64 (limb x.set 3), .slice pa x.args.length pc] 28)) (.cells #[.int .i64 5, .int .u64 0, .int .u64 0, .int .u64 0, .int .u64 0, .slice (some ⟨wr.heap.size + 1 + 1, 0, none⟩) 1 1] 28)
    rw [show (V1.alloc (.cells #[.int .i64 x.kind, .int .u64 (limb x.set 0), .int .u64 (limb x.set 1), .int .u64 (limb x.set 2), .int .u64 (limb x.set 3), .slice pa x.args.length pc] 28)).heap.size = wr.heap.size + 1 + 1 + 1 from by simp [e1], ← h2] at h
    exact h
  have b11 : (B6 (wr.heap.size + 1 + 1 + 1 + 1 + 1) (.int .i64 6) (.int .u64 0) (.int .u64 0) (.int .u64 0) (.int .u64 0) (.slice (some ⟨wr.heap.size + 1 + 1 + 1 + 1, 0, none⟩) 1 1) V3) := by
    have h := heap_alloc_new (V2.alloc (.cells #[.int .i64 x.kind, .int .u64 (limb x.set 0), .int .u64 (limb x.set 1), .int .u64 (limb x.set 2), .int .u64 (limb x.set 3), .slice pa x.args.length pc] 28)) (.cells #[.int .i64 6, .int .u64 0, .int .u64 0, .int .u64 0, .int .u64 0, .slice (some ⟨wr.heap.size + 1 + 1 + 1 + 1, 0, none⟩) 1 1] 28)
    rw [show (V2.alloc (.cells #[.int .i64 x.kind, .int .u64 (limb x.set 0), .int .u64 (limb x.set 1), .int .u64 (limb x.set 2), .int .u64 (limb x.set 3), .slice pa x.args.length pc] 28)).heap.size = wr.heap.size + 1 + 1 + 1 + 1 + 1 from by simp [e2], ← h3] at h
    exact h
  have s9 := Sn.new hX.out.parts hX.out.tab
  have X1 := Tr.qt hX q1
  have s10 := Sn.new X1.out.parts X1.out.tab
  have X2 := Tr.qt X1 q2
  have s11 := Sn.new X2.out.parts X2.out.tab
  rw [e1] at s10
  rw [e2] at s11
  have r1 : Qt (wr.alloc (.cells #[.int .i64 x.kind, .int .u64 (limb x.set 0), .int .u64 (limb x.set 1), .int .u64 (limb x.set 2), .int .u64 (limb x.set 3), .slice pa x.args.length pc] 28)) V1 := by rw [h1]; exact (Qt.refl _).alloc _
  have r2 : Qt (V1.alloc (.cells #[.int .i64 x.kind, .int .u64 (limb x.set 0), .int .u64 (limb x.set 1), .int .u64 (limb x.set 2), .int .u64 (limb x.set 3), .slice pa x.args.length pc] 28)) V2 := by rw [h2]; exact (Qt.refl _).alloc _
  have r3 : Qt (V2.alloc (.cells #[.int .i64 x.kind, .int .u64 (limb x.set 0), .int .u64 (limb x.set 1), .int .u64 (limb x.set 2), .int .u64 (limb x.set 3), .slice pa x.args.length pc] 28)) V3 := by rw [h3]; exact (Qt.refl _).alloc _
  exact ⟨(B6.mv b9 (q2.comp q3) (fun h => h)).out, (B6.mv b10 q3 (fun h => h)).out, b11, s9.qt ((r1.comp q2).comp q3), s10.qt (r2.comp q3), s11.qt r3⟩
theorem null_sign (x : RX) (k : Int) (hk : RX.tall ⟨k, fun _ => false, [x]⟩ < 90000) (f : Nat → Nat) (a : Option Addr) (W : World) (h : Sn x a W) :
    Calls Tryd.prog 24 #[.agg #[.int .i64 k, .int .u64 0, .int .u64 0, .int .u64 0, .int .u64 0, .slice a 1 1]] W fun e w' => e = .returned (.bool (inX f 0 ⟨k, fun _ => false, [x]⟩)) ∧ Hid (Qt W w') := by
  have h1 := null_any ⟨k, fun _ => false, [x]⟩ _ a 1 W (fun j hj => hj) h.parts hk h.tab f
  rw [limb_none, limb_none, limb_none, limb_none] at h1
  exact h1
theorem in_sign2 (x : RX) (k : Int) (hk : RX.tall ⟨k, fun _ => false, [x]⟩ < 90000) (bt : Nat → Nat) (n : Nat) (hb : ∀ i, i < n → bt i < 256) (a wa : Option Addr) (wc : Nat) (W : World) (h : Sn x a W) (hw : Sl W wa n (Bn bt)) :
    Calls Tryd.prog 26 #[.agg #[.int .i64 k, .int .u64 0, .int .u64 0, .int .u64 0, .int .u64 0, .slice a 1 1], .slice wa n wc] W fun e w' => e = .returned (.bool (inX bt n ⟨k, fun _ => false, [x]⟩)) ∧ Hid (Qt W w') := by
  have h1 := in_any bt n hb ⟨k, fun _ => false, [x]⟩ _ a wa 1 wc W (fun j hj => hj) h.parts hk hw h.tab
  rw [limb_none, limb_none, limb_none, limb_none] at h1
  exact h1
theorem tr_may {x : RX} (hm : may x = 0) {pa : Option Addr} {pc gx : Nat} {W : World} (h : Hid (Tr x pa pc gx W)) :
    Calls Tryd.prog 19 #[.agg #[.int .i64 x.kind, .int .u64 (limb x.set 0), .int .u64 (limb x.set 1), .int .u64 (limb x.set 2), .int .u64 (limb x.set 3), .slice pa x.args.length pc]] W fun e w' => e = .returned (.int .i64 0) ∧ Hid (Qt W w') :=
  rmay_ok x _ pa pc W (show Hid _ from h.out.parts) hm
theorem tr_null {x : RX} (ht : x.tall < 90000) (f : Nat → Nat) {pa : Option Addr} {pc gx : Nat} {W : World} (h : Hid (Tr x pa pc gx W)) :
    Calls Tryd.prog 24 #[.agg #[.int .i64 x.kind, .int .u64 (limb x.set 0), .int .u64 (limb x.set 1), .int .u64 (limb x.set 2), .int .u64 (limb x.set 3), .slice pa x.args.length pc]] W fun e w' => e = .returned (.bool (inX f 0 x)) ∧ Hid (Qt W w') :=
  null_any x _ pa pc W (fun j hj => hj) h.out.parts ht h.out.tab f
theorem tr_in {x : RX} (ht : x.tall < 90000) (bt : Nat → Nat) (n : Nat) (hb : ∀ i, i < n → bt i < 256) {pa wa : Option Addr} {pc wc gx : Nat} {W : World} (h : Hid (Tr x pa pc gx W)) (hw : Hid (Sl W wa n (Bn bt))) :
    Calls Tryd.prog 26 #[.agg #[.int .i64 x.kind, .int .u64 (limb x.set 0), .int .u64 (limb x.set 1), .int .u64 (limb x.set 2), .int .u64 (limb x.set 3), .slice pa x.args.length pc], .slice wa n wc] W fun e w' => e = .returned (.bool (inX bt n x)) ∧ Hid (Qt W w') :=
  in_any bt n hb x _ pa wa pc wc W (fun j hj => hj) h.out.parts ht hw h.out.tab

end Go.Proofs.YtkclkhfcmjhogaaDoor
