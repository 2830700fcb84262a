/- What stands in a box: a tree, and where it lies. -/
import Derived.Test.YtkclkhfcmjhogaaDoorC0
namespace Go.Proofs.YtkclkhfcmjhogaaDoor
open Go.RowKit
set_option linter.unusedVariables false

/-- A tree in its box. -/
structure Tr (x : RX) (pa : Option Addr) (pc gx : Nat) (W : World) : Prop where
  parts : Parts x.args (fun j => j < W.heap.size) W pa pc
  box : (B6 gx (.int .i64 x.kind) (.int .u64 (limb x.set 0)) (.int .u64 (limb x.set 1)) (.int .u64 (limb x.set 2)) (.int .u64 (limb x.set 3)) (.slice pa x.args.length pc) W)
  tab : Tab W
theorem Tr.qt {x : RX} {pa : Option Addr} {pc gx : Nat} {W W' : World} (h : Hid (Tr x pa pc gx W)) (q : Hid (Qt W W')) : Hid (Tr x pa pc gx W') :=
  ⟨(h.out.parts.mv q.out (fun _ _ h => h)).mono (fun j hj => Nat.lt_of_lt_of_le hj q.out.size), B6.mv h.out.box q.out (fun h => h), h.out.tab.qt q.out⟩
theorem Tr.new {x : RX} {pa : Option Addr} {pc : Nat} {K : Nat → Prop} {W : World} (h : Parts x.args K W pa pc) (hT : Tab W) : Hid (Tr x pa pc W.heap.size (W.alloc (.cells #[.int .i64 x.kind, .int .u64 (limb x.set 0), .int .u64 (limb x.set 1), .int .u64 (limb x.set 2), .int .u64 (limb x.set 3), .slice pa x.args.length pc] 28))) :=
  ⟨(h.lt.mv (Mv.alloc (fun _ => False) W _) (fun _ _ h => h)).mono (fun j hj => Nat.lt_of_lt_of_le hj.2 (Mv.alloc (fun _ => False) W _).size), heap_alloc_new W _, hT.qt (Mv.alloc _ _ _)⟩
theorem Tr.b {x : RX} {pa : Option Addr} {pc gx : Nat} {W : World} (h : Hid (Tr x pa pc gx W)) : Hid (B6 gx (.int .i64 x.kind) (.int .u64 (limb x.set 0)) (.int .u64 (limb x.set 1)) (.int .u64 (limb x.set 2)) (.int .u64 (limb x.set 3)) (.slice pa x.args.length pc) W) := h.out.box
/-- A row of one tree. -/
structure Sn (x : RX) (a : Option Addr) (W : World) : Prop where
  parts : Parts [x] (fun j => j < W.heap.size) W a 1
  tab : Tab W
theorem Sn.qt {x : RX} {a : Option Addr} {W W' : World} (h : Sn x a W) (q : Qt W W') : Sn x a W' :=
  ⟨(h.parts.mv q (fun _ _ h => h)).mono (fun j hj => Nat.lt_of_lt_of_le hj q.size), h.tab.qt q⟩
theorem Sn.new {x : RX} {pa : Option Addr} {pc : Nat} {K : Nat → Prop} {W : World} (h : Parts x.args K W pa pc) (hT : Tab W) : Sn x (some ⟨W.heap.size, 0, none⟩) (W.alloc (.cells #[.int .i64 x.kind, .int .u64 (limb x.set 0), .int .u64 (limb x.set 1), .int .u64 (limb x.set 2), .int .u64 (limb x.set 3), .slice pa x.args.length pc] 28)) := by
  refine ⟨Parts.mono (fun j hj => ?_) (parts_new1 h.lt), hT.qt (Mv.alloc _ _ _)⟩
  rcases hj with hj | hj
  · exact Nat.lt_of_lt_of_le hj.2 (Mv.alloc (fun _ => False) W _).size
  · rw [hj]; simp
/-- Three signs behind one another, each with a row of its own. -/
structure Ld3 (x : RX) (wr V : World) : Prop where
  b9 : (B6 (wr.heap.size + 1) (.int .i64 4) (.int .u64 0) (.int .u64 0) (.int .u64 0) (.int .u64 0) (.slice (some ⟨wr.heap.size, 0, none⟩) 1 1) V)
  b10 : (B6 (wr.heap.size + 1 + 1 + 1) (.int .i64 5) (.int .u64 0) (.int .u64 0) (.int .u64 0) (.int .u64 0) (.slice (some ⟨wr.heap.size + 1 + 1, 0, none⟩) 1 1) V)
  b11 : (B6 (wr.heap.size + 1 + 1 + 1 + 1 + 1) (.int .i64 6) (.int .u64 0) (.int .u64 0) (.int .u64 0) (.int .u64 0) (.slice (some ⟨wr.heap.size + 1 + 1 + 1 + 1, 0, none⟩) 1 1) V)
  s9 : Sn x (some ⟨wr.heap.size, 0, none⟩) V
  s10 : Sn x (some ⟨wr.heap.size + 1 + 1, 0, none⟩) V
  s11 : Sn x (some ⟨wr.heap.size + 1 + 1 + 1 + 1, 0, none⟩) V
theorem laid3x (x : RX) (pa : Option Addr) (pc gx : Nat) (wr V1 V2 V3 : World) (h1 : V1 = (wr.alloc (.cells #[.int .i64 x.kind, .int .u64 (limb x.set 0), .int .u64 (limb x.set 1), .int .u64 (limb x.set 2), .int .u64 (limb x.set 3), .slice pa x.args.length pc] 28)).alloc (.cells #[.int .i64 4, .int .u64 0, .int .u64 0, .int .u64 0, .int .u64 0, .slice (some ⟨wr.heap.size, 0, none⟩) 1 1] 28)) (h2 : V2 = (V1.alloc (.cells #[.int .i64 x.kind, .int .u64 (limb x.set 0), .int .u64 (limb x.set 1), .int .u64 (limb x.set 2), .int .u64 (limb x.set 3), .slice pa x.args.length pc] 28)).alloc (.cells #[.int .i64 5, .int .u64 0, .int .u64 0, .int .u64 0, .int .u64 0, .slice (some ⟨wr.heap.size + 1 + 1, 0, none⟩) 1 1] 28)) (h3 : V3 = (V2.alloc (.cells #[.int .i64 x.kind, .int .u64 (limb x.set 0), .int .u64 (limb x.set 1), .int .u64 (limb x.set 2), .int .u64 (limb x.set 3), .slice pa x.args.length pc] 28)).alloc (.cells #[.int .i64 6, .int .u64 0, .int .u64 0, .int .u64 0, .int .u64 0, .slice (some ⟨wr.heap.size + 1 + 1 + 1 + 1, 0, none⟩) 1 1] 28)) (hX : Hid (Tr x pa pc gx wr)) : Hid (Ld3 x wr V3) := by
  have q1 : Qt wr V1 := by rw [h1]; exact ((Qt.refl wr).alloc _).alloc _
  have q2 : Qt V1 V2 := by rw [h2]; exact ((Qt.refl V1).alloc _).alloc _
  have q3 : Qt V2 V3 := by rw [h3]; exact ((Qt.refl V2).alloc _).alloc _
  have e1 : V1.heap.size = wr.heap.size + 1 + 1 := by rw [h1]; simp
  have e2 : V2.heap.size = wr.heap.size + 1 + 1 + 1 + 1 := by rw [h2]; simp [e1]
  have b9 : (B6 (wr.heap.size + 1) (.int .i64 4) (.int .u64 0) (.int .u64 0) (.int .u64 0) (.int .u64 0) (.slice (some ⟨wr.heap.size, 0, none⟩) 1 1) V1) := by
    have h := heap_alloc_new (wr.alloc (.cells #[.int .i64 x.kind, .int .u64 (limb x.set 0), .int .u64 (limb x.set 1), .int .u64 (limb x.set 2), .int .u64 (limb x.set 3), .slice pa x.args.length pc] 28)) (.cells #[.int .i64 4, .int .u64 0, .int .u64 0, .int .u64 0, .int .u64 0, .slice (some ⟨wr.heap.size, 0, none⟩) 1 1] 28)
    rw [show (wr.alloc (.cells #[.int .i64 x.kind, .int .u64 (limb x.set 0), .int .u64 (limb x.set 1), .int .u64 (limb x.set 2), .int .u64 (limb x.set 3), .slice pa x.args.length pc] 28)).heap.size = wr.heap.size + 1 from by simp, ← h1] at h
    exact h
  have b10 : (B6 (wr.heap.size + 1 + 1 + 1) (.int .i64 5) (.int .u64 0) (.int .u64 0) (.int .u64 0) (.int .u64 0) (.slice (some ⟨wr.heap.size + 1 + 1, 0, none⟩) 1 1) V2) := by
    have h := heap_alloc_new (V1.alloc (.cells #[.int .i64 x.kind, .int .u64 (limb x.set 0), .int .u64 (limb x.set 1), .int .u64 (limb x.set 2), .int .u64 (limb x.set 3), .slice pa x.args.length pc] 28)) (.cells #[.int .i64 5, .int .u64 0, .int .u64 0, .int .u64 0, .int .u64 0, .slice (some ⟨wr.heap.size + 1 + 1, 0, none⟩) 1 1] 28)
    rw [show (V1.alloc (.cells #[.int .i64 x.kind, .int .u64 (limb x.set 0), .int .u64 (limb x.set 1), .int .u64 (limb x.set 2), .int .u64 (limb x.set 3), .slice pa x.args.length pc] 28)).heap.size = wr.heap.size + 1 + 1 + 1 from by simp [e1], ← h2] at h
    exact h
  have b11 : (B6 (wr.heap.size + 1 + 1 + 1 + 1 + 1) (.int .i64 6) (.int .u64 0) (.int .u64 0) (.int .u64 0) (.int .u64 0) (.slice (some ⟨wr.heap.size + 1 + 1 + 1 + 1, 0, none⟩) 1 1) V3) := by
    have h := heap_alloc_new (V2.alloc (.cells #[.int .i64 x.kind, .int .u64 (limb x.set 0), .int .u64 (limb x.set 1), .int .u64 (limb x.set 2), .int .u64 (limb x.set 3), .slice pa x.args.length pc] 28)) (.cells #[.int .i64 6, .int .u64 0, .int .u64 0, .int .u64 0, .int .u64 0, .slice (some ⟨wr.heap.size + 1 + 1 + 1 + 1, 0, none⟩) 1 1] 28)
    rw [show (V2.alloc (.cells #[.int .i64 x.kind, .int .u64 (limb x.set 0), .int .u64 (limb x.set 1), .int .u64 (limb x.set 2), .int .u64 (limb x.set 3), .slice pa x.args.length pc] 28)).heap.size = wr.heap.size + 1 + 1 + 1 + 1 + 1 from by simp [e2], ← h3] at h
    exact h
  have s9 := Sn.new hX.out.parts hX.out.tab
  have X1 := Tr.qt hX q1
  have s10 := Sn.new X1.out.parts X1.out.tab
  have X2 := Tr.qt X1 q2
  have s11 := Sn.new X2.out.parts X2.out.tab
  rw [e1] at s10
  rw [e2] at s11
  have r1 : Qt (wr.alloc (.cells #[.int .i64 x.kind, .int .u64 (limb x.set 0), .int .u64 (limb x.set 1), .int .u64 (limb x.set 2), .int .u64 (limb x.set 3), .slice pa x.args.length pc] 28)) V1 := by rw [h1]; exact (Qt.refl _).alloc _
  have r2 : Qt (V1.alloc (.cells #[.int .i64 x.kind, .int .u64 (limb x.set 0), .int .u64 (limb x.set 1), .int .u64 (limb x.set 2), .int .u64 (limb x.set 3), .slice pa x.args.length pc] 28)) V2 := by rw [h2]; exact (Qt.refl _).alloc _
  have r3 : Qt (V2.alloc (.cells #[.int .i64 x.kind, .int .u64 (limb x.set 0), .int .u64 (limb x.set 1), .int .u64 (limb x.set 2), .int .u64 (limb x.set 3), .slice pa x.args.length pc] 28)) V3 := by rw [h3]; exact (Qt.refl _).alloc _
  exact ⟨(B6.mv b9 (q2.comp q3) (fun h => h)).out, (B6.mv b10 q3 (fun h => h)).out, b11, s9.qt ((r1.comp q2).comp q3), s10.qt (r2.comp q3), s11.qt r3⟩
theorem null_sign (x : RX) (k : Int) (hk : RX.tall ⟨k, fun _ => false, [x]⟩ < 90000) (f : Nat → Nat) (a : Option Addr) (W : World) (h : Sn x a W) :
    Calls Tryd.prog 24 #[.agg #[.int .i64 k, .int .u64 0, .int .u64 0, .int .u64 0, .int .u64 0, .slice a 1 1]] W fun e w' => e = .returned (.bool (inX f 0 ⟨k, fun _ => false, [x]⟩)) ∧ Hid (Qt W w') := by
  have h1 := null_any ⟨k, fun _ => false, [x]⟩ _ a 1 W (fun j hj => hj) h.parts hk h.tab f
  rw [limb_none, limb_none, limb_none, limb_none] at h1
  exact h1
theorem in_sign2 (x : RX) (k : Int) (hk : RX.tall ⟨k, fun _ => false, [x]⟩ < 90000) (bt : Nat → Nat) (n : Nat) (hb : ∀ i, i < n → bt i < 256) (a wa : Option Addr) (wc : Nat) (W : World) (h : Sn x a W) (hw : Sl W wa n (Bn bt)) :
    Calls Tryd.prog 26 #[.agg #[.int .i64 k, .int .u64 0, .int .u64 0, .int .u64 0, .int .u64 0, .slice a 1 1], .slice wa n wc] W fun e w' => e = .returned (.bool (inX bt n ⟨k, fun _ => false, [x]⟩)) ∧ Hid (Qt W w') := by
  have h1 := in_any bt n hb ⟨k, fun _ => false, [x]⟩ _ a wa 1 wc W (fun j hj => hj) h.parts hk hw h.tab
  rw [limb_none, limb_none, limb_none, limb_none] at h1
  exact h1
theorem tr_may {x : RX} (hm : may x = 0) {pa : Option Addr} {pc gx : Nat} {W : World} (h : Hid (Tr x pa pc gx W)) :
    Calls Tryd.prog 19 #[.agg #[.int .i64 x.kind, .int .u64 (limb x.set 0), .int .u64 (limb x.set 1), .int .u64 (limb x.set 2), .int .u64 (limb x.set 3), .slice pa x.args.length pc]] W fun e w' => e = .returned (.int .i64 0) ∧ Hid (Qt W w') :=
  rmay_ok x _ pa pc W (show Hid _ from h.out.parts) hm
theorem tr_null {x : RX} (ht : x.tall < 90000) (f : Nat → Nat) {pa : Option Addr} {pc gx : Nat} {W : World} (h : Hid (Tr x pa pc gx W)) :
    Calls Tryd.prog 24 #[.agg #[.int .i64 x.kind, .int .u64 (limb x.set 0), .int .u64 (limb x.set 1), .int .u64 (limb x.set 2), .int .u64 (limb x.set 3), .slice pa x.args.length pc]] W fun e w' => e = .returned (.bool (inX f 0 x)) ∧ Hid (Qt W w') :=
  null_any x _ pa pc W (fun j hj => hj) h.out.parts ht h.out.tab f
theorem tr_in {x : RX} (ht : x.tall < 90000) (bt : Nat → Nat) (n : Nat) (hb : ∀ i, i < n → bt i < 256) {pa wa : Option Addr} {pc wc gx : Nat} {W : World} (h : Hid (Tr x pa pc gx W)) (hw : Hid (Sl W wa n (Bn bt))) :
    Calls Tryd.prog 26 #[.agg #[.int .i64 x.kind, .int .u64 (limb x.set 0), .int .u64 (limb x.set 1), .int .u64 (limb x.set 2), .int .u64 (limb x.set 3), .slice pa x.args.length pc], .slice wa n wc] W fun e w' => e = .returned (.bool (inX bt n x)) ∧ Hid (Qt W w') :=
  in_any bt n hb x _ pa wa pc wc W (fun j hj => hj) h.out.parts ht hw h.out.tab

end Go.Proofs.YtkclkhfcmjhogaaDoor
