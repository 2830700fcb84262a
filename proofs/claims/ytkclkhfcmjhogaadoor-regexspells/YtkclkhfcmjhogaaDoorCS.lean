/- RegexSpells: what it lays, and what matches. -/
import Derived.Test.YtkclkhfcmjhogaaDoorCT
import Derived.Test.YtkclkhfcmjhogaaDoorFA
import Derived.Test.YtkclkhfcmjhogaaDoorC9
namespace Go.Proofs.YtkclkhfcmjhogaaDoor
open Go.RowKit
set_option linter.unusedVariables false

theorem inX_set {x : RX} (hk : x.kind = 1) (hm : may x = 0) {bt : Nat → Nat} {n : Nat} (hn : n ≤ 60) : inX bt n x = true ↔ n = 1 ∧ x.set (bt 0) = true := by
  rw [inX_at hn hm, mt_at, if_pos hk, setM_true]
  constructor
  · rintro ⟨h1, h2, h3⟩; exact ⟨by omega, h2⟩
  · rintro ⟨h1, h2⟩; exact ⟨by omega, h2, by omega⟩
theorem two_may {x y : RX} {d e : Nat} (hx : x.kind = 1) (hy : y.kind = 1) (px : Pl d x) (py : Pl e y) {k : Int} (hk : k = 2 ∨ k = 3) : may ⟨k, fun _ => false, [x, y]⟩ = 0 := by
  have ax := set_kind hx px.formed
  have ay := set_kind hy py.formed
  refine may_of ?_ ?_ ?_
  · rw [formed_eq]
    simp only [List.all_cons, List.all_nil, px.formed, py.formed, any_none, node, List.length_cons, List.length_nil, hx, hy]
    rcases hk with rfl | rfl <;> simp [lvl]
  · rw [nodes_eq]
    simp [nodes_at, ax, ay]
  · rw [depth_eq]
    simp [depth_at, ax, ay, maxl]
theorem two_tall {x y : RX} {d e : Nat} (hx : x.kind = 1) (hy : y.kind = 1) (px : Pl d x) (py : Pl e y) (k : Int) : RX.tall ⟨k, fun _ => false, [x, y]⟩ < 90000 := by
  have ax := set_kind hx px.formed
  have ay := set_kind hy py.formed
  rw [tall_eq]
  simp [tall_at, ax, ay, maxl]
theorem inX_cat {x y : RX} (hx : x.kind = 1) (hy : y.kind = 1) (hm : may ⟨2, fun _ => false, [x, y]⟩ = 0) {bt : Nat → Nat} {n : Nat} (hn : n ≤ 60) : inX bt n ⟨2, fun _ => false, [x, y]⟩ = true ↔ n = 2 ∧ x.set (bt 0) = true ∧ y.set (bt 1) = true := by
  rw [inX_at hn hm, mt_eq, if_neg (by decide)]
  simp only [List.map_cons, List.map_nil, mtK2]
  rw [thenM_true, mt_at, mt_at, if_pos hx, if_pos hy]
  constructor
  · rintro ⟨k, h1, h2, h3⟩
    rw [setM_true] at h2 h3
    obtain ⟨_, g2, g3⟩ := h2
    obtain ⟨g4, g5, g6⟩ := h3
    have : k = 1 := by omega
    subst this
    exact ⟨by omega, g2, g5⟩
  · rintro ⟨h1, h2, h3⟩
    subst h1
    exact ⟨1, by omega, setM_true.2 ⟨by omega, h2, rfl⟩, setM_true.2 ⟨by omega, h3, rfl⟩⟩
theorem inX_alt {x y : RX} (hx : x.kind = 1) (hy : y.kind = 1) (hm : may ⟨3, fun _ => false, [x, y]⟩ = 0) {bt : Nat → Nat} {n : Nat} (hn : n ≤ 60) : inX bt n ⟨3, fun _ => false, [x, y]⟩ = true ↔ n = 1 ∧ (x.set (bt 0) = true ∨ y.set (bt 0) = true) := by
  rw [inX_at hn hm, mt_eq, if_neg (by decide)]
  simp only [List.map_cons, List.map_nil, mtK3]
  unfold orM
  rw [Bool.or_eq_true, mt_at, mt_at, if_pos hx, if_pos hy, setM_true, setM_true]
  constructor
  · rintro (⟨h1, h2, h3⟩ | ⟨h1, h2, h3⟩)
    · exact ⟨by omega, .inl h2⟩
    · exact ⟨by omega, .inr h2⟩
  · rintro ⟨h1, h2 | h2⟩
    · exact .inl ⟨by omega, h2, by omega⟩
    · exact .inr ⟨by omega, h2, by omega⟩
theorem inX_many {x : RX} (hx : x.kind = 1) (hm : may ⟨4, fun _ => false, [x]⟩ = 0) {bt : Nat → Nat} {n : Nat} (hn : n ≤ 60) : inX bt n ⟨4, fun _ => false, [x]⟩ = true ↔ ∀ m, m < n → x.set (bt m) = true := by
  rw [inX_at hn hm, mt_eq, if_neg (by decide)]
  simp only [List.map_cons, List.map_nil, mtK4]
  rw [mt_at, if_pos hx, star_set n 0 (by omega)]
  exact ⟨fun h m hm => h m (Nat.zero_le m) hm, fun h m _ hm => h m hm⟩
/-- A row of two trees. -/
structure Sn2 (x y : RX) (a : Option Addr) (W : World) : Prop where
  parts : Parts [x, y] (fun j => j < W.heap.size) W a 2
  tab : Tab W
theorem Sn2.qt {x y : RX} {a : Option Addr} {W W' : World} (h : Sn2 x y a W) (q : Qt W W') : Sn2 x y a W' :=
  ⟨(h.parts.mv q (fun _ _ h => h)).mono (fun j hj => Nat.lt_of_lt_of_le hj q.size), h.tab.qt q⟩
theorem Sn2.new {x y : RX} {pa pb : Option Addr} {pc qc : Nat} {W : World} (hx : Parts x.args (fun j => j < W.heap.size) W pa pc) (hy : Parts y.args (fun j => j < W.heap.size) W pb qc) (hT : Tab W) : Sn2 x y (some ⟨W.heap.size, 0, none⟩) (W.alloc (.cells #[.int .i64 x.kind, .int .u64 (limb x.set 0), .int .u64 (limb x.set 1), .int .u64 (limb x.set 2), .int .u64 (limb x.set 3), .slice pa x.args.length pc, .int .i64 y.kind, .int .u64 (limb y.set 0), .int .u64 (limb y.set 1), .int .u64 (limb y.set 2), .int .u64 (limb y.set 3), .slice pb y.args.length qc] 28)) := by
  refine ⟨Parts.mono (fun j hj => ?_) (parts_new2 hx hy), hT.qt (Mv.alloc _ _ _)⟩
  rcases hj with hj | hj
  · exact Nat.lt_of_lt_of_le hj (Mv.alloc (fun _ => False) W _).size
  · rw [hj]; simp
theorem in_two (x y : RX) (k : Int) (hk : RX.tall ⟨k, fun _ => false, [x, y]⟩ < 90000) (bt : Nat → Nat) (n : Nat) (hb : ∀ i, i < n → bt i < 256) (a wa : Option Addr) (wc : Nat) (W : World) (h : Sn2 x y a W) (hw : Sl W wa n (Bn bt)) :
    Calls Tryd.prog 26 #[.agg #[.int .i64 k, .int .u64 0, .int .u64 0, .int .u64 0, .int .u64 0, .slice a 2 2], .slice wa n wc] W fun e w' => e = .returned (.bool (inX bt n ⟨k, fun _ => false, [x, y]⟩)) ∧ Hid (Qt W w') := by
  have h1 := in_any bt n hb ⟨k, fun _ => false, [x, y]⟩ _ a wa 2 wc W (fun j hj => hj) h.parts hk hw h.tab
  rw [limb_none, limb_none, limb_none, limb_none] at h1
  exact h1
structure LdS (x y : RX) (wr V : World) : Prop where
  b9 : (B6 (wr.heap.size + 1) (.int .i64 2) (.int .u64 0) (.int .u64 0) (.int .u64 0) (.int .u64 0) (.slice (some ⟨wr.heap.size, 0, none⟩) 2 2) V)
  b10 : (B6 (wr.heap.size + 1 + 1 + 1) (.int .i64 3) (.int .u64 0) (.int .u64 0) (.int .u64 0) (.int .u64 0) (.slice (some ⟨wr.heap.size + 1 + 1, 0, none⟩) 2 2) V)
  b11 : (B6 (wr.heap.size + 1 + 1 + 1 + 1 + 1) (.int .i64 4) (.int .u64 0) (.int .u64 0) (.int .u64 0) (.int .u64 0) (.slice (some ⟨wr.heap.size + 1 + 1 + 1 + 1, 0, none⟩) 1 1) V)
  s9 : Sn2 x y (some ⟨wr.heap.size, 0, none⟩) V
  s10 : Sn2 x y (some ⟨wr.heap.size + 1 + 1, 0, none⟩) V
  s11 : Sn x (some ⟨wr.heap.size + 1 + 1 + 1 + 1, 0, none⟩) V
theorem laidS (x y : RX) (pa pb : Option Addr) (pc qc gx gy : Nat) (wr V1 V2 V3 : World) (h1 : V1 = (wr.alloc (.cells #[.int .i64 x.kind, .int .u64 (limb x.set 0), .int .u64 (limb x.set 1), .int .u64 (limb x.set 2), .int .u64 (limb x.set 3), .slice pa x.args.length pc, .int .i64 y.kind, .int .u64 (limb y.set 0), .int .u64 (limb y.set 1), .int .u64 (limb y.set 2), .int .u64 (limb y.set 3), .slice pb y.args.length qc] 28)).alloc (.cells #[.int .i64 2, .int .u64 0, .int .u64 0, .int .u64 0, .int .u64 0, .slice (some ⟨wr.heap.size, 0, none⟩) 2 2] 28)) (h2 : V2 = (V1.alloc (.cells #[.int .i64 x.kind, .int .u64 (limb x.set 0), .int .u64 (limb x.set 1), .int .u64 (limb x.set 2), .int .u64 (limb x.set 3), .slice pa x.args.length pc, .int .i64 y.kind, .int .u64 (limb y.set 0), .int .u64 (limb y.set 1), .int .u64 (limb y.set 2), .int .u64 (limb y.set 3), .slice pb y.args.length qc] 28)).alloc (.cells #[.int .i64 3, .int .u64 0, .int .u64 0, .int .u64 0, .int .u64 0, .slice (some ⟨wr.heap.size + 1 + 1, 0, none⟩) 2 2] 28)) (h3 : V3 = (V2.alloc (.cells #[.int .i64 x.kind, .int .u64 (limb x.set 0), .int .u64 (limb x.set 1), .int .u64 (limb x.set 2), .int .u64 (limb x.set 3), .slice pa x.args.length pc] 28)).alloc (.cells #[.int .i64 4, .int .u64 0, .int .u64 0, .int .u64 0, .int .u64 0, .slice (some ⟨wr.heap.size + 1 + 1 + 1 + 1, 0, none⟩) 1 1] 28)) (hX : Hid (Tr x pa pc gx wr)) (hY : Hid (Tr y pb qc gy wr)) : Hid (LdS x y wr V3) := by
  have q1 : Qt wr V1 := by rw [h1]; exact ((Qt.refl wr).alloc _).alloc _
  have q2 : Qt V1 V2 := by rw [h2]; exact ((Qt.refl V1).alloc _).alloc _
  have q3 : Qt V2 V3 := by rw [h3]; exact ((Qt.refl V2).alloc _).alloc _
  have e1 : V1.heap.size = wr.heap.size + 1 + 1 := by rw [h1]; simp
  have e2 : V2.heap.size = wr.heap.size + 1 + 1 + 1 + 1 := by rw [h2]; simp [e1]
  have b9 : (B6 (wr.heap.size + 1) (.int .i64 2) (.int .u64 0) (.int .u64 0) (.int .u64 0) (.int .u64 0) (.slice (some ⟨wr.heap.size, 0, none⟩) 2 2) V1) := by
    have h := heap_alloc_new (wr.alloc (.cells #[.int .i64 x.kind, .int .u64 (limb x.set 0), .int .u64 (limb x.set 1), .int .u64 (limb x.set 2), .int .u64 (limb x.set 3), .slice pa x.args.length pc, .int .i64 y.kind, .int .u64 (limb y.set 0), .int .u64 (limb y.set 1), .int .u64 (limb y.set 2), .int .u64 (limb y.set 3), .slice pb y.args.length qc] 28)) (.cells #[.int .i64 2, .int .u64 0, .int .u64 0, .int .u64 0, .int .u64 0, .slice (some ⟨wr.heap.size, 0, none⟩) 2 2] 28)
    rw [show (wr.alloc (.cells #[.int .i64 x.kind, .int .u64 (limb x.set 0), .int .u64 (limb x.set 1), .int .u64 (limb x.set 2), .int .u64 (limb x.set 3), .slice pa x.args.length pc, .int .i64 y.kind, .int .u64 (limb y.set 0), .int .u64 (limb y.set 1), .int .u64 (limb y.set 2), .int .u64 (limb y.set 3), .slice pb y.args.length qc] 28)).heap.size = wr.heap.size + 1 from by simp, ← h1] at h
    exact h
  have b10 : (B6 (wr.heap.size + 1 + 1 + 1) (.int .i64 3) (.int .u64 0) (.int .u64 0) (.int .u64 0) (.int .u64 0) (.slice (some ⟨wr.heap.size + 1 + 1, 0, none⟩) 2 2) V2) := by
    have h := heap_alloc_new (V1.alloc (.cells #[.int .i64 x.kind, .int .u64 (limb x.set 0), .int .u64 (limb x.set 1), .int .u64 (limb x.set 2), .int .u64 (limb x.set 3), .slice pa x.args.length pc, .int .i64 y.kind, .int .u64 (limb y.set 0), .int .u64 (limb y.set 1), .int .u64 (limb y.set 2), .int .u64 (limb y.set 3), .slice pb y.args.length qc] 28)) (.cells #[.int .i64 3, .int .u64 0, .int .u64 0, .int .u64 0, .int .u64 0, .slice (some ⟨wr.heap.size + 1 + 1, 0, none⟩) 2 2] 28)
    rw [show (V1.alloc (.cells #[.int .i64 x.kind, .int .u64 (limb x.set 0), .int .u64 (limb x.set 1), .int .u64 (limb x.set 2), .int .u64 (limb x.set 3), .slice pa x.args.length pc, .int .i64 y.kind, .int .u64 (limb y.set 0), .int .u64 (limb y.set 1), .int .u64 (limb y.set 2), .int .u64 (limb y.set 3), .slice pb y.args.length qc] 28)).heap.size = wr.heap.size + 1 + 1 + 1 from by simp [e1], ← h2] at h
    exact h
  have b11 : (B6 (wr.heap.size + 1 + 1 + 1 + 1 + 1) (.int .i64 4) (.int .u64 0) (.int .u64 0) (.int .u64 0) (.int .u64 0) (.slice (some ⟨wr.heap.size + 1 + 1 + 1 + 1, 0, none⟩) 1 1) V3) := by
    have h := heap_alloc_new (V2.alloc (.cells #[.int .i64 x.kind, .int .u64 (limb x.set 0), .int .u64 (limb x.set 1), .int .u64 (limb x.set 2), .int .u64 (limb x.set 3), .slice pa x.args.length pc] 28)) (.cells #[.int .i64 4, .int .u64 0, .int .u64 0, .int .u64 0, .int .u64 0, .slice (some ⟨wr.heap.size + 1 + 1 + 1 + 1, 0, none⟩) 1 1] 28)
    rw [show (V2.alloc (.cells #[.int .i64 x.kind, .int .u64 (limb x.set 0), .int .u64 (limb x.set 1), .int .u64 (limb x.set 2), .int .u64 (limb x.set 3), .slice pa x.args.length pc] 28)).heap.size = wr.heap.size + 1 + 1 + 1 + 1 + 1 from by simp [e2], ← h3] at h
    exact h
  have s9 := Sn2.new hX.out.parts hY.out.parts hX.out.tab
  have X1 := Tr.qt hX q1
  have Y1 := Tr.qt hY q1
  have s10 := Sn2.new X1.out.parts Y1.out.parts X1.out.tab
  have X2 := Tr.qt X1 q2
  have s11 := Sn.new X2.out.parts X2.out.tab
  rw [e1] at s10
  rw [e2] at s11
  have r1 : Qt (wr.alloc (.cells #[.int .i64 x.kind, .int .u64 (limb x.set 0), .int .u64 (limb x.set 1), .int .u64 (limb x.set 2), .int .u64 (limb x.set 3), .slice pa x.args.length pc, .int .i64 y.kind, .int .u64 (limb y.set 0), .int .u64 (limb y.set 1), .int .u64 (limb y.set 2), .int .u64 (limb y.set 3), .slice pb y.args.length qc] 28)) V1 := by rw [h1]; exact (Qt.refl _).alloc _
  have r2 : Qt (V1.alloc (.cells #[.int .i64 x.kind, .int .u64 (limb x.set 0), .int .u64 (limb x.set 1), .int .u64 (limb x.set 2), .int .u64 (limb x.set 3), .slice pa x.args.length pc, .int .i64 y.kind, .int .u64 (limb y.set 0), .int .u64 (limb y.set 1), .int .u64 (limb y.set 2), .int .u64 (limb y.set 3), .slice pb y.args.length qc] 28)) V2 := by rw [h2]; exact (Qt.refl _).alloc _
  have r3 : Qt (V2.alloc (.cells #[.int .i64 x.kind, .int .u64 (limb x.set 0), .int .u64 (limb x.set 1), .int .u64 (limb x.set 2), .int .u64 (limb x.set 3), .slice pa x.args.length pc] 28)) V3 := by rw [h3]; exact (Qt.refl _).alloc _
  exact ⟨(B6.mv b9 (q2.comp q3) (fun h => h)).out, (B6.mv b10 q3 (fun h => h)).out, b11, s9.qt ((r1.comp q2).comp q3), s10.qt (r2.comp q3), s11.qt r3⟩
/-- Two texts behind one another, in a row of their own. -/
def twoT (f : Nat → Nat) (n : Nat) (g : Nat → Nat) : Nat → Nat := fun i => if i < n then f i else g (i - n)
theorem two_rows (V : World) (n m : Nat) (hn : n < 1000) (hm : m < 1000) (f g : Nat → Nat) (a b : Option Addr) (c d : Nat) (ha : Hid (Sl V a n (Bn f))) (hb : Hid (Sl V b m (Bn g))) (ea : a = none → n = 0 ∧ c = 0) (eb : b = none → m = 0 ∧ d = 0) :
    ∃ v1 Wa v2 Wb, (Builtin.append_ #[37, 37] 37 #[.slice (some ⟨V.heap.size, 0, none⟩) 0 0, .slice a n c]).run Tryd.prog (V.alloc (.cells #[] 5)) = .ok v1 Wa ∧
      (Builtin.append_ #[37, 37] 37 #[v1, .slice b m d]).run Tryd.prog Wa = .ok v2 Wb ∧
      (∃ p cp, v2 = .slice p (n + m) cp ∧ Hid (Sl Wb p (n + m) (Bn (twoT f n g)))) ∧ Hid (Qt V Wb) ∧ Wb.heap.size = Wb.heap.size := by
  have q0 := Mv.alloc (fun _ => False) V (.cells #[] 5)
  obtain ⟨v1, Wa, hr1, o1, g1, b1⟩ := append_own 37 37 5 Tryd.t5 (.int .u8 0) 1 Tryd.underlying37 info5 zero5 size5 bytes5 rfl (by decide) (V.alloc (.cells #[] 5)) V.heap.size (.slice (some ⟨V.heap.size, 0, none⟩) 0 0) 0 n c (Bn f) (Bn f) a
    (own_empty V V.heap.size V.heap.size 5 rfl (Nat.le_refl _) _) (ha.out.mv q0 (fun _ _ h => h)) (fun _ => rfl) (by omega) ea q0.size
  have q1 : Qt V Wa := Mv.trans q0 (Mv.of_grown g1) (fun j hj e => by have e2 : V.heap.size = j := Option.some.inj e; omega)
  have hb1 := o1.blk
  obtain ⟨v2, Wb, hr2, o2, g2, b2⟩ := append_own 37 37 5 Tryd.t5 (.int .u8 0) 1 Tryd.underlying37 info5 zero5 size5 bytes5 rfl (by decide) Wa V.heap.size v1 (0 + n) m d _ (Bn g) b
    o1 (hb.out.mv q1 (fun _ _ h => h)) (fun _ => rfl) (by omega) eb q1.size
  have q3 : Qt V Wb := Mv.trans q1 (Mv.of_grown g2) (fun j hj e => by have := hb1 j e; omega)
  obtain ⟨p, cp, rfl, hsl, _, _⟩ := o2.sl
  refine ⟨v1, Wa, _, Wb, hr1, hr2, ⟨p, cp, by rw [Nat.zero_add], ?_⟩, q3, rfl⟩
  rw [Nat.zero_add] at hsl
  refine Sl.congr hsl (fun i hi => ?_)
  unfold cat twoT Bn
  by_cases h : i < n
  · simp [h]
  · simp [h]

end Go.Proofs.YtkclkhfcmjhogaaDoor
