/- RegexSpells: what it lays, and what matches. -/
import Derived.Test.YtkclkhfcmjhogaaDoorMgD
import Derived.Test.YtkclkhfcmjhogaaDoorMgF
import Derived.Test.YtkclkhfcmjhogaaDoorMtCounts
namespace Go.Proofs.YtkclkhfcmjhogaaDoor
open Go.RowKit
set_option linter.unusedVariables false

theorem inX_set {x : RX} (hk : x.kind = 1) (hm : may x = 0) {bt : Nat → Nat} {n : Nat} (hn : n ≤ 60) : inX bt n x = true ↔ n = 1 ∧ x.set (bt 0) = true := by
  rw [inX_at hn hm, mt_at, if_pos hk, setM_true]
  constructor
  · rintro ⟨h1, h2, h3⟩; exact ⟨by omega, h2⟩
  · rintro ⟨h1, h2⟩; exact ⟨by omega, h2, by omega⟩
theorem two_may {x y : RX} {d e : Nat} (hx : x.kind = 1) (hy : y.kind = 1) (px : Pl d x) (py : Pl e y) {k : Int} (hk : k = 2 ∨ k = 3) : may ⟨k, fun _ => false, [x, y]⟩ = 0 := by
  have ax := set_kind hx px.formed
  have ay := set_kind hy py.formed
  refine may_of ?_ ?_ ?_
  · rw [formed_eq]
    simp only [List.all_cons, List.all_nil, px.formed, py.formed, any_none, node, List.length_cons, List.length_nil, hx, hy]
    rcases hk with rfl | rfl <;> simp [lvl]
  · rw [nodes_eq]
    simp [nodes_at, ax, ay]
  · rw [depth_eq]
    simp [depth_at, ax, ay, maxl]
theorem two_tall {x y : RX} {d e : Nat} (hx : x.kind = 1) (hy : y.kind = 1) (px : Pl d x) (py : Pl e y) (k : Int) : RX.tall ⟨k, fun _ => false, [x, y]⟩ < 90000 := by
  have ax := set_kind hx px.formed
  have ay := set_kind hy py.formed
  rw [tall_eq]
  simp [tall_at, ax, ay, maxl]
theorem inX_cat {x y : RX} (hx : x.kind = 1) (hy : y.kind = 1) (hm : may ⟨2, fun _ => false, [x, y]⟩ = 0) {bt : Nat → Nat} {n : Nat} (hn : n ≤ 60) : inX bt n ⟨2, fun _ => false, [x, y]⟩ = true ↔ n = 2 ∧ x.set (bt 0) = true ∧ y.set (bt 1) = true := by
  rw [inX_at hn hm, mt_eq, if_neg (by decide)]
  simp only [List.map_cons, List.map_nil, mtK2]
  rw [thenM_true, mt_at, mt_at, if_pos hx, if_pos hy]
  constructor
  · rintro ⟨k, h1, h2, h3⟩
    rw [setM_true] at h2 h3
    obtain ⟨_, g2, g3⟩ := h2
    obtain ⟨g4, g5, g6⟩ := h3
    have : k = 1 := by omega
    subst this
    exact ⟨by omega, g2, g5⟩
  · rintro ⟨h1, h2, h3⟩
    subst h1
    exact ⟨1, by omega, setM_true.2 ⟨by omega, h2, rfl⟩, setM_true.2 ⟨by omega, h3, rfl⟩⟩
theorem inX_alt {x y : RX} (hx : x.kind = 1) (hy : y.kind = 1) (hm : may ⟨3, fun _ => false, [x, y]⟩ = 0) {bt : Nat → Nat} {n : Nat} (hn : n ≤ 60) : inX bt n ⟨3, fun _ => false, [x, y]⟩ = true ↔ n = 1 ∧ (x.set (bt 0) = true ∨ y.set (bt 0) = true) := by
  rw [inX_at hn hm, mt_eq, if_neg (by decide)]
  simp only [List.map_cons, List.map_nil, mtK3]
  unfold orM
  rw [Bool.or_eq_true, mt_at, mt_at, if_pos hx, if_pos hy, setM_true, setM_true]
  constructor
  · rintro (⟨h1, h2, h3⟩ | ⟨h1, h2, h3⟩)
    · exact ⟨by omega, .inl h2⟩
    · exact ⟨by omega, .inr h2⟩
  · rintro ⟨h1, h2 | h2⟩
    · exact .inl ⟨by omega, h2, by omega⟩
    · exact .inr ⟨by omega, h2, by omega⟩
theorem inX_many {x : RX} (hx : x.kind = 1) (hm : may ⟨4, fun _ => false, [x]⟩ = 0) {bt : Nat → Nat} {n : Nat} (hn : n ≤ 60) : inX bt n ⟨4, fun _ => false, [x]⟩ = true ↔ ∀ m, m < n → x.set (bt m) = true := by
  rw [inX_at hn hm, mt_eq, if_neg (by decide)]
  simp only [List.map_cons, List.map_nil, mtK4]
  rw [mt_at, if_pos hx, star_set n 0 (by omega)]
  exact ⟨fun h m hm => h m (Nat.zero_le m) hm, fun h m _ hm => h m hm⟩
/-- A row of two trees. -/
structure Sn2 (x y : RX) (a : Option Addr) (W : World) : Prop where
  parts : Parts [x, y] (fun j => j < W.heap.size) W a 2
  tab : Tab W
theorem Sn2.qt {x y : RX} {a : Option Addr} {W W' : World} (h : Sn2 x y a W) (q : Qt W W') : Sn2 x y a W' :=
  ⟨(h.parts.mv q (fun _ _ h => h)).mono (fun j hj => Nat.lt_of_lt_of_le hj q.size), h.tab.qt q⟩
theorem Sn2.new {x y : RX} {pa pb : Option Addr} {pc qc : Nat} {W : World} (hx : Parts x.args (fun j => j < W.heap.size) W pa pc) (hy : Parts y.args (fun j => j < W.heap.size) W pb qc) (hT : Tab W) : Sn2 x y (some ⟨W.heap.size, 0, none⟩) (W.alloc (.cells #[.int .i64 x.kind, .int .u64 (limb x.set 0), .int .u64 (limb x.set 1), .int .u64 (limb x.set 2), .int .u64 (limb x.set 3), .slice pa x.args.length pc, .int .i64 y.kind, .int .u64 (limb y.set 0), .int .u64 (limb y.set 1), .int .u64 (limb y.set 2), .int .u64 (limb y.set 3), .slice pb y.args.length qc] 28)) := by
  refine ⟨Parts.mono (fun j hj => ?_) (parts_new2 hx hy), hT.qt (Mv.alloc _ _ _)⟩
  rcases hj with hj | hj
  · exact Nat.lt_of_lt_of_le hj (Mv.alloc (fun _ => False) W _).size
  · rw [hj]; simp
theorem in_two (x y : RX) (k : Int) (hk : RX.tall ⟨k, fun _ => false, [x, y]⟩ < 90000) (bt : Nat → Nat) (n : Nat) (hb : ∀ i, i < n → bt i < 256) (a wa : Option Addr) (wc : Nat) (W : World) (h : Sn2 x y a W) (hw : Sl W wa n (Bn bt)) :
    Calls Tryd.prog 26 #[.agg #[.int .i64 k, .int .u64 0, .int .u64 0, .int .u64 0, .int .u64 0, .slice a 2 2], .slice wa n wc] W fun e w' => e = .returned (.bool (inX bt n ⟨k, fun _ => false, [x, y]⟩)) ∧ Hid (Qt W w') := by
  have h1 := in_any bt n hb ⟨k, fun _ => false, [x, y]⟩ _ a wa 2 wc W (fun j hj => hj) h.parts hk hw h.tab
  rw [limb_none, limb_none, limb_none, limb_none] at h1
  exact h1
structure LdS (x y : RX) (wr V : World) : Prop where
  b9 : (B6 (wr.heap.size + 1) (.int .i64 2) (.int .u64 0) (.int .u64 0) (.int .u64 0) (.int .u64 0) (.slice (some ⟨wr.heap.size, 0, none⟩) 2 2) V)
  b10 : (B6 (wr.heap.size + 1 + 1 + 1) (.int .i64 3) (.int .u64 0) (.int .u64 0) (.int .u64 0) (.int .u64 0) (.slice (some ⟨wr.heap.size + 1 + 1, 0, none⟩) 2 2) V)
  b11 : (B6 (wr.heap.size + 1 + 1 + 1 + 1 + 1) (.int .i64 4) (.int .u64 0) (.int .u64 0) (.int .u64 0) (.int .u64 0) (.slice (some ⟨wr.heap.size + 1 + 1 + 1 + 1, 0, none⟩) 1 1) V)
  s9 : Sn2 x y (some ⟨wr.heap.size, 0, none⟩) V
  s10 : Sn2 x y (some ⟨wr.heap.size + 1 + 1, 0, none⟩) V
  s11 : Sn x (some ⟨wr.heap.size + 1 + 1 + 1 + 1, 0, none⟩) V
theorem laidS (x y : RX) (pa pb : Option Addr) (pc qc gx gy : Nat) (wr V1 V2 V3 : World) (h1 : V1 = (wr.alloc (.cells #[.int .i64 x.kind, .int .u64 (limb x.set 0), .int .u64 (limb x.set 1), .int .u64 (limb x.set 2), .int .u64 (limb x.set 3), .slice pa x.args.length pc, .int .i64 y.kind, .int .u64 (limb y.set 0), .int .u64 (limb y.set 1), .int .u64 (limb y.set 2), .int .u64 (limb y.set 3), .slice pb y.args.length qc] 28)).alloc (.cells #[.int .i64 2, .int .u64 0, .int .u64 0, .int .u64 0, .int .u64 0, .slice (some ⟨wr.heap.size, 0, none⟩) 2 2] 28)) (h2 : V2 = (V1.alloc (.cells #[.int .i64 x.kind, .int .u64 (limb x.set 0), .int .u64 (limb x.set 1), .int .u64 (limb x.set 2), .int .u64 (limb x.set 3), .slice pa x.args.length pc, .int .i64 y.kind, .int .u64 (limb y.set 0), .int .u64 (limb y.set 1), .int .u64 (limb y.set 2), .int .u64 (limb y.set 3), .slice pb y.args.length qc] 28)).alloc (.cells #[.int .i64 3, .int .u64 0, .int .u64 0, .int .u64 0, .int .u64 0, .slice (some ⟨wr.heap.size + 1 + 1, 0, none⟩) 2 2] 28)) (h3 : V3 = (V2.alloc (.cells #[.int .i64 x.kind, .int .u64 (limb x.set 0), .int .u64 (limb x.set 1), .int .u64 (limb x.set 2), .int .u64 (limb x.set 3), .slice pa x.args.length pc] 28)).alloc (.cells #[.int .i64 4, .int .u64 0, .int .u64 0, .int .u64 0, .int .u64 0, .slice (some ⟨wr.heap.size + 1 + 1 + 1 + 1, 0, none⟩) 1 1] 28)) (hX : Hid (Tr x pa pc gx wr)) (hY : Hid (Tr y pb qc gy wr)) : Hid (LdS x y wr V3) := by
  have q1 : Qt wr V1 := by rw [h1]; exact ((Qt.refl wr).alloc _).alloc _
  have q2 : Qt V1 V2 := by rw [h2]; exact ((Qt.refl V1).alloc _).alloc _
  have q3 : Qt V2 V3 := by rw [h3]; exact ((Qt.refl V2).alloc _).alloc _
  have e1 : V1.heap.size = wr.heap.size + 1 + 1 := by rw [h1]; simp
  have e2 : V2.heap.size = wr.heap.size + 1 + 1 + 1 + 1 := by rw [h2]; simp [e1]
  have b9 : (B6 (wr.heap.size + 1) (.int .i64 2) (.int .u64 0) (.int .u64 0) (.int .u64 0) (.int .u64 0) (.slice (some ⟨wr.heap.size, 0, none⟩) 2 2) V1) := by
    have h := heap_alloc_new (wr.alloc (.cells #[.int .i64 x.kind, .int .u64 (limb x.set 0), .int .u64 (limb x.set 1), .int .u64 (limb x.set 2), .int .u64 (limb x.set 3), .slice pa x.args.length pc, .int .i64 y.kind, .int .u64 (limb y.set 0), .int .u64 (limb y.set 1), .int .u64 (limb y.set 2), .int .u64 (limb y.set 3), .slice pb y.args.length qc] 28)) (.cells #[.int .i64 2, .int .u64 0, .int .u64 0, .int .u64 0, .int .u64 0, .slice (some ⟨wr.heap.size, 0, none⟩) 2 2] 28)
    rw [show (wr.alloc (.cells #[.int .i64 x.kind, .int .u64 (limb x.set 0), .int .u64 (limb x.set 1), .int .u64 (limb x.set 2), .int .u64 (limb x.set 3), .slice pa x.args.length pc, .int .i64 y.kind, .int .u64 (limb y.set 0), .int .u64 (limb y.set 1), .int .u64 (limb y.set 2), .int .u64 (limb y.set 3), .slice pb y.args.length qc] 28)).heap.size = wr.heap.size + 1 from by simp, ← h1] at h
    exact h
  have b10 : (B6 (wr.heap.size + 1 + 1 + 1) (.int .i64 3) (.int .u64 0) (.int .u64 0) (.int .u64 0) (.int .u64 0) (.slice (some ⟨wr.heap.size + 1 + 1, 0, none⟩) 2 2) V2) := by
    have h := heap_alloc_new (V1.alloc (.cells #[.int .i64 x.kind, .int .u64 (limb x.set 0), .int .u64 (limb x.set 1), .int .u64 (limb x.set 2), .int .u64 (limb x.set 3), .slice pa x.args.length pc, .int .i64 y.kind, .int .u64 (limb y.set 0), .int .u64 (limb y.set 1), .int .u64 (limb y.set 2), .int .u64 (limb y.set 3), .slice pb y.args.length qc] 28)) (.cells #[.int .i64 3, .int .u64 0, .int .u64 0, .int .u64 0, .int .u64 0, .slice (some ⟨wr.heap.size + 1 + 1, 0, none⟩) 2 2] 28)
    rw [show (V1.alloc (.cells #[.int .i64 x.kind, .int .u64 (limb x.set 0), .int .u64 (limb x.set 1), .int .u64 (limb x.set 2), .int .u64 (limb x.set 3), .slice pa x.args.length pc, .int .i64 y.kind, .int .u64 (limb y.set 0), .int .u64 (limb y.set 1), .int .u64 (limb y.set 2), .int .u64 (limb y.set 3), .slice pb y.args.length qc] 28)).heap.size = wr.heap.size + 1 + 1 + 1 from by simp [e1], ← h2] at h
    exact h
  have b11 : (B6 (wr.heap.size + 1 + 1 + 1 + 1 + 1) (.int .i64 4) (.int .u64 0) (.int .u64 0) (.int .u64 0) (.int .u64 0) (.slice (some ⟨wr.heap.size + 1 + 1 + 1 + 1, 0, none⟩) 1 1) V3) := by
    have h := heap_alloc_new (V2.alloc (.cells #[.int .i64 x.kind, .int .u64 (limb x.set 0), .int .u64 (limb x.set 1), .int .u64 (limb x.set 2), .int .u64 (limb x.set 3), .slice pa x.args.length pc] 28)) (.cells #[.int .i64 4, .int .u64 0, .int .u64 0, .int .u64 0, .int .u64 0, .slice (some ⟨wr.heap.size + 1 + 1 + 1 + 1, 0, none⟩) 1 1] 28)
    rw [show (V2.alloc (.cells #[.int .i64 x.kind, .int .u64 (limb x.set 0), .int .u64 (limb x.set 1), .int .u64 (limb x.set 2), .int .u64 (limb x.set 3), .slice pa x.args.length pc] 28)).heap.size = wr.heap.size + 1 + 1 + 1 + 1 + 1 from by simp [e2], ← h3] at h
    exact h
  have s9 := Sn2.new hX.out.parts hY.out.parts hX.out.tab
  have X1 := Tr.qt hX q1
  have Y1 := Tr.qt hY q1
  have s10 := Sn2.new X1.out.parts Y1.out.parts X1.out.tab
  have X2 := Tr.qt X1 q2
  have s11 := Sn.new X2.out.parts X2.out.tab
  rw [e1] at s10
  rw [e2] at s11
  have r1 : Qt (wr.alloc (.cells #[.int .i64 x.kind, .int .u64 (limb x.set 0), .int .u64 (limb x.set 1), .int .u64 (limb x.set 2), .int .u64 (limb x.set 3), .slice pa x.args.length pc, .int .i64 y.kind, .int .u64 (limb y.set 0), .int .u64 (limb y.set 1), .int .u64 (limb y.set 2), .int .u64 (limb y.set 3), .slice pb y.args.length qc] 28)) V1 := by rw [h1]; exact (Qt.refl _).alloc _
  have r2 : Qt (V1.alloc (.cells #[.int .i64 x.kind, .int .u64 (limb x.set 0), .int .u64 (limb x.set 1), .int .u64 (limb x.set 2), .int .u64 (limb x.set 3), .slice pa x.args.length pc, .int .i64 y.kind, .int .u64 (limb y.set 0), .int .u64 (limb y.set 1), .int .u64 (limb y.set 2), .int .u64 (limb y.set 3), .slice pb y.args.length qc] 28)) V2 := by rw [h2]; exact (Qt.refl _).alloc _
  have r3 : Qt (V2.alloc (.cells #[.int .i64 x.kind, .int .u64 (limb x.set 0), .int .u64 (limb x.set 1), .int .u64 (limb x.set 2), .int .u64 (limb x.set 3), .slice pa x.args.length pc] 28)) V3 := by rw [h3]; exact (Qt.refl _).alloc _
  exact ⟨(B6.mv b9 (q2.comp q3) (fun h => h)).out, (B6.mv b10 q3 (fun h => h)).out, b11, s9.qt ((r1.comp q2).comp q3), s10.qt (r2.comp q3), s11.qt r3⟩
/-- Two texts behind one another, in a row of their own. -/
def twoT (f : Nat → Nat) (n : Nat) (g : Nat → Nat) : Nat → Nat := fun i => if i < n then f i else g (i - n)
theorem two_rows (V : World) (n m : Nat) (hn : n < 1000) (hm : m < 1000) (f g : Nat → Nat) (a b : Option Addr) (c d : Nat) (ha : Hid (Sl V a n (Bn f))) (hb : Hid (Sl V b m (Bn g))) (ea : a = none → n = 0 ∧ c = 0) (eb : b = none → m = 0 ∧ d = 0) :
    ∃ v1 Wa v2 Wb, (Builtin.append_ #[37, 37] 37 #[.slice (some ⟨V.heap.size, 0, none⟩) 0 0, .slice a n c]).run Tryd.prog (V.alloc (.cells #[] 5)) = .ok v1 Wa ∧
      (Builtin.append_ #[37, 37] 37 #[v1, .slice b m d]).run Tryd.prog Wa = .ok v2 Wb ∧
      (∃ p cp, v2 = .slice p (n + m) cp ∧ Hid (Sl Wb p (n + m) (Bn (twoT f n g)))) ∧ Hid (Qt V Wb) ∧ Wb.heap.size = Wb.heap.size := by
  have q0 := Mv.alloc (fun _ => False) V (.cells #[] 5)
  obtain ⟨v1, Wa, hr1, o1, g1, b1⟩ := append_own 37 37 5 Tryd.t5 (.int .u8 0) 1 Tryd.underlying37 info5 zero5 size5 bytes5 rfl (by decide) (V.alloc (.cells #[] 5)) V.heap.size (.slice (some ⟨V.heap.size, 0, none⟩) 0 0) 0 n c (Bn f) (Bn f) a
    (own_empty V V.heap.size V.heap.size 5 rfl (Nat.le_refl _) _) (ha.out.mv q0 (fun _ _ h => h)) (fun _ => rfl) (by omega) ea q0.size
  have q1 : Qt V Wa := Mv.trans q0 (Mv.of_grown g1) (fun j hj e => by have e2 : V.heap.size = j := Option.some.inj e; omega)
  have hb1 := o1.blk
  obtain ⟨v2, Wb, hr2, o2, g2, b2⟩ := append_own 37 37 5 Tryd.t5 (.int .u8 0) 1 Tryd.underlying37 info5 zero5 size5 bytes5 rfl (by decide) Wa V.heap.size v1 (0 + n) m d _ (Bn g) b
    o1 (hb.out.mv q1 (fun _ _ h => h)) (fun _ => rfl) (by omega) eb q1.size
  have q3 : Qt V Wb := Mv.trans q1 (Mv.of_grown g2) (fun j hj e => by have := hb1 j e; omega)
  obtain ⟨p, cp, rfl, hsl, _, _⟩ := o2.sl
  refine ⟨v1, Wa, _, Wb, hr1, hr2, ⟨p, cp, by rw [Nat.zero_add], ?_⟩, q3, rfl⟩
  rw [Nat.zero_add] at hsl
  refine Sl.congr hsl (fun i hi => ?_)
  unfold cat twoT Bn
  by_cases h : i < n
  · simp [h]
  · simp [h]

end Go.Proofs.YtkclkhfcmjhogaaDoor

namespace Go.Proofs.YtkclkhfcmjhogaaDoor
open Go.RowKit
set_option linter.unusedVariables false

set_option maxRecDepth 20000 in
set_option maxHeartbeats 4000000 in
theorem spells_early (a0 a1 a2 a3 : Option Addr) (n0 n1 n2 n3 c0 c1 c2 c3 : Nat) (f0 f1 f2 f3 : Nat → Nat) (w : World) (s0 : Hid (Sl w a0 n0 (Bn f0))) (s1 : Hid (Sl w a1 n1 (Bn f1))) (s2 : Hid (Sl w a2 n2 (Bn f2))) (s3 : Hid (Sl w a3 n3 (Bn f3))) (o0 : Hid (∀ j, f0 j < 256)) (o1 : Hid (∀ j, f1 j < 256)) (o2 : Hid (∀ j, f2 j < 256)) (o3 : Hid (∀ j, f3 j < 256)) (h0 : Hid (∀ q, a0 = some q → q.block < w.heap.size)) (h1 : Hid (∀ q, a1 = some q → q.block < w.heap.size)) (e2 : Hid (a2 = none → n2 = 0 ∧ c2 = 0)) (e3 : Hid (a3 = none → n3 = 0 ∧ c3 = 0)) (hT : Hid (Tab w)) (hl : 20 < n0 ∨ (n0 ≤ 20 ∧ 20 < n1) ∨ (n0 ≤ 20 ∧ n1 ≤ 20 ∧ 6 < n2) ∨ (n0 ≤ 20 ∧ n1 ≤ 20 ∧ n2 ≤ 6 ∧ 6 < n3)) : Calls Tryd.prog 7 #[.slice a0 n0 c0, .slice a1 n1 c1, .slice a2 n2 c2, .slice a3 n3 c3] w fun e w' => e = .returned (.bool true) ∧ Hid (Qt w w') := by
  have hb := begun_true w hT
  rcases hl with l0 | ⟨l0, l1⟩ | ⟨l0, l1, l2⟩ | ⟨l0, l1, l2, l3⟩
  · have g0 : (20 : Int) < (n0 : Int) := by omega
    clear l0
    go_enter Tryd.func7, Tryd.ntmps7
    go_wp2_with fail
    refine hb.mono ?_
    rintro e1 w1 ⟨rfl, q1⟩
    go_wp2_with fail
    go_ret
    exact ⟨rfl, q1.out⟩
  · have g0 : (n0 : Int) ≤ 20 := by omega
    have g1 : (20 : Int) < (n1 : Int) := by omega
    clear l0 l1
    go_enter Tryd.func7, Tryd.ntmps7
    go_wp2_with fail
    refine hb.mono ?_
    rintro e1 w1 ⟨rfl, q1⟩
    go_wp2_with fail
    go_ret
    exact ⟨rfl, q1.out⟩
  · have g0 : (n0 : Int) ≤ 20 := by omega
    have g1 : (n1 : Int) ≤ 20 := by omega
    have g2 : (6 : Int) < (n2 : Int) := by omega
    clear l0 l1 l2
    go_enter Tryd.func7, Tryd.ntmps7
    go_wp2_with fail
    refine hb.mono ?_
    rintro e1 w1 ⟨rfl, q1⟩
    go_wp2_with fail
    go_ret
    exact ⟨rfl, q1.out⟩
  · have g0 : (n0 : Int) ≤ 20 := by omega
    have g1 : (n1 : Int) ≤ 20 := by omega
    have g2 : (n2 : Int) ≤ 6 := by omega
    have g3 : (6 : Int) < (n3 : Int) := by omega
    clear l0 l1 l2 l3
    go_enter Tryd.func7, Tryd.ntmps7
    go_wp2_with fail
    refine hb.mono ?_
    rintro e1 w1 ⟨rfl, q1⟩
    go_wp2_with fail
    go_ret
    exact ⟨rfl, q1.out⟩
theorem hold12x {W w' : World} {b0 k0 b1 k1 b2 k2 b3 k3 b4 k4 b5 k5 b6 k6 b7 k7 b8 k8 b9 k9 b10 k10 b11 k11 : Nat} {u0 u1 u2 u3 u4 u5 u6 u7 u8 u9 u10 u11 : Value} (c0 : Hid (W.cell? ⟨b0, k0, none⟩ = some u0)) (c1 : Hid (W.cell? ⟨b1, k1, none⟩ = some u1)) (c2 : Hid (W.cell? ⟨b2, k2, none⟩ = some u2)) (c3 : Hid (W.cell? ⟨b3, k3, none⟩ = some u3)) (c4 : Hid (W.cell? ⟨b4, k4, none⟩ = some u4)) (c5 : Hid (W.cell? ⟨b5, k5, none⟩ = some u5)) (c6 : Hid (W.cell? ⟨b6, k6, none⟩ = some u6)) (c7 : Hid (W.cell? ⟨b7, k7, none⟩ = some u7)) (c8 : Hid (W.cell? ⟨b8, k8, none⟩ = some u8)) (c9 : Hid (W.cell? ⟨b9, k9, none⟩ = some u9)) (c10 : Hid (W.cell? ⟨b10, k10, none⟩ = some u10)) (c11 : Hid (W.cell? ⟨b11, k11, none⟩ = some u11)) (q : Hid (Qt W w')) :
    w'.cell? ⟨b0, k0, none⟩ = some u0 ∧ w'.cell? ⟨b1, k1, none⟩ = some u1 ∧ w'.cell? ⟨b2, k2, none⟩ = some u2 ∧ w'.cell? ⟨b3, k3, none⟩ = some u3 ∧ w'.cell? ⟨b4, k4, none⟩ = some u4 ∧ w'.cell? ⟨b5, k5, none⟩ = some u5 ∧ w'.cell? ⟨b6, k6, none⟩ = some u6 ∧ w'.cell? ⟨b7, k7, none⟩ = some u7 ∧ w'.cell? ⟨b8, k8, none⟩ = some u8 ∧ w'.cell? ⟨b9, k9, none⟩ = some u9 ∧ w'.cell? ⟨b10, k10, none⟩ = some u10 ∧ w'.cell? ⟨b11, k11, none⟩ = some u11 ∧ Hid (Qt W w') :=
  ⟨Qt.keep q c0.out, Qt.keep q c1.out, Qt.keep q c2.out, Qt.keep q c3.out, Qt.keep q c4.out, Qt.keep q c5.out, Qt.keep q c6.out, Qt.keep q c7.out, Qt.keep q c8.out, Qt.keep q c9.out, Qt.keep q c10.out, Qt.keep q c11.out, q⟩

set_option maxRecDepth 20000 in
set_option maxHeartbeats 4000000 in
theorem spells_main (a0 a1 a2 a3 : Option Addr) (n0 n1 n2 n3 c0 c1 c2 c3 : Nat) (f0 f1 f2 f3 : Nat → Nat) (w : World) (s0 : Hid (Sl w a0 n0 (Bn f0))) (s1 : Hid (Sl w a1 n1 (Bn f1))) (s2 : Hid (Sl w a2 n2 (Bn f2))) (s3 : Hid (Sl w a3 n3 (Bn f3))) (o0 : Hid (∀ j, f0 j < 256)) (o1 : Hid (∀ j, f1 j < 256)) (o2 : Hid (∀ j, f2 j < 256)) (o3 : Hid (∀ j, f3 j < 256)) (h0 : Hid (∀ q, a0 = some q → q.block < w.heap.size)) (h1 : Hid (∀ q, a1 = some q → q.block < w.heap.size)) (e2 : Hid (a2 = none → n2 = 0 ∧ c2 = 0)) (e3 : Hid (a3 = none → n3 = 0 ∧ c3 = 0)) (hT : Hid (Tab w)) (l0 : n0 ≤ 20) (l1 : n1 ≤ 20) (l2 : n2 ≤ 6) (l3 : n3 ≤ 6) : Calls Tryd.prog 7 #[.slice a0 n0 c0, .slice a1 n1 c1, .slice a2 n2 c2, .slice a3 n3 c3] w fun e w' => e = .returned (.bool true) ∧ Hid (Qt w w') := by
  have hb := begun_true w hT
  have g0 : (n0 : Int) ≤ 20 := by omega
  have g1 : (n1 : Int) ≤ 20 := by omega
  have g2 : (n2 : Int) ≤ 6 := by omega
  have g3 : (n3 : Int) ≤ 6 := by omega
  have L0 : Hid (n0 < 1000000) := (by omega : n0 < 1000000)
  have L1 : Hid (n1 < 1000000) := (by omega : n1 < 1000000)
  have L2 : Hid (n2 ≤ 6) := l2
  have L3 : Hid (n3 ≤ 6) := l3
  clear l0 l1 l2 l3
  have hrx0 : ∀ g n W, Hid (Pk W g a0 n0 c0 f0 n) → Calls Tryd.prog 21 #[.pointer (some ⟨g, 0, none⟩), .int .i64 1] W fun e w' => RxP 1 W g a0 n0 c0 f0 e w' := fun g n W h => rx_any 1 (by decide) g a0 n0 c0 f0 n W h
  have hrx1 : ∀ g n W, Hid (Pk W g a1 n1 c1 f1 n) → Calls Tryd.prog 21 #[.pointer (some ⟨g, 0, none⟩), .int .i64 1] W fun e w' => RxP 1 W g a1 n1 c1 f1 e w' := fun g n W h => rx_any 1 (by decide) g a1 n1 c1 f1 n W h
  go_enter Tryd.func7, Tryd.ntmps7
  go_wp2_with fail
  refine hb.mono ?_
  rintro e1 w1 ⟨rfl, q1⟩
  go_wp2_with fail
  refine (made_any a0 n0 c0 f0 w1 (show Hid _ from s0.out.mv q1.out (fun _ _ h => h)) L0.out (fun j _ => o0.out j) (fun q hq => Nat.lt_of_lt_of_le (h0.out q hq) q1.out.size)).mono ?_
  rintro e2' w2 ⟨rfl, p2, q2⟩
  go_wp2_with fail
  refine (hrx0 _ _ _ p2).mono ?_
  intro e3' w3 h3
  obtain ⟨x, pa, pc, m3', rfl, plx, px, p3, m3⟩ := h3
  have Q3 : Hid (Qt w w3) := Mv.trans (q1.out.comp q2.out) m3.out (fun j hj e => by have := q1.out.size; omega)
  clear p2 p3 hrx0 hb
  go_wp2_with fail
  refine (made_any a1 n1 c1 f1 w3 (show Hid _ from s1.out.mv Q3.out (fun _ _ h => h)) L1.out (fun j _ => o1.out j) (fun q hq => Nat.lt_of_lt_of_le (h1.out q hq) Q3.out.size)).mono ?_
  rintro e4' w4 ⟨rfl, p4, q4⟩
  go_wp2_with fail
  refine (hrx1 _ _ _ p4).mono ?_
  intro e5' w5 h5
  obtain ⟨y, pb, qc, m5', rfl, ply, py, p5, m5⟩ := h5
  have M5 : Mv (fun j => j = w3.heap.size) w3 w5 := Mv.trans (q4.out.mono (fun _ _ h => h.elim)) m5.out (fun _ _ h => h)
  have Q5 : Hid (Qt w w5) := Mv.trans Q3.out M5 (fun j hj e => by have := Q3.out.size; omega)
  have px5 : Hid (Parts x.args (fun j => j < w5.heap.size) w5 pa pc) := (px.out.lt.mv M5 (fun j hj e => by have := hj.2; omega)).mono (fun j hj => Nat.lt_of_lt_of_le hj.2 M5.size)
  have py5 : Hid (Parts y.args (fun j => j < w5.heap.size) w5 pb qc) := py.out.lt.mono (fun j hj => hj.2)
  clear p4 p5 hrx1 px py m3 m5 q4 M5 q2 q1 Q3
  have XT : Hid (Tr x pa pc w5.heap.size ((w5.alloc (.cells #[.int .i64 x.kind, .int .u64 (limb x.set 0), .int .u64 (limb x.set 1), .int .u64 (limb x.set 2), .int .u64 (limb x.set 3), .slice pa x.args.length pc] 28)).alloc (.cells #[.int .i64 y.kind, .int .u64 (limb y.set 0), .int .u64 (limb y.set 1), .int .u64 (limb y.set 2), .int .u64 (limb y.set 3), .slice pb y.args.length qc] 28))) := Tr.qt (Tr.new (K := fun j => j < w5.heap.size) px5.out (hT.out.qt Q5.out)) (Mv.alloc _ _ _)
  have YT : Hid (Tr y pb qc (w5.alloc (.cells #[.int .i64 x.kind, .int .u64 (limb x.set 0), .int .u64 (limb x.set 1), .int .u64 (limb x.set 2), .int .u64 (limb x.set 3), .slice pa x.args.length pc] 28)).heap.size ((w5.alloc (.cells #[.int .i64 x.kind, .int .u64 (limb x.set 0), .int .u64 (limb x.set 1), .int .u64 (limb x.set 2), .int .u64 (limb x.set 3), .slice pa x.args.length pc] 28)).alloc (.cells #[.int .i64 y.kind, .int .u64 (limb y.set 0), .int .u64 (limb y.set 1), .int .u64 (limb y.set 2), .int .u64 (limb y.set 3), .slice pb y.args.length qc] 28))) := Tr.new (K := fun j => j < w5.heap.size) (py5.out.mv (Mv.alloc (fun _ => False) _ _) (fun _ _ h => h)) (hT.out.qt (Q5.out.alloc _))
  have QB : Hid (Qt w ((w5.alloc (.cells #[.int .i64 x.kind, .int .u64 (limb x.set 0), .int .u64 (limb x.set 1), .int .u64 (limb x.set 2), .int .u64 (limb x.set 3), .slice pa x.args.length pc] 28)).alloc (.cells #[.int .i64 y.kind, .int .u64 (limb y.set 0), .int .u64 (limb y.set 1), .int .u64 (limb y.set 2), .int .u64 (limb y.set 3), .slice pb y.args.length qc] 28))) := (Q5.out.alloc _).alloc _
  rw [show (w5.alloc (.cells #[.int .i64 x.kind, .int .u64 (limb x.set 0), .int .u64 (limb x.set 1), .int .u64 (limb x.set 2), .int .u64 (limb x.set 3), .slice pa x.args.length pc] 28)).heap.size = w5.heap.size + 1 from by simp] at YT
  by_cases kx : 1 < x.kind
  · clear XT YT
    go_wp2_with fail
    go_ret
    exact ⟨rfl, QB.out⟩
  · have kx1 : x.kind ≤ 1 := by omega
    by_cases ky : 1 < y.kind
    · obtain ⟨b0, _⟩ := B6.facts (Tr.b XT)
      clear XT YT
      go_wp2_with fail
      go_ret
      exact ⟨rfl, QB.out⟩
    · have ky1 : y.kind ≤ 1 := by omega
      have KX : Hid (x.kind = 1) := (by have := plx.out.kind; omega : x.kind = 1)
      have KY : Hid (y.kind = 1) := (by have := ply.out.kind; omega : y.kind = 1)
      clear kx ky
      obtain ⟨b0, b1, b2, b3, b4, b5, _⟩ := B6.facts (Tr.b XT)
      obtain ⟨y0, y1, y2, y3, y4, y5, _⟩ := B6.facts (Tr.b YT)
      have C0 : Hid _ := b0
      have C1 : Hid _ := b1
      have C2 : Hid _ := b2
      have C3 : Hid _ := b3
      have C4 : Hid _ := b4
      have C5 : Hid _ := b5
      have C6 : Hid _ := y0
      have C7 : Hid _ := y1
      have C8 : Hid _ := y2
      have C9 : Hid _ := y3
      have C10 : Hid _ := y4
      have C11 : Hid _ := y5
      have hcx : ∀ W, Qt ((w5.alloc (.cells #[.int .i64 x.kind, .int .u64 (limb x.set 0), .int .u64 (limb x.set 1), .int .u64 (limb x.set 2), .int .u64 (limb x.set 3), .slice pa x.args.length pc] 28)).alloc (.cells #[.int .i64 y.kind, .int .u64 (limb y.set 0), .int .u64 (limb y.set 1), .int .u64 (limb y.set 2), .int .u64 (limb y.set 3), .slice pb y.args.length qc] 28)) W → Calls Tryd.prog 26 #[.agg #[.int .i64 x.kind, .int .u64 (limb x.set 0), .int .u64 (limb x.set 1), .int .u64 (limb x.set 2), .int .u64 (limb x.set 3), .slice pa x.args.length pc], .slice a2 n2 c2] W fun e w' => e = .returned (.bool (inX f2 n2 x)) ∧ Hid (Qt W w') := fun W q => tr_in (plx.out.tall (by decide)) f2 n2 (fun j _ => o2.out j) (Tr.qt XT q) (show Hid _ from s2.out.mv (QB.out.comp q) (fun _ _ h => h))
      have hcy : ∀ W, Qt ((w5.alloc (.cells #[.int .i64 x.kind, .int .u64 (limb x.set 0), .int .u64 (limb x.set 1), .int .u64 (limb x.set 2), .int .u64 (limb x.set 3), .slice pa x.args.length pc] 28)).alloc (.cells #[.int .i64 y.kind, .int .u64 (limb y.set 0), .int .u64 (limb y.set 1), .int .u64 (limb y.set 2), .int .u64 (limb y.set 3), .slice pb y.args.length qc] 28)) W → Calls Tryd.prog 26 #[.agg #[.int .i64 y.kind, .int .u64 (limb y.set 0), .int .u64 (limb y.set 1), .int .u64 (limb y.set 2), .int .u64 (limb y.set 3), .slice pb y.args.length qc], .slice a3 n3 c3] W fun e w' => e = .returned (.bool (inX f3 n3 y)) ∧ Hid (Qt W w') := fun W q => tr_in (ply.out.tall (by decide)) f3 n3 (fun j _ => o3.out j) (Tr.qt YT q) (show Hid _ from s3.out.mv (QB.out.comp q) (fun _ _ h => h))
      obtain ⟨P, hP⟩ : ∃ P, P = inX f2 n2 x := ⟨_, rfl⟩
      obtain ⟨Q, hQ⟩ : ∃ Q, Q = inX f3 n3 y := ⟨_, rfl⟩
      rw [← hP] at hcx
      rw [← hQ] at hcy
      have HP : Hid (P = inX f2 n2 x) := hP
      have HQ : Hid (Q = inX f3 n3 y) := hQ
      clear hP hQ
      go_wp2_with fail
      generalize ((w5.alloc (.cells #[.int .i64 x.kind, .int .u64 (limb x.set 0), .int .u64 (limb x.set 1), .int .u64 (limb x.set 2), .int .u64 (limb x.set 3), .slice pa x.args.length pc] 28)).alloc (.cells #[.int .i64 y.kind, .int .u64 (limb y.set 0), .int .u64 (limb y.set 1), .int .u64 (limb y.set 2), .int .u64 (limb y.set 3), .slice pb y.args.length qc] 28)) = wb at *
      have DQ : Hid (Qt wb wb.drew) := Mv.drewN _ wb 1
      go_region_held3 (fun w' => w'.cell? ⟨w5.heap.size, 0, none⟩ = some (.int .i64 x.kind) ∧ w'.cell? ⟨w5.heap.size, 1, none⟩ = some (.int .u64 (limb x.set 0)) ∧ w'.cell? ⟨w5.heap.size, 2, none⟩ = some (.int .u64 (limb x.set 1)) ∧ w'.cell? ⟨w5.heap.size, 3, none⟩ = some (.int .u64 (limb x.set 2)) ∧ w'.cell? ⟨w5.heap.size, 4, none⟩ = some (.int .u64 (limb x.set 3)) ∧ w'.cell? ⟨w5.heap.size, 5, none⟩ = some (.slice pa x.args.length pc) ∧ w'.cell? ⟨w5.heap.size + 1, 0, none⟩ = some (.int .i64 y.kind) ∧ w'.cell? ⟨w5.heap.size + 1, 1, none⟩ = some (.int .u64 (limb y.set 0)) ∧ w'.cell? ⟨w5.heap.size + 1, 2, none⟩ = some (.int .u64 (limb y.set 1)) ∧ w'.cell? ⟨w5.heap.size + 1, 3, none⟩ = some (.int .u64 (limb y.set 2)) ∧ w'.cell? ⟨w5.heap.size + 1, 4, none⟩ = some (.int .u64 (limb y.set 3)) ∧ w'.cell? ⟨w5.heap.size + 1, 5, none⟩ = some (.slice pb y.args.length qc) ∧ Hid (Qt wb w'))
        (first | (refine hold12x C0 C1 C2 C3 C4 C5 C6 C7 C8 C9 C10 C11 ?_; first | exact Qt.comp (Qt.comp DQ.out q6.out) q7.out | exact Qt.comp DQ.out q6.out | exact DQ))
        ((first
          | (go_at_call 26; with_reducible refine (hcx wb.drew DQ.out).mono ?_; rintro e6 w6 ⟨rfl, q6⟩)
          | (go_at_call 26; with_reducible refine (hcy w6 (Qt.comp DQ.out q6.out)).mono ?_; rintro e7 w7 ⟨rfl, q7⟩)))
      have QW : Hid (Qt wb w7) := Qt.comp (Qt.comp DQ.out q6.out) q7.out
      have X7 := Tr.qt XT QW
      have Y7 := Tr.qt YT QW
      have Q7 : Hid (Qt w w7) := QB.out.comp QW.out
      clear b0 b1 b2 b3 b4 b5 y0 y1 y2 y3 y4 y5 C0 C1 C2 C3 C4 C5 C6 C7 C8 C9 C10 C11 hcx hcy XT YT DQ
      obtain ⟨b0, b1, b2, b3, b4, b5, _⟩ := B6.facts (Tr.b X7)
      obtain ⟨y0, y1, y2, y3, y4, y5, _⟩ := B6.facts (Tr.b Y7)
      have m1 : Hid (Qt w7 ((w7.alloc (.cells #[.int .i64 x.kind, .int .u64 (limb x.set 0), .int .u64 (limb x.set 1), .int .u64 (limb x.set 2), .int .u64 (limb x.set 3), .slice pa x.args.length pc, .int .i64 y.kind, .int .u64 (limb y.set 0), .int .u64 (limb y.set 1), .int .u64 (limb y.set 2), .int .u64 (limb y.set 3), .slice pb y.args.length qc] 28)).alloc (.cells #[.int .i64 2, .int .u64 0, .int .u64 0, .int .u64 0, .int .u64 0, .slice (some ⟨w7.heap.size, 0, none⟩) 2 2] 28))) := ((Qt.refl w7).alloc _).alloc _
      obtain ⟨d0, d1, d2, d3, d4, d5⟩ : _ ∧ _ ∧ _ ∧ _ ∧ _ ∧ _ := ⟨Qt.keep m1 b0, Qt.keep m1 b1, Qt.keep m1 b2, Qt.keep m1 b3, Qt.keep m1 b4, Qt.keep m1 b5⟩
      obtain ⟨r0, r1, r2, r3, r4, r5⟩ : _ ∧ _ ∧ _ ∧ _ ∧ _ ∧ _ := ⟨Qt.keep m1 y0, Qt.keep m1 y1, Qt.keep m1 y2, Qt.keep m1 y3, Qt.keep m1 y4, Qt.keep m1 y5⟩
      have m2 : Hid (Qt w7 ((((w7.alloc (.cells #[.int .i64 x.kind, .int .u64 (limb x.set 0), .int .u64 (limb x.set 1), .int .u64 (limb x.set 2), .int .u64 (limb x.set 3), .slice pa x.args.length pc, .int .i64 y.kind, .int .u64 (limb y.set 0), .int .u64 (limb y.set 1), .int .u64 (limb y.set 2), .int .u64 (limb y.set 3), .slice pb y.args.length qc] 28)).alloc (.cells #[.int .i64 2, .int .u64 0, .int .u64 0, .int .u64 0, .int .u64 0, .slice (some ⟨w7.heap.size, 0, none⟩) 2 2] 28)).alloc (.cells #[.int .i64 x.kind, .int .u64 (limb x.set 0), .int .u64 (limb x.set 1), .int .u64 (limb x.set 2), .int .u64 (limb x.set 3), .slice pa x.args.length pc, .int .i64 y.kind, .int .u64 (limb y.set 0), .int .u64 (limb y.set 1), .int .u64 (limb y.set 2), .int .u64 (limb y.set 3), .slice pb y.args.length qc] 28)).alloc (.cells #[.int .i64 3, .int .u64 0, .int .u64 0, .int .u64 0, .int .u64 0, .slice (some ⟨w7.heap.size + 1 + 1, 0, none⟩) 2 2] 28))) := (m1.out.alloc _).alloc _
      obtain ⟨t0, t1, t2, t3, t4, t5⟩ : _ ∧ _ ∧ _ ∧ _ ∧ _ ∧ _ := ⟨Qt.keep m2 b0, Qt.keep m2 b1, Qt.keep m2 b2, Qt.keep m2 b3, Qt.keep m2 b4, Qt.keep m2 b5⟩
      have m3 : Hid (Qt w7 ((((((w7.alloc (.cells #[.int .i64 x.kind, .int .u64 (limb x.set 0), .int .u64 (limb x.set 1), .int .u64 (limb x.set 2), .int .u64 (limb x.set 3), .slice pa x.args.length pc, .int .i64 y.kind, .int .u64 (limb y.set 0), .int .u64 (limb y.set 1), .int .u64 (limb y.set 2), .int .u64 (limb y.set 3), .slice pb y.args.length qc] 28)).alloc (.cells #[.int .i64 2, .int .u64 0, .int .u64 0, .int .u64 0, .int .u64 0, .slice (some ⟨w7.heap.size, 0, none⟩) 2 2] 28)).alloc (.cells #[.int .i64 x.kind, .int .u64 (limb x.set 0), .int .u64 (limb x.set 1), .int .u64 (limb x.set 2), .int .u64 (limb x.set 3), .slice pa x.args.length pc, .int .i64 y.kind, .int .u64 (limb y.set 0), .int .u64 (limb y.set 1), .int .u64 (limb y.set 2), .int .u64 (limb y.set 3), .slice pb y.args.length qc] 28)).alloc (.cells #[.int .i64 3, .int .u64 0, .int .u64 0, .int .u64 0, .int .u64 0, .slice (some ⟨w7.heap.size + 1 + 1, 0, none⟩) 2 2] 28)).alloc (.cells #[.int .i64 x.kind, .int .u64 (limb x.set 0), .int .u64 (limb x.set 1), .int .u64 (limb x.set 2), .int .u64 (limb x.set 3), .slice pa x.args.length pc] 28)).alloc (.cells #[.int .i64 4, .int .u64 0, .int .u64 0, .int .u64 0, .int .u64 0, .slice (some ⟨w7.heap.size + 1 + 1 + 1 + 1, 0, none⟩) 1 1] 28))) := (m2.out.alloc _).alloc _
      have LA := laidS x y pa pb pc qc _ _ w7 ((w7.alloc (.cells #[.int .i64 x.kind, .int .u64 (limb x.set 0), .int .u64 (limb x.set 1), .int .u64 (limb x.set 2), .int .u64 (limb x.set 3), .slice pa x.args.length pc, .int .i64 y.kind, .int .u64 (limb y.set 0), .int .u64 (limb y.set 1), .int .u64 (limb y.set 2), .int .u64 (limb y.set 3), .slice pb y.args.length qc] 28)).alloc (.cells #[.int .i64 2, .int .u64 0, .int .u64 0, .int .u64 0, .int .u64 0, .slice (some ⟨w7.heap.size, 0, none⟩) 2 2] 28)) ((((w7.alloc (.cells #[.int .i64 x.kind, .int .u64 (limb x.set 0), .int .u64 (limb x.set 1), .int .u64 (limb x.set 2), .int .u64 (limb x.set 3), .slice pa x.args.length pc, .int .i64 y.kind, .int .u64 (limb y.set 0), .int .u64 (limb y.set 1), .int .u64 (limb y.set 2), .int .u64 (limb y.set 3), .slice pb y.args.length qc] 28)).alloc (.cells #[.int .i64 2, .int .u64 0, .int .u64 0, .int .u64 0, .int .u64 0, .slice (some ⟨w7.heap.size, 0, none⟩) 2 2] 28)).alloc (.cells #[.int .i64 x.kind, .int .u64 (limb x.set 0), .int .u64 (limb x.set 1), .int .u64 (limb x.set 2), .int .u64 (limb x.set 3), .slice pa x.args.length pc, .int .i64 y.kind, .int .u64 (limb y.set 0), .int .u64 (limb y.set 1), .int .u64 (limb y.set 2), .int .u64 (limb y.set 3), .slice pb y.args.length qc] 28)).alloc (.cells #[.int .i64 3, .int .u64 0, .int .u64 0, .int .u64 0, .int .u64 0, .slice (some ⟨w7.heap.size + 1 + 1, 0, none⟩) 2 2] 28)) ((((((w7.alloc (.cells #[.int .i64 x.kind, .int .u64 (limb x.set 0), .int .u64 (limb x.set 1), .int .u64 (limb x.set 2), .int .u64 (limb x.set 3), .slice pa x.args.length pc, .int .i64 y.kind, .int .u64 (limb y.set 0), .int .u64 (limb y.set 1), .int .u64 (limb y.set 2), .int .u64 (limb y.set 3), .slice pb y.args.length qc] 28)).alloc (.cells #[.int .i64 2, .int .u64 0, .int .u64 0, .int .u64 0, .int .u64 0, .slice (some ⟨w7.heap.size, 0, none⟩) 2 2] 28)).alloc (.cells #[.int .i64 x.kind, .int .u64 (limb x.set 0), .int .u64 (limb x.set 1), .int .u64 (limb x.set 2), .int .u64 (limb x.set 3), .slice pa x.args.length pc, .int .i64 y.kind, .int .u64 (limb y.set 0), .int .u64 (limb y.set 1), .int .u64 (limb y.set 2), .int .u64 (limb y.set 3), .slice pb y.args.length qc] 28)).alloc (.cells #[.int .i64 3, .int .u64 0, .int .u64 0, .int .u64 0, .int .u64 0, .slice (some ⟨w7.heap.size + 1 + 1, 0, none⟩) 2 2] 28)).alloc (.cells #[.int .i64 x.kind, .int .u64 (limb x.set 0), .int .u64 (limb x.set 1), .int .u64 (limb x.set 2), .int .u64 (limb x.set 3), .slice pa x.args.length pc] 28)).alloc (.cells #[.int .i64 4, .int .u64 0, .int .u64 0, .int .u64 0, .int .u64 0, .slice (some ⟨w7.heap.size + 1 + 1 + 1 + 1, 0, none⟩) 1 1] 28)) rfl rfl rfl X7 Y7
      have SV : Hid (Sl ((((((w7.alloc (.cells #[.int .i64 x.kind, .int .u64 (limb x.set 0), .int .u64 (limb x.set 1), .int .u64 (limb x.set 2), .int .u64 (limb x.set 3), .slice pa x.args.length pc, .int .i64 y.kind, .int .u64 (limb y.set 0), .int .u64 (limb y.set 1), .int .u64 (limb y.set 2), .int .u64 (limb y.set 3), .slice pb y.args.length qc] 28)).alloc (.cells #[.int .i64 2, .int .u64 0, .int .u64 0, .int .u64 0, .int .u64 0, .slice (some ⟨w7.heap.size, 0, none⟩) 2 2] 28)).alloc (.cells #[.int .i64 x.kind, .int .u64 (limb x.set 0), .int .u64 (limb x.set 1), .int .u64 (limb x.set 2), .int .u64 (limb x.set 3), .slice pa x.args.length pc, .int .i64 y.kind, .int .u64 (limb y.set 0), .int .u64 (limb y.set 1), .int .u64 (limb y.set 2), .int .u64 (limb y.set 3), .slice pb y.args.length qc] 28)).alloc (.cells #[.int .i64 3, .int .u64 0, .int .u64 0, .int .u64 0, .int .u64 0, .slice (some ⟨w7.heap.size + 1 + 1, 0, none⟩) 2 2] 28)).alloc (.cells #[.int .i64 x.kind, .int .u64 (limb x.set 0), .int .u64 (limb x.set 1), .int .u64 (limb x.set 2), .int .u64 (limb x.set 3), .slice pa x.args.length pc] 28)).alloc (.cells #[.int .i64 4, .int .u64 0, .int .u64 0, .int .u64 0, .int .u64 0, .slice (some ⟨w7.heap.size + 1 + 1 + 1 + 1, 0, none⟩) 1 1] 28)) a2 n2 (Bn f2)) := s2.out.mv (Q7.out.comp m3.out) (fun _ _ h => h)
      have SW : Hid (Sl ((((((w7.alloc (.cells #[.int .i64 x.kind, .int .u64 (limb x.set 0), .int .u64 (limb x.set 1), .int .u64 (limb x.set 2), .int .u64 (limb x.set 3), .slice pa x.args.length pc, .int .i64 y.kind, .int .u64 (limb y.set 0), .int .u64 (limb y.set 1), .int .u64 (limb y.set 2), .int .u64 (limb y.set 3), .slice pb y.args.length qc] 28)).alloc (.cells #[.int .i64 2, .int .u64 0, .int .u64 0, .int .u64 0, .int .u64 0, .slice (some ⟨w7.heap.size, 0, none⟩) 2 2] 28)).alloc (.cells #[.int .i64 x.kind, .int .u64 (limb x.set 0), .int .u64 (limb x.set 1), .int .u64 (limb x.set 2), .int .u64 (limb x.set 3), .slice pa x.args.length pc, .int .i64 y.kind, .int .u64 (limb y.set 0), .int .u64 (limb y.set 1), .int .u64 (limb y.set 2), .int .u64 (limb y.set 3), .slice pb y.args.length qc] 28)).alloc (.cells #[.int .i64 3, .int .u64 0, .int .u64 0, .int .u64 0, .int .u64 0, .slice (some ⟨w7.heap.size + 1 + 1, 0, none⟩) 2 2] 28)).alloc (.cells #[.int .i64 x.kind, .int .u64 (limb x.set 0), .int .u64 (limb x.set 1), .int .u64 (limb x.set 2), .int .u64 (limb x.set 3), .slice pa x.args.length pc] 28)).alloc (.cells #[.int .i64 4, .int .u64 0, .int .u64 0, .int .u64 0, .int .u64 0, .slice (some ⟨w7.heap.size + 1 + 1 + 1 + 1, 0, none⟩) 1 1] 28)) a3 n3 (Bn f3)) := s3.out.mv (Q7.out.comp m3.out) (fun _ _ h => h)
      obtain ⟨z1, Wa, z2, Wb, hr1, hr2, ⟨p2, k2, rfl, S1⟩, QV1, _⟩ := two_rows ((((((w7.alloc (.cells #[.int .i64 x.kind, .int .u64 (limb x.set 0), .int .u64 (limb x.set 1), .int .u64 (limb x.set 2), .int .u64 (limb x.set 3), .slice pa x.args.length pc, .int .i64 y.kind, .int .u64 (limb y.set 0), .int .u64 (limb y.set 1), .int .u64 (limb y.set 2), .int .u64 (limb y.set 3), .slice pb y.args.length qc] 28)).alloc (.cells #[.int .i64 2, .int .u64 0, .int .u64 0, .int .u64 0, .int .u64 0, .slice (some ⟨w7.heap.size, 0, none⟩) 2 2] 28)).alloc (.cells #[.int .i64 x.kind, .int .u64 (limb x.set 0), .int .u64 (limb x.set 1), .int .u64 (limb x.set 2), .int .u64 (limb x.set 3), .slice pa x.args.length pc, .int .i64 y.kind, .int .u64 (limb y.set 0), .int .u64 (limb y.set 1), .int .u64 (limb y.set 2), .int .u64 (limb y.set 3), .slice pb y.args.length qc] 28)).alloc (.cells #[.int .i64 3, .int .u64 0, .int .u64 0, .int .u64 0, .int .u64 0, .slice (some ⟨w7.heap.size + 1 + 1, 0, none⟩) 2 2] 28)).alloc (.cells #[.int .i64 x.kind, .int .u64 (limb x.set 0), .int .u64 (limb x.set 1), .int .u64 (limb x.set 2), .int .u64 (limb x.set 3), .slice pa x.args.length pc] 28)).alloc (.cells #[.int .i64 4, .int .u64 0, .int .u64 0, .int .u64 0, .int .u64 0, .slice (some ⟨w7.heap.size + 1 + 1 + 1 + 1, 0, none⟩) 1 1] 28)) n2 n3 (by have := L2.out; omega) (by have := L3.out; omega) f2 f3 a2 a3 c2 c3 SV SW e2.out e3.out
      rw [show (((((((w7.alloc (.cells #[.int .i64 x.kind, .int .u64 (limb x.set 0), .int .u64 (limb x.set 1), .int .u64 (limb x.set 2), .int .u64 (limb x.set 3), .slice pa x.args.length pc, .int .i64 y.kind, .int .u64 (limb y.set 0), .int .u64 (limb y.set 1), .int .u64 (limb y.set 2), .int .u64 (limb y.set 3), .slice pb y.args.length qc] 28)).alloc (.cells #[.int .i64 2, .int .u64 0, .int .u64 0, .int .u64 0, .int .u64 0, .slice (some ⟨w7.heap.size, 0, none⟩) 2 2] 28)).alloc (.cells #[.int .i64 x.kind, .int .u64 (limb x.set 0), .int .u64 (limb x.set 1), .int .u64 (limb x.set 2), .int .u64 (limb x.set 3), .slice pa x.args.length pc, .int .i64 y.kind, .int .u64 (limb y.set 0), .int .u64 (limb y.set 1), .int .u64 (limb y.set 2), .int .u64 (limb y.set 3), .slice pb y.args.length qc] 28)).alloc (.cells #[.int .i64 3, .int .u64 0, .int .u64 0, .int .u64 0, .int .u64 0, .slice (some ⟨w7.heap.size + 1 + 1, 0, none⟩) 2 2] 28)).alloc (.cells #[.int .i64 x.kind, .int .u64 (limb x.set 0), .int .u64 (limb x.set 1), .int .u64 (limb x.set 2), .int .u64 (limb x.set 3), .slice pa x.args.length pc] 28)).alloc (.cells #[.int .i64 4, .int .u64 0, .int .u64 0, .int .u64 0, .int .u64 0, .slice (some ⟨w7.heap.size + 1 + 1 + 1 + 1, 0, none⟩) 1 1] 28))).heap.size = w7.heap.size + 1 + 1 + 1 + 1 + 1 + 1 from by simp] at hr1
      obtain ⟨z3, Wc, z4, Wd, hr3, hr4, ⟨p4, k4, rfl, S2⟩, QV2, _⟩ := two_rows Wb n2 n2 (by have := L2.out; omega) (by have := L2.out; omega) f2 f2 a2 a2 c2 c2 (show Hid _ from SV.out.mv QV1.out (fun _ _ h => h)) (show Hid _ from SV.out.mv QV1.out (fun _ _ h => h)) e2.out e2.out
      have QV : Hid (Qt ((((((w7.alloc (.cells #[.int .i64 x.kind, .int .u64 (limb x.set 0), .int .u64 (limb x.set 1), .int .u64 (limb x.set 2), .int .u64 (limb x.set 3), .slice pa x.args.length pc, .int .i64 y.kind, .int .u64 (limb y.set 0), .int .u64 (limb y.set 1), .int .u64 (limb y.set 2), .int .u64 (limb y.set 3), .slice pb y.args.length qc] 28)).alloc (.cells #[.int .i64 2, .int .u64 0, .int .u64 0, .int .u64 0, .int .u64 0, .slice (some ⟨w7.heap.size, 0, none⟩) 2 2] 28)).alloc (.cells #[.int .i64 x.kind, .int .u64 (limb x.set 0), .int .u64 (limb x.set 1), .int .u64 (limb x.set 2), .int .u64 (limb x.set 3), .slice pa x.args.length pc, .int .i64 y.kind, .int .u64 (limb y.set 0), .int .u64 (limb y.set 1), .int .u64 (limb y.set 2), .int .u64 (limb y.set 3), .slice pb y.args.length qc] 28)).alloc (.cells #[.int .i64 3, .int .u64 0, .int .u64 0, .int .u64 0, .int .u64 0, .slice (some ⟨w7.heap.size + 1 + 1, 0, none⟩) 2 2] 28)).alloc (.cells #[.int .i64 x.kind, .int .u64 (limb x.set 0), .int .u64 (limb x.set 1), .int .u64 (limb x.set 2), .int .u64 (limb x.set 3), .slice pa x.args.length pc] 28)).alloc (.cells #[.int .i64 4, .int .u64 0, .int .u64 0, .int .u64 0, .int .u64 0, .slice (some ⟨w7.heap.size + 1 + 1 + 1 + 1, 0, none⟩) 1 1] 28)) Wd) := QV1.out.comp QV2.out
      have QD : Hid (Qt w Wd) := (Q7.out.comp m3.out).comp QV.out
      have L9 := B6.mv LA.out.b9 QV.out (fun h => h)
      have L10 := B6.mv LA.out.b10 QV.out (fun h => h)
      have L11 := B6.mv LA.out.b11 QV.out (fun h => h)
      have T9 : Hid (Sn2 x y (some ⟨w7.heap.size, 0, none⟩) Wd) := LA.out.s9.qt QV.out
      have T10 : Hid (Sn2 x y (some ⟨w7.heap.size + 1 + 1, 0, none⟩) Wd) := LA.out.s10.qt QV.out
      have T11 : Hid (Sn x (some ⟨w7.heap.size + 1 + 1 + 1 + 1, 0, none⟩) Wd) := LA.out.s11.qt QV.out
      have S1d : Hid (Sl Wd p2 (n2 + n3) (Bn (twoT f2 n2 f3))) := S1.out.mv QV2.out (fun _ _ h => h)
      have SVd : Hid (Sl Wd a2 n2 (Bn f2)) := s2.out.mv QD.out (fun _ _ h => h)
      have SWd : Hid (Sl Wd a3 n3 (Bn f3)) := s3.out.mv QD.out (fun _ _ h => h)
      have MC := two_may KX.out KY.out plx.out ply.out (k := 2) (.inl rfl)
      have MA := two_may KX.out KY.out plx.out ply.out (k := 3) (.inr rfl)
      have MS := sign_pl plx.out (by decide) (by have := KX.out; omega) (k := 4) (.inl rfl)
      have HC1 : Hid (P = true → Q = true → ∀ W, Qt Wd W → Calls Tryd.prog 26 #[.agg #[.int .i64 2, .int .u64 0, .int .u64 0, .int .u64 0, .int .u64 0, .slice (some ⟨w7.heap.size, 0, none⟩) 2 2], .slice p2 (n2 + n3) k2] W fun e w' => e = .returned (.bool true) ∧ Hid (Qt W w')) := fun hp hq W q => by
        have e1 := (inX_set KX.out (plx.out.may (by decide)) (by have := L2.out; omega)).1 (HP.out.symm.trans hp)
        have e2 := (inX_set KY.out (ply.out.may (by decide)) (by have := L3.out; omega)).1 (HQ.out.symm.trans hq)
        have h := in_two x y 2 (two_tall KX.out KY.out plx.out ply.out 2) (twoT f2 n2 f3) (n2 + n3) (fun i _ => by unfold twoT; split; exact o2.out i; exact o3.out _) _ p2 k2 W (T9.out.qt q) (S1d.out.mv q (fun _ _ h => h))
        rw [(inX_cat KX.out KY.out MC (by have := L2.out; have := L3.out; omega)).2 ⟨by omega, by unfold twoT; rw [if_pos (by omega)]; exact e1.2, by unfold twoT; rw [if_neg (by omega), e1.1]; exact e2.2⟩] at h
        exact h
      have HA1 : Hid (P = true → ∀ W, Qt Wd W → Calls Tryd.prog 26 #[.agg #[.int .i64 3, .int .u64 0, .int .u64 0, .int .u64 0, .int .u64 0, .slice (some ⟨w7.heap.size + 1 + 1, 0, none⟩) 2 2], .slice a2 n2 c2] W fun e w' => e = .returned (.bool true) ∧ Hid (Qt W w')) := fun hp W q => by
        have e1 := (inX_set KX.out (plx.out.may (by decide)) (by have := L2.out; omega)).1 (HP.out.symm.trans hp)
        have h := in_two x y 3 (two_tall KX.out KY.out plx.out ply.out 3) f2 n2 (fun i _ => o2.out i) _ a2 c2 W (T10.out.qt q) (SVd.out.mv q (fun _ _ h => h))
        rw [(inX_alt KX.out KY.out MA (by have := L2.out; omega)).2 ⟨e1.1, .inl e1.2⟩] at h
        exact h
      have HS1 : Hid (P = true → ∀ W, Qt Wd W → Calls Tryd.prog 26 #[.agg #[.int .i64 4, .int .u64 0, .int .u64 0, .int .u64 0, .int .u64 0, .slice (some ⟨w7.heap.size + 1 + 1 + 1 + 1, 0, none⟩) 1 1], .slice p4 (n2 + n2) k4] W fun e w' => e = .returned (.bool true) ∧ Hid (Qt W w')) := fun hp W q => by
        have e1 := (inX_set KX.out (plx.out.may (by decide)) (by have := L2.out; omega)).1 (HP.out.symm.trans hp)
        have h := in_sign2 x 4 (sign_tall2 plx.out (by decide) 4) (twoT f2 n2 f2) (n2 + n2) (fun i _ => by unfold twoT; split; exact o2.out i; exact o2.out _) _ p4 k4 W (T11.out.qt q) (S2.out.mv q (fun _ _ h => h))
        rw [(inX_many KX.out MS (by have := L2.out; omega)).2 (fun m hm => by
          unfold twoT
          split
          · rw [show m = 0 from by omega]; exact e1.2
          · rw [show m - n2 = 0 from by omega]; exact e1.2)] at h
        exact h
      have HA2 : Hid (Q = true → ∀ W, Qt Wd W → Calls Tryd.prog 26 #[.agg #[.int .i64 3, .int .u64 0, .int .u64 0, .int .u64 0, .int .u64 0, .slice (some ⟨w7.heap.size + 1 + 1, 0, none⟩) 2 2], .slice a3 n3 c3] W fun e w' => e = .returned (.bool true) ∧ Hid (Qt W w')) := fun hq W q => by
        have e1 := (inX_set KY.out (ply.out.may (by decide)) (by have := L3.out; omega)).1 (HQ.out.symm.trans hq)
        have h := in_two x y 3 (two_tall KX.out KY.out plx.out ply.out 3) f3 n3 (fun i _ => o3.out i) _ a3 c3 W (T10.out.qt q) (SWd.out.mv q (fun _ _ h => h))
        rw [(inX_alt KX.out KY.out MA (by have := L3.out; omega)).2 ⟨e1.1, .inr e1.2⟩] at h
        exact h
      have HS0 : Hid (∀ W, Qt Wd W → Calls Tryd.prog 26 #[.agg #[.int .i64 4, .int .u64 0, .int .u64 0, .int .u64 0, .int .u64 0, .slice (some ⟨w7.heap.size + 1 + 1 + 1 + 1, 0, none⟩) 1 1], .slice none 0 0] W fun e w' => e = .returned (.bool true) ∧ Hid (Qt W w')) := fun W q => by
        have h := in_sign2 x 4 (sign_tall2 plx.out (by decide) 4) f2 0 (fun i _ => o2.out i) _ none 0 W (T11.out.qt q) (fun i hi => by omega)
        rw [(inX_many KX.out MS (by omega)).2 (fun m hm => by omega)] at h
        exact h
      have HC0 : Hid (∀ W, Qt Wd W → Calls Tryd.prog 26 #[.agg #[.int .i64 2, .int .u64 0, .int .u64 0, .int .u64 0, .int .u64 0, .slice (some ⟨w7.heap.size, 0, none⟩) 2 2], .slice none 0 0] W fun e w' => e = .returned (.bool false) ∧ Hid (Qt W w')) := fun W q => by
        have h := in_two x y 2 (two_tall KX.out KY.out plx.out ply.out 2) f2 0 (fun i _ => o2.out i) _ none 0 W (T9.out.qt q) (fun i hi => by omega)
        rw [show inX f2 0 ⟨2, fun _ => false, [x, y]⟩ = false from by
          cases hx : inX f2 0 ⟨2, fun _ => false, [x, y]⟩ with
          | false => rfl
          | true => have := ((inX_cat KX.out KY.out MC (by omega)).1 hx).1; omega] at h
        exact h
      have hsz : (n2 : Int) + (n3 : Int) = ((n2 + n3 : Nat) : Int) := by omega
      clear T9 T10 T11 S1d SVd SWd MC MA MS X7 Y7 LA SV SW m1 m2 m3 hsz HP HQ QW
      cases P with
      | false =>
        cases Q with
        | false =>
          obtain ⟨g0', g1', g2', g3', g4', g5', _⟩ := B6.facts L11
          go_wp2_with (at_builtin; first | (refine wpList_append_given rfl _ _ 37 rfl (.slice (some ⟨w7.heap.size + 1 + 1 + 1 + 1 + 1 + 1, 0, none⟩) 0 0) (.slice a2 n2 c2) _ Wa rfl rfl hr1 ?_) | (refine wpList_append_given rfl _ _ 37 rfl z1 (.slice a3 n3 c3) _ Wb rfl rfl hr2 ?_) | (refine wpList_append_given rfl _ _ 37 rfl (.slice (some ⟨Wb.heap.size, 0, none⟩) 0 0) (.slice a2 n2 c2) _ Wc rfl rfl hr3 ?_) | (refine wpList_append_given rfl _ _ 37 rfl z3 (.slice a2 n2 c2) _ Wd rfl rfl hr4 ?_))
          clear b0 b1 b2 b3 b4 b5 y0 y1 y2 y3 y4 y5 d0 d1 d2 d3 d4 d5 r0 r1 r2 r3 r4 r5 t0 t1 t2 t3 t4 t5 hr1 hr2 hr3 hr4
          refine (HS0.out _ (Qt.refl Wd)).mono ?_
          rintro ex0 u0 ⟨rfl, qx0⟩
          have QX0 : Hid (Qt Wd u0) := qx0.out
          clear g0' g1' g2' g3' g4' g5'
          obtain ⟨g0', g1', g2', g3', g4', g5', _⟩ := B6.facts (B6.mv L9.out QX0.out (fun h => h))
          go_wp2_with fail
          refine (HC0.out _ (QX0.out)).mono ?_
          rintro ex1 u1 ⟨rfl, qx1⟩
          have QX1 : Hid (Qt Wd u1) := QX0.out.comp qx1.out
          clear g0' g1' g2' g3' g4' g5'
          go_wp2_with fail
          go_ret
          exact ⟨rfl, QD.out.comp QX1.out⟩
        | true =>
          obtain ⟨g0', g1', g2', g3', g4', g5', _⟩ := B6.facts L10
          go_wp2_with (at_builtin; first | (refine wpList_append_given rfl _ _ 37 rfl (.slice (some ⟨w7.heap.size + 1 + 1 + 1 + 1 + 1 + 1, 0, none⟩) 0 0) (.slice a2 n2 c2) _ Wa rfl rfl hr1 ?_) | (refine wpList_append_given rfl _ _ 37 rfl z1 (.slice a3 n3 c3) _ Wb rfl rfl hr2 ?_) | (refine wpList_append_given rfl _ _ 37 rfl (.slice (some ⟨Wb.heap.size, 0, none⟩) 0 0) (.slice a2 n2 c2) _ Wc rfl rfl hr3 ?_) | (refine wpList_append_given rfl _ _ 37 rfl z3 (.slice a2 n2 c2) _ Wd rfl rfl hr4 ?_))
          clear b0 b1 b2 b3 b4 b5 y0 y1 y2 y3 y4 y5 d0 d1 d2 d3 d4 d5 r0 r1 r2 r3 r4 r5 t0 t1 t2 t3 t4 t5 hr1 hr2 hr3 hr4
          refine (HA2.out (by simp) _ (Qt.refl Wd)).mono ?_
          rintro ex0 u0 ⟨rfl, qx0⟩
          have QX0 : Hid (Qt Wd u0) := qx0.out
          clear g0' g1' g2' g3' g4' g5'
          obtain ⟨g0', g1', g2', g3', g4', g5', _⟩ := B6.facts (B6.mv L11.out QX0.out (fun h => h))
          go_wp2_with fail
          refine (HS0.out _ (QX0.out)).mono ?_
          rintro ex1 u1 ⟨rfl, qx1⟩
          have QX1 : Hid (Qt Wd u1) := QX0.out.comp qx1.out
          clear g0' g1' g2' g3' g4' g5'
          obtain ⟨g0', g1', g2', g3', g4', g5', _⟩ := B6.facts (B6.mv L9.out QX1.out (fun h => h))
          go_wp2_with fail
          refine (HC0.out _ (QX1.out)).mono ?_
          rintro ex2 u2 ⟨rfl, qx2⟩
          have QX2 : Hid (Qt Wd u2) := QX1.out.comp qx2.out
          clear g0' g1' g2' g3' g4' g5'
          go_wp2_with fail
          go_ret
          exact ⟨rfl, QD.out.comp QX2.out⟩
      | true =>
        cases Q with
        | false =>
          obtain ⟨g0', g1', g2', g3', g4', g5', _⟩ := B6.facts L10
          go_wp2_with (at_builtin; first | (refine wpList_append_given rfl _ _ 37 rfl (.slice (some ⟨w7.heap.size + 1 + 1 + 1 + 1 + 1 + 1, 0, none⟩) 0 0) (.slice a2 n2 c2) _ Wa rfl rfl hr1 ?_) | (refine wpList_append_given rfl _ _ 37 rfl z1 (.slice a3 n3 c3) _ Wb rfl rfl hr2 ?_) | (refine wpList_append_given rfl _ _ 37 rfl (.slice (some ⟨Wb.heap.size, 0, none⟩) 0 0) (.slice a2 n2 c2) _ Wc rfl rfl hr3 ?_) | (refine wpList_append_given rfl _ _ 37 rfl z3 (.slice a2 n2 c2) _ Wd rfl rfl hr4 ?_))
          clear b0 b1 b2 b3 b4 b5 y0 y1 y2 y3 y4 y5 d0 d1 d2 d3 d4 d5 r0 r1 r2 r3 r4 r5 t0 t1 t2 t3 t4 t5 hr1 hr2 hr3 hr4
          refine (HA1.out (by simp) _ (Qt.refl Wd)).mono ?_
          rintro ex0 u0 ⟨rfl, qx0⟩
          have QX0 : Hid (Qt Wd u0) := qx0.out
          clear g0' g1' g2' g3' g4' g5'
          obtain ⟨g0', g1', g2', g3', g4', g5', _⟩ := B6.facts (B6.mv L11.out QX0.out (fun h => h))
          go_wp2_with fail
          refine (HS1.out (by simp) _ (QX0.out)).mono ?_
          rintro ex1 u1 ⟨rfl, qx1⟩
          have QX1 : Hid (Qt Wd u1) := QX0.out.comp qx1.out
          clear g0' g1' g2' g3' g4' g5'
          obtain ⟨g0', g1', g2', g3', g4', g5', _⟩ := B6.facts (B6.mv L11.out QX1.out (fun h => h))
          go_wp2_with fail
          refine (HS0.out _ (QX1.out)).mono ?_
          rintro ex2 u2 ⟨rfl, qx2⟩
          have QX2 : Hid (Qt Wd u2) := QX1.out.comp qx2.out
          clear g0' g1' g2' g3' g4' g5'
          obtain ⟨g0', g1', g2', g3', g4', g5', _⟩ := B6.facts (B6.mv L9.out QX2.out (fun h => h))
          go_wp2_with fail
          refine (HC0.out _ (QX2.out)).mono ?_
          rintro ex3 u3 ⟨rfl, qx3⟩
          have QX3 : Hid (Qt Wd u3) := QX2.out.comp qx3.out
          clear g0' g1' g2' g3' g4' g5'
          go_wp2_with fail
          go_ret
          exact ⟨rfl, QD.out.comp QX3.out⟩
        | true =>
          obtain ⟨g0', g1', g2', g3', g4', g5', _⟩ := B6.facts L9
          go_wp2_with (at_builtin; first | (refine wpList_append_given rfl _ _ 37 rfl (.slice (some ⟨w7.heap.size + 1 + 1 + 1 + 1 + 1 + 1, 0, none⟩) 0 0) (.slice a2 n2 c2) _ Wa rfl rfl hr1 ?_) | (refine wpList_append_given rfl _ _ 37 rfl z1 (.slice a3 n3 c3) _ Wb rfl rfl hr2 ?_) | (refine wpList_append_given rfl _ _ 37 rfl (.slice (some ⟨Wb.heap.size, 0, none⟩) 0 0) (.slice a2 n2 c2) _ Wc rfl rfl hr3 ?_) | (refine wpList_append_given rfl _ _ 37 rfl z3 (.slice a2 n2 c2) _ Wd rfl rfl hr4 ?_))
          clear b0 b1 b2 b3 b4 b5 y0 y1 y2 y3 y4 y5 d0 d1 d2 d3 d4 d5 r0 r1 r2 r3 r4 r5 t0 t1 t2 t3 t4 t5 hr1 hr2 hr3 hr4
          refine (HC1.out (by simp) (by simp) _ (Qt.refl Wd)).mono ?_
          rintro ex0 u0 ⟨rfl, qx0⟩
          have QX0 : Hid (Qt Wd u0) := qx0.out
          clear g0' g1' g2' g3' g4' g5'
          obtain ⟨g0', g1', g2', g3', g4', g5', _⟩ := B6.facts (B6.mv L10.out QX0.out (fun h => h))
          go_wp2_with fail
          refine (HA1.out (by simp) _ (QX0.out)).mono ?_
          rintro ex1 u1 ⟨rfl, qx1⟩
          have QX1 : Hid (Qt Wd u1) := QX0.out.comp qx1.out
          clear g0' g1' g2' g3' g4' g5'
          obtain ⟨g0', g1', g2', g3', g4', g5', _⟩ := B6.facts (B6.mv L11.out QX1.out (fun h => h))
          go_wp2_with fail
          refine (HS1.out (by simp) _ (QX1.out)).mono ?_
          rintro ex2 u2 ⟨rfl, qx2⟩
          have QX2 : Hid (Qt Wd u2) := QX1.out.comp qx2.out
          clear g0' g1' g2' g3' g4' g5'
          obtain ⟨g0', g1', g2', g3', g4', g5', _⟩ := B6.facts (B6.mv L10.out QX2.out (fun h => h))
          go_wp2_with fail
          refine (HA2.out (by simp) _ (QX2.out)).mono ?_
          rintro ex3 u3 ⟨rfl, qx3⟩
          have QX3 : Hid (Qt Wd u3) := QX2.out.comp qx3.out
          clear g0' g1' g2' g3' g4' g5'
          obtain ⟨g0', g1', g2', g3', g4', g5', _⟩ := B6.facts (B6.mv L11.out QX3.out (fun h => h))
          go_wp2_with fail
          refine (HS0.out _ (QX3.out)).mono ?_
          rintro ex4 u4 ⟨rfl, qx4⟩
          have QX4 : Hid (Qt Wd u4) := QX3.out.comp qx4.out
          clear g0' g1' g2' g3' g4' g5'
          obtain ⟨g0', g1', g2', g3', g4', g5', _⟩ := B6.facts (B6.mv L9.out QX4.out (fun h => h))
          go_wp2_with fail
          refine (HC0.out _ (QX4.out)).mono ?_
          rintro ex5 u5 ⟨rfl, qx5⟩
          have QX5 : Hid (Qt Wd u5) := QX4.out.comp qx5.out
          clear g0' g1' g2' g3' g4' g5'
          go_wp2_with fail
          go_ret
          exact ⟨rfl, QD.out.comp QX5.out⟩

theorem regexSpells_row (a0 : Option Addr) (n0 c0 : Nat) (f0 : Nat → Int) (a1 : Option Addr) (n1 c1 : Nat) (f1 : Nat → Int) (a2 : Option Addr) (n2 c2 : Nat) (f2 : Nat → Int) (a3 : Option Addr) (n3 c3 : Nat) (f3 : Nat → Int) (w : World) (s0 : Sl w a0 n0 (fun i => .int .u8 (f0 i))) (o0 : ∀ i, (Lit.int .u8 (f0 i)).wf = true) (h0 : ∀ q, a0 = some q → q.block < w.heap.size) (e0 : a0 = none → n0 = 0 ∧ c0 = 0) (s1 : Sl w a1 n1 (fun i => .int .u8 (f1 i))) (o1 : ∀ i, (Lit.int .u8 (f1 i)).wf = true) (h1 : ∀ q, a1 = some q → q.block < w.heap.size) (e1 : a1 = none → n1 = 0 ∧ c1 = 0) (s2 : Sl w a2 n2 (fun i => .int .u8 (f2 i))) (o2 : ∀ i, (Lit.int .u8 (f2 i)).wf = true) (h2 : ∀ q, a2 = some q → q.block < w.heap.size) (e2 : a2 = none → n2 = 0 ∧ c2 = 0) (s3 : Sl w a3 n3 (fun i => .int .u8 (f3 i))) (o3 : ∀ i, (Lit.int .u8 (f3 i)).wf = true) (h3 : ∀ q, a3 = some q → q.block < w.heap.size) (e3 : a3 = none → n3 = 0 ∧ c3 = 0) (hT : Tab w) : Calls Tryd.prog 7 #[.slice a0 n0 c0, .slice a1 n1 c1, .slice a2 n2 c2, .slice a3 n3 c3] w fun e w' => e = .returned (.bool true) ∧ Below w.heap.size w w' := by
  obtain ⟨g0, p0, b0⟩ := bytes_of s0 o0
  obtain ⟨g1, p1, b1⟩ := bytes_of s1 o1
  obtain ⟨g2, p2, b2⟩ := bytes_of s2 o2
  obtain ⟨g3, p3, b3⟩ := bytes_of s3 o3
  by_cases hl : n0 ≤ 20 ∧ n1 ≤ 20 ∧ n2 ≤ 6 ∧ n3 ≤ 6
  · exact (spells_main a0 a1 a2 a3 n0 n1 n2 n3 c0 c1 c2 c3 g0 g1 g2 g3 w p0 p1 p2 p3 b0 b1 b2 b3 h0 h1 e2 e3 hT hl.1 hl.2.1 hl.2.2.1 hl.2.2.2).mono fun e w' ⟨he, hq⟩ => ⟨he, hq.out.below (Nat.le_refl _) (fun _ _ h => h)⟩
  · exact (spells_early a0 a1 a2 a3 n0 n1 n2 n3 c0 c1 c2 c3 g0 g1 g2 g3 w p0 p1 p2 p3 b0 b1 b2 b3 h0 h1 e2 e3 hT (by omega)).mono fun e w' ⟨he, hq⟩ => ⟨he, hq.out.below (Nat.le_refl _) (fun _ _ h => h)⟩

end Go.Proofs.YtkclkhfcmjhogaaDoor
