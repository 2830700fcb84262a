/- The program's Parse. -/
import Derived.Test.YtkclkhfcmjhogaaDoorH7
namespace Go.Proofs.YtkclkhfcmjhogaaDoor
open Go.RowKit
set_option linter.unusedVariables false

theorem results14 (tmps : Array Value) (w : World) (g : Nat) (v0 v1 v2 v3 v4 v5 y : Value) (h0 : tmps.getD 2 undef = .pointer (some ⟨g, 0, none⟩)) (h1 : tmps.getD 3 undef = .pointer (some ⟨g + 1, 0, none⟩))
    (hg : w.heap[g]? = some (.cells #[v0, v1, v2, v3, v4, v5] 28 (0, 0))) (hy : w.cell? ⟨g + 1, 0, none⟩ = some y) :
    (results Tryd.f14 tmps).run Tryd.prog w = .ok (.tuple #[.agg #[v0, v1, v2, v3, v4, v5], y]) w := by
  have h0' : tmps[2]?.getD undef = .pointer (some ⟨g, 0, none⟩) := by simpa using h0
  have h1' : tmps[3]?.getD undef = .pointer (some ⟨g + 1, 0, none⟩) := by simpa using h1
  have e0 : w.cell? ⟨g, 0, none⟩ = some v0 := by simp [World.cell?, hg]
  have e1 : w.cell? ⟨g, 1, none⟩ = some v1 := by simp [World.cell?, hg]
  have e2 : w.cell? ⟨g, 2, none⟩ = some v2 := by simp [World.cell?, hg]
  have e3 : w.cell? ⟨g, 3, none⟩ = some v3 := by simp [World.cell?, hg]
  have e4 : w.cell? ⟨g, 4, none⟩ = some v4 := by simp [World.cell?, hg]
  have e5 : w.cell? ⟨g, 5, none⟩ = some v5 := by simp [World.cell?, hg]
  simp [results, Tryd.results14, h0', h1', asAddr, go_sem, hy, e0, e1, e2, e3, e4, e5]

/-- What stands while it is read: the results' blocks. -/
structure P5 (w W : World) (v0 v1 v2 v3 v4 v5 : Value) : Prop where
  qt : Qt w W
  z : B6 w.heap.size v0 v1 v2 v3 v4 v5 W
  at1 : W.heap[w.heap.size + 1]? = some (.cells #[.int .i64 0] 29 (0, 0))
theorem P5.mv {X : Nat → Prop} {w W W' : World} {v0 v1 v2 v3 v4 v5 : Value} (h : P5 w W v0 v1 v2 v3 v4 v5) (m : Mv X W W') (hx : ∀ j, X j → w.heap.size + 2 ≤ j) : P5 w W' v0 v1 v2 v3 v4 v5 :=
  ⟨Mv.trans h.qt m (fun j hj e => by have := hx j e; omega), (B6.mv h.z m (fun e => by have := hx _ e; omega)).out, (m.block _ (Array.getElem?_eq_some_iff.1 h.at1).1 (fun e => by have := hx _ e; omega)).trans h.at1⟩
theorem P5.facts {w W : World} {v0 v1 v2 v3 v4 v5 : Value} (h : Hid (P5 w W v0 v1 v2 v3 v4 v5)) : W.cell? ⟨w.heap.size + 1, 0, none⟩ = some (.int .i64 0) ∧ W.frozen? ⟨w.heap.size + 1, 0, none⟩ = false := by
  have e := h.out.at1
  exact ⟨by simp [World.cell?, e], by simp [World.frozen?, e]⟩
theorem P5.put {w W : World} {v0 v1 v2 v3 v4 v5 : Value} (h : P5 w W v0 v1 v2 v3 v4 v5) (u0 u1 u2 u3 u4 u5 : Value) : P5 w (put6 W w.heap.size u0 u1 u2 u3 u4 u5) u0 u1 u2 u3 u4 u5 := by
  have m := put6_mv W w.heap.size u0 u1 u2 u3 u4 u5
  refine ⟨Mv.trans h.qt m (fun j hj e => by omega), put6_heap h.z _ _ _ _ _ _, (m.block _ (Array.getElem?_eq_some_iff.1 h.at1).1 (by omega)).trans h.at1⟩
theorem heap3b (w : World) (A B C : Obj) : (((w.alloc A).alloc B).alloc C).heap[w.heap.size]? = some A ∧ (((w.alloc A).alloc B).alloc C).heap[w.heap.size + 1]? = some B ∧ (((w.alloc A).alloc B).alloc C).heap[w.heap.size + 1 + 1]? = some C := by
  refine ⟨?_, ?_, heap3 w A B C⟩
  · rw [heap_alloc_old ((w.alloc A).alloc B) C (h := by simp; omega)]; exact heap2a w A B
  · rw [heap_alloc_old ((w.alloc A).alloc B) C (h := by simp)]; exact heap_alloc2_new w A B
/-- What Parse tells. -/
def Pt (w : World) (r : Except Int RX) (e : Ending) (w' : World) : Prop :=
  match r with
  | .error n => e = .returned (.tuple #[.agg #[.int .i64 0, .int .u64 0, .int .u64 0, .int .u64 0, .int .u64 0, .slice none 0 0], .int .i64 n]) ∧ Hid (Qt w w')
  | .ok x => ∃ a c, e = .returned (.tuple #[.agg #[.int .i64 x.kind, .int .u64 (limb x.set 0), .int .u64 (limb x.set 1), .int .u64 (limb x.set 2), .int .u64 (limb x.set 3), .slice a x.args.length c], .int .i64 0]) ∧ Hid (Parts x.args (fun j => w.heap.size ≤ j) w' a c) ∧ Hid (Qt w w')
theorem Pt.bad {w W : World} {v0 v1 v2 v3 v4 v5 : Value} (h : P5 w W v0 v1 v2 v3 v4 v5) (n : Int) : ((put6 W w.heap.size (.int .i64 0) (.int .u64 0) (.int .u64 0) (.int .u64 0) (.int .u64 0) (.slice none 0 0)).setCell ⟨w.heap.size + 1, 0, none⟩ (.int .i64 n)).heap[w.heap.size]? = some (.cells #[.int .i64 0, .int .u64 0, .int .u64 0, .int .u64 0, .int .u64 0, .slice none 0 0] 28 (0, 0)) ∧ ((put6 W w.heap.size (.int .i64 0) (.int .u64 0) (.int .u64 0) (.int .u64 0) (.int .u64 0) (.slice none 0 0)).setCell ⟨w.heap.size + 1, 0, none⟩ (.int .i64 n)).cell? ⟨w.heap.size + 1, 0, none⟩ = some (.int .i64 n) ∧ Qt w ((put6 W w.heap.size (.int .i64 0) (.int .u64 0) (.int .u64 0) (.int .u64 0) (.int .u64 0) (.slice none 0 0)).setCell ⟨w.heap.size + 1, 0, none⟩ (.int .i64 n)) := by
  have p := h.put (.int .i64 0) (.int .u64 0) (.int .u64 0) (.int .u64 0) (.int .u64 0) (.slice none 0 0)
  have hc := (P5.facts (show Hid _ from p)).1
  have m := Mv.setCell (put6 W w.heap.size (.int .i64 0) (.int .u64 0) (.int .u64 0) (.int .u64 0) (.int .u64 0) (.slice none 0 0)) ⟨w.heap.size + 1, 0, none⟩ (.int .i64 n)
  exact ⟨(B6.mv p.z m (by simp)).out, World.cell?_setCell_same _ _ _ hc, Mv.trans p.qt m (fun j hj e => by simp at e; omega)⟩

set_option maxHeartbeats 4000000 in
theorem parseX_any (l : List Nat) (w : World) (hl : l.length < 20000) (hb : ∀ c ∈ l, c < 256) : Calls Tryd.prog 14 #[.string (str l)] w fun e w' => Pt w (prsX l) e w' := by
  have hmf := make_fn
  obtain ⟨h1, h2, h3⟩ := heap3b w zeros6 (.cells #[.int .i64 0] 29) (.cells #[.string (str l), .int .i64 0] 52)
  have R0 : Hid (Rx1 (w.heap.size + 1 + 1) l 0 (((w.alloc zeros6).alloc (.cells #[.int .i64 0] 29)).alloc (.cells #[.string (str l), .int .i64 0] 52))) :=
    ⟨by simp only [World.cell?, h3]; rfl, by simp only [World.cell?, h3]; rfl, by simp only [World.frozen?, h3]; rfl, by simp only [World.frozen?, h3]; rfl, by omega, hb⟩
  have B0 : Hid (P5 w (((w.alloc zeros6).alloc (.cells #[.int .i64 0] 29)).alloc (.cells #[.string (str l), .int .i64 0] 52)) (.int .i64 0) (.int .u64 0) (.int .u64 0) (.int .u64 0) (.int .u64 0) (.slice none 0 0)) := ⟨(((Qt.refl w).alloc _).alloc _).alloc _, h1, h2⟩
  have hw := whole_any _ l _ R0
  obtain ⟨s, hs⟩ : ∃ s, s = prsX l := ⟨_, rfl⟩
  rw [← hs]
  have HS0 : Hid (s = prsX l) := hs
  obtain ⟨r, hr⟩ : ∃ r, r = wholeS l := ⟨_, rfl⟩
  rw [← hr] at hw
  have HR0 : Hid (wholeS l = r) := hr.symm
  have HL : Hid (l.length < 20000) := hl
  clear hs hr hb hl h1 h2 h3
  generalize str l = S at *
  go_enter_defers Tryd.func14, Tryd.ntmps14
  go_wp2_with fail
  refine hw.mono ?_
  intro e1 w1 h1
  cases r with
  | error n =>
    obtain ⟨rfl, m1⟩ := h1
    have HE : Hid (s = .error n) := by show _ = _; rw [HS0.out]; unfold prsX; rw [HR0.out]
    have B1 : Hid _ := B0.out.mv m1.out (fun j e => by omega)
    obtain ⟨k1, f1⟩ := P5.facts B1
    have C := Pt.bad B1.out n
    clear hw
    refine leaves_cons (f := 29) (args := #[.pointer (some ⟨w.heap.size, 0, none⟩), .pointer (some ⟨w.heap.size + 1, 0, none⟩)]) (by simp) (by simp [go_sem]) ?_
    refine (catchX_panicking n w.heap.size w1 _ _ _ _ _ _ _ (show Hid _ from B1.out.z) k1 f1).mono ?_
    rintro e u' w'' ⟨rfl, rfl, rfl⟩
    refine ⟨_, results14 _ _ w.heap.size _ _ _ _ _ _ _ rfl rfl C.1 C.2.1, ?_⟩
    rw [HE.out]
    exact ⟨rfl, C.2.2⟩
  | ok x =>
    obtain ⟨a, c, rfl, P1, m1⟩ := h1
    have B1 : Hid _ := B0.out.mv m1.out (fun j e => by omega)
    obtain ⟨k1, f1⟩ := P5.facts B1
    obtain ⟨z0, z1, z2, z3, z4, z5, g0, g1, g2, g3, g4, g5⟩ := B6.facts (show Hid _ from B1.out.z)
    have B2 : Hid _ := B1.out.put (.int .i64 x.kind) (.int .u64 (limb x.set 0)) (.int .u64 (limb x.set 1)) (.int .u64 (limb x.set 2)) (.int .u64 (limb x.set 3)) (.slice a x.args.length c)
    have P2 : Hid (Parts x.args (fun j => w.heap.size + 3 ≤ j ∧ j < w1.heap.size) w1 a c) := P1.out.lt.mono (fun j hj => by simp at hj; omega)
    have P3 : Hid (Parts x.args (fun j => w.heap.size + 3 ≤ j ∧ j < w1.heap.size) (put6 w1 w.heap.size (.int .i64 x.kind) (.int .u64 (limb x.set 0)) (.int .u64 (limb x.set 1)) (.int .u64 (limb x.set 2)) (.int .u64 (limb x.set 3)) (.slice a x.args.length c)) a c) := P2.out.mv (put6_mv w1 w.heap.size _ _ _ _ _ _) (fun j hj e => by omega)
    have hmay := may_any x (fun j => w.heap.size + 3 ≤ j ∧ j < w1.heap.size) a c _ (fun j hj => Nat.lt_of_lt_of_le hj.2 (put6_mv w1 w.heap.size (.int .i64 x.kind) (.int .u64 (limb x.set 0)) (.int .u64 (limb x.set 1)) (.int .u64 (limb x.set 2)) (.int .u64 (limb x.set 3)) (.slice a x.args.length c)).size) P3.out (wholeS_tall HR0.out HL.out)
    unfold xv at hmay
    clear hw P1 P2
    go_wp2_with fail
    refine hmay.mono ?_
    rintro e2 w2 ⟨rfl, q2⟩
    have B3 : Hid _ := B2.out.mv q2.out (fun j e => e.elim)
    have P4 : Hid (Parts x.args (fun j => w.heap.size + 3 ≤ j ∧ j < w1.heap.size) w2 a c) := P3.out.mv q2.out (fun _ _ h => h)
    by_cases hm : may x = 0
    · have HE : Hid (s = .ok x) := by show _ = _; rw [HS0.out]; unfold prsX; rw [HR0.out]; simp [hm]
      rw [hm] 
      clear k1 f1 z0 z1 z2 z3 z4 z5 g0 g1 g2 g3 g4 g5 hmay hm
      obtain ⟨k1, f1⟩ := P5.facts B3
      obtain ⟨z0, z1, z2, z3, z4, z5, g0, g1, g2, g3, g4, g5⟩ := B6.facts (show Hid _ from B3.out.z)
      go_wp2_with fail
      refine (rmust_ok _).mono ?_
      rintro e3 w3 ⟨rfl, hw3⟩
      obtain rfl := hw3.symm
      go_wp2_with fail
      have B4 : Hid _ := B3.out.put (.int .i64 x.kind) (.int .u64 (limb x.set 0)) (.int .u64 (limb x.set 1)) (.int .u64 (limb x.set 2)) (.int .u64 (limb x.set 3)) (.slice a x.args.length c)
      have hc4 := (P5.facts B4).1
      have m4 := Mv.setCell (put6 w2 w.heap.size (.int .i64 x.kind) (.int .u64 (limb x.set 0)) (.int .u64 (limb x.set 1)) (.int .u64 (limb x.set 2)) (.int .u64 (limb x.set 3)) (.slice a x.args.length c)) ⟨w.heap.size + 1, 0, none⟩ (.int .i64 0)
      have c1 := (B6.mv B4.out.z m4 (by simp)).out
      have c2 := World.cell?_setCell_same (put6 w2 w.heap.size (.int .i64 x.kind) (.int .u64 (limb x.set 0)) (.int .u64 (limb x.set 1)) (.int .u64 (limb x.set 2)) (.int .u64 (limb x.set 3)) (.slice a x.args.length c)) ⟨w.heap.size + 1, 0, none⟩ (.int .i64 0) hc4
      have c3 : Qt w _ := Mv.trans B4.out.qt m4 (fun j hj e => by simp at e; omega)
      have c4 : Parts x.args (fun j => w.heap.size ≤ j) _ a c := ((P4.out.mv (put6_mv w2 w.heap.size (.int .i64 x.kind) (.int .u64 (limb x.set 0)) (.int .u64 (limb x.set 1)) (.int .u64 (limb x.set 2)) (.int .u64 (limb x.set 3)) (.slice a x.args.length c)) (fun j hj e => by omega)).mv m4 (fun j hj e => by simp at e; omega)).mono (fun j hj => by omega)
      refine leaves_cons (f := 29) (args := #[.pointer (some ⟨w.heap.size, 0, none⟩), .pointer (some ⟨w.heap.size + 1, 0, none⟩)]) (by simp) (by simp [go_sem]) ?_
      refine (catchX_idle ⟨w.heap.size, 0, none⟩ ⟨w.heap.size + 1, 0, none⟩ _).mono ?_
      rintro e u' w'' ⟨rfl, rfl, rfl⟩
      refine ⟨_, results14 _ _ w.heap.size _ _ _ _ _ _ _ rfl rfl c1 c2, ?_⟩
      rw [HE.out]
      exact ⟨a, c, rfl, c4, c3⟩
    · have HE : Hid (s = .error (may x)) := by show _ = _; rw [HS0.out]; unfold prsX; rw [HR0.out]; simp [hm]
      have C := Pt.bad B3.out (may x)
      clear k1 f1 z0 z1 z2 z3 z4 z5 g0 g1 g2 g3 g4 g5 hmay
      obtain ⟨k1, f1⟩ := P5.facts B3
      generalize may x = n at *
      go_wp2_with fail
      refine (rmust_bad n hm _).mono ?_
      rintro e3 w3 ⟨rfl, hw3⟩
      obtain rfl := hw3.symm
      refine leaves_cons (f := 29) (args := #[.pointer (some ⟨w.heap.size, 0, none⟩), .pointer (some ⟨w.heap.size + 1, 0, none⟩)]) (by simp) (by simp [go_sem]) ?_
      refine (catchX_panicking n w.heap.size _ _ _ _ _ _ _ _ (show Hid _ from B3.out.z) k1 f1).mono ?_
      rintro e u' w'' ⟨rfl, rfl, rfl⟩
      refine ⟨_, results14 _ _ w.heap.size _ _ _ _ _ _ _ rfl rfl C.1 C.2.1, ?_⟩
      rw [HE.out]
      exact ⟨rfl, C.2.2⟩

end Go.Proofs.YtkclkhfcmjhogaaDoor
