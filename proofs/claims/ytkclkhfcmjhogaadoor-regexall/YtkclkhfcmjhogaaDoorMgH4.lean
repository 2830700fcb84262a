/- The program's Parse: what recovers; how great what is read may be. -/
import Derived.Test.YtkclkhfcmjhogaaDoorMgH3
import Derived.Test.YtkclkhfcmjhogaaDoorMgK5
namespace Go.Proofs.YtkclkhfcmjhogaaDoor
open Go.RowKit
set_option linter.unusedVariables false

set_option maxRecDepth 20000 in
theorem errnoOf_any (x : Int) (w : World) : Calls Tryd.prog 30 #[.iface 29 (.int .i64 x)] w fun e w' => e = .returned (.int .i64 x) ∧ w' = w := by
  have hta : (Instr.typeAssert (.iface 29 (.int .i64 x)) 20 29 true).run Tryd.prog w = .ok (.tuple #[.int .i64 x, .bool true]) w := by first | kernel_rfl | rfl
  go_enter Tryd.func30, Tryd.ntmps30
  go_wp2
  go_ret
  exact ⟨rfl, rfl⟩
theorem catchX_idle (p q : Addr) (w : World) :
    CallsD Tryd.prog 29 #[.pointer (some p), .pointer (some q)] .returning w fun e u' w' => e = .returned (.tuple #[]) ∧ u' = .returning ∧ w' = w := by
  refine callsD_of_wpS Tryd.func29 rfl fun c₀ cs hu => ?_
  apply wpS_seq
  apply wpS_region
  simp [wpOpsS, go_sem, recoverD, hu, Tryd.ntmps29, Exit.thenS]
  refine wpS_of_wp ?_
  rw [show (#[Value.pointer (some p), Value.pointer (some q)] ++ ((Array.replicate 7 undef).setIfInBounds 1 Value.nilIface).setIfInBounds 0 Value.nilIface) = #[Value.pointer (some p), Value.pointer (some q), Value.nilIface, Value.nilIface, undef, undef, undef, undef, undef] from rfl]
  go_wp2_with fail
  cases c₀
  simp_all [bodyPostS, results, Tryd.results29]
set_option maxHeartbeats 1000000 in
theorem catchX_panicking (n : Int) (g : Nat) (w : World) (v0 v1 v2 v3 v4 v5 y : Value) (hz : Hid (B6 g v0 v1 v2 v3 v4 v5 w)) (hc2 : w.cell? ⟨g + 1, 0, none⟩ = some y) (hz2 : w.frozen? ⟨g + 1, 0, none⟩ = false) :
    CallsD Tryd.prog 29 #[.pointer (some ⟨g, 0, none⟩), .pointer (some ⟨g + 1, 0, none⟩)] (.panicking (chainE n)) w fun e u' w' =>
      e = .returned (.tuple #[]) ∧ u' = .panicking [{ v := .iface 29 (.int .i64 n), recovered := true }] ∧ w' = (put6 w g (.int .i64 0) (.int .u64 0) (.int .u64 0) (.int .u64 0) (.int .u64 0) (.slice none 0 0)).setCell ⟨g + 1, 0, none⟩ (.int .i64 n) := by
  obtain ⟨z0, z1, z2, z3, z4, z5, f0, f1, f2, f3, f4, f5⟩ := B6.facts hz
  refine callsD_of_wpS Tryd.func29 rfl fun c₀ cs hu => ?_
  unfold chainE at hu
  apply wpS_seq
  apply wpS_region
  simp [wpOpsS, go_sem, recoverD, hu, Tryd.ntmps29, Exit.thenS]
  refine wpS_of_wp ?_
  rw [show (#[Value.pointer (some ⟨g, 0, none⟩), Value.pointer (some ⟨g + 1, 0, none⟩)] ++ ((Array.replicate 7 undef).setIfInBounds 1 (Value.iface 29 (.int .i64 n))).setIfInBounds 0 (Value.iface 29 (.int .i64 n))) = #[Value.pointer (some ⟨g, 0, none⟩), Value.pointer (some ⟨g + 1, 0, none⟩), (Value.iface 29 (.int .i64 n)), (Value.iface 29 (.int .i64 n)), undef, undef, undef, undef, undef] from rfl]
  go_wp2_with fail
  refine (errnoOf_any n w).mono ?_
  rintro e w1 ⟨rfl, hw⟩
  obtain rfl := hw.symm
  clear hw
  go_wp2_with fail
  exact ⟨rfl, _, rfl, .tuple #[], by simp [results, Tryd.results29], rfl, rfl, rfl⟩

/-- So many nodes at most. -/
def Nb (f : List Nat → Res) : Prop := ∀ l x t, f l = .ok (x, t) → x.nodes + 1 + 2 * t.length ≤ 2 * l.length
theorem nodes_leaf (p : Nat → Bool) : RX.nodes ⟨1, p, []⟩ = 1 := by rw [nodes_eq]; rfl
theorem nodes_one1 (k : Int) (x : RX) : RX.nodes ⟨k, eset, [x]⟩ = 1 + x.nodes := by rw [nodes_eq]; simp
theorem atomS_nb {f : List Nat → Res} (h : Nb f) : Nb (atomS f) := by
  intro l x t e
  cases l with
  | nil => cases e
  | cons c u =>
    rw [atomS_cons] at e
    split at e
    · unfold brS at e
      split at e
      · cases e
      · cases e
      · rename_i x' d v hi
        split at e
        · cases e
          have := h _ _ _ hi
          simp only [List.length_cons] at *
          omega
        · cases e
    · split at e
      · cases e
      · rename_i p v hc
        cases e
        have := (cls_suf hc).1.len
        rw [nodes_leaf]
        omega
theorem signS_nb (x : RX) (l : List Nat) : (signS x l).1.nodes + 2 * (signS x l).2.length ≤ x.nodes + 2 * l.length := by
  unfold signS
  split
  · exact Nat.le_refl _
  · split
    · simp only [nodes_one1, List.length_cons]; omega
    · exact Nat.le_refl _
theorem repS_nb {f : List Nat → Res} (h : Nb f) : Nb (repS f) := by
  intro l x t e
  unfold repS at e
  split at e
  · cases e
  · rename_i y u ha
    have e2 := Except.ok.inj e
    have h1 := atomS_nb h _ _ _ ha
    have h2 := signS_nb y u
    rw [e2] at h2
    simp only at h2
    omega
theorem catL_nb {f : List Nat → Res} (h : Nb f) : ∀ (n : Nat) (acc xs : List RX) (l t : List Nat), catL f n acc l = .ok (xs, t) → (xs.map RX.nodes).sum + xs.length + 2 * t.length ≤ (acc.map RX.nodes).sum + acc.length + 2 * l.length
  | 0, acc, xs, l, t, e => by cases e; exact Nat.le_refl _
  | n + 1, acc, xs, l, t, e => by
    unfold catL at e
    split at e
    · cases e; exact Nat.le_refl _
    · split at e
      · cases e
      · rename_i y u hr
        have h1 := catL_nb h n _ _ _ _ e
        have h2 := repS_nb h _ _ _ hr
        simp only [List.map_append, List.sum_append, List.map_cons, List.map_nil, List.sum_cons, List.sum_nil, List.length_append, List.length_singleton] at h1
        omega
theorem one_nb (k : Int) (xs : List RX) (hx : xs ≠ []) : (one k xs).nodes + 1 ≤ (xs.map RX.nodes).sum + xs.length := by
  match xs, hx with
  | [x], _ => simp [one]
  | x :: y :: m, _ =>
    show RX.nodes ⟨k, eset, x :: y :: m⟩ + 1 ≤ _
    rw [nodes_eq]
    simp only [List.length_cons]
    omega
theorem catL_ne {f : List Nat → Res} : ∀ (n : Nat) (acc xs : List RX) (l t : List Nat), catL f n acc l = .ok (xs, t) → acc ≠ [] → xs ≠ []
  | 0, acc, xs, l, t, e, h => by cases e; exact h
  | n + 1, acc, xs, l, t, e, h => by
    unfold catL at e
    split at e
    · cases e; exact h
    · split at e
      · cases e
      · exact catL_ne n _ _ _ _ e (by simp)
theorem catS_nb {f : List Nat → Res} (h : Nb f) : Nb (catS f) := by
  intro l x t e
  unfold catS at e
  split at e
  · cases e
  · rename_i y u hr
    obtain ⟨xs, hc, rfl⟩ := oneR_ok e
    have h1 := catL_nb h _ _ _ _ _ hc
    have h2 := repS_nb h _ _ _ hr
    have h3 := one_nb 2 xs (catL_ne _ _ _ _ _ hc (by simp))
    simp only [List.map_cons, List.map_nil, List.sum_cons, List.sum_nil, List.length_singleton] at h1
    omega
theorem altL_nb {f : List Nat → Res} (h : Nb f) : ∀ (n : Nat) (acc xs : List RX) (l t : List Nat), altL f n acc l = .ok (xs, t) → (xs.map RX.nodes).sum + xs.length + 2 * t.length ≤ (acc.map RX.nodes).sum + acc.length + 2 * l.length
  | 0, acc, xs, l, t, e => by cases e; exact Nat.le_refl _
  | n + 1, acc, xs, [], t, e => by cases e; exact Nat.le_refl _
  | n + 1, acc, xs, c :: l, t, e => by
    unfold altL at e
    split at e
    · split at e
      · cases e
      · rename_i y u hr
        have h1 := altL_nb h n _ _ _ _ e
        have h2 := catS_nb h _ _ _ hr
        simp only [List.map_append, List.sum_append, List.map_cons, List.map_nil, List.sum_cons, List.sum_nil, List.length_append, List.length_nil, List.length_cons] at *
        omega
    · cases e; exact Nat.le_refl _
theorem altL_ne {f : List Nat → Res} : ∀ (n : Nat) (acc xs : List RX) (l t : List Nat), altL f n acc l = .ok (xs, t) → acc ≠ [] → xs ≠ []
  | 0, acc, xs, l, t, e, h => by cases e; exact h
  | n + 1, acc, xs, [], t, e, h => by cases e; exact h
  | n + 1, acc, xs, c :: l, t, e, h => by
    unfold altL at e
    split at e
    · split at e
      · cases e
      · exact altL_ne n _ _ _ _ e (by simp)
    · cases e; exact h
theorem altS_nb {f : List Nat → Res} (h : Nb f) : Nb (altS f) := by
  intro l x t e
  unfold altS at e
  split at e
  · cases e
  · rename_i y u hr
    obtain ⟨xs, hc, rfl⟩ := oneR_ok e
    have h1 := altL_nb h _ _ _ _ _ hc
    have h2 := catS_nb h _ _ _ hr
    have h3 := one_nb 3 xs (altL_ne _ _ _ _ _ hc (by simp))
    simp only [List.map_cons, List.map_nil, List.sum_cons, List.sum_nil, List.length_singleton] at h1
    omega
theorem altN_nb : ∀ n, Nb (altN n)
  | 0 => altS_nb (fun _ _ _ h => by cases h)
  | n + 1 => altS_nb (altN_nb n)
theorem wholeS_tall {l : List Nat} {x : RX} (h : wholeS l = .ok x) (hl : l.length < 20000) : x.tall < 90000 := by
  unfold wholeS at h
  split at h
  · cases h
  · rename_i y hr
    cases h
    have h1 := altN_nb 13 _ _ _ hr
    have h2 := tall_nodes x
    omega
  · cases h

end Go.Proofs.YtkclkhfcmjhogaaDoor

namespace Go.Proofs.YtkclkhfcmjhogaaDoor
open Go.RowKit
set_option linter.unusedVariables false

theorem results14 (tmps : Array Value) (w : World) (g : Nat) (v0 v1 v2 v3 v4 v5 y : Value) (h0 : tmps.getD 2 undef = .pointer (some ⟨g, 0, none⟩)) (h1 : tmps.getD 3 undef = .pointer (some ⟨g + 1, 0, none⟩))
    (hg : w.heap[g]? = some (.cells #[v0, v1, v2, v3, v4, v5] 28 (0, 0))) (hy : w.cell? ⟨g + 1, 0, none⟩ = some y) :
    (results Tryd.f14 tmps).run Tryd.prog w = .ok (.tuple #[.agg #[v0, v1, v2, v3, v4, v5], y]) w := by
  have h0' : tmps[2]?.getD undef = .pointer (some ⟨g, 0, none⟩) := by simpa using h0
  have h1' : tmps[3]?.getD undef = .pointer (some ⟨g + 1, 0, none⟩) := by simpa using h1
  have e0 : w.cell? ⟨g, 0, none⟩ = some v0 := by simp [World.cell?, hg]
  have e1 : w.cell? ⟨g, 1, none⟩ = some v1 := by simp [World.cell?, hg]
  have e2 : w.cell? ⟨g, 2, none⟩ = some v2 := by simp [World.cell?, hg]
  have e3 : w.cell? ⟨g, 3, none⟩ = some v3 := by simp [World.cell?, hg]
  have e4 : w.cell? ⟨g, 4, none⟩ = some v4 := by simp [World.cell?, hg]
  have e5 : w.cell? ⟨g, 5, none⟩ = some v5 := by simp [World.cell?, hg]
  simp [results, Tryd.results14, h0', h1', asAddr, go_sem, hy, e0, e1, e2, e3, e4, e5]

/-- What stands while it is read: the results' blocks. -/
structure P5 (w W : World) (v0 v1 v2 v3 v4 v5 : Value) : Prop where
  qt : Qt w W
  z : B6 w.heap.size v0 v1 v2 v3 v4 v5 W
  at1 : W.heap[w.heap.size + 1]? = some (.cells #[.int .i64 0] 29 (0, 0))
theorem P5.mv {X : Nat → Prop} {w W W' : World} {v0 v1 v2 v3 v4 v5 : Value} (h : P5 w W v0 v1 v2 v3 v4 v5) (m : Mv X W W') (hx : ∀ j, X j → w.heap.size + 2 ≤ j) : P5 w W' v0 v1 v2 v3 v4 v5 :=
  ⟨Mv.trans h.qt m (fun j hj e => by have := hx j e; omega), (B6.mv h.z m (fun e => by have := hx _ e; omega)).out, (m.block _ (Array.getElem?_eq_some_iff.1 h.at1).1 (fun e => by have := hx _ e; omega)).trans h.at1⟩
theorem P5.facts {w W : World} {v0 v1 v2 v3 v4 v5 : Value} (h : Hid (P5 w W v0 v1 v2 v3 v4 v5)) : W.cell? ⟨w.heap.size + 1, 0, none⟩ = some (.int .i64 0) ∧ W.frozen? ⟨w.heap.size + 1, 0, none⟩ = false := by
  have e := h.out.at1
  exact ⟨by simp [World.cell?, e], by simp [World.frozen?, e]⟩
theorem P5.put {w W : World} {v0 v1 v2 v3 v4 v5 : Value} (h : P5 w W v0 v1 v2 v3 v4 v5) (u0 u1 u2 u3 u4 u5 : Value) : P5 w (put6 W w.heap.size u0 u1 u2 u3 u4 u5) u0 u1 u2 u3 u4 u5 := by
  have m := put6_mv W w.heap.size u0 u1 u2 u3 u4 u5
  refine ⟨Mv.trans h.qt m (fun j hj e => by omega), put6_heap h.z _ _ _ _ _ _, (m.block _ (Array.getElem?_eq_some_iff.1 h.at1).1 (by omega)).trans h.at1⟩
theorem heap3b (w : World) (A B C : Obj) : (((w.alloc A).alloc B).alloc C).heap[w.heap.size]? = some A ∧ (((w.alloc A).alloc B).alloc C).heap[w.heap.size + 1]? = some B ∧ (((w.alloc A).alloc B).alloc C).heap[w.heap.size + 1 + 1]? = some C := by
  refine ⟨?_, ?_, heap3 w A B C⟩
  · rw [heap_alloc_old ((w.alloc A).alloc B) C (h := by simp; omega)]; exact heap2a w A B
  · rw [heap_alloc_old ((w.alloc A).alloc B) C (h := by simp)]; exact heap_alloc2_new w A B
/-- What Parse tells. -/
def Pt (w : World) (r : Except Int RX) (e : Ending) (w' : World) : Prop :=
  match r with
  | .error n => e = .returned (.tuple #[.agg #[.int .i64 0, .int .u64 0, .int .u64 0, .int .u64 0, .int .u64 0, .slice none 0 0], .int .i64 n]) ∧ Hid (Qt w w')
  | .ok x => ∃ a c, e = .returned (.tuple #[.agg #[.int .i64 x.kind, .int .u64 (limb x.set 0), .int .u64 (limb x.set 1), .int .u64 (limb x.set 2), .int .u64 (limb x.set 3), .slice a x.args.length c], .int .i64 0]) ∧ Hid (Parts x.args (fun j => w.heap.size ≤ j) w' a c) ∧ Hid (Qt w w')
theorem Pt.bad {w W : World} {v0 v1 v2 v3 v4 v5 : Value} (h : P5 w W v0 v1 v2 v3 v4 v5) (n : Int) : ((put6 W w.heap.size (.int .i64 0) (.int .u64 0) (.int .u64 0) (.int .u64 0) (.int .u64 0) (.slice none 0 0)).setCell ⟨w.heap.size + 1, 0, none⟩ (.int .i64 n)).heap[w.heap.size]? = some (.cells #[.int .i64 0, .int .u64 0, .int .u64 0, .int .u64 0, .int .u64 0, .slice none 0 0] 28 (0, 0)) ∧ ((put6 W w.heap.size (.int .i64 0) (.int .u64 0) (.int .u64 0) (.int .u64 0) (.int .u64 0) (.slice none 0 0)).setCell ⟨w.heap.size + 1, 0, none⟩ (.int .i64 n)).cell? ⟨w.heap.size + 1, 0, none⟩ = some (.int .i64 n) ∧ Qt w ((put6 W w.heap.size (.int .i64 0) (.int .u64 0) (.int .u64 0) (.int .u64 0) (.int .u64 0) (.slice none 0 0)).setCell ⟨w.heap.size + 1, 0, none⟩ (.int .i64 n)) := by
  have p := h.put (.int .i64 0) (.int .u64 0) (.int .u64 0) (.int .u64 0) (.int .u64 0) (.slice none 0 0)
  have hc := (P5.facts (show Hid _ from p)).1
  have m := Mv.setCell (put6 W w.heap.size (.int .i64 0) (.int .u64 0) (.int .u64 0) (.int .u64 0) (.int .u64 0) (.slice none 0 0)) ⟨w.heap.size + 1, 0, none⟩ (.int .i64 n)
  exact ⟨(B6.mv p.z m (by simp)).out, World.cell?_setCell_same _ _ _ hc, Mv.trans p.qt m (fun j hj e => by simp at e; omega)⟩

set_option maxHeartbeats 4000000 in
theorem parseX_any (l : List Nat) (w : World) (hl : l.length < 20000) (hb : ∀ c ∈ l, c < 256) : Calls Tryd.prog 14 #[.string (str l)] w fun e w' => Pt w (prsX l) e w' := by
  have hmf := make_fn
  obtain ⟨h1, h2, h3⟩ := heap3b w zeros6 (.cells #[.int .i64 0] 29) (.cells #[.string (str l), .int .i64 0] 52)
  have R0 : Hid (Rx1 (w.heap.size + 1 + 1) l 0 (((w.alloc zeros6).alloc (.cells #[.int .i64 0] 29)).alloc (.cells #[.string (str l), .int .i64 0] 52))) :=
    ⟨by simp only [World.cell?, h3]; rfl, by simp only [World.cell?, h3]; rfl, by simp only [World.frozen?, h3]; rfl, by simp only [World.frozen?, h3]; rfl, by omega, hb⟩
  have B0 : Hid (P5 w (((w.alloc zeros6).alloc (.cells #[.int .i64 0] 29)).alloc (.cells #[.string (str l), .int .i64 0] 52)) (.int .i64 0) (.int .u64 0) (.int .u64 0) (.int .u64 0) (.int .u64 0) (.slice none 0 0)) := ⟨(((Qt.refl w).alloc _).alloc _).alloc _, h1, h2⟩
  have hw := whole_any _ l _ R0
  obtain ⟨s, hs⟩ : ∃ s, s = prsX l := ⟨_, rfl⟩
  rw [← hs]
  have HS0 : Hid (s = prsX l) := hs
  obtain ⟨r, hr⟩ : ∃ r, r = wholeS l := ⟨_, rfl⟩
  rw [← hr] at hw
  have HR0 : Hid (wholeS l = r) := hr.symm
  have HL : Hid (l.length < 20000) := hl
  clear hs hr hb hl h1 h2 h3
  generalize str l = S at *
  go_enter_defers Tryd.func14, Tryd.ntmps14
  go_wp2_with fail
  refine hw.mono ?_
  intro e1 w1 h1
  cases r with
  | error n =>
    obtain ⟨rfl, m1⟩ := h1
    have HE : Hid (s = .error n) := by show _ = _; rw [HS0.out]; unfold prsX; rw [HR0.out]
    have B1 : Hid _ := B0.out.mv m1.out (fun j e => by omega)
    obtain ⟨k1, f1⟩ := P5.facts B1
    have C := Pt.bad B1.out n
    clear hw
    refine leaves_cons (f := 29) (args := #[.pointer (some ⟨w.heap.size, 0, none⟩), .pointer (some ⟨w.heap.size + 1, 0, none⟩)]) (by simp) (by simp [go_sem]) ?_
    refine (catchX_panicking n w.heap.size w1 _ _ _ _ _ _ _ (show Hid _ from B1.out.z) k1 f1).mono ?_
    rintro e u' w'' ⟨rfl, rfl, rfl⟩
    refine ⟨_, results14 _ _ w.heap.size _ _ _ _ _ _ _ rfl rfl C.1 C.2.1, ?_⟩
    rw [HE.out]
    exact ⟨rfl, C.2.2⟩
  | ok x =>
    obtain ⟨a, c, rfl, P1, m1⟩ := h1
    have B1 : Hid _ := B0.out.mv m1.out (fun j e => by omega)
    obtain ⟨k1, f1⟩ := P5.facts B1
    obtain ⟨z0, z1, z2, z3, z4, z5, g0, g1, g2, g3, g4, g5⟩ := B6.facts (show Hid _ from B1.out.z)
    have B2 : Hid _ := B1.out.put (.int .i64 x.kind) (.int .u64 (limb x.set 0)) (.int .u64 (limb x.set 1)) (.int .u64 (limb x.set 2)) (.int .u64 (limb x.set 3)) (.slice a x.args.length c)
    have P2 : Hid (Parts x.args (fun j => w.heap.size + 3 ≤ j ∧ j < w1.heap.size) w1 a c) := P1.out.lt.mono (fun j hj => by simp at hj; omega)
    have P3 : Hid (Parts x.args (fun j => w.heap.size + 3 ≤ j ∧ j < w1.heap.size) (put6 w1 w.heap.size (.int .i64 x.kind) (.int .u64 (limb x.set 0)) (.int .u64 (limb x.set 1)) (.int .u64 (limb x.set 2)) (.int .u64 (limb x.set 3)) (.slice a x.args.length c)) a c) := P2.out.mv (put6_mv w1 w.heap.size _ _ _ _ _ _) (fun j hj e => by omega)
    have hmay := may_any x (fun j => w.heap.size + 3 ≤ j ∧ j < w1.heap.size) a c _ (fun j hj => Nat.lt_of_lt_of_le hj.2 (put6_mv w1 w.heap.size (.int .i64 x.kind) (.int .u64 (limb x.set 0)) (.int .u64 (limb x.set 1)) (.int .u64 (limb x.set 2)) (.int .u64 (limb x.set 3)) (.slice a x.args.length c)).size) P3.out (wholeS_tall HR0.out HL.out)
    unfold xv at hmay
    clear hw P1 P2
    go_wp2_with fail
    refine hmay.mono ?_
    rintro e2 w2 ⟨rfl, q2⟩
    have B3 : Hid _ := B2.out.mv q2.out (fun j e => e.elim)
    have P4 : Hid (Parts x.args (fun j => w.heap.size + 3 ≤ j ∧ j < w1.heap.size) w2 a c) := P3.out.mv q2.out (fun _ _ h => h)
    by_cases hm : may x = 0
    · have HE : Hid (s = .ok x) := by show _ = _; rw [HS0.out]; unfold prsX; rw [HR0.out]; simp [hm]
      rw [hm] 
      clear k1 f1 z0 z1 z2 z3 z4 z5 g0 g1 g2 g3 g4 g5 hmay hm
      obtain ⟨k1, f1⟩ := P5.facts B3
      obtain ⟨z0, z1, z2, z3, z4, z5, g0, g1, g2, g3, g4, g5⟩ := B6.facts (show Hid _ from B3.out.z)
      go_wp2_with fail
      refine (rmust_ok _).mono ?_
      rintro e3 w3 ⟨rfl, hw3⟩
      obtain rfl := hw3.symm
      go_wp2_with fail
      have B4 : Hid _ := B3.out.put (.int .i64 x.kind) (.int .u64 (limb x.set 0)) (.int .u64 (limb x.set 1)) (.int .u64 (limb x.set 2)) (.int .u64 (limb x.set 3)) (.slice a x.args.length c)
      have hc4 := (P5.facts B4).1
      have m4 := Mv.setCell (put6 w2 w.heap.size (.int .i64 x.kind) (.int .u64 (limb x.set 0)) (.int .u64 (limb x.set 1)) (.int .u64 (limb x.set 2)) (.int .u64 (limb x.set 3)) (.slice a x.args.length c)) ⟨w.heap.size + 1, 0, none⟩ (.int .i64 0)
      have c1 := (B6.mv B4.out.z m4 (by simp)).out
      have c2 := World.cell?_setCell_same (put6 w2 w.heap.size (.int .i64 x.kind) (.int .u64 (limb x.set 0)) (.int .u64 (limb x.set 1)) (.int .u64 (limb x.set 2)) (.int .u64 (limb x.set 3)) (.slice a x.args.length c)) ⟨w.heap.size + 1, 0, none⟩ (.int .i64 0) hc4
      have c3 : Qt w _ := Mv.trans B4.out.qt m4 (fun j hj e => by simp at e; omega)
      have c4 : Parts x.args (fun j => w.heap.size ≤ j) _ a c := ((P4.out.mv (put6_mv w2 w.heap.size (.int .i64 x.kind) (.int .u64 (limb x.set 0)) (.int .u64 (limb x.set 1)) (.int .u64 (limb x.set 2)) (.int .u64 (limb x.set 3)) (.slice a x.args.length c)) (fun j hj e => by omega)).mv m4 (fun j hj e => by simp at e; omega)).mono (fun j hj => by omega)
      refine leaves_cons (f := 29) (args := #[.pointer (some ⟨w.heap.size, 0, none⟩), .pointer (some ⟨w.heap.size + 1, 0, none⟩)]) (by simp) (by simp [go_sem]) ?_
      refine (catchX_idle ⟨w.heap.size, 0, none⟩ ⟨w.heap.size + 1, 0, none⟩ _).mono ?_
      rintro e u' w'' ⟨rfl, rfl, rfl⟩
      refine ⟨_, results14 _ _ w.heap.size _ _ _ _ _ _ _ rfl rfl c1 c2, ?_⟩
      rw [HE.out]
      exact ⟨a, c, rfl, c4, c3⟩
    · have HE : Hid (s = .error (may x)) := by show _ = _; rw [HS0.out]; unfold prsX; rw [HR0.out]; simp [hm]
      have C := Pt.bad B3.out (may x)
      clear k1 f1 z0 z1 z2 z3 z4 z5 g0 g1 g2 g3 g4 g5 hmay
      obtain ⟨k1, f1⟩ := P5.facts B3
      generalize may x = n at *
      go_wp2_with fail
      refine (rmust_bad n hm _).mono ?_
      rintro e3 w3 ⟨rfl, hw3⟩
      obtain rfl := hw3.symm
      refine leaves_cons (f := 29) (args := #[.pointer (some ⟨w.heap.size, 0, none⟩), .pointer (some ⟨w.heap.size + 1, 0, none⟩)]) (by simp) (by simp [go_sem]) ?_
      refine (catchX_panicking n w.heap.size _ _ _ _ _ _ _ _ (show Hid _ from B3.out.z) k1 f1).mono ?_
      rintro e u' w'' ⟨rfl, rfl, rfl⟩
      refine ⟨_, results14 _ _ w.heap.size _ _ _ _ _ _ _ rfl rfl C.1 C.2.1, ?_⟩
      rw [HE.out]
      exact ⟨rfl, C.2.2⟩

end Go.Proofs.YtkclkhfcmjhogaaDoor
