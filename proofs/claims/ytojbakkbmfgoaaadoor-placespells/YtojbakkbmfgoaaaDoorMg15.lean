/- isNew: a row is noted. -/
import Derived.Test.YtojbakkbmfgoaaaDoorMsK3
import Derived.Maps.OwnOps
import Derived.Test.YtojbakkbmfgoaaaDoorMg09
namespace Go.Proofs.YtojbakkbmfgoaaaDoor
open Go.RowKit Go.Maps
set_option linter.unusedVariables false

theorem wp_lookup_run {P : Program} (w : World) {ops : Array Oper} {rest : List Oper} {o : Oper} {a : Act} {Q : Exit → Act → World → Prop}
    (hg : o.guard = none) (m x : Operand) (t : TypeId) (hop : o.op = Op.lookup t m x true) (mv xv v : Value) (hm : a.eval m = mv) (hx : a.eval x = xv)
    (hrun : (Instr.lookup t mv xv true).run P w = .ok v w) (hK : wpList P ops Q rest (a.put o.dst v) w) : wpList P ops Q (o :: rest) a w := by
  refine wpList_plain hg fun K' hK' => ?_
  unfold Oper.wp
  simp [execOp, hop, hm, hx, hrun, Result.andThen]
  exact hK' _ _ hK
theorem wp_update_run {P : Program} (w w' : World) {ops : Array Oper} {rest : List Oper} {o : Oper} {a : Act} {Q : Exit → Act → World → Prop}
    (hg : o.guard = none) (m x v : Operand) (t : TypeId) (hop : o.op = Op.mapUpdate t m x v) (mv xv vv : Value) (hm : a.eval m = mv) (hx : a.eval x = xv) (hv : a.eval v = vv)
    (hrun : (Instr.mapUpdate t mv xv vv).run P w = .ok () w') (hK : wpList P ops Q rest (a.put o.dst undef) w') : wpList P ops Q (o :: rest) a w := by
  refine wpList_plain hg fun K' hK' => ?_
  unfold Oper.wp
  simp [execOp, hop, hm, hx, hv, hrun, Result.andThen]
  exact hK' _ _ hK

/-- What is noted behind. -/
def noted (L : List (Int × Addr × Nat)) (r : Int × Addr × Nat) : List (Int × Addr × Nat) := if L.contains r then L else L ++ [r]

set_option maxHeartbeats 1000000 in
theorem isNew_none (m : Nat) (k : Int) (p : Nat → Bool) (a : Option Addr) (c : Nat) (w : World) : Calls Tryd.prog 47 #[.map (some m), xv k p a 0 c] w fun e w' => e = .returned (.bool false) ∧ Hid (Qt w w') := by
  unfold xv
  generalize limb p 0 = x0 at *
  generalize limb p 1 = x1 at *
  generalize limb p 2 = x2 at *
  generalize limb p 3 = x3 at *
  go_enter Tryd.func47, Tryd.ntmps47
  go_wp2_with fail
  go_ret
  exact ⟨rfl, (Qt.refl w).alloc _⟩

set_option maxHeartbeats 1000000 in
theorem isNew_some (m : Nat) (k : Int) (p : Nat → Bool) (b o n c : Nat) (L : List (Int × Addr × Nat)) (w : World) (hn : 0 < n) (hL : Hid (Mk m L w)) (hf : Hid (Flat w ⟨b, o, none⟩)) (hm : Hid (b ≠ m ∧ ∀ s ∈ L, s.2.1.block ≠ m)) (bb : Bool) (hbb : Hid (L.contains (k, ⟨b, o, none⟩, n) = bb)) :
    Calls Tryd.prog 47 #[.map (some m), xv k p (some ⟨b, o, none⟩) n c] w fun e w' => e = .returned (.bool (!bb)) ∧ Hid (Mv (fun j => j = m) w w' ∧ Mk m (noted L (k, ⟨b, o, none⟩, n)) w') := by
  unfold xv
  generalize limb p 0 = x0 at *
  generalize limb p 1 = x1 at *
  generalize limb p 2 = x2 at *
  generalize limb p 3 = x3 at *
  have hz : ((n : Int) == 0) = false := by simp; omega
  have hz1 : (0 : Int) < (n : Int) := by omega
  go_enter Tryd.func47, Tryd.ntmps47
  go_wp2_with fail
  go_region
  obtain ⟨W, hW⟩ : ∃ W, W = ((w.alloc (.cells #[.int .i64 k, .int .u64 x0, .int .u64 x1, .int .u64 x2, .int .u64 x3, .slice (some ⟨b, o, none⟩) n c] 29)).alloc (.cells #[.int .i64 k, .pointer (some ⟨b, o, none⟩), .int .i64 n] 95)).drew := ⟨_, rfl⟩
  have hq : Qt w W := by rw [hW]; exact (((Qt.refl w).alloc _).alloc _).drew
  have hh : W.heap[w.heap.size + 1]? = some (.cells #[.int .i64 k, .pointer (some ⟨b, o, none⟩), .int .i64 n] 95 (0, 0)) := by rw [hW]; exact heap_alloc2_new _ _ _
  rw [← hW]
  clear hW
  have c0 : W.cell? ⟨w.heap.size + 1, 0, none⟩ = some (.int .i64 k) := by simp [World.cell?, hh]
  have c1 : W.cell? ⟨w.heap.size + 1, 1, none⟩ = some (.pointer (some ⟨b, o, none⟩)) := by simp [World.cell?, hh]
  have c2 : W.cell? ⟨w.heap.size + 1, 2, none⟩ = some (.int .i64 n) := by simp [World.cell?, hh]
  have HL : Hid (Mk m L W) := hL.out.mv hq (fun h => h) (fun _ _ h => h)
  have HF : Hid (Flat W ⟨b, o, none⟩) := hf.out.mv hq (fun h => h)
  have HQ : Hid (Qt w W) := hq
  have LK : (Instr.lookup 86 (.map (some m)) (.agg #[.int .i64 k, .pointer (some ⟨b, o, none⟩), .int .i64 n]) true).run Tryd.prog W = .ok (.tuple #[.agg #[], .bool bb]) W := by rw [← hbb.out]; exact HL.out.look (k, ⟨b, o, none⟩, n) HF.out
  clear hh hq
  have HB := hbb
  clear hbb
  cases bb with
  | true =>
    have HC : Hid (noted L (k, ⟨b, o, none⟩, n) = L) := by show _ = _; unfold noted; rw [if_pos HB.out]
    have LH : Hid _ := LK
    clear LK
    go_wp2_with (at_lookup; refine wp_lookup_run _ rfl _ _ 86 rfl _ _ _ rfl rfl LH.out ?_)
    go_ret
    refine ⟨rfl, ?_, ?_⟩
    · exact ((HQ.out.alloc _).mono (fun _ _ h => h.elim))
    · rw [HC.out]; exact HL.out.mv (Mv.alloc (fun _ => False) W _) (fun h => h) (fun _ _ h => h)
  | false =>
    have HC : Hid (noted L (k, ⟨b, o, none⟩, n) = L ++ [(k, ⟨b, o, none⟩, n)]) := by show _ = _; unfold noted; rw [if_neg (by rw [HB.out]; decide)]
    have QA : Qt W (W.alloc (.cells #[] 96)) := Mv.alloc _ _ _
    obtain ⟨W2, U1, U2, U3⟩ := (HL.out.mv QA (fun h => h) (fun _ _ h => h)).put (k, ⟨b, o, none⟩, n) (HF.out.mv QA (fun h => h)) HB.out
    have d0 := Qt.keep (w := W) (w' := W.alloc (.cells #[] 96)) QA c0
    have d1 := Qt.keep (w := W) (w' := W.alloc (.cells #[] 96)) QA c1
    have d2 := Qt.keep (w := W) (w' := W.alloc (.cells #[] 96)) QA c2
    clear QA
    have LH : Hid _ := LK
    have UH : Hid ((Instr.mapUpdate 86 (.map (some m)) (.agg #[.int .i64 k, .pointer (some ⟨b, o, none⟩), .int .i64 n]) (.agg #[])).run Tryd.prog (W.alloc (.cells #[] 96)) = .ok () W2) := U1
    have V2 : Hid _ := U2
    have V3 : Hid _ := U3
    clear LK U1 U2 U3
    go_wp2_with (first | (at_lookup; refine wp_lookup_run _ rfl _ _ 86 rfl _ _ _ rfl rfl LH.out ?_) | (at_mapUpdate; refine wp_update_run _ _ rfl _ _ _ 86 rfl _ _ _ rfl rfl rfl UH.out ?_))
    go_ret
    refine ⟨rfl, ?_, ?_⟩
    · exact Mv.trans ((HQ.out.alloc _).mono (fun _ _ h => h.elim)) V2.out (fun _ _ h => h)
    · rw [HC.out]; exact V3.out hm.out.1 hm.out.2

end Go.Proofs.YtojbakkbmfgoaaaDoor

namespace Go.Proofs.YtojbakkbmfgoaaaDoor
open Go.RowKit
set_option linter.unusedVariables false

/-- How many stand on the list while a tree is looked through. -/
def RX.tall : RX → Nat := RX.fold (fun _ _ l R => l.length + maxl R + 1)
theorem tall_eq (k : Int) (p : Nat → Bool) (l : List RX) : RX.tall ⟨k, p, l⟩ = l.length + maxl (l.map RX.tall) + 1 := by rw [RX.tall, RX.fold_eq]
theorem tall_at (x : RX) : x.tall = x.args.length + maxl (x.args.map RX.tall) + 1 := by obtain ⟨k, p, l⟩ := x; exact tall_eq k p l
theorem nodes_at (x : RX) : x.nodes = 1 + (x.args.map RX.nodes).sum := by obtain ⟨k, p, l⟩ := x; exact nodes_eq k p l
theorem nodes_pos (x : RX) : 1 ≤ x.nodes := by rw [nodes_at]; omega
theorem formed_at (x : RX) : x.formed = (x.node && (x.args.all (fun a => decide (lvl a.kind ≠ lvl x.kind)) && x.args.all RX.formed)) := by obtain ⟨k, p, l⟩ := x; exact formed_eq k p l
theorem len_le_sum (l : List RX) : l.length ≤ (l.map RX.nodes).sum := by
  induction l with
  | nil => simp
  | cons x l ih => have := nodes_pos x; simp; omega
theorem mem_le_sum {l : List RX} {x : RX} (h : x ∈ l) : x.nodes + l.length ≤ (l.map RX.nodes).sum + 1 := by
  induction l with
  | nil => cases h
  | cons y l ih =>
    simp only [List.length_cons, List.map_cons, List.sum_cons]
    rcases List.mem_cons.1 h with e | e
    · have := len_le_sum l; rw [e]; omega
    · have := ih e; have := nodes_pos y; omega
theorem tall_nodes : ∀ x : RX, x.tall + 1 ≤ 2 * x.nodes := by
  refine RX.ind ?_
  intro k p l ih
  rw [tall_eq, nodes_eq]
  cases l with
  | nil => simp [maxl]
  | cons x l =>
    have : maxl ((x :: l).map RX.tall) + (x :: l).length ≤ 2 * ((x :: l).map RX.nodes).sum := by
      have h1 : ∀ n ∈ (x :: l).map RX.tall, n + (x :: l).length ≤ 2 * ((x :: l).map RX.nodes).sum := by
        intro n hn
        obtain ⟨y, hy, rfl⟩ := List.mem_map.1 hn
        have h2 := ih y hy
        have h3 := mem_le_sum hy
        have h4 := nodes_pos y
        have h5 := len_le_sum (x :: l)
        simp only [List.length_cons] at *
        omega
      generalize (x :: l).map RX.tall = T at *
      have h6 : (x :: l).length ≤ 2 * ((x :: l).map RX.nodes).sum := by have := len_le_sum (x :: l); omega
      generalize (x :: l).length = n at *
      generalize ((x :: l).map RX.nodes).sum = s at *
      clear ih
      induction T with
      | nil => simp [maxl]; omega
      | cons t T ih =>
        have := h1 t (by simp)
        have := ih (fun n hn => h1 n (by simp [hn]))
        rw [maxl]; omega
    omega

theorem sameL_iff : ∀ {l m : List RX}, l.length = m.length → (sameX.sameL l m = true ↔ ∀ (i : Nat) (a b : RX), l[i]? = some a → m[i]? = some b → sameX a b = true)
  | [], [], _ => by simp [sameX.sameL]
  | [], _ :: _, h => by simp at h
  | _ :: _, [], h => by simp at h
  | x :: l, y :: m, h => by
    rw [sameX.sameL]
    simp only [Bool.and_eq_true]
    rw [sameL_iff (l := l) (m := m) (by simpa using h)]
    constructor
    · rintro ⟨h1, h2⟩ i a b ha hb
      cases i with
      | zero => simp at ha hb; rw [← ha, ← hb]; exact h1
      | succ i => exact h2 i a b (by simpa using ha) (by simpa using hb)
    · intro h1
      exact ⟨h1 0 x y rfl rfl, fun i a b ha hb => h1 (i + 1) a b (by simpa using ha) (by simpa using hb)⟩
theorem sameX_iff {x y : RX} : sameX x y = true ↔ x.kind = y.kind ∧ Like x.set y.set ∧ x.args.length = y.args.length ∧ ∀ (i : Nat) (a b : RX), x.args[i]? = some a → y.args[i]? = some b → sameX a b = true := by
  obtain ⟨k, p, l⟩ := x
  rw [sameX]
  simp only [Bool.and_eq_true, decide_eq_true_eq, same_like]
  constructor
  · rintro ⟨h1, h2, h3, h4⟩
    exact ⟨h1, h2, h3, (sameL_iff h3).1 h4⟩
  · rintro ⟨h1, h2, h3, h4⟩
    exact ⟨h1, h2, h3, (sameL_iff h3).2 h4⟩
theorem get_of {l m : List RX} (h : l.length = m.length) {i : Nat} {a : RX} (ha : l[i]? = some a) : ∃ b, m[i]? = some b := by
  have := (List.getElem?_eq_some_iff.1 ha).1
  exact ⟨_, List.getElem?_eq_getElem (by omega)⟩
theorem sameX_trans : ∀ (x y z : RX), sameX x y = true → sameX y z = true → sameX x z = true := by
  refine RX.ind ?_
  intro k p l ih y z h g
  rw [sameX_iff] at h g ⊢
  refine ⟨h.1.trans g.1, fun b hb => (h.2.1 b hb).trans (g.2.1 b hb), h.2.2.1.trans g.2.2.1, ?_⟩
  intro i a c ha hc
  obtain ⟨b, hb⟩ := get_of h.2.2.1 ha
  exact ih a (List.mem_of_getElem? ha) b c (h.2.2.2 i a b ha hb) (g.2.2.2 i b c hb hc)
theorem sameX_refl : ∀ x : RX, sameX x x = true := by
  refine RX.ind ?_
  intro k p l ih
  rw [sameX_iff]
  refine ⟨rfl, fun _ _ => rfl, rfl, fun i a b ha hb => ?_⟩
  rw [ha] at hb
  cases hb
  exact ih a (List.mem_of_getElem? ha)
/-- Two trees in one place are alike. -/
theorem parts_same : ∀ (x y : RX) (K J : Nat → Prop) (w : World) (a : Option Addr) (c d : Nat), Parts x.args K w a c → Parts y.args J w a d → x.args.length = y.args.length → ∀ (i : Nat) (u v : RX), x.args[i]? = some u → y.args[i]? = some v → sameX u v = true := by
  refine RX.ind ?_
  intro k p l ih y K J w a c d h g hl i u v hu hv
  obtain ⟨b, o, a', c', e1, p1, q0, q1, q2, q3, q4, q5⟩ := h.at hu
  obtain ⟨b2, o2, a2, c2, e2, p2, r0, r1, r2, r3, r4, r5⟩ := g.at hv
  rw [e1] at e2
  cases e2
  rw [q0] at r0; rw [q1] at r1; rw [q2] at r2; rw [q3] at r3; rw [q4] at r4; rw [q5] at r5
  simp only [Option.some.injEq, Value.int.injEq, true_and, Value.slice.injEq, Int.natCast_inj] at r0 r1 r2 r3 r4 r5
  obtain ⟨rfl, hl2, rfl⟩ := r5
  rw [sameX_iff]
  refine ⟨r0, ?_, hl2, ih u (List.mem_of_getElem? hu) v K J w a' c' c' p1 p2 hl2⟩
  exact like_limb (fun i hi => by
    rcases (show i = 0 ∨ i = 1 ∨ i = 2 ∨ i = 3 from by omega) with rfl | rfl | rfl | rfl <;> assumption)
theorem like_any {p q : Nat → Bool} (h : Like p q) : any p = any q := by
  rw [Bool.eq_iff_iff, any_true, any_true]
  constructor
  · rintro ⟨b, hb, g⟩; exact ⟨b, hb, by rw [← h b hb]; exact g⟩
  · rintro ⟨b, hb, g⟩; exact ⟨b, hb, by rw [h b hb]; exact g⟩
theorem same_node {x y : RX} (h : sameX x y = true) : x.node = y.node := by
  rw [sameX_iff] at h
  unfold RX.node Proofs.YtojbakkbmfgoaaaDoor.node
  rw [h.1, like_any h.2.1, h.2.2.1]

/-- One kind, and the same parts. -/
def Ak (x y : RX) : Prop := x.kind = y.kind ∧ x.args.length = y.args.length ∧ ∀ (i : Nat) (u v : RX), x.args[i]? = some u → y.args[i]? = some v → sameX u v = true
theorem Ak.of {x y z : RX} (h : sameX x y = true) (g : Ak y z) : Ak x z := by
  rw [sameX_iff] at h
  refine ⟨h.1.trans g.1, h.2.2.1.trans g.2.1, fun i u v hu hv => ?_⟩
  obtain ⟨b, hb⟩ := get_of h.2.2.1 hu
  exact sameX_trans u b v (h.2.2.2 i u b hu hb) (g.2.2 i b v hb hv)
/-- Is it noted? -/
def Kn (N : List RX) (x : RX) : Prop := x.args = [] ∨ ∃ y ∈ N, Ak x y
/-- All that stands in t was looked at. -/
def Seen1 (N : List RX) (t a : RX) : Prop := a.node = true ∧ lvl a.kind ≠ lvl t.kind ∧ Kn N a
def Done (N : List RX) (t : RX) : Prop := ∀ a ∈ t.args, Seen1 N t a
theorem Seen1.more {N : List RX} {t a : RX} (h : Seen1 N t a) (y : RX) : Seen1 (N ++ [y]) t a := by
  refine ⟨h.1, h.2.1, ?_⟩
  rcases h.2.2 with g | ⟨z, hz, g⟩
  · exact .inl g
  · exact .inr ⟨z, by simp [hz], g⟩
/-- The notes: which keys, for which trees. -/
def Nt (K : Nat → Prop) (w : World) (L : List (Int × Addr × Nat)) (N : List RX) : Prop :=
  ∀ r ∈ L, K r.2.1.block ∧ ∃ y ∈ N, ∃ c, Parts y.args K w (some r.2.1) c ∧ y.kind = r.1 ∧ y.args.length = r.2.2
/-- The list, the notes, and what is being looked into. -/
structure Fm (X : RX) (N : List RX) (Td : List RX) (cur : Option RX) : Prop where
  sub : X.formed = true → ∀ t ∈ Td, t.formed = true
  cf : X.formed = true → ∀ t, cur = some t → t.formed = true
  keys : ∀ y ∈ N, y ∈ Td ∨ Done N y ∨ cur = some y
  root : X ∈ Td ∨ Done N X ∨ cur = some X
/-- The list is empty: all is formed. -/
theorem Fm.end {X : RX} {N : List RX} (h : Fm X N [] none) (hn : X.node = true) : X.formed = true := by
  have key : ∀ t : RX, t.node = true → Kn N t → t.formed = true := by
    refine RX.ind ?_
    intro k p l ih hn hk
    rw [formed_at, hn, Bool.true_and]
    rcases hk with hk | ⟨y, hy, hkk, hl, hs⟩
    · rw [hk]; rfl
    · have hD : Done N y := by
        rcases h.keys y hy with hd | hd | hd
        · cases hd
        · exact hd
        · cases hd
      have hall : ∀ x ∈ l, lvl x.kind ≠ lvl k ∧ x.formed = true := by
        intro x hx
        obtain ⟨i, hi⟩ := List.getElem?_of_mem hx
        obtain ⟨z, hz⟩ := get_of hl hi
        have hsx := hs i x z hi hz
        obtain ⟨s1, s2, s3⟩ := hD z (List.mem_of_getElem? hz)
        have hx2 := sameX_iff.1 hsx
        have hkk' : k = y.kind := hkk
        refine ⟨by rw [hx2.1, hkk']; exact s2, ih x hx (by rw [same_node hsx]; exact s1) ?_⟩
        rcases s3 with s3 | ⟨v, hv, s3⟩
        · exact .inl (List.length_eq_zero_iff.1 (by rw [hx2.2.2.1, s3]; rfl))
        · exact .inr ⟨v, hv, s3.of hsx⟩
      rw [Bool.and_eq_true, List.all_eq_true, List.all_eq_true]
      exact ⟨fun x hx => decide_eq_true (hall x hx).1, fun x hx => (hall x hx).2⟩
  rw [formed_at, hn, Bool.true_and, Bool.and_eq_true, List.all_eq_true, List.all_eq_true]
  have hD : Done N X := by
    rcases h.root with hd | hd | hd
    · cases hd
    · exact hd
    · cases hd
  exact ⟨fun x hx => decide_eq_true (hD x hx).2.1, fun x hx => key x (hD x hx).1 (hD x hx).2.2⟩
theorem formed_part {x a : RX} (h : x.formed = true) (ha : a ∈ x.args) : a.formed = true ∧ a.node = true ∧ lvl a.kind ≠ lvl x.kind := by
  rw [formed_at, Bool.and_eq_true, Bool.and_eq_true, List.all_eq_true, List.all_eq_true] at h
  have h1 := h.2.2 a ha
  have h2 := h.2.1 a ha
  refine ⟨h1, ?_, of_decide_eq_true h2⟩
  rw [formed_at, Bool.and_eq_true] at h1
  exact h1.1
/-- The last one is taken to be looked into. -/
theorem Fm.take {X t : RX} {N Td : List RX} (h : Fm X N (Td ++ [t]) none) : Fm X N Td (some t) := by
  refine ⟨fun hf u hu => h.sub hf u (by simp [hu]), fun hf u hu => by cases hu; exact h.sub hf t (by simp), fun y hy => ?_, ?_⟩
  · rcases h.keys y hy with g | g | g
    · rcases List.mem_append.1 g with g | g
      · exact .inl g
      · simp at g; rw [g]; exact .inr (.inr rfl)
    · exact .inr (.inl g)
    · cases g
  · rcases h.root with g | g | g
    · rcases List.mem_append.1 g with g | g
      · exact .inl g
      · simp at g; rw [g]; exact .inr (.inr rfl)
    · exact .inr (.inl g)
    · cases g
/-- One of its parts is noted, and laid on the list. -/
theorem Fm.push {X t a : RX} {N Td : List RX} (h : Fm X N Td (some t)) (ha : a ∈ t.args) : Fm X (N ++ [a]) (Td ++ [a]) (some t) := by
  have hm : ∀ y, Done N y → Done (N ++ [a]) y := fun y hd b hb => (hd b hb).more a
  refine ⟨fun hf u hu => ?_, h.cf, fun y hy => ?_, ?_⟩
  · rcases List.mem_append.1 hu with hu | hu
    · exact h.sub hf u hu
    · simp at hu; rw [hu]; exact (formed_part (h.cf hf t rfl) ha).1
  · rcases List.mem_append.1 hy with hy | hy
    · rcases h.keys y hy with g | g | g
      · exact .inl (by simp [g])
      · exact .inr (.inl (hm y g))
      · exact .inr (.inr g)
    · simp at hy; rw [hy]; exact .inl (by simp)
  · rcases h.root with g | g | g
    · exact .inl (by simp [g])
    · exact .inr (.inl (hm X g))
    · exact .inr (.inr g)
/-- All of it was looked at. -/
theorem Fm.give {X t : RX} {N Td : List RX} (h : Fm X N Td (some t)) (hd : Done N t) : Fm X N Td none := by
  refine ⟨h.sub, fun _ u hu => (by cases hu), fun y hy => ?_, ?_⟩
  · rcases h.keys y hy with g | g | g
    · exact .inl g
    · exact .inr (.inl g)
    · cases g; exact .inr (.inl hd)
  · rcases h.root with g | g | g
    · exact .inl g
    · exact .inr (.inl g)
    · cases g; exact .inr (.inl hd)
theorem Nt.more {K : Nat → Prop} {w : World} {L : List (Int × Addr × Nat)} {N : List RX} (h : Nt K w L N) {a : RX} {q : Addr} {c : Nat} (hp : Parts a.args K w (some q) c) : Nt K w (L ++ [(a.kind, q, a.args.length)]) (N ++ [a]) := by
  intro r hr
  rcases List.mem_append.1 hr with hr | hr
  · obtain ⟨h1, y, hy, h2⟩ := h r hr
    exact ⟨h1, y, by simp [hy], h2⟩
  · simp at hr
    subst hr
    obtain ⟨ys, hk, _⟩ := hp
    exact ⟨(hk q rfl).1, a, by simp, c, ⟨ys, hk, by assumption⟩, rfl, rfl⟩
theorem Nt.known {K : Nat → Prop} {w : World} {L : List (Int × Addr × Nat)} {N : List RX} (h : Nt K w L N) {a : RX} {q : Addr} {c : Nat} (hp : Parts a.args K w (some q) c) (hr : (a.kind, q, a.args.length) ∈ L) : Kn N a := by
  obtain ⟨_, y, hy, d, h2, h3, h4⟩ := h _ hr
  exact .inr ⟨y, hy, h3.symm, h4.symm, parts_same a y K K w (some q) c d hp h2 h4.symm⟩

end Go.Proofs.YtojbakkbmfgoaaaDoor
