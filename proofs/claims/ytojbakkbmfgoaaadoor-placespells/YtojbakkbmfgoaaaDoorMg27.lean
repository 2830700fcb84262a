/- The reference's May: nodes, depth, form, of what may be. -/
import Derived.Test.YtojbakkbmfgoaaaDoorMg16
import Derived.Test.YtojbakkbmfgoaaaDoorMg10
import Derived.Test.YtojbakkbmfgoaaaDoorMg26
import Derived.Laws.IdiomStrings
namespace Go.Proofs.YtojbakkbmfgoaaaDoor
open Go.RowKit
set_option linter.unusedVariables false

/-- The deepest of the first i parts. -/
def deeps (l : List RX) (i : Nat) : Nat := maxl ((l.take i).map RX.depth)
theorem maxl_append (l : List Nat) (n : Nat) : maxl (l ++ [n]) = max (maxl l) n := by
  induction l with
  | nil => simp [maxl]
  | cons x l ih => rw [List.cons_append, maxl, maxl, ih]; omega
theorem deeps_succ {l : List RX} {i : Nat} {x : RX} (h : l[i]? = some x) : deeps l (i + 1) = max (deeps l i) x.depth := by
  unfold deeps
  rw [List.take_add_one, h]
  simp [maxl_append]
theorem deeps_all (l : List RX) : deeps l l.length = maxl (l.map RX.depth) := by unfold deeps; rw [List.take_length]
theorem maxl_mem {l : List Nat} {n : Nat} (h : n ∈ l) : n ≤ maxl l := by
  induction l with
  | nil => cases h
  | cons x l ih =>
    rw [maxl]
    rcases List.mem_cons.1 h with e | e
    · omega
    · have := ih e; omega
theorem deeps_le (l : List RX) (i : Nat) : deeps l i ≤ maxl (l.map RX.depth) := by
  unfold deeps
  generalize hk : (l.take i).map RX.depth = k
  have : ∀ n ∈ k, n ≤ maxl (l.map RX.depth) := by
    intro n hn
    rw [← hk] at hn
    obtain ⟨x, hx, rfl⟩ := List.mem_map.1 hn
    exact maxl_mem (List.mem_map.2 ⟨x, List.mem_of_mem_take hx, rfl⟩)
  clear hk
  revert this
  induction k with
  | nil => intro _; simp [maxl]
  | cons x k ih =>
    intro h
    have h1 := h x (by simp)
    have h2 := ih (fun n hn => h n (by simp [hn]))
    rw [maxl]; omega
theorem depth_at (x : RX) : x.depth = maxl (x.args.map RX.depth) + 1 := by obtain ⟨k, p, l⟩ := x; exact depth_eq k p l

def NoC (x : RX) : Prop := ∀ (K : Nat → Prop) (a : Option Addr) (c : Nat) (w : World), Hid (Parts x.args K w a c) → x.nodes < 1000000 → Calls Tryd.prog 39 #[.agg #[.int .i64 x.kind, .int .u64 (limb x.set 0), .int .u64 (limb x.set 1), .int .u64 (limb x.set 2), .int .u64 (limb x.set 3), .slice a x.args.length c]] w fun e w' => e = .returned (.int .i64 (x.nodes : Nat)) ∧ Hid (Qt w w')

set_option maxRecDepth 20000 in
set_option maxHeartbeats 4000000 in
theorem nodes_step (x : RX) (IH : ∀ z ∈ x.args, NoC z) : NoC x := by
  intro K a c w HX hn
  have HI : Hid _ := IH
  have HN : Hid (x.nodes = 1 + used x.args x.args.length) := by show _ = _; rw [nodes_at, used_all]
  have HL : Hid (∀ i, used x.args i + 1 ≤ x.nodes) := fun i => by have := used_le x.args i; rw [nodes_at]; omega
  have HB : Hid (x.nodes < 1000000) := hn
  have hbig : x.args.length < 140737488355328 := by obtain ⟨_, _, _, h, _⟩ := HX.out; exact h.1
  have Q0 : Hid (Qt w (w.alloc (.cells #[.int .i64 x.kind, .int .u64 (limb x.set 0), .int .u64 (limb x.set 1), .int .u64 (limb x.set 2), .int .u64 (limb x.set 3), .slice a x.args.length c] 29))) := (Qt.refl w).alloc _
  have PX : Hid (B6 w.heap.size (.int .i64 x.kind) (.int .u64 (limb x.set 0)) (.int .u64 (limb x.set 1)) (.int .u64 (limb x.set 2)) (.int .u64 (limb x.set 3)) (.slice a x.args.length c) (w.alloc (.cells #[.int .i64 x.kind, .int .u64 (limb x.set 0), .int .u64 (limb x.set 1), .int .u64 (limb x.set 2), .int .u64 (limb x.set 3), .slice a x.args.length c] 29))) := heap_alloc_new w _
  clear IH hn
  go_enter Tryd.func39, Tryd.ntmps39
  go_wp2_with fail
  generalize w.alloc (.cells #[.int .i64 x.kind, .int .u64 (limb x.set 0), .int .u64 (limb x.set 1), .int .u64 (limb x.set 2), .int .u64 (limb x.set 3), .slice a x.args.length c] 29) = W0 at *
  go_loopw [3, 4] (fun s3 s4 wr => ∃ i : Nat, i ≤ x.args.length ∧ s4 = .int .i64 i ∧ s3 = .int .i64 (1 + used x.args i : Nat) ∧ Hid (Qt W0 wr)) (fun _ s4 _ => x.args.length - (intOf s4).toNat)
  case atStart => exact ⟨0, by omega, rfl, rfl, Qt.refl W0⟩
  case round =>
    obtain ⟨i, hi, rfl, rfl, B⟩ := hrel
    obtain ⟨_, _, _, _, _, k5, _⟩ := B6.facts (B6.mv PX.out B.out (fun h => h))
    have hu1 := HL.out i
    by_cases hlt : i < x.args.length
    · obtain ⟨u, hu⟩ : ∃ u, x.args[i]? = some u := ⟨_, List.getElem?_eq_getElem hlt⟩
      have QW : Hid (Qt w wr) := Q0.out.comp B.out
      obtain ⟨bu, ou, au, cu, ea, pu, e0, e1, e2, e3, e4, e5⟩ := (HX.out.mv QW.out (fun _ _ h => h)).at hu
      subst ea
      have hus := used_succ hu
      have hun := HL.out (i + 1)
      have hb := HB.out
      have hcall := HI.out u (List.mem_of_getElem? hu) K au cu wr (show Hid _ from pu) (by omega)
      have hz : ((1 + used x.args i : Nat) : Int) + (u.nodes : Int) = ((1 + used x.args (i + 1) : Nat) : Int) := by omega
      have hb1 : -1000000 ≤ ((1 + used x.args i : Nat) : Int) + (u.nodes : Int) ∧ ((1 + used x.args i : Nat) : Int) + (u.nodes : Int) ≤ 1000000 := by omega
      generalize ((1 + used x.args i : Nat) : Int) = y0 at *
      generalize hy1 : ((1 + used x.args (i + 1) : Nat) : Int) = y1 at *
      generalize (u.nodes : Int) = y2 at *
      have HY : Hid (((1 + used x.args (i + 1) : Nat) : Int) = y1) := hy1
      clear hu pu hus hun hb hu1 hy1
      go_wp2_with fail
      refine hcall.mono ?_
      rintro e9 w9 ⟨rfl, q9⟩
      go_wp2_with fail
      exact ⟨⟨i + 1, by omega, by go_num, by rw [HY.out], B.out.comp q9.out⟩, by simp [intOf]; omega⟩
    · obtain rfl : i = x.args.length := by omega
      go_wp2_with fail
      go_ret
      exact ⟨by rw [HN.out]; rfl, Q0.out.comp B.out⟩

def DeC (x : RX) : Prop := ∀ (K : Nat → Prop) (a : Option Addr) (c : Nat) (w : World), Hid (Parts x.args K w a c) → x.depth < 1000000 → Calls Tryd.prog 40 #[.agg #[.int .i64 x.kind, .int .u64 (limb x.set 0), .int .u64 (limb x.set 1), .int .u64 (limb x.set 2), .int .u64 (limb x.set 3), .slice a x.args.length c]] w fun e w' => e = .returned (.int .i64 (x.depth : Nat)) ∧ Hid (Qt w w')

set_option maxRecDepth 20000 in
set_option maxHeartbeats 4000000 in
theorem depth_step (x : RX) (IH : ∀ z ∈ x.args, DeC z) : DeC x := by
  intro K a c w HX hn
  have HI : Hid _ := IH
  have HN : Hid (x.depth = deeps x.args x.args.length + 1) := by show _ = _; rw [depth_at, deeps_all]
  have HL : Hid (∀ i, deeps x.args i + 1 ≤ x.depth) := fun i => by have := deeps_le x.args i; rw [depth_at]; omega
  have HB : Hid (x.depth < 1000000) := hn
  have hbig : x.args.length < 140737488355328 := by obtain ⟨_, _, _, h, _⟩ := HX.out; exact h.1
  have Q0 : Hid (Qt w (w.alloc (.cells #[.int .i64 x.kind, .int .u64 (limb x.set 0), .int .u64 (limb x.set 1), .int .u64 (limb x.set 2), .int .u64 (limb x.set 3), .slice a x.args.length c] 29))) := (Qt.refl w).alloc _
  have PX : Hid (B6 w.heap.size (.int .i64 x.kind) (.int .u64 (limb x.set 0)) (.int .u64 (limb x.set 1)) (.int .u64 (limb x.set 2)) (.int .u64 (limb x.set 3)) (.slice a x.args.length c) (w.alloc (.cells #[.int .i64 x.kind, .int .u64 (limb x.set 0), .int .u64 (limb x.set 1), .int .u64 (limb x.set 2), .int .u64 (limb x.set 3), .slice a x.args.length c] 29))) := heap_alloc_new w _
  clear IH hn
  go_enter Tryd.func40, Tryd.ntmps40
  go_wp2_with fail
  generalize w.alloc (.cells #[.int .i64 x.kind, .int .u64 (limb x.set 0), .int .u64 (limb x.set 1), .int .u64 (limb x.set 2), .int .u64 (limb x.set 3), .slice a x.args.length c] 29) = W0 at *
  go_loopw [3, 4] (fun s3 s4 wr => ∃ i : Nat, i ≤ x.args.length ∧ s4 = .int .i64 i ∧ s3 = .int .i64 (deeps x.args i : Nat) ∧ Hid (Qt W0 wr)) (fun _ s4 _ => x.args.length - (intOf s4).toNat)
  case atStart => exact ⟨0, by omega, rfl, rfl, Qt.refl W0⟩
  case round =>
    obtain ⟨i, hi, rfl, rfl, B⟩ := hrel
    obtain ⟨_, _, _, _, _, k5, _⟩ := B6.facts (B6.mv PX.out B.out (fun h => h))
    have hu1 := HL.out i
    by_cases hlt : i < x.args.length
    · obtain ⟨u, hu⟩ : ∃ u, x.args[i]? = some u := ⟨_, List.getElem?_eq_getElem hlt⟩
      have QW : Hid (Qt w wr) := Q0.out.comp B.out
      obtain ⟨bu, ou, au, cu, ea, pu, e0, e1, e2, e3, e4, e5⟩ := (HX.out.mv QW.out (fun _ _ h => h)).at hu
      subst ea
      have hus := deeps_succ hu
      have hun := HL.out (i + 1)
      have hb := HB.out
      have hcall := HI.out u (List.mem_of_getElem? hu) K au cu wr (show Hid _ from pu) (by omega)
      have hz : max ((deeps x.args i : Nat) : Int) (u.depth : Int) = ((deeps x.args (i + 1) : Nat) : Int) := by omega
      generalize ((deeps x.args i : Nat) : Int) = y0 at *
      generalize hy1 : ((deeps x.args (i + 1) : Nat) : Int) = y1 at *
      generalize (u.depth : Int) = y2 at *
      have HY : Hid (((deeps x.args (i + 1) : Nat) : Int) = y1) := hy1
      clear hu pu hus hun hb hu1 hy1
      go_wp2_with fail
      refine hcall.mono ?_
      rintro e9 w9 ⟨rfl, q9⟩
      go_wp2_with fail
      exact ⟨⟨i + 1, by omega, by go_num, by rw [HY.out], B.out.comp q9.out⟩, by simp [intOf]; omega⟩
    · obtain rfl : i = x.args.length := by omega
      have hd1 := HL.out x.args.length
      have hd2 := HB.out
      have HY : Hid (((x.depth : Nat) : Int) = ((deeps x.args x.args.length : Nat) : Int) + 1) := by show _ = _; rw [HN.out]; omega
      have hd3 : -1000000 ≤ ((deeps x.args x.args.length : Nat) : Int) ∧ ((deeps x.args x.args.length : Nat) : Int) ≤ 1000000 := by omega
      clear hd1 hd2
      generalize ((deeps x.args x.args.length : Nat) : Int) = y0 at *
      go_wp2_with fail
      go_ret
      exact ⟨by rw [HY.out]; rfl, Q0.out.comp B.out⟩

theorem nodes_any2 : ∀ x : RX, NoC x := RX.ind (fun k p l ih => nodes_step ⟨k, p, l⟩ ih)
theorem depth_any2 : ∀ x : RX, DeC x := RX.ind (fun k p l ih => depth_step ⟨k, p, l⟩ ih)

end Go.Proofs.YtojbakkbmfgoaaaDoor

namespace Go.Proofs.YtojbakkbmfgoaaaDoor
open Go.RowKit
set_option linter.unusedVariables false

theorem hold8x {W w' : World} {b0 o0 b1 o1 b2 o2 b3 o3 b4 o4 b5 o5 b6 o6 b7 o7 : Nat} {u0 u1 u2 u3 u4 u5 u6 u7 : Value} (c0 : Hid (W.cell? ⟨b0, o0, none⟩ = some u0)) (c1 : Hid (W.cell? ⟨b1, o1, none⟩ = some u1)) (c2 : Hid (W.cell? ⟨b2, o2, none⟩ = some u2)) (c3 : Hid (W.cell? ⟨b3, o3, none⟩ = some u3)) (c4 : Hid (W.cell? ⟨b4, o4, none⟩ = some u4)) (c5 : Hid (W.cell? ⟨b5, o5, none⟩ = some u5)) (c6 : Hid (W.cell? ⟨b6, o6, none⟩ = some u6)) (c7 : Hid (W.cell? ⟨b7, o7, none⟩ = some u7)) (q : Hid (Qt W w')) :
    w'.cell? ⟨b0, o0, none⟩ = some u0 ∧ w'.cell? ⟨b1, o1, none⟩ = some u1 ∧ w'.cell? ⟨b2, o2, none⟩ = some u2 ∧ w'.cell? ⟨b3, o3, none⟩ = some u3 ∧ w'.cell? ⟨b4, o4, none⟩ = some u4 ∧ w'.cell? ⟨b5, o5, none⟩ = some u5 ∧ w'.cell? ⟨b6, o6, none⟩ = some u6 ∧ w'.cell? ⟨b7, o7, none⟩ = some u7 ∧ Hid (Qt W w') :=
  ⟨Qt.keep q c0.out, Qt.keep q c1.out, Qt.keep q c2.out, Qt.keep q c3.out, Qt.keep q c4.out, Qt.keep q c5.out, Qt.keep q c6.out, Qt.keep q c7.out, q⟩
theorem hold8xq {W w' w'' : World} {A0 A1 A2 A3 A4 A5 A6 A7 : Prop} (q : Hid (Qt w' w'')) (h : A0 ∧ A1 ∧ A2 ∧ A3 ∧ A4 ∧ A5 ∧ A6 ∧ A7 ∧ Hid (Qt W w')) : Hid (Qt W w'') := h.2.2.2.2.2.2.2.2.out.comp q.out

def FoC (x : RX) : Prop := ∀ (K : Nat → Prop) (a : Option Addr) (c : Nat) (w : World), Hid (Parts x.args K w a c) → x.formed = true → Calls Tryd.prog 38 #[.agg #[.int .i64 x.kind, .int .u64 (limb x.set 0), .int .u64 (limb x.set 1), .int .u64 (limb x.set 2), .int .u64 (limb x.set 3), .slice a x.args.length c]] w fun e w' => e = .returned (.bool true) ∧ Hid (Qt w w')
theorem formed_pts {x : RX} (h : x.formed = true) : node x.kind x.set x.args.length = true ∧ ∀ u ∈ x.args, u.formed = true ∧ lvl u.kind ≠ lvl x.kind := by
  obtain ⟨k, p, l⟩ := x
  rw [formed_eq, Bool.and_eq_true, Bool.and_eq_true, List.all_eq_true, List.all_eq_true] at h
  exact ⟨h.1, fun u hu => ⟨h.2.2 u hu, of_decide_eq_true (h.2.1 u hu)⟩⟩
theorem formed_kd {x : RX} (h : x.formed = true) : (x.kind = 1 ∨ x.kind = 2 ∨ x.kind = 3 ∨ x.kind = 4 ∨ x.kind = 5 ∨ x.kind = 6) ∧ (x.kind = 1 → any x.set = true ∧ x.args.length = 0) ∧ (x.kind ≠ 1 → any x.set = false) ∧ (x.kind = 2 ∨ x.kind = 3 → 2 ≤ x.args.length) ∧ (4 ≤ x.kind → x.args.length = 1) := by
  have h1 := (formed_pts h).1
  generalize x.kind = k at *
  unfold node at h1
  split at h1
  · next hk => simp at h1; exact ⟨by omega, fun e => by omega, fun _ => h1.1, fun _ => h1.2, fun e => by omega⟩
  · next hk =>
    split at h1
    · next hk2 => simp at h1; exact ⟨by omega, fun e => by omega, fun _ => h1.1, fun e => by omega, fun _ => h1.2⟩
    · next hk2 =>
      split at h1
      · next hk3 => simp at h1; exact ⟨by omega, fun _ => ⟨h1.1, by rw [h1.2]; rfl⟩, fun e => by omega, fun e => by omega, fun e => by omega⟩
      · cases h1
theorem lvl_kind {a b : Int} (h : lvl a ≠ lvl b) : a ≠ b := fun e => h (by rw [e])
theorem lvl_four {a b : Int} (h : lvl a ≠ lvl b) (hb : b = 4 ∨ b = 5 ∨ b = 6) (ha : a = 1 ∨ a = 2 ∨ a = 3 ∨ a = 4 ∨ a = 5 ∨ a = 6) : a < 4 := by
  rcases ha with rfl | rfl | rfl | rfl | rfl | rfl <;> first | decide | (rcases hb with rfl | rfl | rfl <;> exact absurd rfl h)

set_option maxRecDepth 20000 in
set_option maxHeartbeats 4000000 in
theorem form_set (x : RX) (hk : x.kind = 1) (IH : ∀ z ∈ x.args, FoC z) : FoC x := by
  intro K a c w HX hf
  have hfk := formed_kd hf
  have hemp := empty_any x.set false (by rw [(hfk.2.1 hk).1]; rfl) (w.alloc (.cells #[.int .i64 x.kind, .int .u64 (limb x.set 0), .int .u64 (limb x.set 1), .int .u64 (limb x.set 2), .int .u64 (limb x.set 3), .slice a x.args.length c] 29))
  have hl : ((x.args.length : Int) == 0) = true := by rw [(hfk.2.1 hk).2]; rfl
  have PX : Hid (B6 w.heap.size (.int .i64 x.kind) (.int .u64 (limb x.set 0)) (.int .u64 (limb x.set 1)) (.int .u64 (limb x.set 2)) (.int .u64 (limb x.set 3)) (.slice a x.args.length c) (w.alloc (.cells #[.int .i64 x.kind, .int .u64 (limb x.set 0), .int .u64 (limb x.set 1), .int .u64 (limb x.set 2), .int .u64 (limb x.set 3), .slice a x.args.length c] 29))) := heap_alloc_new w _
  obtain ⟨k0, k1, k2, k3, k4, k5, _⟩ := B6.facts PX
  have hkb : (x.kind == 1) = true := by rw [hk]; rfl
  clear IH hf hfk hk
  go_enter Tryd.func38, Tryd.ntmps38
  go_wp2_with fail
  refine hemp.mono ?_
  rintro e1 w1 ⟨rfl, q1⟩
  go_wp2_with fail
  go_ret
  exact ⟨rfl, ((Qt.refl w).alloc _).comp q1.out⟩

set_option maxRecDepth 20000 in
set_option maxHeartbeats 4000000 in
theorem form_k2 (x : RX) (hk : x.kind = 2) (IH : ∀ z ∈ x.args, FoC z) : FoC x := by
  intro K a c w HX hf
  have hfk := formed_kd hf
  have HI : Hid _ := IH
  have HF : Hid _ := (formed_pts hf).2
  have hemp := fun W => empty_any x.set true (by rw [hfk.2.2.1 (by omega)]; rfl) W
  have hbig : x.args.length < 140737488355328 := by obtain ⟨_, _, _, h, _⟩ := HX.out; exact h.1
  have hk1 : (x.kind == 1) = false := by rw [hk]; rfl
  have hk2 : (x.kind == 2) = true := by rw [hk]; rfl
  have hk3 : (x.kind == 3) = false := by rw [hk]; rfl
  have hk4 : (x.kind == 4) = false := by rw [hk]; rfl
  have hk5 : (x.kind == 5) = false := by rw [hk]; rfl
  have hk6 : (x.kind == 6) = false := by rw [hk]; rfl
  have hl : (2 : Int) ≤ (x.args.length : Int) := by have := hfk.2.2.2.1 (by omega); omega
  have Q0 : Hid (Qt w (w.alloc (.cells #[.int .i64 x.kind, .int .u64 (limb x.set 0), .int .u64 (limb x.set 1), .int .u64 (limb x.set 2), .int .u64 (limb x.set 3), .slice a x.args.length c] 29))) := (Qt.refl w).alloc _
  have PX : Hid (B6 w.heap.size (.int .i64 x.kind) (.int .u64 (limb x.set 0)) (.int .u64 (limb x.set 1)) (.int .u64 (limb x.set 2)) (.int .u64 (limb x.set 3)) (.slice a x.args.length c) (w.alloc (.cells #[.int .i64 x.kind, .int .u64 (limb x.set 0), .int .u64 (limb x.set 1), .int .u64 (limb x.set 2), .int .u64 (limb x.set 3), .slice a x.args.length c] 29))) := heap_alloc_new w _
  obtain ⟨k0, k1, k2, k3, k4, k5, _⟩ := B6.facts PX
  clear IH hf hfk hk
  go_enter Tryd.func38, Tryd.ntmps38
  go_wp2_with fail
  generalize w.alloc (.cells #[.int .i64 x.kind, .int .u64 (limb x.set 0), .int .u64 (limb x.set 1), .int .u64 (limb x.set 2), .int .u64 (limb x.set 3), .slice a x.args.length c] 29) = W0 at *
  clear k0 k1 k2 k3 k4 k5 
  go_loopw [3] (fun s3 wr => ∃ i : Nat, i ≤ x.args.length ∧ s3 = .int .i64 i ∧ Hid (Qt W0 wr)) (fun s3 _ => x.args.length - (intOf s3).toNat)
  case atStart => exact ⟨0, by omega, rfl, Qt.refl W0⟩
  case round =>
    obtain ⟨i, hi, rfl, B⟩ := hrel
    have PW := B6.mv PX.out B.out (fun h => h)
    obtain ⟨k0, k1, k2, k3, k4, k5, _⟩ := B6.facts PW
    by_cases hlt : i < x.args.length
    · obtain ⟨u, hu⟩ : ∃ u, x.args[i]? = some u := ⟨_, List.getElem?_eq_getElem hlt⟩
      have QW : Hid (Qt w wr) := Q0.out.comp B.out
      obtain ⟨bu, ou, au, cu, ea, pu, e0, e1, e2, e3, e4, e5⟩ := (HX.out.mv QW.out (fun _ _ h => h)).at hu
      subst ea
      have hlu := HF.out u (List.mem_of_getElem? hu)
      have hne : (u.kind == x.kind) = false := beq_false_of_ne (lvl_kind hlu.2)
      have hcall := fun W (q : Hid (Qt wr W)) => HI.out u (List.mem_of_getElem? hu) K au cu W (show Hid _ from pu.mv q.out (fun _ _ h => h)) hlu.1
      have DQ : Hid (Qt wr wr.drew) := Mv.drewN _ wr 1
      have C0 : Hid _ := k0
      have C1 : Hid _ := k5
      have C2 : Hid _ := e0
      have C3 : Hid _ := e1
      have C4 : Hid _ := e2
      have C5 : Hid _ := e3
      have C6 : Hid _ := e4
      have C7 : Hid _ := e5
      clear hu pu hlu
      go_wp2_with fail
      go_region_held3 (fun w' => w'.cell? ⟨w.heap.size, 0, none⟩ = some (.int .i64 x.kind) ∧ w'.cell? ⟨w.heap.size, 5, none⟩ = some (.slice (some ⟨bu, ou, none⟩) x.args.length c) ∧ w'.cell? ⟨bu, ou + i * 6, none⟩ = some (.int .i64 u.kind) ∧ w'.cell? ⟨bu, ou + i * 6 + 1, none⟩ = some (.int .u64 (limb u.set 0)) ∧ w'.cell? ⟨bu, ou + i * 6 + 2, none⟩ = some (.int .u64 (limb u.set 1)) ∧ w'.cell? ⟨bu, ou + i * 6 + 3, none⟩ = some (.int .u64 (limb u.set 2)) ∧ w'.cell? ⟨bu, ou + i * 6 + 4, none⟩ = some (.int .u64 (limb u.set 3)) ∧ w'.cell? ⟨bu, ou + i * 6 + 5, none⟩ = some (.slice au u.args.length cu) ∧ Hid (Qt wr w'))
        (first | (refine hold8x C0 C1 C2 C3 C4 C5 C6 C7 ?_; first | exact hold8xq (by assumption) (by assumption) | exact DQ | exact Qt.comp DQ.out (Hid.out (by assumption))))
        ((first | (go_at_call 38; with_reducible refine (hcall _ DQ).mono ?_; rintro e9 w9 ⟨rfl, q9⟩)))
      go_wp2_with fail
      exact ⟨⟨i + 1, by omega, by go_num, (B.out.comp DQ.out).comp q9.out⟩, by simp [intOf]; omega⟩
    · obtain rfl : i = x.args.length := by omega
      have he := hemp wr
      clear hemp
      go_wp2_with fail
      refine he.mono ?_
      rintro e9 w9 ⟨rfl, q9⟩
      go_wp2_with fail
      go_ret
      exact ⟨rfl, (Q0.out.comp B.out).comp q9.out⟩

set_option maxRecDepth 20000 in
set_option maxHeartbeats 4000000 in
theorem form_k3 (x : RX) (hk : x.kind = 3) (IH : ∀ z ∈ x.args, FoC z) : FoC x := by
  intro K a c w HX hf
  have hfk := formed_kd hf
  have HI : Hid _ := IH
  have HF : Hid _ := (formed_pts hf).2
  have hemp := fun W => empty_any x.set true (by rw [hfk.2.2.1 (by omega)]; rfl) W
  have hbig : x.args.length < 140737488355328 := by obtain ⟨_, _, _, h, _⟩ := HX.out; exact h.1
  have hk1 : (x.kind == 1) = false := by rw [hk]; rfl
  have hk2 : (x.kind == 2) = false := by rw [hk]; rfl
  have hk3 : (x.kind == 3) = true := by rw [hk]; rfl
  have hk4 : (x.kind == 4) = false := by rw [hk]; rfl
  have hk5 : (x.kind == 5) = false := by rw [hk]; rfl
  have hk6 : (x.kind == 6) = false := by rw [hk]; rfl
  have hl : (2 : Int) ≤ (x.args.length : Int) := by have := hfk.2.2.2.1 (by omega); omega
  have Q0 : Hid (Qt w (w.alloc (.cells #[.int .i64 x.kind, .int .u64 (limb x.set 0), .int .u64 (limb x.set 1), .int .u64 (limb x.set 2), .int .u64 (limb x.set 3), .slice a x.args.length c] 29))) := (Qt.refl w).alloc _
  have PX : Hid (B6 w.heap.size (.int .i64 x.kind) (.int .u64 (limb x.set 0)) (.int .u64 (limb x.set 1)) (.int .u64 (limb x.set 2)) (.int .u64 (limb x.set 3)) (.slice a x.args.length c) (w.alloc (.cells #[.int .i64 x.kind, .int .u64 (limb x.set 0), .int .u64 (limb x.set 1), .int .u64 (limb x.set 2), .int .u64 (limb x.set 3), .slice a x.args.length c] 29))) := heap_alloc_new w _
  obtain ⟨k0, k1, k2, k3, k4, k5, _⟩ := B6.facts PX
  clear IH hf hfk hk
  go_enter Tryd.func38, Tryd.ntmps38
  go_wp2_with fail
  generalize w.alloc (.cells #[.int .i64 x.kind, .int .u64 (limb x.set 0), .int .u64 (limb x.set 1), .int .u64 (limb x.set 2), .int .u64 (limb x.set 3), .slice a x.args.length c] 29) = W0 at *
  clear k0 k1 k2 k3 k4 k5 
  go_loopw [3] (fun s3 wr => ∃ i : Nat, i ≤ x.args.length ∧ s3 = .int .i64 i ∧ Hid (Qt W0 wr)) (fun s3 _ => x.args.length - (intOf s3).toNat)
  case atStart => exact ⟨0, by omega, rfl, Qt.refl W0⟩
  case round =>
    obtain ⟨i, hi, rfl, B⟩ := hrel
    have PW := B6.mv PX.out B.out (fun h => h)
    obtain ⟨k0, k1, k2, k3, k4, k5, _⟩ := B6.facts PW
    by_cases hlt : i < x.args.length
    · obtain ⟨u, hu⟩ : ∃ u, x.args[i]? = some u := ⟨_, List.getElem?_eq_getElem hlt⟩
      have QW : Hid (Qt w wr) := Q0.out.comp B.out
      obtain ⟨bu, ou, au, cu, ea, pu, e0, e1, e2, e3, e4, e5⟩ := (HX.out.mv QW.out (fun _ _ h => h)).at hu
      subst ea
      have hlu := HF.out u (List.mem_of_getElem? hu)
      have hne : (u.kind == x.kind) = false := beq_false_of_ne (lvl_kind hlu.2)
      have hcall := fun W (q : Hid (Qt wr W)) => HI.out u (List.mem_of_getElem? hu) K au cu W (show Hid _ from pu.mv q.out (fun _ _ h => h)) hlu.1
      have DQ : Hid (Qt wr wr.drew) := Mv.drewN _ wr 1
      have C0 : Hid _ := k0
      have C1 : Hid _ := k5
      have C2 : Hid _ := e0
      have C3 : Hid _ := e1
      have C4 : Hid _ := e2
      have C5 : Hid _ := e3
      have C6 : Hid _ := e4
      have C7 : Hid _ := e5
      clear hu pu hlu
      go_wp2_with fail
      go_region_held3 (fun w' => w'.cell? ⟨w.heap.size, 0, none⟩ = some (.int .i64 x.kind) ∧ w'.cell? ⟨w.heap.size, 5, none⟩ = some (.slice (some ⟨bu, ou, none⟩) x.args.length c) ∧ w'.cell? ⟨bu, ou + i * 6, none⟩ = some (.int .i64 u.kind) ∧ w'.cell? ⟨bu, ou + i * 6 + 1, none⟩ = some (.int .u64 (limb u.set 0)) ∧ w'.cell? ⟨bu, ou + i * 6 + 2, none⟩ = some (.int .u64 (limb u.set 1)) ∧ w'.cell? ⟨bu, ou + i * 6 + 3, none⟩ = some (.int .u64 (limb u.set 2)) ∧ w'.cell? ⟨bu, ou + i * 6 + 4, none⟩ = some (.int .u64 (limb u.set 3)) ∧ w'.cell? ⟨bu, ou + i * 6 + 5, none⟩ = some (.slice au u.args.length cu) ∧ Hid (Qt wr w'))
        (first | (refine hold8x C0 C1 C2 C3 C4 C5 C6 C7 ?_; first | exact hold8xq (by assumption) (by assumption) | exact DQ | exact Qt.comp DQ.out (Hid.out (by assumption))))
        ((first | (go_at_call 38; with_reducible refine (hcall _ DQ).mono ?_; rintro e9 w9 ⟨rfl, q9⟩)))
      go_wp2_with fail
      exact ⟨⟨i + 1, by omega, by go_num, (B.out.comp DQ.out).comp q9.out⟩, by simp [intOf]; omega⟩
    · obtain rfl : i = x.args.length := by omega
      have he := hemp wr
      clear hemp
      go_wp2_with fail
      refine he.mono ?_
      rintro e9 w9 ⟨rfl, q9⟩
      go_wp2_with fail
      go_ret
      exact ⟨rfl, (Q0.out.comp B.out).comp q9.out⟩

set_option maxRecDepth 20000 in
set_option maxHeartbeats 4000000 in
theorem form_k4 (x : RX) (hk : x.kind = 4) (IH : ∀ z ∈ x.args, FoC z) : FoC x := by
  intro K a c w HX hf
  have hfk := formed_kd hf
  have HI : Hid _ := IH
  have HF : Hid _ := (formed_pts hf).2
  have hemp := fun W => empty_any x.set true (by rw [hfk.2.2.1 (by omega)]; rfl) W
  have hbig : x.args.length < 140737488355328 := by obtain ⟨_, _, _, h, _⟩ := HX.out; exact h.1
  have hk1 : (x.kind == 1) = false := by rw [hk]; rfl
  have hk2 : (x.kind == 2) = false := by rw [hk]; rfl
  have hk3 : (x.kind == 3) = false := by rw [hk]; rfl
  have hk4 : (x.kind == 4) = true := by rw [hk]; rfl
  have hk5 : (x.kind == 5) = false := by rw [hk]; rfl
  have hk6 : (x.kind == 6) = false := by rw [hk]; rfl
  have hl : x.args.length = 1 := hfk.2.2.2.2 (by omega)
  obtain ⟨u0, hu0⟩ : ∃ u, x.args[0]? = some u := ⟨_, List.getElem?_eq_getElem (by omega)⟩
  have hlu := HF.out u0 (List.mem_of_getElem? hu0)
  have hu4 : u0.kind < 4 := lvl_four hlu.2 (by omega) (formed_kd hlu.1).1
  obtain ⟨bv, ov, av, cv, ea, pv, v0, v1, v2, v3, v4, v5⟩ := (HX.out.mv (Mv.alloc (fun _ => False) w (.cells #[.int .i64 x.kind, .int .u64 (limb x.set 0), .int .u64 (limb x.set 1), .int .u64 (limb x.set 2), .int .u64 (limb x.set 3), .slice a x.args.length c] 29)) (fun _ _ h => h)).at hu0
  subst ea
  simp only [Nat.zero_mul, Nat.add_zero] at v0
  have hln : ((x.args.length : Int) != 1) = false := by rw [hl]; rfl
  have hl0 : (0 : Int) < (x.args.length : Int) := by omega
  have hl1 : 0 < x.args.length := by omega
  clear hu0 hlu pv v1 v2 v3 v4 v5 hl
  have Q0 : Hid (Qt w (w.alloc (.cells #[.int .i64 x.kind, .int .u64 (limb x.set 0), .int .u64 (limb x.set 1), .int .u64 (limb x.set 2), .int .u64 (limb x.set 3), .slice (some ⟨bv, ov, none⟩) x.args.length c] 29))) := (Qt.refl w).alloc _
  have PX : Hid (B6 w.heap.size (.int .i64 x.kind) (.int .u64 (limb x.set 0)) (.int .u64 (limb x.set 1)) (.int .u64 (limb x.set 2)) (.int .u64 (limb x.set 3)) (.slice (some ⟨bv, ov, none⟩) x.args.length c) (w.alloc (.cells #[.int .i64 x.kind, .int .u64 (limb x.set 0), .int .u64 (limb x.set 1), .int .u64 (limb x.set 2), .int .u64 (limb x.set 3), .slice (some ⟨bv, ov, none⟩) x.args.length c] 29))) := heap_alloc_new w _
  obtain ⟨k0, k1, k2, k3, k4, k5, _⟩ := B6.facts PX
  clear IH hf hfk hk
  go_enter Tryd.func38, Tryd.ntmps38
  go_wp2_with fail
  generalize w.alloc (.cells #[.int .i64 x.kind, .int .u64 (limb x.set 0), .int .u64 (limb x.set 1), .int .u64 (limb x.set 2), .int .u64 (limb x.set 3), .slice (some ⟨bv, ov, none⟩) x.args.length c] 29) = W0 at *
  clear k0 k1 k2 k3 k4 k5 v0
  go_loopw [3] (fun s3 wr => ∃ i : Nat, i ≤ x.args.length ∧ s3 = .int .i64 i ∧ Hid (Qt W0 wr)) (fun s3 _ => x.args.length - (intOf s3).toNat)
  case atStart => exact ⟨0, by omega, rfl, Qt.refl W0⟩
  case round =>
    obtain ⟨i, hi, rfl, B⟩ := hrel
    have PW := B6.mv PX.out B.out (fun h => h)
    obtain ⟨k0, k1, k2, k3, k4, k5, _⟩ := B6.facts PW
    by_cases hlt : i < x.args.length
    · obtain ⟨u, hu⟩ : ∃ u, x.args[i]? = some u := ⟨_, List.getElem?_eq_getElem hlt⟩
      have QW : Hid (Qt w wr) := Q0.out.comp B.out
      obtain ⟨bu, ou, au, cu, ea, pu, e0, e1, e2, e3, e4, e5⟩ := (HX.out.mv QW.out (fun _ _ h => h)).at hu
      cases ea
      have hlu := HF.out u (List.mem_of_getElem? hu)
      have hne : (u.kind == x.kind) = false := beq_false_of_ne (lvl_kind hlu.2)
      have hcall := fun W (q : Hid (Qt wr W)) => HI.out u (List.mem_of_getElem? hu) K au cu W (show Hid _ from pu.mv q.out (fun _ _ h => h)) hlu.1
      have DQ : Hid (Qt wr wr.drew) := Mv.drewN _ wr 1
      have C0 : Hid _ := k0
      have C1 : Hid _ := k5
      have C2 : Hid _ := e0
      have C3 : Hid _ := e1
      have C4 : Hid _ := e2
      have C5 : Hid _ := e3
      have C6 : Hid _ := e4
      have C7 : Hid _ := e5
      clear hu pu hlu
      go_wp2_with fail
      go_region_held3 (fun w' => w'.cell? ⟨w.heap.size, 0, none⟩ = some (.int .i64 x.kind) ∧ w'.cell? ⟨w.heap.size, 5, none⟩ = some (.slice (some ⟨bv, ov, none⟩) x.args.length c) ∧ w'.cell? ⟨bv, ov + i * 6, none⟩ = some (.int .i64 u.kind) ∧ w'.cell? ⟨bv, ov + i * 6 + 1, none⟩ = some (.int .u64 (limb u.set 0)) ∧ w'.cell? ⟨bv, ov + i * 6 + 2, none⟩ = some (.int .u64 (limb u.set 1)) ∧ w'.cell? ⟨bv, ov + i * 6 + 3, none⟩ = some (.int .u64 (limb u.set 2)) ∧ w'.cell? ⟨bv, ov + i * 6 + 4, none⟩ = some (.int .u64 (limb u.set 3)) ∧ w'.cell? ⟨bv, ov + i * 6 + 5, none⟩ = some (.slice au u.args.length cu) ∧ Hid (Qt wr w'))
        (first | (refine hold8x C0 C1 C2 C3 C4 C5 C6 C7 ?_; first | exact hold8xq (by assumption) (by assumption) | exact DQ | exact Qt.comp DQ.out (Hid.out (by assumption))))
        ((first | (go_at_call 38; with_reducible refine (hcall _ DQ).mono ?_; rintro e9 w9 ⟨rfl, q9⟩)))
      go_wp2_with fail
      exact ⟨⟨i + 1, by omega, by go_num, (B.out.comp DQ.out).comp q9.out⟩, by simp [intOf]; omega⟩
    · obtain rfl : i = x.args.length := by omega
      have he := hemp wr
      clear hemp
      go_wp2_with fail
      refine he.mono ?_
      rintro e9 w9 ⟨rfl, q9⟩
      go_wp2_with fail
      go_ret
      exact ⟨rfl, (Q0.out.comp B.out).comp q9.out⟩

set_option maxRecDepth 20000 in
set_option maxHeartbeats 4000000 in
theorem form_k5 (x : RX) (hk : x.kind = 5) (IH : ∀ z ∈ x.args, FoC z) : FoC x := by
  intro K a c w HX hf
  have hfk := formed_kd hf
  have HI : Hid _ := IH
  have HF : Hid _ := (formed_pts hf).2
  have hemp := fun W => empty_any x.set true (by rw [hfk.2.2.1 (by omega)]; rfl) W
  have hbig : x.args.length < 140737488355328 := by obtain ⟨_, _, _, h, _⟩ := HX.out; exact h.1
  have hk1 : (x.kind == 1) = false := by rw [hk]; rfl
  have hk2 : (x.kind == 2) = false := by rw [hk]; rfl
  have hk3 : (x.kind == 3) = false := by rw [hk]; rfl
  have hk4 : (x.kind == 4) = false := by rw [hk]; rfl
  have hk5 : (x.kind == 5) = true := by rw [hk]; rfl
  have hk6 : (x.kind == 6) = false := by rw [hk]; rfl
  have hl : x.args.length = 1 := hfk.2.2.2.2 (by omega)
  obtain ⟨u0, hu0⟩ : ∃ u, x.args[0]? = some u := ⟨_, List.getElem?_eq_getElem (by omega)⟩
  have hlu := HF.out u0 (List.mem_of_getElem? hu0)
  have hu4 : u0.kind < 4 := lvl_four hlu.2 (by omega) (formed_kd hlu.1).1
  obtain ⟨bv, ov, av, cv, ea, pv, v0, v1, v2, v3, v4, v5⟩ := (HX.out.mv (Mv.alloc (fun _ => False) w (.cells #[.int .i64 x.kind, .int .u64 (limb x.set 0), .int .u64 (limb x.set 1), .int .u64 (limb x.set 2), .int .u64 (limb x.set 3), .slice a x.args.length c] 29)) (fun _ _ h => h)).at hu0
  subst ea
  simp only [Nat.zero_mul, Nat.add_zero] at v0
  have hln : ((x.args.length : Int) != 1) = false := by rw [hl]; rfl
  have hl0 : (0 : Int) < (x.args.length : Int) := by omega
  have hl1 : 0 < x.args.length := by omega
  clear hu0 hlu pv v1 v2 v3 v4 v5 hl
  have Q0 : Hid (Qt w (w.alloc (.cells #[.int .i64 x.kind, .int .u64 (limb x.set 0), .int .u64 (limb x.set 1), .int .u64 (limb x.set 2), .int .u64 (limb x.set 3), .slice (some ⟨bv, ov, none⟩) x.args.length c] 29))) := (Qt.refl w).alloc _
  have PX : Hid (B6 w.heap.size (.int .i64 x.kind) (.int .u64 (limb x.set 0)) (.int .u64 (limb x.set 1)) (.int .u64 (limb x.set 2)) (.int .u64 (limb x.set 3)) (.slice (some ⟨bv, ov, none⟩) x.args.length c) (w.alloc (.cells #[.int .i64 x.kind, .int .u64 (limb x.set 0), .int .u64 (limb x.set 1), .int .u64 (limb x.set 2), .int .u64 (limb x.set 3), .slice (some ⟨bv, ov, none⟩) x.args.length c] 29))) := heap_alloc_new w _
  obtain ⟨k0, k1, k2, k3, k4, k5, _⟩ := B6.facts PX
  clear IH hf hfk hk
  go_enter Tryd.func38, Tryd.ntmps38
  go_wp2_with fail
  generalize w.alloc (.cells #[.int .i64 x.kind, .int .u64 (limb x.set 0), .int .u64 (limb x.set 1), .int .u64 (limb x.set 2), .int .u64 (limb x.set 3), .slice (some ⟨bv, ov, none⟩) x.args.length c] 29) = W0 at *
  clear k0 k1 k2 k3 k4 k5 v0
  go_loopw [3] (fun s3 wr => ∃ i : Nat, i ≤ x.args.length ∧ s3 = .int .i64 i ∧ Hid (Qt W0 wr)) (fun s3 _ => x.args.length - (intOf s3).toNat)
  case atStart => exact ⟨0, by omega, rfl, Qt.refl W0⟩
  case round =>
    obtain ⟨i, hi, rfl, B⟩ := hrel
    have PW := B6.mv PX.out B.out (fun h => h)
    obtain ⟨k0, k1, k2, k3, k4, k5, _⟩ := B6.facts PW
    by_cases hlt : i < x.args.length
    · obtain ⟨u, hu⟩ : ∃ u, x.args[i]? = some u := ⟨_, List.getElem?_eq_getElem hlt⟩
      have QW : Hid (Qt w wr) := Q0.out.comp B.out
      obtain ⟨bu, ou, au, cu, ea, pu, e0, e1, e2, e3, e4, e5⟩ := (HX.out.mv QW.out (fun _ _ h => h)).at hu
      cases ea
      have hlu := HF.out u (List.mem_of_getElem? hu)
      have hne : (u.kind == x.kind) = false := beq_false_of_ne (lvl_kind hlu.2)
      have hcall := fun W (q : Hid (Qt wr W)) => HI.out u (List.mem_of_getElem? hu) K au cu W (show Hid _ from pu.mv q.out (fun _ _ h => h)) hlu.1
      have DQ : Hid (Qt wr wr.drew) := Mv.drewN _ wr 1
      have C0 : Hid _ := k0
      have C1 : Hid _ := k5
      have C2 : Hid _ := e0
      have C3 : Hid _ := e1
      have C4 : Hid _ := e2
      have C5 : Hid _ := e3
      have C6 : Hid _ := e4
      have C7 : Hid _ := e5
      clear hu pu hlu
      go_wp2_with fail
      go_region_held3 (fun w' => w'.cell? ⟨w.heap.size, 0, none⟩ = some (.int .i64 x.kind) ∧ w'.cell? ⟨w.heap.size, 5, none⟩ = some (.slice (some ⟨bv, ov, none⟩) x.args.length c) ∧ w'.cell? ⟨bv, ov + i * 6, none⟩ = some (.int .i64 u.kind) ∧ w'.cell? ⟨bv, ov + i * 6 + 1, none⟩ = some (.int .u64 (limb u.set 0)) ∧ w'.cell? ⟨bv, ov + i * 6 + 2, none⟩ = some (.int .u64 (limb u.set 1)) ∧ w'.cell? ⟨bv, ov + i * 6 + 3, none⟩ = some (.int .u64 (limb u.set 2)) ∧ w'.cell? ⟨bv, ov + i * 6 + 4, none⟩ = some (.int .u64 (limb u.set 3)) ∧ w'.cell? ⟨bv, ov + i * 6 + 5, none⟩ = some (.slice au u.args.length cu) ∧ Hid (Qt wr w'))
        (first | (refine hold8x C0 C1 C2 C3 C4 C5 C6 C7 ?_; first | exact hold8xq (by assumption) (by assumption) | exact DQ | exact Qt.comp DQ.out (Hid.out (by assumption))))
        ((first | (go_at_call 38; with_reducible refine (hcall _ DQ).mono ?_; rintro e9 w9 ⟨rfl, q9⟩)))
      go_wp2_with fail
      exact ⟨⟨i + 1, by omega, by go_num, (B.out.comp DQ.out).comp q9.out⟩, by simp [intOf]; omega⟩
    · obtain rfl : i = x.args.length := by omega
      have he := hemp wr
      clear hemp
      go_wp2_with fail
      refine he.mono ?_
      rintro e9 w9 ⟨rfl, q9⟩
      go_wp2_with fail
      go_ret
      exact ⟨rfl, (Q0.out.comp B.out).comp q9.out⟩

set_option maxRecDepth 20000 in
set_option maxHeartbeats 4000000 in
theorem form_k6 (x : RX) (hk : x.kind = 6) (IH : ∀ z ∈ x.args, FoC z) : FoC x := by
  intro K a c w HX hf
  have hfk := formed_kd hf
  have HI : Hid _ := IH
  have HF : Hid _ := (formed_pts hf).2
  have hemp := fun W => empty_any x.set true (by rw [hfk.2.2.1 (by omega)]; rfl) W
  have hbig : x.args.length < 140737488355328 := by obtain ⟨_, _, _, h, _⟩ := HX.out; exact h.1
  have hk1 : (x.kind == 1) = false := by rw [hk]; rfl
  have hk2 : (x.kind == 2) = false := by rw [hk]; rfl
  have hk3 : (x.kind == 3) = false := by rw [hk]; rfl
  have hk4 : (x.kind == 4) = false := by rw [hk]; rfl
  have hk5 : (x.kind == 5) = false := by rw [hk]; rfl
  have hk6 : (x.kind == 6) = true := by rw [hk]; rfl
  have hl : x.args.length = 1 := hfk.2.2.2.2 (by omega)
  obtain ⟨u0, hu0⟩ : ∃ u, x.args[0]? = some u := ⟨_, List.getElem?_eq_getElem (by omega)⟩
  have hlu := HF.out u0 (List.mem_of_getElem? hu0)
  have hu4 : u0.kind < 4 := lvl_four hlu.2 (by omega) (formed_kd hlu.1).1
  obtain ⟨bv, ov, av, cv, ea, pv, v0, v1, v2, v3, v4, v5⟩ := (HX.out.mv (Mv.alloc (fun _ => False) w (.cells #[.int .i64 x.kind, .int .u64 (limb x.set 0), .int .u64 (limb x.set 1), .int .u64 (limb x.set 2), .int .u64 (limb x.set 3), .slice a x.args.length c] 29)) (fun _ _ h => h)).at hu0
  subst ea
  simp only [Nat.zero_mul, Nat.add_zero] at v0
  have hln : ((x.args.length : Int) != 1) = false := by rw [hl]; rfl
  have hl0 : (0 : Int) < (x.args.length : Int) := by omega
  have hl1 : 0 < x.args.length := by omega
  clear hu0 hlu pv v1 v2 v3 v4 v5 hl
  have Q0 : Hid (Qt w (w.alloc (.cells #[.int .i64 x.kind, .int .u64 (limb x.set 0), .int .u64 (limb x.set 1), .int .u64 (limb x.set 2), .int .u64 (limb x.set 3), .slice (some ⟨bv, ov, none⟩) x.args.length c] 29))) := (Qt.refl w).alloc _
  have PX : Hid (B6 w.heap.size (.int .i64 x.kind) (.int .u64 (limb x.set 0)) (.int .u64 (limb x.set 1)) (.int .u64 (limb x.set 2)) (.int .u64 (limb x.set 3)) (.slice (some ⟨bv, ov, none⟩) x.args.length c) (w.alloc (.cells #[.int .i64 x.kind, .int .u64 (limb x.set 0), .int .u64 (limb x.set 1), .int .u64 (limb x.set 2), .int .u64 (limb x.set 3), .slice (some ⟨bv, ov, none⟩) x.args.length c] 29))) := heap_alloc_new w _
  obtain ⟨k0, k1, k2, k3, k4, k5, _⟩ := B6.facts PX
  clear IH hf hfk hk
  go_enter Tryd.func38, Tryd.ntmps38
  go_wp2_with fail
  generalize w.alloc (.cells #[.int .i64 x.kind, .int .u64 (limb x.set 0), .int .u64 (limb x.set 1), .int .u64 (limb x.set 2), .int .u64 (limb x.set 3), .slice (some ⟨bv, ov, none⟩) x.args.length c] 29) = W0 at *
  clear k0 k1 k2 k3 k4 k5 v0
  go_loopw [3] (fun s3 wr => ∃ i : Nat, i ≤ x.args.length ∧ s3 = .int .i64 i ∧ Hid (Qt W0 wr)) (fun s3 _ => x.args.length - (intOf s3).toNat)
  case atStart => exact ⟨0, by omega, rfl, Qt.refl W0⟩
  case round =>
    obtain ⟨i, hi, rfl, B⟩ := hrel
    have PW := B6.mv PX.out B.out (fun h => h)
    obtain ⟨k0, k1, k2, k3, k4, k5, _⟩ := B6.facts PW
    by_cases hlt : i < x.args.length
    · obtain ⟨u, hu⟩ : ∃ u, x.args[i]? = some u := ⟨_, List.getElem?_eq_getElem hlt⟩
      have QW : Hid (Qt w wr) := Q0.out.comp B.out
      obtain ⟨bu, ou, au, cu, ea, pu, e0, e1, e2, e3, e4, e5⟩ := (HX.out.mv QW.out (fun _ _ h => h)).at hu
      cases ea
      have hlu := HF.out u (List.mem_of_getElem? hu)
      have hne : (u.kind == x.kind) = false := beq_false_of_ne (lvl_kind hlu.2)
      have hcall := fun W (q : Hid (Qt wr W)) => HI.out u (List.mem_of_getElem? hu) K au cu W (show Hid _ from pu.mv q.out (fun _ _ h => h)) hlu.1
      have DQ : Hid (Qt wr wr.drew) := Mv.drewN _ wr 1
      have C0 : Hid _ := k0
      have C1 : Hid _ := k5
      have C2 : Hid _ := e0
      have C3 : Hid _ := e1
      have C4 : Hid _ := e2
      have C5 : Hid _ := e3
      have C6 : Hid _ := e4
      have C7 : Hid _ := e5
      clear hu pu hlu
      go_wp2_with fail
      go_region_held3 (fun w' => w'.cell? ⟨w.heap.size, 0, none⟩ = some (.int .i64 x.kind) ∧ w'.cell? ⟨w.heap.size, 5, none⟩ = some (.slice (some ⟨bv, ov, none⟩) x.args.length c) ∧ w'.cell? ⟨bv, ov + i * 6, none⟩ = some (.int .i64 u.kind) ∧ w'.cell? ⟨bv, ov + i * 6 + 1, none⟩ = some (.int .u64 (limb u.set 0)) ∧ w'.cell? ⟨bv, ov + i * 6 + 2, none⟩ = some (.int .u64 (limb u.set 1)) ∧ w'.cell? ⟨bv, ov + i * 6 + 3, none⟩ = some (.int .u64 (limb u.set 2)) ∧ w'.cell? ⟨bv, ov + i * 6 + 4, none⟩ = some (.int .u64 (limb u.set 3)) ∧ w'.cell? ⟨bv, ov + i * 6 + 5, none⟩ = some (.slice au u.args.length cu) ∧ Hid (Qt wr w'))
        (first | (refine hold8x C0 C1 C2 C3 C4 C5 C6 C7 ?_; first | exact hold8xq (by assumption) (by assumption) | exact DQ | exact Qt.comp DQ.out (Hid.out (by assumption))))
        ((first | (go_at_call 38; with_reducible refine (hcall _ DQ).mono ?_; rintro e9 w9 ⟨rfl, q9⟩)))
      go_wp2_with fail
      exact ⟨⟨i + 1, by omega, by go_num, (B.out.comp DQ.out).comp q9.out⟩, by simp [intOf]; omega⟩
    · obtain rfl : i = x.args.length := by omega
      have he := hemp wr
      clear hemp
      go_wp2_with fail
      refine he.mono ?_
      rintro e9 w9 ⟨rfl, q9⟩
      go_wp2_with fail
      go_ret
      exact ⟨rfl, (Q0.out.comp B.out).comp q9.out⟩

theorem form_any2 : ∀ x : RX, FoC x := by
  refine RX.ind ?_
  intro k p l ih K a c w HX hf
  rcases (formed_kd hf).1 with h | h | h | h | h | h
  · exact form_set ⟨k, p, l⟩ h ih K a c w HX hf
  · exact form_k2 ⟨k, p, l⟩ h ih K a c w HX hf
  · exact form_k3 ⟨k, p, l⟩ h ih K a c w HX hf
  · exact form_k4 ⟨k, p, l⟩ h ih K a c w HX hf
  · exact form_k5 ⟨k, p, l⟩ h ih K a c w HX hf
  · exact form_k6 ⟨k, p, l⟩ h ih K a c w HX hf

set_option maxRecDepth 20000 in
set_option maxHeartbeats 4000000 in
/-- The reference's May, of what may be. -/
theorem rmay_ok (x : RX) (K : Nat → Prop) (a : Option Addr) (c : Nat) (w : World) (HX : Hid (Parts x.args K w a c)) (hm : may x = 0) :
    Calls Tryd.prog 25 #[.agg #[.int .i64 x.kind, .int .u64 (limb x.set 0), .int .u64 (limb x.set 1), .int .u64 (limb x.set 2), .int .u64 (limb x.set 3), .slice a x.args.length c]] w fun e w' => e = .returned (.int .i64 0) ∧ Hid (Qt w w') := by
  obtain ⟨h1, h2, h3⟩ := may_small hm
  have q0 := Mv.alloc (fun _ => False) w (.cells #[.int .i64 x.kind, .int .u64 (limb x.set 0), .int .u64 (limb x.set 1), .int .u64 (limb x.set 2), .int .u64 (limb x.set 3), .slice a x.args.length c] 29)
  have HX0 : Hid (Parts x.args K (w.alloc (.cells #[.int .i64 x.kind, .int .u64 (limb x.set 0), .int .u64 (limb x.set 1), .int .u64 (limb x.set 2), .int .u64 (limb x.set 3), .slice a x.args.length c] 29)) a c) := HX.out.mv q0 (fun _ _ h => h)
  have hf := form_any2 x K a c _ HX0 h1
  have hn := fun W (q : Hid (Qt (w.alloc (.cells #[.int .i64 x.kind, .int .u64 (limb x.set 0), .int .u64 (limb x.set 1), .int .u64 (limb x.set 2), .int .u64 (limb x.set 3), .slice a x.args.length c] 29)) W)) => nodes_any2 x K a c W (show Hid _ from HX0.out.mv q.out (fun _ _ h => h)) (by omega)
  have hd := fun W (q : Hid (Qt (w.alloc (.cells #[.int .i64 x.kind, .int .u64 (limb x.set 0), .int .u64 (limb x.set 1), .int .u64 (limb x.set 2), .int .u64 (limb x.set 3), .slice a x.args.length c] 29)) W)) => depth_any2 x K a c W (show Hid _ from HX0.out.mv q.out (fun _ _ h => h)) (by omega)
  have g1 : ((x.nodes : Nat) : Int) ≤ 40 := by omega
  have g2 : ((x.depth : Nat) : Int) ≤ 12 := by omega
  generalize ((x.nodes : Nat) : Int) = N at *
  generalize ((x.depth : Nat) : Int) = D at *
  have PX : Hid (B6 w.heap.size (.int .i64 x.kind) (.int .u64 (limb x.set 0)) (.int .u64 (limb x.set 1)) (.int .u64 (limb x.set 2)) (.int .u64 (limb x.set 3)) (.slice a x.args.length c) (w.alloc (.cells #[.int .i64 x.kind, .int .u64 (limb x.set 0), .int .u64 (limb x.set 1), .int .u64 (limb x.set 2), .int .u64 (limb x.set 3), .slice a x.args.length c] 29))) := heap_alloc_new w _
  obtain ⟨k0, k1, k2, k3, k4, k5, _⟩ := B6.facts PX
  have Q0 : Hid (Qt w (w.alloc (.cells #[.int .i64 x.kind, .int .u64 (limb x.set 0), .int .u64 (limb x.set 1), .int .u64 (limb x.set 2), .int .u64 (limb x.set 3), .slice a x.args.length c] 29))) := q0
  clear h1 h2 h3 hm HX HX0 q0
  go_enter Tryd.func25, Tryd.ntmps25
  go_wp2_with fail
  refine hf.mono ?_
  rintro e1 w1 ⟨rfl, q1⟩
  clear k0 k1 k2 k3 k4 k5
  obtain ⟨k0, k1, k2, k3, k4, k5, _⟩ := B6.facts (B6.mv PX.out q1.out (fun h => h))
  go_wp2_with fail
  refine (hn _ q1).mono ?_
  rintro e2 w2 ⟨rfl, q2⟩
  have Q2 := q1.out.comp q2.out
  clear k0 k1 k2 k3 k4 k5
  obtain ⟨k0, k1, k2, k3, k4, k5, _⟩ := B6.facts (B6.mv PX.out Q2 (fun h => h))
  go_wp2_with fail
  refine (hd _ Q2).mono ?_
  rintro e3 w3 ⟨rfl, q3⟩
  go_wp2_with fail
  go_ret
  exact ⟨rfl, (Q0.out.comp Q2).comp q3.out⟩

end Go.Proofs.YtojbakkbmfgoaaaDoor

namespace Go.Proofs.YtojbakkbmfgoaaaDoor
open Go.RowKit
set_option linter.unusedVariables false

theorem Nd_le {d : Nat} (h : d ≤ 3) : Nd d ≤ 40 := by
  rcases (show d = 0 ∨ d = 1 ∨ d = 2 ∨ d = 3 from by omega) with rfl | rfl | rfl | rfl <;> decide
theorem Pl.tall {d : Nat} {x : RX} (h : Pl d x) (hd : d ≤ 3) : x.tall < 90000 := by
  have := tall_nodes x
  have := Nat.le_trans h.nodes (Nd_le hd)
  omega
end Go.Proofs.YtojbakkbmfgoaaaDoor
