/- The reference's May: nodes, depth, form, of what may be. -/
import Derived.Test.YtkclkhfcmjhogaaDoorK8
import Derived.Test.YtkclkhfcmjhogaaDoorR2
import Derived.Test.YtkclkhfcmjhogaaDoorG1
namespace Go.Proofs.YtkclkhfcmjhogaaDoor
open Go.RowKit
set_option linter.unusedVariables false

/-- The deepest of the first i parts. -/
def deeps (l : List RX) (i : Nat) : Nat := maxl ((l.take i).map RX.depth)
theorem maxl_append (l : List Nat) (n : Nat) : maxl (l ++ [n]) = max (maxl l) n := by
  induction l with
  | nil => simp [maxl]
  | cons x l ih => rw [List.cons_append, maxl, maxl, ih]; omega
theorem deeps_succ {l : List RX} {i : Nat} {x : RX} (h : l[i]? = some x) : deeps l (i + 1) = max (deeps l i) x.depth := by
  unfold deeps
  rw [List.take_add_one, h]
  simp [maxl_append]
theorem deeps_all (l : List RX) : deeps l l.length = maxl (l.map RX.depth) := by unfold deeps; rw [List.take_length]
theorem maxl_mem {l : List Nat} {n : Nat} (h : n ∈ l) : n ≤ maxl l := by
  induction l with
  | nil => cases h
  | cons x l ih =>
    rw [maxl]
    rcases List.mem_cons.1 h with e | e
    · omega
    · have := ih e; omega
theorem deeps_le (l : List RX) (i : Nat) : deeps l i ≤ maxl (l.map RX.depth) := by
  unfold deeps
  generalize hk : (l.take i).map RX.depth = k
  have : ∀ n ∈ k, n ≤ maxl (l.map RX.depth) := by
    intro n hn
    rw [← hk] at hn
    obtain ⟨x, hx, rfl⟩ := List.mem_map.1 hn
    exact maxl_mem (List.mem_map.2 ⟨x, List.mem_of_mem_take hx, rfl⟩)
  clear hk
  revert this
  induction k with
  | nil => intro _; simp [maxl]
  | cons x k ih =>
    intro h
    have h1 := h x (by simp)
    have h2 := ih (fun n hn => h n (by simp [hn]))
    rw [maxl]; omega
theorem depth_at (x : RX) : x.depth = maxl (x.args.map RX.depth) + 1 := by obtain ⟨k, p, l⟩ := x; exact depth_eq k p l

def NoC (x : RX) : Prop := ∀ (K : Nat → Prop) (a : Option Addr) (c : Nat) (w : World), Hid (Parts x.args K w a c) → x.nodes < 1000000 → Calls Tryd.prog 38 #[.agg #[.int .i64 x.kind, .int .u64 (limb x.set 0), .int .u64 (limb x.set 1), .int .u64 (limb x.set 2), .int .u64 (limb x.set 3), .slice a x.args.length c]] w fun e w' => e = .returned (.int .i64 (x.nodes : Nat)) ∧ Hid (Qt w w')

set_option maxRecDepth 20000 in
set_option maxHeartbeats 4000000 in
theorem nodes_step (x : RX) (IH : ∀ z ∈ x.args, NoC z) : NoC x := by
  intro K a c w HX hn
  have HI : Hid _ := IH
  have HN : Hid (x.nodes = 1 + used x.args x.args.length) := by show _ = _; rw [nodes_at, used_all]
  have HL : Hid (∀ i, used x.args i + 1 ≤ x.nodes) := fun i => by have := used_le x.args i; rw [nodes_at]; omega
  have HB : Hid (x.nodes < 1000000) := hn
  have hbig : x.args.length < 140737488355328 := by obtain ⟨_, _, _, h, _⟩ := HX.out; exact h.1
  have Q0 : Hid (Qt w (w.alloc (.cells #[.int .i64 x.kind, .int .u64 (limb x.set 0), .int .u64 (limb x.set 1), .int .u64 (limb x.set 2), .int .u64 (limb x.set 3), .slice a x.args.length c] 28))) := (Qt.refl w).alloc _
  have PX : Hid (B6 w.heap.size (.int .i64 x.kind) (.int .u64 (limb x.set 0)) (.int .u64 (limb x.set 1)) (.int .u64 (limb x.set 2)) (.int .u64 (limb x.set 3)) (.slice a x.args.length c) (w.alloc (.cells #[.int .i64 x.kind, .int .u64 (limb x.set 0), .int .u64 (limb x.set 1), .int .u64 (limb x.set 2), .int .u64 (limb x.set 3), .slice a x.args.length c] 28))) := heap_alloc_new w _
  clear IH hn
  go_enter Tryd.func38, Tryd.ntmps38
  go_wp2_with fail
  generalize w.alloc (.cells #[.int .i64 x.kind, .int .u64 (limb x.set 0), .int .u64 (limb x.set 1), .int .u64 (limb x.set 2), .int .u64 (limb x.set 3), .slice a x.args.length c] 28) = W0 at *
  go_loopw [3, 4] (fun s3 s4 wr => ∃ i : Nat, i ≤ x.args.length ∧ s4 = .int .i64 i ∧ s3 = .int .i64 (1 + used x.args i : Nat) ∧ Hid (Qt W0 wr)) (fun _ s4 _ => x.args.length - (intOf s4).toNat)
  case atStart => exact ⟨0, by omega, rfl, rfl, Qt.refl W0⟩
  case round =>
    obtain ⟨i, hi, rfl, rfl, B⟩ := hrel
    obtain ⟨_, _, _, _, _, k5, _⟩ := B6.facts (B6.mv PX.out B.out (fun h => h))
    have hu1 := HL.out i
    by_cases hlt : i < x.args.length
    · obtain ⟨u, hu⟩ : ∃ u, x.args[i]? = some u := ⟨_, List.getElem?_eq_getElem hlt⟩
      have QW : Hid (Qt w wr) := Q0.out.comp B.out
      obtain ⟨bu, ou, au, cu, ea, pu, e0, e1, e2, e3, e4, e5⟩ := (HX.out.mv QW.out (fun _ _ h => h)).at hu
      subst ea
      have hus := used_succ hu
      have hun := HL.out (i + 1)
      have hb := HB.out
      have hcall := HI.out u (List.mem_of_getElem? hu) K au cu wr (show Hid _ from pu) (by omega)
      have hz : ((1 + used x.args i : Nat) : Int) + (u.nodes : Int) = ((1 + used x.args (i + 1) : Nat) : Int) := by omega
      have hb1 : -1000000 ≤ ((1 + used x.args i : Nat) : Int) + (u.nodes : Int) ∧ ((1 + used x.args i : Nat) : Int) + (u.nodes : Int) ≤ 1000000 := by omega
      generalize ((1 + used x.args i : Nat) : Int) = y0 at *
      generalize hy1 : ((1 + used x.args (i + 1) : Nat) : Int) = y1 at *
      generalize (u.nodes : Int) = y2 at *
      have HY : Hid (((1 + used x.args (i + 1) : Nat) : Int) = y1) := hy1
      clear hu pu hus hun hb hu1 hy1
      go_wp2_with fail
      refine hcall.mono ?_
      rintro e9 w9 ⟨rfl, q9⟩
      go_wp2_with fail
      exact ⟨⟨i + 1, by omega, by go_num, by rw [HY.out], B.out.comp q9.out⟩, by simp [intOf]; omega⟩
    · obtain rfl : i = x.args.length := by omega
      go_wp2_with fail
      go_ret
      exact ⟨by rw [HN.out]; rfl, Q0.out.comp B.out⟩

def DeC (x : RX) : Prop := ∀ (K : Nat → Prop) (a : Option Addr) (c : Nat) (w : World), Hid (Parts x.args K w a c) → x.depth < 1000000 → Calls Tryd.prog 39 #[.agg #[.int .i64 x.kind, .int .u64 (limb x.set 0), .int .u64 (limb x.set 1), .int .u64 (limb x.set 2), .int .u64 (limb x.set 3), .slice a x.args.length c]] w fun e w' => e = .returned (.int .i64 (x.depth : Nat)) ∧ Hid (Qt w w')

set_option maxRecDepth 20000 in
set_option maxHeartbeats 4000000 in
theorem depth_step (x : RX) (IH : ∀ z ∈ x.args, DeC z) : DeC x := by
  intro K a c w HX hn
  have HI : Hid _ := IH
  have HN : Hid (x.depth = deeps x.args x.args.length + 1) := by show _ = _; rw [depth_at, deeps_all]
  have HL : Hid (∀ i, deeps x.args i + 1 ≤ x.depth) := fun i => by have := deeps_le x.args i; rw [depth_at]; omega
  have HB : Hid (x.depth < 1000000) := hn
  have hbig : x.args.length < 140737488355328 := by obtain ⟨_, _, _, h, _⟩ := HX.out; exact h.1
  have Q0 : Hid (Qt w (w.alloc (.cells #[.int .i64 x.kind, .int .u64 (limb x.set 0), .int .u64 (limb x.set 1), .int .u64 (limb x.set 2), .int .u64 (limb x.set 3), .slice a x.args.length c] 28))) := (Qt.refl w).alloc _
  have PX : Hid (B6 w.heap.size (.int .i64 x.kind) (.int .u64 (limb x.set 0)) (.int .u64 (limb x.set 1)) (.int .u64 (limb x.set 2)) (.int .u64 (limb x.set 3)) (.slice a x.args.length c) (w.alloc (.cells #[.int .i64 x.kind, .int .u64 (limb x.set 0), .int .u64 (limb x.set 1), .int .u64 (limb x.set 2), .int .u64 (limb x.set 3), .slice a x.args.length c] 28))) := heap_alloc_new w _
  clear IH hn
  go_enter Tryd.func39, Tryd.ntmps39
  go_wp2_with fail
  generalize w.alloc (.cells #[.int .i64 x.kind, .int .u64 (limb x.set 0), .int .u64 (limb x.set 1), .int .u64 (limb x.set 2), .int .u64 (limb x.set 3), .slice a x.args.length c] 28) = W0 at *
  go_loopw [3, 4] (fun s3 s4 wr => ∃ i : Nat, i ≤ x.args.length ∧ s4 = .int .i64 i ∧ s3 = .int .i64 (deeps x.args i : Nat) ∧ Hid (Qt W0 wr)) (fun _ s4 _ => x.args.length - (intOf s4).toNat)
  case atStart => exact ⟨0, by omega, rfl, rfl, Qt.refl W0⟩
  case round =>
    obtain ⟨i, hi, rfl, rfl, B⟩ := hrel
    obtain ⟨_, _, _, _, _, k5, _⟩ := B6.facts (B6.mv PX.out B.out (fun h => h))
    have hu1 := HL.out i
    by_cases hlt : i < x.args.length
    · obtain ⟨u, hu⟩ : ∃ u, x.args[i]? = some u := ⟨_, List.getElem?_eq_getElem hlt⟩
      have QW : Hid (Qt w wr) := Q0.out.comp B.out
      obtain ⟨bu, ou, au, cu, ea, pu, e0, e1, e2, e3, e4, e5⟩ := (HX.out.mv QW.out (fun _ _ h => h)).at hu
      subst ea
      have hus := deeps_succ hu
      have hun := HL.out (i + 1)
      have hb := HB.out
      have hcall := HI.out u (List.mem_of_getElem? hu) K au cu wr (show Hid _ from pu) (by omega)
      have hz : max ((deeps x.args i : Nat) : Int) (u.depth : Int) = ((deeps x.args (i + 1) : Nat) : Int) := by omega
      generalize ((deeps x.args i : Nat) : Int) = y0 at *
      generalize hy1 : ((deeps x.args (i + 1) : Nat) : Int) = y1 at *
      generalize (u.depth : Int) = y2 at *
      have HY : Hid (((deeps x.args (i + 1) : Nat) : Int) = y1) := hy1
      clear hu pu hus hun hb hu1 hy1
      go_wp2_with fail
      refine hcall.mono ?_
      rintro e9 w9 ⟨rfl, q9⟩
      go_wp2_with fail
      exact ⟨⟨i + 1, by omega, by go_num, by rw [HY.out], B.out.comp q9.out⟩, by simp [intOf]; omega⟩
    · obtain rfl : i = x.args.length := by omega
      have hd1 := HL.out x.args.length
      have hd2 := HB.out
      have HY : Hid (((x.depth : Nat) : Int) = ((deeps x.args x.args.length : Nat) : Int) + 1) := by show _ = _; rw [HN.out]; omega
      have hd3 : -1000000 ≤ ((deeps x.args x.args.length : Nat) : Int) ∧ ((deeps x.args x.args.length : Nat) : Int) ≤ 1000000 := by omega
      clear hd1 hd2
      generalize ((deeps x.args x.args.length : Nat) : Int) = y0 at *
      go_wp2_with fail
      go_ret
      exact ⟨by rw [HY.out]; rfl, Q0.out.comp B.out⟩

theorem nodes_any2 : ∀ x : RX, NoC x := RX.ind (fun k p l ih => nodes_step ⟨k, p, l⟩ ih)
theorem depth_any2 : ∀ x : RX, DeC x := RX.ind (fun k p l ih => depth_step ⟨k, p, l⟩ ih)

end Go.Proofs.YtkclkhfcmjhogaaDoor
