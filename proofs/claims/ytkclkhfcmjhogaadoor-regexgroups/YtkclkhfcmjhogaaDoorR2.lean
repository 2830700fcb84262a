/- The reference: Not, in, digit. -/
import Derived.Test.YtkclkhfcmjhogaaDoorR1
namespace Go.Proofs.YtkclkhfcmjhogaaDoor
open Go.RowKit
set_option linter.unusedVariables false

theorem sv_like {p q : Nat → Bool} (h : Like p q) : sv p = sv q := by
  unfold sv
  rw [limb_like h (by decide), limb_like h (by decide), limb_like h (by decide), limb_like h (by decide)]
theorem rof_l {w : World} {base : Nat} {v : Value} {l : List Nat} (h : Hid (Ol w base v l)) (hl : ∀ c ∈ l, c < 256) (hn : l.length < 90000) : Calls Tryd.prog 28 #[v] w fun e w' => e = .returned (sv (inl l)) ∧ Hid (Qt w w') := by
  obtain ⟨a, cap, rfl, hs, _, _⟩ := Ol.sl h
  have := rof_f a l.length cap (fun i => l.getD i 0) w hs (fun i hi => by simp [List.getD, hi]; exact hl _ (List.getElem_mem hi)) (by omega)
  rw [inl_ofl] at this
  exact this
/-- The bytes below n of a set. -/
def upl (p : Nat → Bool) (n : Nat) : List Nat := (List.range n).filter p
theorem upl_yes {p : Nat → Bool} {n : Nat} (h : p n = true) : upl p (n + 1) = upl p n ++ [n] := by unfold upl; rw [List.range_succ, List.filter_append]; simp [h]
theorem upl_no {p : Nat → Bool} {n : Nat} (h : p n = false) : upl p (n + 1) = upl p n := by unfold upl; rw [List.range_succ, List.filter_append]; simp [h]
theorem upl_lt {p : Nat → Bool} {n : Nat} : ∀ c ∈ upl p n, c < n := by
  intro c hc
  unfold upl at hc
  rw [List.mem_filter, List.mem_range] at hc
  exact hc.1
theorem upl_len (p : Nat → Bool) (n : Nat) : (upl p n).length ≤ n := by
  unfold upl
  have := List.length_filter_le p (List.range n)
  rw [List.length_range] at this
  exact this
theorem inl_upl (p : Nat → Bool) : Like (inl (upl p 256)) p := by
  intro b hb
  unfold inl upl
  rw [Bool.eq_iff_iff, List.contains_iff_mem, List.mem_filter, List.mem_range]
  simp [hb]

/-- While a row of bytes is made. -/
structure Rn (W0 wr : World) (B : Nat) (v : Value) (l : List Nat) : Prop where
  own : Ol wr B v l
  mv : Mv (fun j => B ≤ j) W0 wr
theorem Rn.qt {W0 wr w' : World} {B : Nat} {v : Value} {l : List Nat} (h : Hid (Rn W0 wr B v l)) (q : Hid (Qt wr w')) : Hid (Rn W0 w' B v l) :=
  ⟨(Ol.qt h.out.own q).out, h.out.mv.trans q.out (fun _ _ h => h.elim)⟩
theorem Rn.push {W0 wr : World} {B : Nat} {v : Value} {l : List Nat} (h : Hid (Rn W0 wr B v l)) (hB : B ≤ W0.heap.size) (hl : l.length < 90000) (c : Nat) :
    ∃ v' W, (Builtin.append_ #[37, 37] 37 #[v, .slice (some ⟨wr.heap.size, 0, none⟩) 1 1]).run Tryd.prog (wr.alloc (.cells #[.int .u8 (c : Int)] 5)) = .ok v' W ∧ Hid (Rn W0 W B v' (l ++ [c])) := by
  obtain ⟨v', W, h1, h2, h3⟩ := Go.Proofs.YtkclkhfcmjhogaaDoor.push h.out.own (Nat.le_trans hB h.out.mv.size) hl c
  exact ⟨v', W, h1, ⟨h2.out, h.out.mv.trans h3.out (fun _ _ h => h)⟩⟩
theorem Rn.bk {W0 wr : World} {B : Nat} {v : Value} {l : List Nat} (h : Hid (Rn W0 wr B v l)) {g : Nat} {p : Nat → Bool} (hb : Hid (Bk g p W0)) (hg : g < B) : Hid (Bk g p wr) := Bk.mv hb h.out.mv (by omega)

set_option maxRecDepth 20000 in
set_option maxHeartbeats 4000000 in
theorem rnot_any (p : Nat → Bool) (w : World) : Calls Tryd.prog 55 #[.agg #[.int .u64 (limb p 0), .int .u64 (limb p 1), .int .u64 (limb p 2), .int .u64 (limb p 3)]] w fun e w' => e = .returned (sv (no p)) ∧ Hid (Qt w w') := by
  go_enter Tryd.func55, Tryd.ntmps55
  go_wp2_with fail
  have HB : Hid (Bk w.heap.size p ((w.alloc (.cells #[.int .u64 (limb p 0), .int .u64 (limb p 1), .int .u64 (limb p 2), .int .u64 (limb p 3)] 25)).alloc (.cells #[.int .u64 0, .int .u64 0, .int .u64 0, .int .u64 0] 25))) := heap2a _ _ _
  have HZ : Hid (Zr (w.heap.size + 1) ((w.alloc (.cells #[.int .u64 (limb p 0), .int .u64 (limb p 1), .int .u64 (limb p 2), .int .u64 (limb p 3)] 25)).alloc (.cells #[.int .u64 0, .int .u64 0, .int .u64 0, .int .u64 0] 25))) := heap_alloc2_new _ _ _
  have HS : Hid (w.heap.size + 2 ≤ ((w.alloc (.cells #[.int .u64 (limb p 0), .int .u64 (limb p 1), .int .u64 (limb p 2), .int .u64 (limb p 3)] 25)).alloc (.cells #[.int .u64 0, .int .u64 0, .int .u64 0, .int .u64 0] 25)).heap.size) := by show _ ≤ _; simp
  have HQ : Hid (Qt w ((w.alloc (.cells #[.int .u64 (limb p 0), .int .u64 (limb p 1), .int .u64 (limb p 2), .int .u64 (limb p 3)] 25)).alloc (.cells #[.int .u64 0, .int .u64 0, .int .u64 0, .int .u64 0] 25))) := ((Qt.refl w).alloc _).alloc _
  generalize (w.alloc (.cells #[.int .u64 (limb p 0), .int .u64 (limb p 1), .int .u64 (limb p 2), .int .u64 (limb p 3)] 25)).alloc (.cells #[.int .u64 0, .int .u64 0, .int .u64 0, .int .u64 0] 25) = W0 at *
  go_loopw [3, 4] (fun s3 s4 wr => ∃ i : Nat, i ≤ 256 ∧ s4 = .int .i64 i ∧ Hid (Rn W0 wr (w.heap.size + 2) s3 (upl (no p) i))) (fun _ s4 _ => 256 - (intOf s4).toNat)
  case atStart => exact ⟨0, by omega, rfl, (Ol.nil _ _).out, Mv.refl _ _⟩
  case round =>
    obtain ⟨i, hi, rfl, B⟩ := hrel
    obtain ⟨v, hv⟩ : ∃ v, v = u3 := ⟨_, rfl⟩
    subst hv
    by_cases hlt : i < 256
    · obtain ⟨k0, k1, k2, k3, _⟩ := Bk.facts (Rn.bk B HB (by omega))
      have wz : IntKind.u8.wrap (i : Int) = (i : Int) := by rw [IntKind.wrap_u8]; omega
      have hh := rhas_any p i hlt
      cases hp : p i with
      | true =>
        have HU : Hid (upl (no p) (i + 1) = upl (no p) i) := upl_no (by unfold no; rw [hp]; rfl)
        rw [hp] at hh
        clear hp
        go_wp2_with fail
        refine (hh _).mono ?_
        rintro e w2 ⟨rfl, q2⟩
        go_wp2_with fail
        refine ⟨⟨i + 1, by omega, by go_num, ?_⟩, by simp [intOf]; omega⟩
        rw [HU.out]; exact Rn.qt B q2
      | false =>
        have HU : Hid (upl (no p) (i + 1) = upl (no p) i ++ [i]) := upl_yes (by unfold no; rw [hp]; rfl)
        rw [hp] at hh
        clear hp
        go_wp2_with fail
        refine (hh _).mono ?_
        rintro e w2 ⟨rfl, q2⟩
        obtain ⟨v', W, hr, B2⟩ := Rn.push (Rn.qt B q2) HS.out (Nat.lt_of_le_of_lt (upl_len _ _) (by omega)) i
        clear k0 k1 k2 k3 hh
        go_wp2_with (at_builtin; first | (refine wpList_append_given rfl _ _ 37 rfl _ _ _ W rfl rfl hr ?_))
        refine ⟨⟨i + 1, by omega, by go_num, ?_⟩, by simp [intOf]; omega⟩
        rw [HU.out]; exact B2
    · obtain rfl : i = 256 := by omega
      have HL : Hid (sv (inl (upl (no p) 256)) = sv (no p)) := sv_like (inl_upl (no p))
      go_wp2_with fail
      refine (rof_l B.out.own upl_lt (Nat.lt_of_le_of_lt (upl_len _ _) (by omega))).mono ?_
      rintro e w2 ⟨rfl, q2⟩
      rw [HL.out, sv_cells]
      have Z2 : Hid (Zr (w.heap.size + 1) w2) := Zr.mv (Zr.mv HZ B.out.mv (by omega)) q2.out (fun h => h)
      obtain ⟨k0, k1, k2, k3, l0, l1, l2, l3⟩ := Zr.facts Z2
      have QW : Hid (Qt w w2) := Qt.comp (Mv.trans HQ.out B.out.mv (fun j hj h => by omega)) q2.out
      go_wp2_with fail
      refine bodyPost_ret (results_cell_row (p := 2) (ty := 25) rfl _ _ (w.heap.size + 1) 25 _ (0, 0) _ rfl (put4_heap Z2.out _ _ _ _) Tryd.underlying25 rfl (by kernel_rfl)) rfl ?_
      exact ⟨rfl, Mv.trans QW.out (put4_mv w2 (w.heap.size + 1) _ _ _ _) (fun j hj e => by omega)⟩

end Go.Proofs.YtkclkhfcmjhogaaDoor
