/- The reference: Has, Of, in. -/
import Derived.Test.YtkclkhfcmjhogaaDoorMgS3
import Derived.Test.YtkclkhfcmjhogaaDoorMgA
import Derived.Test.YtkclkhfcmjhogaaDoorMgS1
namespace Go.Proofs.YtkclkhfcmjhogaaDoor
open Go.RowKit
set_option linter.unusedVariables false

set_option maxHeartbeats 1000000 in
theorem rhas_at (x : Nat → Nat) (b r q : Nat) (w : World) (hb : b < 256) (hr : (b : Int) % 64 = (r : Int)) (hr2 : r < 64) (hq4 : q < 4) (hq : (b : Int) / 64 = (q : Int)) :
    Calls Tryd.prog 67 #[.agg #[.int .u64 (x 0), .int .u64 (x 1), .int .u64 (x 2), .int .u64 (x 3)], .int .u8 b] w fun e w' => e = .returned (.bool (bits .and .u64 ((x q : Int) / 2 ^ r) 1 == 1)) ∧ Hid (Qt w w') := by
  rcases (show q = 0 ∨ q = 1 ∨ q = 2 ∨ q = 3 from by omega) with rfl | rfl | rfl | rfl
  all_goals
    go_enter Tryd.func67, Tryd.ntmps67
    go_wp2
    go_ret
    exact ⟨rfl, (Qt.refl w).alloc _⟩
theorem rhas_any (p : Nat → Bool) (b : Nat) (hb : b < 256) (w : World) : Calls Tryd.prog 67 #[.agg #[.int .u64 (limb p 0), .int .u64 (limb p 1), .int .u64 (limb p 2), .int .u64 (limb p 3)], .int .u8 b] w fun e w' => e = .returned (.bool (p b)) ∧ Hid (Qt w w') := by
  refine (rhas_at (limb p) b (b % 64) (b / 64) w hb (by omega) (by omega) (by omega) (by omega)).mono ?_
  rintro e w' ⟨rfl, h⟩
  refine ⟨?_, h⟩
  have e1 : ((limb p (b / 64) : Nat) : Int) / 2 ^ (b % 64) = ((limb p (b / 64) >>> (b % 64) : Nat) : Int) := by
    rw [Nat.shiftRight_eq_div_pow]; push_cast; rfl
  have hlt : limb p (b / 64) >>> (b % 64) < 18446744073709551616 := by
    rw [Nat.shiftRight_eq_div_pow]; exact Nat.lt_of_le_of_lt (Nat.div_le_self _ _) (limb_lt p _)
  have e2 := bits_and_u64_nat (limb p (b / 64) >>> (b % 64)) 1 hlt (by decide)
  rw [e1, show (1 : Int) = ((1 : Nat) : Int) from rfl, e2, Nat.and_one_is_mod, limb_has]
  cases p b <;> rfl

theorem Made.drew {w wr : World} {g : Nat} {p : Nat → Bool} (M : Hid (Made w wr g p)) : Hid (Made w wr.drew g p) := ⟨Qt.drew M.out.qt, M.out.new, M.out.res, M.out.at_⟩
/-- The bytes of a list. -/
def inl (l : List Nat) : Nat → Bool := fun b => l.contains b
theorem inl_ofl (l : List Nat) : ofl (fun i => l.getD i 0) l.length = inl l := by
  funext b
  rw [Bool.eq_iff_iff]
  unfold ofl inl
  rw [List.any_eq_true, List.contains_iff_mem]
  constructor
  · rintro ⟨i, hi, h⟩
    rw [List.mem_range] at hi
    simp [List.getD, hi] at h
    rw [← h]; exact List.getElem_mem hi
  · intro h
    obtain ⟨i, hi, rfl⟩ := List.getElem_of_mem h
    exact ⟨i, List.mem_range.2 hi, by simp [List.getD, hi]⟩

set_option maxRecDepth 20000 in
set_option maxHeartbeats 4000000 in
theorem rof_f (a : Option Addr) (n c : Nat) (f : Nat → Nat) (w : World) (hs : Sl w a n (Bn f)) (hf : ∀ i, i < n → f i < 256) (hn : n < 1000000) :
    Calls Tryd.prog 28 #[.slice a n c] w fun e w' => e = .returned (sv (ofl f n)) ∧ Hid (Qt w w') := by
  go_enter Tryd.func28, Tryd.ntmps28
  go_wp2
  go_loopw [4] (fun s4 wr => ∃ i : Nat, i ≤ n ∧ s4 = .int .i64 i ∧ Hid (Made w wr (w.heap.size + 1) (ofl f i))) (fun s4 _ => n - (intOf s4).toNat)
  case atStart =>
    refine ⟨0, by omega, rfl, ⟨((Qt.refl w).alloc _).alloc _, by omega, heap2a _ _ _, ?_⟩⟩
    have e : ofl f 0 = fun _ => false := by funext b; simp [ofl]
    rw [e, limb_none, limb_none, limb_none, limb_none]
    exact heap_alloc2_new _ _ _
  case round =>
    obtain ⟨i, hi, rfl, M⟩ := hrel
    by_cases hlt : i < n
    · obtain ⟨b, off, rfl, hbl, hc⟩ := hs i hlt
      have hc2 : wr.cell? ⟨b, off + i, none⟩ = some (.int .u8 (f i : Int)) := M.out.qt.cell (p := ⟨b, off + i, none⟩) hc (fun h => h)
      have hb := hf i hlt
      have H : Hid (∀ q, q = f i / 64 → Made w (wr.setCell ⟨w.heap.size + 1, q, none⟩ (.int .u64 (bits .or .u64 (limb (ofl f i) q : Int) (IntKind.u64.wrap (2 ^ (f i % 64)))))) (w.heap.size + 1) (ofl f (i + 1))) := by
        intro q hq
        rw [ofl_succ]
        exact M.out.put (by omega) (f i) q hb hq
      have e1 : (f i : Int) % 64 = ((f i % 64 : Nat) : Int) := by omega
      have hr : f i % 64 < 64 := by omega
      have j1 : (0 : Int) ≤ (i : Int) := by omega
      have j2 : (i : Int) < (n : Int) := by omega
      generalize f i % 64 = r at *
      have HI : Hid (i < n) := hlt
      clear hs hc
      rcases (show f i / 64 = 0 ∨ f i / 64 = 1 ∨ f i / 64 = 2 ∨ f i / 64 = 3 from by omega) with hq | hq | hq | hq
      · have K : Hid _ := H.out 0 hq.symm
        obtain ⟨g0, z0⟩ := M.out.cells 0 (by decide)
        have hq2 : (f i : Int) / 64 = 0 := by omega
        clear H
        go_wp2_with fail
        go_region
        go_wp2_with fail
        exact ⟨⟨i + 1, by omega, by go_num, Made.drew K⟩, by simp [intOf]; omega⟩
      · have K : Hid _ := H.out 1 hq.symm
        obtain ⟨g0, z0⟩ := M.out.cells 1 (by decide)
        have hq2 : (f i : Int) / 64 = 1 := by omega
        clear H
        go_wp2_with fail
        go_region
        go_wp2_with fail
        exact ⟨⟨i + 1, by omega, by go_num, Made.drew K⟩, by simp [intOf]; omega⟩
      · have K : Hid _ := H.out 2 hq.symm
        obtain ⟨g0, z0⟩ := M.out.cells 2 (by decide)
        have hq2 : (f i : Int) / 64 = 2 := by omega
        clear H
        go_wp2_with fail
        go_region
        go_wp2_with fail
        exact ⟨⟨i + 1, by omega, by go_num, Made.drew K⟩, by simp [intOf]; omega⟩
      · have K : Hid _ := H.out 3 hq.symm
        obtain ⟨g0, z0⟩ := M.out.cells 3 (by decide)
        have hq2 : (f i : Int) / 64 = 3 := by omega
        clear H
        go_wp2_with fail
        go_region
        go_wp2_with fail
        exact ⟨⟨i + 1, by omega, by go_num, Made.drew K⟩, by simp [intOf]; omega⟩
    · obtain rfl : i = n := by omega
      obtain ⟨c0, _⟩ := M.out.cells 0 (by decide)
      obtain ⟨c1, _⟩ := M.out.cells 1 (by decide)
      obtain ⟨c2, _⟩ := M.out.cells 2 (by decide)
      obtain ⟨c3, _⟩ := M.out.cells 3 (by decide)
      obtain ⟨r0, f0⟩ := M.out.cellr 0 (by decide)
      obtain ⟨r1, f1⟩ := M.out.cellr 1 (by decide)
      obtain ⟨r2, f2⟩ := M.out.cellr 2 (by decide)
      obtain ⟨r3, f3⟩ := M.out.cellr 3 (by decide)
      clear hs hf
      go_wp2
      refine bodyPost_ret (results_cell_row (p := 2) (ty := 25) rfl _ _ w.heap.size 25 _ (0, 0) _ rfl (heap_set (heap_set (heap_set (heap_set M.out.res)))) Tryd.underlying25 rfl (by kernel_rfl)) rfl ?_
      exact ⟨rfl, M.out.four _ _ _ _⟩

/-- A row of bytes of one's own. -/
def Ol (w : World) (base : Nat) (v : Value) (l : List Nat) : Prop := w.ownsRow base 5 1 v l.length (nc l)
theorem Ol.mv {S : Nat → Prop} {w w' : World} {base : Nat} {v : Value} {l : List Nat} (h : Hid (Ol w base v l)) (k : Mv S w w') (hs : ∀ j, base ≤ j → ¬ S j) : Hid (Ol w' base v l) :=
  k.owns h.out (fun j hj => hs j (ow_blk h.out j hj).1)
theorem Ol.qt {w w' : World} {base : Nat} {v : Value} {l : List Nat} (h : Hid (Ol w base v l)) (k : Hid (Qt w w')) : Hid (Ol w' base v l) := k.out.owns h.out (fun _ _ h => h)
theorem Ol.nil (w : World) (base : Nat) : Hid (Ol w base (.slice none 0 0) []) := ow_nil _ _ _ _
theorem Ol.sl {w : World} {base : Nat} {v : Value} {l : List Nat} (h : Hid (Ol w base v l)) : ∃ a cap, v = .slice a l.length cap ∧ Sl w a l.length (Bn (fun i => l.getD i 0)) ∧ l.length ≤ cap ∧ (∀ p, a = some p → base ≤ p.block ∧ p.block < w.heap.size) := by
  obtain ⟨a, cap, e, hl, h1, _, h3⟩ := ow_ls h.out
  refine ⟨a, cap, e, fun i hi => ?_, h1, fun p hp => ow_blk h.out _ (h3 p hp)⟩
  obtain ⟨b, off, e1, e2, e3⟩ := hl i (.int .u8 (l.getD i 0 : Nat)) (by unfold nc; rw [List.getElem?_map]; simp [List.getD, hi])
  exact ⟨b, off, e1, e2, e3⟩
theorem push {w : World} {base : Nat} {v : Value} {l : List Nat} (h : Hid (Ol w base v l)) (hb : base ≤ w.heap.size) (hl : l.length < 90000) (c : Nat) :
    ∃ v' W, (Builtin.append_ #[37, 37] 37 #[v, .slice (some ⟨w.heap.size, 0, none⟩) 1 1]).run Tryd.prog (w.alloc (.cells #[.int .u8 (c : Int)] 5)) = .ok v' W ∧ Hid (Ol W base v' (l ++ [c])) ∧ Hid (Mv (fun j => base ≤ j) w W) := by
  have qW : Qt w (w.alloc (.cells #[.int .u8 (c : Int)] 5)) := (Qt.refl w).alloc _
  obtain ⟨v', W, hr, hown, hgr, _⟩ := append_ow 37 37 5 Tryd.t5 (.int .u8 0) 1 1 Tryd.underlying37 info5 zero5 size5 bytes5 (by rfl) (by omega) (by omega) (w.alloc (.cells #[.int .u8 (c : Int)] 5)) base v l.length 1 1 (nc l) [.int .u8 (c : Int)] (some ⟨w.heap.size, 0, none⟩) (qW.owns h.out (fun _ _ h => h)) (by simpa using Ls.new w #[.int .u8 (c : Int)] 5) rfl (by intro u hu; simp at hu; subst hu; rfl) (by omega) (by intro h; cases h) (by simp; omega)
  refine ⟨v', W, hr, ?_, ?_⟩
  · show W.ownsRow _ _ _ _ _ _
    rw [nc_append, List.length_append]; exact hown
  · exact Mv.trans (qW.mono (fun _ _ h => h.elim)) (Mv.of_grown hgr) (fun j hj e => (ow_blk h.out j e).1)
end Go.Proofs.YtkclkhfcmjhogaaDoor

namespace Go.Proofs.YtkclkhfcmjhogaaDoor
open Go.RowKit
set_option linter.unusedVariables false

theorem sv_like {p q : Nat → Bool} (h : Like p q) : sv p = sv q := by
  unfold sv
  rw [limb_like h (by decide), limb_like h (by decide), limb_like h (by decide), limb_like h (by decide)]
theorem rof_l {w : World} {base : Nat} {v : Value} {l : List Nat} (h : Hid (Ol w base v l)) (hl : ∀ c ∈ l, c < 256) (hn : l.length < 90000) : Calls Tryd.prog 28 #[v] w fun e w' => e = .returned (sv (inl l)) ∧ Hid (Qt w w') := by
  obtain ⟨a, cap, rfl, hs, _, _⟩ := Ol.sl h
  have := rof_f a l.length cap (fun i => l.getD i 0) w hs (fun i hi => by simp [List.getD, hi]; exact hl _ (List.getElem_mem hi)) (by omega)
  rw [inl_ofl] at this
  exact this
/-- The bytes below n of a set. -/
def upl (p : Nat → Bool) (n : Nat) : List Nat := (List.range n).filter p
theorem upl_yes {p : Nat → Bool} {n : Nat} (h : p n = true) : upl p (n + 1) = upl p n ++ [n] := by unfold upl; rw [List.range_succ, List.filter_append]; simp [h]
theorem upl_no {p : Nat → Bool} {n : Nat} (h : p n = false) : upl p (n + 1) = upl p n := by unfold upl; rw [List.range_succ, List.filter_append]; simp [h]
theorem upl_lt {p : Nat → Bool} {n : Nat} : ∀ c ∈ upl p n, c < n := by
  intro c hc
  unfold upl at hc
  rw [List.mem_filter, List.mem_range] at hc
  exact hc.1
theorem upl_len (p : Nat → Bool) (n : Nat) : (upl p n).length ≤ n := by
  unfold upl
  have := List.length_filter_le p (List.range n)
  rw [List.length_range] at this
  exact this
theorem inl_upl (p : Nat → Bool) : Like (inl (upl p 256)) p := by
  intro b hb
  unfold inl upl
  rw [Bool.eq_iff_iff, List.contains_iff_mem, List.mem_filter, List.mem_range]
  simp [hb]

/-- While a row of bytes is made. -/
structure Rn (W0 wr : World) (B : Nat) (v : Value) (l : List Nat) : Prop where
  own : Ol wr B v l
  mv : Mv (fun j => B ≤ j) W0 wr
theorem Rn.qt {W0 wr w' : World} {B : Nat} {v : Value} {l : List Nat} (h : Hid (Rn W0 wr B v l)) (q : Hid (Qt wr w')) : Hid (Rn W0 w' B v l) :=
  ⟨(Ol.qt h.out.own q).out, h.out.mv.trans q.out (fun _ _ h => h.elim)⟩
theorem Rn.push {W0 wr : World} {B : Nat} {v : Value} {l : List Nat} (h : Hid (Rn W0 wr B v l)) (hB : B ≤ W0.heap.size) (hl : l.length < 90000) (c : Nat) :
    ∃ v' W, (Builtin.append_ #[37, 37] 37 #[v, .slice (some ⟨wr.heap.size, 0, none⟩) 1 1]).run Tryd.prog (wr.alloc (.cells #[.int .u8 (c : Int)] 5)) = .ok v' W ∧ Hid (Rn W0 W B v' (l ++ [c])) := by
  obtain ⟨v', W, h1, h2, h3⟩ := Go.Proofs.YtkclkhfcmjhogaaDoor.push h.out.own (Nat.le_trans hB h.out.mv.size) hl c
  exact ⟨v', W, h1, ⟨h2.out, h.out.mv.trans h3.out (fun _ _ h => h)⟩⟩
theorem Rn.bk {W0 wr : World} {B : Nat} {v : Value} {l : List Nat} (h : Hid (Rn W0 wr B v l)) {g : Nat} {p : Nat → Bool} (hb : Hid (Bk g p W0)) (hg : g < B) : Hid (Bk g p wr) := Bk.mv hb h.out.mv (by omega)

set_option maxRecDepth 20000 in
set_option maxHeartbeats 4000000 in
theorem rnot_any (p : Nat → Bool) (w : World) : Calls Tryd.prog 55 #[.agg #[.int .u64 (limb p 0), .int .u64 (limb p 1), .int .u64 (limb p 2), .int .u64 (limb p 3)]] w fun e w' => e = .returned (sv (no p)) ∧ Hid (Qt w w') := by
  go_enter Tryd.func55, Tryd.ntmps55
  go_wp2_with fail
  have HB : Hid (Bk w.heap.size p ((w.alloc (.cells #[.int .u64 (limb p 0), .int .u64 (limb p 1), .int .u64 (limb p 2), .int .u64 (limb p 3)] 25)).alloc (.cells #[.int .u64 0, .int .u64 0, .int .u64 0, .int .u64 0] 25))) := heap2a _ _ _
  have HZ : Hid (Zr (w.heap.size + 1) ((w.alloc (.cells #[.int .u64 (limb p 0), .int .u64 (limb p 1), .int .u64 (limb p 2), .int .u64 (limb p 3)] 25)).alloc (.cells #[.int .u64 0, .int .u64 0, .int .u64 0, .int .u64 0] 25))) := heap_alloc2_new _ _ _
  have HS : Hid (w.heap.size + 2 ≤ ((w.alloc (.cells #[.int .u64 (limb p 0), .int .u64 (limb p 1), .int .u64 (limb p 2), .int .u64 (limb p 3)] 25)).alloc (.cells #[.int .u64 0, .int .u64 0, .int .u64 0, .int .u64 0] 25)).heap.size) := by show _ ≤ _; simp
  have HQ : Hid (Qt w ((w.alloc (.cells #[.int .u64 (limb p 0), .int .u64 (limb p 1), .int .u64 (limb p 2), .int .u64 (limb p 3)] 25)).alloc (.cells #[.int .u64 0, .int .u64 0, .int .u64 0, .int .u64 0] 25))) := ((Qt.refl w).alloc _).alloc _
  generalize (w.alloc (.cells #[.int .u64 (limb p 0), .int .u64 (limb p 1), .int .u64 (limb p 2), .int .u64 (limb p 3)] 25)).alloc (.cells #[.int .u64 0, .int .u64 0, .int .u64 0, .int .u64 0] 25) = W0 at *
  go_loopw [3, 4] (fun s3 s4 wr => ∃ i : Nat, i ≤ 256 ∧ s4 = .int .i64 i ∧ Hid (Rn W0 wr (w.heap.size + 2) s3 (upl (no p) i))) (fun _ s4 _ => 256 - (intOf s4).toNat)
  case atStart => exact ⟨0, by omega, rfl, (Ol.nil _ _).out, Mv.refl _ _⟩
  case round =>
    obtain ⟨i, hi, rfl, B⟩ := hrel
    obtain ⟨v, hv⟩ : ∃ v, v = u3 := ⟨_, rfl⟩
    subst hv
    by_cases hlt : i < 256
    · obtain ⟨k0, k1, k2, k3, _⟩ := Bk.facts (Rn.bk B HB (by omega))
      have wz : IntKind.u8.wrap (i : Int) = (i : Int) := by rw [IntKind.wrap_u8]; omega
      have hh := rhas_any p i hlt
      cases hp : p i with
      | true =>
        have HU : Hid (upl (no p) (i + 1) = upl (no p) i) := upl_no (by unfold no; rw [hp]; rfl)
        rw [hp] at hh
        clear hp
        go_wp2_with fail
        refine (hh _).mono ?_
        rintro e w2 ⟨rfl, q2⟩
        go_wp2_with fail
        refine ⟨⟨i + 1, by omega, by go_num, ?_⟩, by simp [intOf]; omega⟩
        rw [HU.out]; exact Rn.qt B q2
      | false =>
        have HU : Hid (upl (no p) (i + 1) = upl (no p) i ++ [i]) := upl_yes (by unfold no; rw [hp]; rfl)
        rw [hp] at hh
        clear hp
        go_wp2_with fail
        refine (hh _).mono ?_
        rintro e w2 ⟨rfl, q2⟩
        obtain ⟨v', W, hr, B2⟩ := Rn.push (Rn.qt B q2) HS.out (Nat.lt_of_le_of_lt (upl_len _ _) (by omega)) i
        clear k0 k1 k2 k3 hh
        go_wp2_with (at_builtin; first | (refine wpList_append_given rfl _ _ 37 rfl _ _ _ W rfl rfl hr ?_))
        refine ⟨⟨i + 1, by omega, by go_num, ?_⟩, by simp [intOf]; omega⟩
        rw [HU.out]; exact B2
    · obtain rfl : i = 256 := by omega
      have HL : Hid (sv (inl (upl (no p) 256)) = sv (no p)) := sv_like (inl_upl (no p))
      go_wp2_with fail
      refine (rof_l B.out.own upl_lt (Nat.lt_of_le_of_lt (upl_len _ _) (by omega))).mono ?_
      rintro e w2 ⟨rfl, q2⟩
      rw [HL.out, sv_cells]
      have Z2 : Hid (Zr (w.heap.size + 1) w2) := Zr.mv (Zr.mv HZ B.out.mv (by omega)) q2.out (fun h => h)
      obtain ⟨k0, k1, k2, k3, l0, l1, l2, l3⟩ := Zr.facts Z2
      have QW : Hid (Qt w w2) := Qt.comp (Mv.trans HQ.out B.out.mv (fun j hj h => by omega)) q2.out
      go_wp2_with fail
      refine bodyPost_ret (results_cell_row (p := 2) (ty := 25) rfl _ _ (w.heap.size + 1) 25 _ (0, 0) _ rfl (put4_heap Z2.out _ _ _ _) Tryd.underlying25 rfl (by kernel_rfl)) rfl ?_
      exact ⟨rfl, Mv.trans QW.out (put4_mv w2 (w.heap.size + 1) _ _ _ _) (fun j hj e => by omega)⟩

end Go.Proofs.YtkclkhfcmjhogaaDoor

namespace Go.Proofs.YtkclkhfcmjhogaaDoor
open Go.RowKit
set_option linter.unusedVariables false

def MR : List Nat := [92, 124, 42, 43, 63, 40, 41, 91, 93, 46, 94, 45]
theorem mk_of {c i : Nat} (hi : i < 12) (h : MR[i]'hi = c) : mk c = true := by
  unfold mk
  rw [List.contains_iff_mem, ← h]
  exact List.getElem_mem hi
theorem mk_not {c : Nat} (h : ∀ j (hj : j < 12), MR[j]'hj ≠ c) : mk c = false := by
  cases hm : mk c with
  | false => rfl
  | true =>
    unfold mk at hm
    rw [List.contains_iff_mem] at hm
    obtain ⟨i, hi, e⟩ := List.getElem_of_mem hm
    exact absurd e (h i hi)

set_option maxHeartbeats 1000000 in
theorem in_marks (c : Nat) (hc : c < 256) (w : World) : Calls Tryd.prog 82 #[.string ⟨#[92, 124, 42, 43, 63, 40, 41, 91, 93, 46, 94, 45]⟩, .int .u8 (c : Int)] w fun e w' => e = .returned (.bool (mk c)) ∧ w' = w := by
  have HI : Hid (∀ i : Nat, (hi : i < 12) → ∀ W, (Instr.index 9 (.string ⟨#[92, 124, 42, 43, 63, 40, 41, 91, 93, 46, 94, 45]⟩) (.int .i64 (i : Int))).run Tryd.prog W = .ok (.int .u8 ((MR[i]'hi : Nat) : Int)) W) := fun i hi W => idx_at ⟨#[92, 124, 42, 43, 63, 40, 41, 91, 93, 46, 94, 45]⟩ i hi W
  go_enter Tryd.func82, Tryd.ntmps82
  go_wp2_with fail
  go_loopw [5] (fun s5 wr => ∃ i : Nat, i ≤ 12 ∧ s5 = .int .i64 i ∧ Hid (∀ j (hj : j < 12), j < i → MR[j]'hj ≠ c) ∧ wr = w) (fun s5 _ => 12 - (intOf s5).toNat)
  case atStart => exact ⟨0, by omega, rfl, fun j _ h => by omega, rfl⟩
  case round =>
    obtain ⟨i, hi, rfl, H, rfl⟩ := hrel
    by_cases hlt : i < 12
    · have hx := HI.out i hlt
      by_cases he : MR[i]'hlt = c
      · have HM : Hid (mk c = true) := mk_of hlt he
        have hb : (((MR[i]'hlt : Nat) : Int) == (c : Int)) = true := by simp; omega
        generalize MR[i]'hlt = x at *
        clear he
        go_wp2_with fail
        go_ret
        exact ⟨by rw [HM.out]; rfl, rfl⟩
      · have hb : (((MR[i]'hlt : Nat) : Int) == (c : Int)) = false := by simp; omega
        have H2 : Hid (∀ j (hj : j < 12), j < i + 1 → MR[j]'hj ≠ c) := by
          intro j hj h
          by_cases e : j = i
          · subst e; exact he
          · exact H.out j hj (by omega)
        generalize MR[i]'hlt = x at *
        clear he
        go_wp2_with fail
        exact ⟨⟨i + 1, by omega, by go_num, H2, trivial⟩, by simp [intOf]; omega⟩
    · obtain rfl : i = 12 := by omega
      have HM : Hid (mk c = false) := mk_not (fun j hj => H.out j hj hj)
      go_wp2_with fail
      go_ret
      exact ⟨by rw [HM.out]; rfl, rfl⟩

/-- What digit tells. -/
def dgt (c : Nat) : Int := match dig c with | none => -1 | some x => (x : Int)
theorem dgt_hexd {i : Nat} (hi : i < 16) : dgt (hexd i) = (i : Int) := by unfold dgt; rw [dig_hexd hi]
theorem dgt_not {c : Nat} (h : ∀ j, j < 16 → hexd j ≠ c) : dgt c = -1 := by
  unfold dgt
  cases hd : dig c with
  | none => rfl
  | some x =>
    exfalso
    have hx := dig_lt hd
    refine h x hx ?_
    unfold dig at hd
    unfold hexd
    split at hd
    · cases hd; rw [if_pos (by omega)]; omega
    · split at hd
      · cases hd; rw [if_neg (by omega)]; omega
      · cases hd
set_option maxHeartbeats 1000000 in
theorem rdigit (c : Nat) (hc : c < 256) (w : World) : Calls Tryd.prog 112 #[.int .u8 (c : Int)] w fun e w' => e = .returned (.int .i64 (dgt c)) ∧ w' = w := by
  have HI : Hid (∀ i : Nat, (hi : i < 16) → ∀ W, (Instr.index 9 (.string ⟨#[48, 49, 50, 51, 52, 53, 54, 55, 56, 57, 97, 98, 99, 100, 101, 102]⟩) (.int .i64 (i : Int))).run Tryd.prog W = .ok (.int .u8 ((hexd i : Nat) : Int)) W) := by
    intro i hi W
    have := idx_at ⟨#[48, 49, 50, 51, 52, 53, 54, 55, 56, 57, 97, 98, 99, 100, 101, 102]⟩ i hi W
    rwa [hexd_at i hi] at this
  go_enter Tryd.func112, Tryd.ntmps112
  go_wp2_with fail
  go_loopw [3] (fun s3 wr => ∃ i : Nat, i ≤ 16 ∧ s3 = .int .i64 i ∧ Hid (∀ j, j < i → hexd j ≠ c) ∧ wr = w) (fun s3 _ => 16 - (intOf s3).toNat)
  case atStart => exact ⟨0, by omega, rfl, fun j h => by omega, rfl⟩
  case round =>
    obtain ⟨i, hi, rfl, H, rfl⟩ := hrel
    by_cases hlt : i < 16
    · have hx := HI.out i hlt
      by_cases he : hexd i = c
      · have HM : Hid (dgt c = (i : Int)) := by show _ = _; rw [← he]; exact dgt_hexd hlt
        have hb : (((hexd i : Nat) : Int) == (c : Int)) = true := by simp; omega
        generalize hexd i = x at *
        clear he
        go_wp2_with fail
        go_ret
        exact ⟨by rw [HM.out]; rfl, rfl⟩
      · have hb : (((hexd i : Nat) : Int) == (c : Int)) = false := by simp; omega
        have H2 : Hid (∀ j, j < i + 1 → hexd j ≠ c) := by
          intro j h
          by_cases e : j = i
          · subst e; exact he
          · exact H.out j (by omega)
        generalize hexd i = x at *
        clear he
        go_wp2_with fail
        exact ⟨⟨i + 1, by omega, by go_num, H2, trivial⟩, by simp [intOf]; omega⟩
    · obtain rfl : i = 16 := by omega
      have HM : Hid (dgt c = -1) := dgt_not (fun j hj => H.out j hj)
      go_wp2_with fail
      go_ret
      exact ⟨by rw [HM.out]; rfl, rfl⟩

end Go.Proofs.YtkclkhfcmjhogaaDoor

namespace Go.Proofs.YtkclkhfcmjhogaaDoor
open Go.RowKit
set_option linter.unusedVariables false
set_option linter.unusedSimpArgs false

/-- What is left of a text from a place on. -/
def Sf (S : ByteArray) (k : Nat) (l : List Nat) : Prop := ∃ pre, bs S = pre ++ l ∧ pre.length = k
theorem Sf.size {S : ByteArray} {k : Nat} {l : List Nat} (h : Sf S k l) : k + l.length = S.size := by
  obtain ⟨pre, h1, h2⟩ := h
  rw [← bs_length, h1, List.length_append, h2]
theorem Sf.tail {S : ByteArray} {k c : Nat} {l : List Nat} (h : Sf S k (c :: l)) : Sf S (k + 1) l := by
  obtain ⟨pre, h1, h2⟩ := h
  exact ⟨pre ++ [c], by rw [h1]; simp, by simp [h2]⟩
theorem Sf.at {S : ByteArray} {k c : Nat} {l : List Nat} (h : Sf S k (c :: l)) : (∀ w, (Instr.index 9 (.string S) (.int .i64 (k : Int))).run Tryd.prog w = .ok (.int .u8 (c : Int)) w) ∧ c < 256 := by
  obtain ⟨pre, h1, h2⟩ := h
  refine ⟨fun w => ?_, bs_lt S c (by rw [h1]; simp)⟩
  rw [← h2]
  exact index_run S pre l c h1 w
theorem Sf.at1 {S : ByteArray} {k j c : Nat} {l : List Nat} (h : Sf S (k + j) (c :: l)) : (∀ w, (Instr.index 9 (.string S) (.int .i64 ((k : Int) + (j : Int)))).run Tryd.prog w = .ok (.int .u8 (c : Int)) w) ∧ c < 256 := by
  have := h.at
  rw [show ((k + j : Nat) : Int) = (k : Int) + (j : Int) from by omega] at this
  exact this
theorem Sf.zero (S : ByteArray) : Sf S 0 (bs S) := ⟨[], rfl, rfl⟩

set_option maxRecDepth 20000 in
set_option maxHeartbeats 2000000 in
theorem rs_end (S : ByteArray) (k : Nat)  (w : World)  (F : Hid (Sf S k ([]))) (hs : S.size < 1000000) :
    Calls Tryd.prog 107 #[.string S, .int .i64 (k : Int)] w fun e w' => e = .returned (.tuple #[.int .u8 0, .int .i64 (-1)]) ∧ Hid (Qt w w') := by
  have hz := F.out.size
  simp only [List.length_cons, List.length_nil] at hz
  have hw1 : IntKind.i64.wrap ((k : Int) + 1) = (k : Int) + 1 := by rw [IntKind.wrap_i64]; omega
  have hw2 : IntKind.i64.wrap ((k : Int) + 2) = (k : Int) + 2 := by rw [IntKind.wrap_i64]; omega
  have hw3 : IntKind.i64.wrap ((k : Int) + 3) = (k : Int) + 3 := by rw [IntKind.wrap_i64]; omega
  have hw4 : IntKind.i64.wrap ((k : Int) + 4) = (k : Int) + 4 := by rw [IntKind.wrap_i64]; omega
  have g0 : (S.size : Int) ≤ (k : Int) := by omega
  clear hz
  go_enter Tryd.func107, Tryd.ntmps107
  go_wp2_with fail
  go_ret2
  exact ⟨by simp, Qt.refl _⟩

set_option maxRecDepth 20000 in
set_option maxHeartbeats 2000000 in
theorem rs_lo (S : ByteArray) (k : Nat) (c : Nat) (t : List Nat) (w : World) (hne : c ≠ 92) (hlo : c < 33) (F : Hid (Sf S k (c :: t))) (hs : S.size < 1000000) :
    Calls Tryd.prog 107 #[.string S, .int .i64 (k : Int)] w fun e w' => e = .returned (.tuple #[.int .u8 0, .int .i64 (-1)]) ∧ Hid (Qt w w') := by
  have hz := F.out.size
  simp only [List.length_cons, List.length_nil] at hz
  have hw1 : IntKind.i64.wrap ((k : Int) + 1) = (k : Int) + 1 := by rw [IntKind.wrap_i64]; omega
  have hw2 : IntKind.i64.wrap ((k : Int) + 2) = (k : Int) + 2 := by rw [IntKind.wrap_i64]; omega
  have hw3 : IntKind.i64.wrap ((k : Int) + 3) = (k : Int) + 3 := by rw [IntKind.wrap_i64]; omega
  have hw4 : IntKind.i64.wrap ((k : Int) + 4) = (k : Int) + 4 := by rw [IntKind.wrap_i64]; omega
  obtain ⟨ic, hc⟩ := F.out.at
  have g0 : ¬ (S.size : Int) ≤ (k : Int) := by omega
  have h92 : ((c : Int) == 92) = false := by simp; omega
  have h92b : ((c : Int) != 92) = true := by rw [bne, h92]; rfl
  have g1 : (c : Int) < 33 := by omega
  clear hz
  go_enter Tryd.func107, Tryd.ntmps107
  go_wp2_with fail
  go_ret2
  exact ⟨by simp, Qt.refl _⟩

set_option maxRecDepth 20000 in
set_option maxHeartbeats 2000000 in
theorem rs_hi (S : ByteArray) (k : Nat) (c : Nat) (t : List Nat) (w : World) (hne : c ≠ 92) (hlo : ¬ c < 33) (hhi : 126 < c) (F : Hid (Sf S k (c :: t))) (hs : S.size < 1000000) :
    Calls Tryd.prog 107 #[.string S, .int .i64 (k : Int)] w fun e w' => e = .returned (.tuple #[.int .u8 0, .int .i64 (-1)]) ∧ Hid (Qt w w') := by
  have hz := F.out.size
  simp only [List.length_cons, List.length_nil] at hz
  have hw1 : IntKind.i64.wrap ((k : Int) + 1) = (k : Int) + 1 := by rw [IntKind.wrap_i64]; omega
  have hw2 : IntKind.i64.wrap ((k : Int) + 2) = (k : Int) + 2 := by rw [IntKind.wrap_i64]; omega
  have hw3 : IntKind.i64.wrap ((k : Int) + 3) = (k : Int) + 3 := by rw [IntKind.wrap_i64]; omega
  have hw4 : IntKind.i64.wrap ((k : Int) + 4) = (k : Int) + 4 := by rw [IntKind.wrap_i64]; omega
  obtain ⟨ic, hc⟩ := F.out.at
  have g0 : ¬ (S.size : Int) ≤ (k : Int) := by omega
  have h92 : ((c : Int) == 92) = false := by simp; omega
  have h92b : ((c : Int) != 92) = true := by rw [bne, h92]; rfl
  have g1 : ¬ (c : Int) < 33 := by omega
  have g2 : (126 : Int) < (c : Int) := by omega
  clear hz
  go_enter Tryd.func107, Tryd.ntmps107
  go_wp2_with fail
  go_ret2
  exact ⟨by simp, Qt.refl _⟩

set_option maxRecDepth 20000 in
set_option maxHeartbeats 2000000 in
theorem rs_mk (S : ByteArray) (k : Nat) (c : Nat) (t : List Nat) (w : World) (hne : c ≠ 92) (hlo : ¬ c < 33) (hhi : ¬ 126 < c) (hmk : mk c = true) (F : Hid (Sf S k (c :: t))) (hs : S.size < 1000000) :
    Calls Tryd.prog 107 #[.string S, .int .i64 (k : Int)] w fun e w' => e = .returned (.tuple #[.int .u8 0, .int .i64 (-1)]) ∧ Hid (Qt w w') := by
  have hz := F.out.size
  simp only [List.length_cons, List.length_nil] at hz
  have hw1 : IntKind.i64.wrap ((k : Int) + 1) = (k : Int) + 1 := by rw [IntKind.wrap_i64]; omega
  have hw2 : IntKind.i64.wrap ((k : Int) + 2) = (k : Int) + 2 := by rw [IntKind.wrap_i64]; omega
  have hw3 : IntKind.i64.wrap ((k : Int) + 3) = (k : Int) + 3 := by rw [IntKind.wrap_i64]; omega
  have hw4 : IntKind.i64.wrap ((k : Int) + 4) = (k : Int) + 4 := by rw [IntKind.wrap_i64]; omega
  obtain ⟨ic, hc⟩ := F.out.at
  have g0 : ¬ (S.size : Int) ≤ (k : Int) := by omega
  have h92 : ((c : Int) == 92) = false := by simp; omega
  have h92b : ((c : Int) != 92) = true := by rw [bne, h92]; rfl
  have g1 : ¬ (c : Int) < 33 := by omega
  have g2 : ¬ (126 : Int) < (c : Int) := by omega
  have hm := in_marks c hc
  rw [hmk] at hm
  have hd1 := rdigit 0 (by omega)
  have hd2 := rdigit 0 (by omega)
  clear hz
  go_enter Tryd.func107, Tryd.ntmps107
  go_wp2_with (first
    | (go_at_call 82; with_reducible refine (hm _).mono ?_; rintro e w1 ⟨rfl, rfl⟩)
    | (go_at_call 112; with_reducible refine (hd1 _).mono ?_; rintro e w1 ⟨rfl, rfl⟩)
    | (go_at_call 112; with_reducible refine (hd2 _).mono ?_; rintro e w1 ⟨rfl, rfl⟩))
  go_ret2
  exact ⟨by simp, Qt.refl _⟩

set_option maxRecDepth 20000 in
set_option maxHeartbeats 2000000 in
theorem rs_plain (S : ByteArray) (k : Nat) (c : Nat) (t : List Nat) (w : World) (hne : c ≠ 92) (hlo : ¬ c < 33) (hhi : ¬ 126 < c) (hmk : mk c = false) (F : Hid (Sf S k (c :: t))) (hs : S.size < 1000000) :
    Calls Tryd.prog 107 #[.string S, .int .i64 (k : Int)] w fun e w' => e = .returned (.tuple #[.int .u8 (c : Int), .int .i64 ((k : Int) + 1)]) ∧ Hid (Qt w w') := by
  have hz := F.out.size
  simp only [List.length_cons, List.length_nil] at hz
  have hw1 : IntKind.i64.wrap ((k : Int) + 1) = (k : Int) + 1 := by rw [IntKind.wrap_i64]; omega
  have hw2 : IntKind.i64.wrap ((k : Int) + 2) = (k : Int) + 2 := by rw [IntKind.wrap_i64]; omega
  have hw3 : IntKind.i64.wrap ((k : Int) + 3) = (k : Int) + 3 := by rw [IntKind.wrap_i64]; omega
  have hw4 : IntKind.i64.wrap ((k : Int) + 4) = (k : Int) + 4 := by rw [IntKind.wrap_i64]; omega
  obtain ⟨ic, hc⟩ := F.out.at
  have g0 : ¬ (S.size : Int) ≤ (k : Int) := by omega
  have h92 : ((c : Int) == 92) = false := by simp; omega
  have h92b : ((c : Int) != 92) = true := by rw [bne, h92]; rfl
  have g1 : ¬ (c : Int) < 33 := by omega
  have g2 : ¬ (126 : Int) < (c : Int) := by omega
  have hm := in_marks c hc
  rw [hmk] at hm
  have hd1 := rdigit 0 (by omega)
  have hd2 := rdigit 0 (by omega)
  clear hz
  go_enter Tryd.func107, Tryd.ntmps107
  go_wp2_with (first
    | (go_at_call 82; with_reducible refine (hm _).mono ?_; rintro e w1 ⟨rfl, rfl⟩)
    | (go_at_call 112; with_reducible refine (hd1 _).mono ?_; rintro e w1 ⟨rfl, rfl⟩)
    | (go_at_call 112; with_reducible refine (hd2 _).mono ?_; rintro e w1 ⟨rfl, rfl⟩))
  go_ret2
  exact ⟨by simp, Qt.refl _⟩

set_option maxRecDepth 20000 in
set_option maxHeartbeats 2000000 in
theorem rs_b0 (S : ByteArray) (k : Nat)  (w : World)  (F : Hid (Sf S k (92 :: []))) (hs : S.size < 1000000) :
    Calls Tryd.prog 107 #[.string S, .int .i64 (k : Int)] w fun e w' => e = .returned (.tuple #[.int .u8 0, .int .i64 (-1)]) ∧ Hid (Qt w w') := by
  have hz := F.out.size
  simp only [List.length_cons, List.length_nil] at hz
  have hw1 : IntKind.i64.wrap ((k : Int) + 1) = (k : Int) + 1 := by rw [IntKind.wrap_i64]; omega
  have hw2 : IntKind.i64.wrap ((k : Int) + 2) = (k : Int) + 2 := by rw [IntKind.wrap_i64]; omega
  have hw3 : IntKind.i64.wrap ((k : Int) + 3) = (k : Int) + 3 := by rw [IntKind.wrap_i64]; omega
  have hw4 : IntKind.i64.wrap ((k : Int) + 4) = (k : Int) + 4 := by rw [IntKind.wrap_i64]; omega
  obtain ⟨ic, hc⟩ := F.out.at
  have ic2 : ∀ w, (Instr.index 9 (.string S) (.int .i64 (k : Int))).run Tryd.prog w = .ok (.int .u8 92) w := ic
  clear ic
  have g0 : ¬ (S.size : Int) ≤ (k : Int) := by omega
  have g1 : ¬ (k : Int) + 1 < (S.size : Int) := by omega
  have g3 : ¬ (k : Int) + 3 < (S.size : Int) := by omega
  clear hz
  go_enter Tryd.func107, Tryd.ntmps107
  go_wp2_with fail
  go_ret2
  exact ⟨by simp, Qt.refl _⟩

set_option maxRecDepth 20000 in
set_option maxHeartbeats 2000000 in
theorem rs_b1 (S : ByteArray) (k : Nat) (d : Nat) (t : List Nat) (w : World) (hmk : mk d = true) (F : Hid (Sf S k (92 :: d :: t))) (hs : S.size < 1000000) :
    Calls Tryd.prog 107 #[.string S, .int .i64 (k : Int)] w fun e w' => e = .returned (.tuple #[.int .u8 (d : Int), .int .i64 ((k : Int) + 2)]) ∧ Hid (Qt w w') := by
  have hz := F.out.size
  simp only [List.length_cons, List.length_nil] at hz
  have hw1 : IntKind.i64.wrap ((k : Int) + 1) = (k : Int) + 1 := by rw [IntKind.wrap_i64]; omega
  have hw2 : IntKind.i64.wrap ((k : Int) + 2) = (k : Int) + 2 := by rw [IntKind.wrap_i64]; omega
  have hw3 : IntKind.i64.wrap ((k : Int) + 3) = (k : Int) + 3 := by rw [IntKind.wrap_i64]; omega
  have hw4 : IntKind.i64.wrap ((k : Int) + 4) = (k : Int) + 4 := by rw [IntKind.wrap_i64]; omega
  obtain ⟨ic, hc⟩ := F.out.at
  have ic2 : ∀ w, (Instr.index 9 (.string S) (.int .i64 (k : Int))).run Tryd.prog w = .ok (.int .u8 92) w := ic
  clear ic
  have g0 : ¬ (S.size : Int) ≤ (k : Int) := by omega
  obtain ⟨id, hd⟩ := (F.out.tail).at1 (j := 1)
  have id2 : ∀ w, (Instr.index 9 (.string S) (.int .i64 ((k : Int) + 1))).run Tryd.prog w = .ok (.int .u8 (d : Int)) w := id
  clear id
  have g1 : (k : Int) + 1 < (S.size : Int) := by omega
  have hm := in_marks d hd
  rw [hmk] at hm
  have hd1 := rdigit 0 (by omega)
  have hd2 := rdigit 0 (by omega)
  clear hz
  go_enter Tryd.func107, Tryd.ntmps107
  go_wp2_with (first
    | (go_at_call 82; with_reducible refine (hm _).mono ?_; rintro e w1 ⟨rfl, rfl⟩)
    | (go_at_call 112; with_reducible refine (hd1 _).mono ?_; rintro e w1 ⟨rfl, rfl⟩)
    | (go_at_call 112; with_reducible refine (hd2 _).mono ?_; rintro e w1 ⟨rfl, rfl⟩))
  go_ret2
  exact ⟨by simp, Qt.refl _⟩

set_option maxRecDepth 20000 in
set_option maxHeartbeats 2000000 in
theorem rs_b2 (S : ByteArray) (k : Nat) (d : Nat) (t : List Nat) (w : World) (hmk : mk d = false) (ht : t.length < 2) (F : Hid (Sf S k (92 :: d :: t))) (hs : S.size < 1000000) :
    Calls Tryd.prog 107 #[.string S, .int .i64 (k : Int)] w fun e w' => e = .returned (.tuple #[.int .u8 0, .int .i64 (-1)]) ∧ Hid (Qt w w') := by
  have hz := F.out.size
  simp only [List.length_cons, List.length_nil] at hz
  have hw1 : IntKind.i64.wrap ((k : Int) + 1) = (k : Int) + 1 := by rw [IntKind.wrap_i64]; omega
  have hw2 : IntKind.i64.wrap ((k : Int) + 2) = (k : Int) + 2 := by rw [IntKind.wrap_i64]; omega
  have hw3 : IntKind.i64.wrap ((k : Int) + 3) = (k : Int) + 3 := by rw [IntKind.wrap_i64]; omega
  have hw4 : IntKind.i64.wrap ((k : Int) + 4) = (k : Int) + 4 := by rw [IntKind.wrap_i64]; omega
  obtain ⟨ic, hc⟩ := F.out.at
  have ic2 : ∀ w, (Instr.index 9 (.string S) (.int .i64 (k : Int))).run Tryd.prog w = .ok (.int .u8 92) w := ic
  clear ic
  have g0 : ¬ (S.size : Int) ≤ (k : Int) := by omega
  obtain ⟨id, hd⟩ := (F.out.tail).at1 (j := 1)
  have id2 : ∀ w, (Instr.index 9 (.string S) (.int .i64 ((k : Int) + 1))).run Tryd.prog w = .ok (.int .u8 (d : Int)) w := id
  clear id
  have g1 : (k : Int) + 1 < (S.size : Int) := by omega
  have hm := in_marks d hd
  rw [hmk] at hm
  have g3 : ¬ (k : Int) + 3 < (S.size : Int) := by omega
  have hd1 := rdigit 0 (by omega)
  have hd2 := rdigit 0 (by omega)
  clear hz
  go_enter Tryd.func107, Tryd.ntmps107
  go_wp2_with (first
    | (go_at_call 82; with_reducible refine (hm _).mono ?_; rintro e w1 ⟨rfl, rfl⟩)
    | (go_at_call 112; with_reducible refine (hd1 _).mono ?_; rintro e w1 ⟨rfl, rfl⟩)
    | (go_at_call 112; with_reducible refine (hd2 _).mono ?_; rintro e w1 ⟨rfl, rfl⟩))
  go_ret2
  exact ⟨by simp, Qt.refl _⟩

set_option maxRecDepth 20000 in
set_option maxHeartbeats 2000000 in
theorem rs_b3 (S : ByteArray) (k : Nat) (d a b : Nat) (t : List Nat) (w : World) (hmk : mk d = false) (hx : d ≠ 120) (F : Hid (Sf S k (92 :: d :: a :: b :: t))) (hs : S.size < 1000000) :
    Calls Tryd.prog 107 #[.string S, .int .i64 (k : Int)] w fun e w' => e = .returned (.tuple #[.int .u8 0, .int .i64 (-1)]) ∧ Hid (Qt w w') := by
  have hz := F.out.size
  simp only [List.length_cons, List.length_nil] at hz
  have hw1 : IntKind.i64.wrap ((k : Int) + 1) = (k : Int) + 1 := by rw [IntKind.wrap_i64]; omega
  have hw2 : IntKind.i64.wrap ((k : Int) + 2) = (k : Int) + 2 := by rw [IntKind.wrap_i64]; omega
  have hw3 : IntKind.i64.wrap ((k : Int) + 3) = (k : Int) + 3 := by rw [IntKind.wrap_i64]; omega
  have hw4 : IntKind.i64.wrap ((k : Int) + 4) = (k : Int) + 4 := by rw [IntKind.wrap_i64]; omega
  obtain ⟨ic, hc⟩ := F.out.at
  have ic2 : ∀ w, (Instr.index 9 (.string S) (.int .i64 (k : Int))).run Tryd.prog w = .ok (.int .u8 92) w := ic
  clear ic
  have g0 : ¬ (S.size : Int) ≤ (k : Int) := by omega
  obtain ⟨id, hd⟩ := (F.out.tail).at1 (j := 1)
  have id2 : ∀ w, (Instr.index 9 (.string S) (.int .i64 ((k : Int) + 1))).run Tryd.prog w = .ok (.int .u8 (d : Int)) w := id
  clear id
  have g1 : (k : Int) + 1 < (S.size : Int) := by omega
  have hm := in_marks d hd
  rw [hmk] at hm
  have g3 : (k : Int) + 3 < (S.size : Int) := by omega
  have h120 : ((d : Int) == 120) = false := by simp; omega
  have hd1 := rdigit 0 (by omega)
  have hd2 := rdigit 0 (by omega)
  clear hz
  go_enter Tryd.func107, Tryd.ntmps107
  go_wp2_with (first
    | (go_at_call 82; with_reducible refine (hm _).mono ?_; rintro e w1 ⟨rfl, rfl⟩)
    | (go_at_call 112; with_reducible refine (hd1 _).mono ?_; rintro e w1 ⟨rfl, rfl⟩)
    | (go_at_call 112; with_reducible refine (hd2 _).mono ?_; rintro e w1 ⟨rfl, rfl⟩))
  go_ret2
  exact ⟨by simp, Qt.refl _⟩

set_option maxRecDepth 20000 in
set_option maxHeartbeats 2000000 in
theorem rs_b4 (S : ByteArray) (k : Nat) (a b : Nat) (t : List Nat) (w : World) (hda : dgt a = -1) (F : Hid (Sf S k (92 :: 120 :: a :: b :: t))) (hs : S.size < 1000000) :
    Calls Tryd.prog 107 #[.string S, .int .i64 (k : Int)] w fun e w' => e = .returned (.tuple #[.int .u8 0, .int .i64 (-1)]) ∧ Hid (Qt w w') := by
  have hz := F.out.size
  simp only [List.length_cons, List.length_nil] at hz
  have hw1 : IntKind.i64.wrap ((k : Int) + 1) = (k : Int) + 1 := by rw [IntKind.wrap_i64]; omega
  have hw2 : IntKind.i64.wrap ((k : Int) + 2) = (k : Int) + 2 := by rw [IntKind.wrap_i64]; omega
  have hw3 : IntKind.i64.wrap ((k : Int) + 3) = (k : Int) + 3 := by rw [IntKind.wrap_i64]; omega
  have hw4 : IntKind.i64.wrap ((k : Int) + 4) = (k : Int) + 4 := by rw [IntKind.wrap_i64]; omega
  obtain ⟨ic, hc⟩ := F.out.at
  have ic2 : ∀ w, (Instr.index 9 (.string S) (.int .i64 (k : Int))).run Tryd.prog w = .ok (.int .u8 92) w := ic
  clear ic
  have g0 : ¬ (S.size : Int) ≤ (k : Int) := by omega
  obtain ⟨ia, ha⟩ := (F.out.tail.tail).at1 (j := 2)
  have ia2 : ∀ w, (Instr.index 9 (.string S) (.int .i64 ((k : Int) + 2))).run Tryd.prog w = .ok (.int .u8 (a : Int)) w := ia
  clear ia
  obtain ⟨ib, hb⟩ := (F.out.tail.tail.tail).at1 (j := 3)
  have ib2 : ∀ w, (Instr.index 9 (.string S) (.int .i64 ((k : Int) + 3))).run Tryd.prog w = .ok (.int .u8 (b : Int)) w := ib
  clear ib
  obtain ⟨id, hd⟩ := (F.out.tail).at1 (j := 1)
  have id2 : ∀ w, (Instr.index 9 (.string S) (.int .i64 ((k : Int) + 1))).run Tryd.prog w = .ok (.int .u8 120) w := id
  clear id
  have g1 : (k : Int) + 1 < (S.size : Int) := by omega
  have hm : ∀ w, Calls Tryd.prog 82 #[.string ⟨#[92, 124, 42, 43, 63, 40, 41, 91, 93, 46, 94, 45]⟩, .int .u8 120] w fun e w' => e = .returned (.bool false) ∧ w' = w := in_marks 120 (by omega)
  have g3 : (k : Int) + 3 < (S.size : Int) := by omega
  have hd1 := rdigit a ha
  rw [hda] at hd1
  have hd2 := rdigit b hb
  clear hz
  go_enter Tryd.func107, Tryd.ntmps107
  go_wp2_with (first
    | (go_at_call 82; with_reducible refine (hm _).mono ?_; rintro e w1 ⟨rfl, rfl⟩)
    | (go_at_call 112; with_reducible refine (hd1 _).mono ?_; rintro e w1 ⟨rfl, rfl⟩)
    | (go_at_call 112; with_reducible refine (hd2 _).mono ?_; rintro e w1 ⟨rfl, rfl⟩))
  go_ret2
  exact ⟨by simp, Qt.refl _⟩

set_option maxRecDepth 20000 in
set_option maxHeartbeats 2000000 in
theorem rs_b5 (S : ByteArray) (k : Nat) (a b x : Nat) (t : List Nat) (w : World) (hda : dgt a = (x : Int)) (hx : x < 16) (hdb : dgt b = -1) (F : Hid (Sf S k (92 :: 120 :: a :: b :: t))) (hs : S.size < 1000000) :
    Calls Tryd.prog 107 #[.string S, .int .i64 (k : Int)] w fun e w' => e = .returned (.tuple #[.int .u8 0, .int .i64 (-1)]) ∧ Hid (Qt w w') := by
  have hz := F.out.size
  simp only [List.length_cons, List.length_nil] at hz
  have hw1 : IntKind.i64.wrap ((k : Int) + 1) = (k : Int) + 1 := by rw [IntKind.wrap_i64]; omega
  have hw2 : IntKind.i64.wrap ((k : Int) + 2) = (k : Int) + 2 := by rw [IntKind.wrap_i64]; omega
  have hw3 : IntKind.i64.wrap ((k : Int) + 3) = (k : Int) + 3 := by rw [IntKind.wrap_i64]; omega
  have hw4 : IntKind.i64.wrap ((k : Int) + 4) = (k : Int) + 4 := by rw [IntKind.wrap_i64]; omega
  obtain ⟨ic, hc⟩ := F.out.at
  have ic2 : ∀ w, (Instr.index 9 (.string S) (.int .i64 (k : Int))).run Tryd.prog w = .ok (.int .u8 92) w := ic
  clear ic
  have g0 : ¬ (S.size : Int) ≤ (k : Int) := by omega
  obtain ⟨ia, ha⟩ := (F.out.tail.tail).at1 (j := 2)
  have ia2 : ∀ w, (Instr.index 9 (.string S) (.int .i64 ((k : Int) + 2))).run Tryd.prog w = .ok (.int .u8 (a : Int)) w := ia
  clear ia
  obtain ⟨ib, hb⟩ := (F.out.tail.tail.tail).at1 (j := 3)
  have ib2 : ∀ w, (Instr.index 9 (.string S) (.int .i64 ((k : Int) + 3))).run Tryd.prog w = .ok (.int .u8 (b : Int)) w := ib
  clear ib
  obtain ⟨id, hd⟩ := (F.out.tail).at1 (j := 1)
  have id2 : ∀ w, (Instr.index 9 (.string S) (.int .i64 ((k : Int) + 1))).run Tryd.prog w = .ok (.int .u8 120) w := id
  clear id
  have g1 : (k : Int) + 1 < (S.size : Int) := by omega
  have hm : ∀ w, Calls Tryd.prog 82 #[.string ⟨#[92, 124, 42, 43, 63, 40, 41, 91, 93, 46, 94, 45]⟩, .int .u8 120] w fun e w' => e = .returned (.bool false) ∧ w' = w := in_marks 120 (by omega)
  have g3 : (k : Int) + 3 < (S.size : Int) := by omega
  have hd1 := rdigit a ha
  rw [hda] at hd1
  have hd2 := rdigit b hb
  rw [hdb] at hd2
  clear hz
  go_enter Tryd.func107, Tryd.ntmps107
  go_wp2_with (first
    | (go_at_call 82; with_reducible refine (hm _).mono ?_; rintro e w1 ⟨rfl, rfl⟩)
    | (go_at_call 112; with_reducible refine (hd1 _).mono ?_; rintro e w1 ⟨rfl, rfl⟩)
    | (go_at_call 112; with_reducible refine (hd2 _).mono ?_; rintro e w1 ⟨rfl, rfl⟩))
  go_ret2
  exact ⟨by simp, Qt.refl _⟩

set_option maxRecDepth 20000 in
set_option maxHeartbeats 2000000 in
theorem rs_b6 (S : ByteArray) (k : Nat) (a b x y : Nat) (t : List Nat) (w : World) (hda : dgt a = (x : Int)) (hx : x < 16) (hdb : dgt b = (y : Int)) (hy : y < 16) (F : Hid (Sf S k (92 :: 120 :: a :: b :: t))) (hs : S.size < 1000000) :
    Calls Tryd.prog 107 #[.string S, .int .i64 (k : Int)] w fun e w' => e = .returned (.tuple #[.int .u8 ((16 * x + y : Nat) : Int), .int .i64 ((k : Int) + 4)]) ∧ Hid (Qt w w') := by
  have hz := F.out.size
  simp only [List.length_cons, List.length_nil] at hz
  have hw1 : IntKind.i64.wrap ((k : Int) + 1) = (k : Int) + 1 := by rw [IntKind.wrap_i64]; omega
  have hw2 : IntKind.i64.wrap ((k : Int) + 2) = (k : Int) + 2 := by rw [IntKind.wrap_i64]; omega
  have hw3 : IntKind.i64.wrap ((k : Int) + 3) = (k : Int) + 3 := by rw [IntKind.wrap_i64]; omega
  have hw4 : IntKind.i64.wrap ((k : Int) + 4) = (k : Int) + 4 := by rw [IntKind.wrap_i64]; omega
  obtain ⟨ic, hc⟩ := F.out.at
  have ic2 : ∀ w, (Instr.index 9 (.string S) (.int .i64 (k : Int))).run Tryd.prog w = .ok (.int .u8 92) w := ic
  clear ic
  have g0 : ¬ (S.size : Int) ≤ (k : Int) := by omega
  obtain ⟨ia, ha⟩ := (F.out.tail.tail).at1 (j := 2)
  have ia2 : ∀ w, (Instr.index 9 (.string S) (.int .i64 ((k : Int) + 2))).run Tryd.prog w = .ok (.int .u8 (a : Int)) w := ia
  clear ia
  obtain ⟨ib, hb⟩ := (F.out.tail.tail.tail).at1 (j := 3)
  have ib2 : ∀ w, (Instr.index 9 (.string S) (.int .i64 ((k : Int) + 3))).run Tryd.prog w = .ok (.int .u8 (b : Int)) w := ib
  clear ib
  obtain ⟨id, hd⟩ := (F.out.tail).at1 (j := 1)
  have id2 : ∀ w, (Instr.index 9 (.string S) (.int .i64 ((k : Int) + 1))).run Tryd.prog w = .ok (.int .u8 120) w := id
  clear id
  have g1 : (k : Int) + 1 < (S.size : Int) := by omega
  have hm : ∀ w, Calls Tryd.prog 82 #[.string ⟨#[92, 124, 42, 43, 63, 40, 41, 91, 93, 46, 94, 45]⟩, .int .u8 120] w fun e w' => e = .returned (.bool false) ∧ w' = w := in_marks 120 (by omega)
  have g3 : (k : Int) + 3 < (S.size : Int) := by omega
  have hd1 := rdigit a ha
  rw [hda] at hd1
  have hd2 := rdigit b hb
  rw [hdb] at hd2
  have v1 : IntKind.i64.wrap ((x : Int) * 16) = (x : Int) * 16 := by rw [IntKind.wrap_i64]; omega
  have v2 : IntKind.i64.wrap ((x : Int) * 16 + (y : Int)) = (x : Int) * 16 + (y : Int) := by rw [IntKind.wrap_i64]; omega
  have v3 : IntKind.u8.wrap ((x : Int) * 16 + (y : Int)) = (x : Int) * 16 + (y : Int) := by rw [IntKind.wrap_u8]; omega
  have hfin : (x : Int) * 16 + (y : Int) = ((16 * x + y : Nat) : Int) := by omega
  clear hz
  go_enter Tryd.func107, Tryd.ntmps107
  go_wp2_with (first
    | (go_at_call 82; with_reducible refine (hm _).mono ?_; rintro e w1 ⟨rfl, rfl⟩)
    | (go_at_call 112; with_reducible refine (hd1 _).mono ?_; rintro e w1 ⟨rfl, rfl⟩)
    | (go_at_call 112; with_reducible refine (hd2 _).mono ?_; rintro e w1 ⟨rfl, rfl⟩))
  go_quiet ((first | (go_at_call 112; with_reducible exact Calls.quiet_of_same (hd1 _)) | (go_at_call 112; with_reducible exact Calls.quiet_of_same (hd2 _))))
  go_wp2_with fail
  go_ret2
  exact ⟨by simp [hfin], Mv.drewN _ _ _⟩


/-- What the reference's sign tells. -/
def rsv (S : ByteArray) (o : Option (Nat × List Nat)) : Value := match o with
  | none => .tuple #[.int .u8 0, .int .i64 (-1)]
  | some (c, t) => .tuple #[.int .u8 (c : Int), .int .i64 ((S.size - t.length : Nat) : Int)]
theorem rsign_any (S : ByteArray) (k : Nat) (l : List Nat) (w : World) (F : Hid (Sf S k l)) (hs : S.size < 1000000) : Calls Tryd.prog 107 #[.string S, .int .i64 (k : Int)] w fun e w' => e = .returned (rsv S (sgn l)) ∧ Hid (Qt w w') := by
  have hz := F.out.size
  match l, F, hz with
  | [], F, hz => exact rs_end S k w F hs
  | c :: t, F, hz =>
    by_cases h92 : c = 92
    · subst h92
      rw [sgn, if_pos rfl]
      match t, F, hz with
      | [], F, hz => exact rs_b0 S k w F hs
      | d :: t, F, hz =>
        by_cases h120 : d = 120
        · subst h120
          rw [esc, if_pos rfl]
          match t, F, hz with
          | [], F, hz => exact rs_b2 S k 120 [] w (by decide) (by simp) F hs
          | [a], F, hz => exact rs_b2 S k 120 [a] w (by decide) (by simp) F hs
          | a :: b :: t, F, hz =>
            rw [hx]
            cases hda : dig a with
            | none => exact rs_b4 S k a b t w (by unfold dgt; rw [hda]) F hs
            | some x =>
              cases hdb : dig b with
              | none => exact rs_b5 S k a b x t w (by unfold dgt; rw [hda]) (dig_lt hda) (by unfold dgt; rw [hdb]) F hs
              | some y =>
                have := rs_b6 S k a b x y t w (by unfold dgt; rw [hda]) (dig_lt hda) (by unfold dgt; rw [hdb]) (dig_lt hdb) F hs
                rw [show (k : Int) + 4 = ((S.size - t.length : Nat) : Int) from by simp at hz; omega] at this
                exact this
        · rw [esc, if_neg h120]
          cases hm : mk d with
          | true =>
            have := rs_b1 S k d t w hm F hs
            rw [show (k : Int) + 2 = ((S.size - t.length : Nat) : Int) from by simp at hz; omega] at this
            exact this
          | false =>
            match t, F, hz with
            | [], F, hz => exact rs_b2 S k d [] w hm (by simp) F hs
            | [a], F, hz => exact rs_b2 S k d [a] w hm (by simp) F hs
            | a :: b :: t, F, hz => exact rs_b3 S k d a b t w hm h120 F hs
    · rw [sgn, if_neg h92]
      by_cases hlo : c < 33
      · rw [if_neg (by unfold seen; simp; omega)]
        exact rs_lo S k c t w h92 hlo F hs
      · by_cases hhi : 126 < c
        · rw [if_neg (by unfold seen; simp; omega)]
          exact rs_hi S k c t w h92 hlo hhi F hs
        · cases hm : mk c with
          | true =>
            rw [if_neg (by simp)]
            exact rs_mk S k c t w h92 hlo hhi hm F hs
          | false =>
            rw [if_pos (by unfold seen; simp; omega)]
            have := rs_plain S k c t w h92 hlo hhi hm F hs
            rw [show (k : Int) + 1 = ((S.size - t.length : Nat) : Int) from by simp at hz; omega] at this
            exact this

end Go.Proofs.YtkclkhfcmjhogaaDoor

namespace Go.Proofs.YtkclkhfcmjhogaaDoor
open Go.RowKit
set_option linter.unusedVariables false
set_option linter.unusedSimpArgs false

theorem resA (tmps : Array Value) (w : World) (g : Nat) (v0 v1 v2 v3 x y : Value) (h0 : tmps.getD 2 undef = .pointer (some ⟨g, 0, none⟩)) (h1 : tmps.getD 3 undef = x) (h2 : tmps.getD 4 undef = y)
    (hg : w.heap[g]? = some (.cells #[v0, v1, v2, v3] 25 (0, 0))) :
    (results Tryd.f100 tmps).run Tryd.prog w = .ok (.tuple #[.agg #[v0, v1, v2, v3], x, y]) w := by
  have h0' : tmps[2]?.getD undef = .pointer (some ⟨g, 0, none⟩) := by simpa using h0
  have h1' : tmps[3]?.getD undef = x := by simpa using h1
  have h2' : tmps[4]?.getD undef = y := by simpa using h2
  have e0 : w.cell? ⟨g, 0, none⟩ = some v0 := by simp [World.cell?, hg]
  have e1 : w.cell? ⟨g, 1, none⟩ = some v1 := by simp [World.cell?, hg]
  have e2 : w.cell? ⟨g, 2, none⟩ = some v2 := by simp [World.cell?, hg]
  have e3 : w.cell? ⟨g, 3, none⟩ = some v3 := by simp [World.cell?, hg]
  simp [results, Tryd.results100, h0', h1', h2', asAddr, go_sem, e0, e1, e2, e3]

/-- What a class's reading comes to. -/
def ptv (S : ByteArray) (o : Option ((Nat → Bool) × List Nat)) : Value := match o with
  | none => .tuple #[.agg #[.int .u64 0, .int .u64 0, .int .u64 0, .int .u64 0], .int .i64 0, .int .i64 2]
  | some (p, t) => .tuple #[.agg #[.int .u64 (limb p 0), .int .u64 (limb p 1), .int .u64 (limb p 2), .int .u64 (limb p 3)], .int .i64 ((S.size - t.length : Nat) : Int), .int .i64 0]
theorem rnot_zero (w : World) : Calls Tryd.prog 55 #[.agg #[.int .u64 0, .int .u64 0, .int .u64 0, .int .u64 0]] w fun e w' => e = .returned (sv (fun _ => true)) ∧ Hid (Qt w w') := by
  have h := rnot_any (fun _ => false) w
  rw [limb_none, limb_none, limb_none, limb_none] at h
  exact h
theorem sl1r {w : World} {a : Nat} : Sl (w.alloc (.cells #[.int .u8 (a : Int)] 5)) (some ⟨w.heap.size, 0, none⟩) 1 (Bn (fun _ => a)) := by
  intro i hi
  obtain rfl : i = 0 := by omega
  exact ⟨_, _, rfl, by simp, by simp [Bn]⟩
theorem rof_one (a : Nat) (ha : a < 256) (w : World) : Calls Tryd.prog 28 #[.slice (some ⟨w.heap.size, 0, none⟩) 1 1] (w.alloc (.cells #[.int .u8 (a : Int)] 5)) fun e w' => e = .returned (sv (btw a a)) ∧ Hid (Qt (w.alloc (.cells #[.int .u8 (a : Int)] 5)) w') := by
  have h := rof_f (some ⟨w.heap.size, 0, none⟩) 1 1 (fun _ => a) (w.alloc (.cells #[.int .u8 (a : Int)] 5)) sl1r (fun _ _ => ha) (by omega)
  rw [sv_like (q := btw a a) (fun b _ => by unfold btw ofl; rw [Bool.eq_iff_iff]; simp; omega)] at h
  exact h
/-- Behind the last store. -/
theorem Qt.put {w W : World} (h : Hid (Qt w W)) (v0 v1 v2 v3 : Value) : Hid (Qt w (put4 W w.heap.size v0 v1 v2 v3)) := Mv.trans h.out (put4_mv W w.heap.size v0 v1 v2 v3) (fun j hj e => by omega)

set_option maxRecDepth 20000 in
set_option maxHeartbeats 2000000 in
theorem rclass_dot (S : ByteArray) (t : List Nat) (F : Hid (Sf S 0 (46 :: t))) (hs : S.size < 1000000) (w : World) :
    Calls Tryd.prog 100 #[.string S] w fun e w' => e = .returned (ptv S (some (fun _ => true, t))) ∧ Hid (Qt w w') := by
  obtain ⟨ic, _⟩ := F.out.at
  have ic2 : ∀ w, (Instr.index 9 (.string S) (.int .i64 0)).run Tryd.prog w = .ok (.int .u8 46) w := ic
  have hz := F.out.size
  simp only [List.length_cons] at hz
  have HF : Hid ((1 : Int) = ((S.size - t.length : Nat) : Int)) := by show _ = _; omega
  have g0 : (0 : Int) < (S.size : Int) := by omega
  clear ic hz
  go_enter Tryd.func100, Tryd.ntmps100
  go_wp2_with fail
  refine (rnot_zero _).mono ?_
  rintro e w1 ⟨rfl, q1⟩
  rw [sv_cells]
  have Z : Hid (Zr w.heap.size w1) := Zr.mv (w := w.alloc zeros) (heap_alloc_new w zeros) q1.out (fun h => h)
  obtain ⟨k0, k1, k2, k3, l0, l1, l2, l3⟩ := Zr.facts Z
  have Q : Hid (Qt w w1) := ((Qt.refl w).alloc _).comp q1.out
  go_wp2_with fail
  refine bodyPost_ret (resA _ _ w.heap.size _ _ _ _ _ _ rfl rfl rfl (put4_heap Z.out _ _ _ _)) rfl ?_
  refine ⟨?_, Qt.put Q _ _ _ _⟩
  unfold ptv
  simp only
  rw [← HF.out]
  rfl

/-- The text opens neither with a point nor with a bracket. -/
def Plain (S : ByteArray) (l : List Nat) : Prop := l = [] ∨ ∃ c t, l = c :: t ∧ c ≠ 46 ∧ c ≠ 91
set_option maxRecDepth 20000 in
set_option maxHeartbeats 2000000 in
theorem rclass_e (S : ByteArray) (F : Hid (Sf S 0 [])) (hs : S.size < 1000000) (w : World) :
    Calls Tryd.prog 100 #[.string S] w fun e w' => e = .returned (ptv S none) ∧ Hid (Qt w w') := by
  have hz := F.out.size
  simp only [List.length_nil] at hz
  have hS : (S.size : Int) = 0 := by omega
  have hR : ∀ w, Calls Tryd.prog 107 #[.string S, .int .i64 0] w fun e w' => e = .returned (.tuple #[.int .u8 0, .int .i64 (-1)]) ∧ Hid (Qt w w') := fun w => rsign_any S 0 [] w F hs
  clear hz
  go_enter Tryd.func100, Tryd.ntmps100
  go_wp2_with fail
  refine (hR _).mono ?_
  rintro e w1 ⟨rfl, q1⟩
  have Z : Hid (Zr w.heap.size w1) := Zr.mv (w := w.alloc zeros) (heap_alloc_new w zeros) q1.out (fun h => h)
  obtain ⟨k0, k1, k2, k3, l0, l1, l2, l3⟩ := Zr.facts Z
  have Q : Hid (Qt w w1) := ((Qt.refl w).alloc _).comp q1.out
  go_wp2_with fail
  refine bodyPost_ret (resA _ _ w.heap.size _ _ _ _ _ _ rfl rfl rfl (put4_heap Z.out _ _ _ _)) rfl ?_
  exact ⟨rfl, Qt.put Q _ _ _ _⟩
set_option maxRecDepth 20000 in
set_option maxHeartbeats 2000000 in
theorem rclass_sn (S : ByteArray) (c : Nat) (t : List Nat) (h46 : c ≠ 46) (h91 : c ≠ 91) (hn : sgn (c :: t) = none) (F : Hid (Sf S 0 (c :: t))) (hs : S.size < 1000000) (w : World) :
    Calls Tryd.prog 100 #[.string S] w fun e w' => e = .returned (ptv S none) ∧ Hid (Qt w w') := by
  obtain ⟨ic, hc⟩ := F.out.at
  have ic2 : ∀ w, (Instr.index 9 (.string S) (.int .i64 0)).run Tryd.prog w = .ok (.int .u8 (c : Int)) w := ic
  have hz := F.out.size
  simp only [List.length_cons] at hz
  have g0 : (0 : Int) < (S.size : Int) := by omega
  have g1 : ((S.size : Int) == 0) = false := beq_eq_false_iff_ne.2 (by omega)
  have g2 : ((c : Int) == 46) = false := by simp; omega
  have g3 : ((c : Int) != 91) = true := by have h : ((c : Int) == 91) = false := (by simp; omega); rw [bne, h]; rfl
  have hR := fun w => rsign_any S 0 (c :: t) w F hs
  rw [hn] at hR
  have hR2 : ∀ w, Calls Tryd.prog 107 #[.string S, .int .i64 0] w fun e w' => e = .returned (.tuple #[.int .u8 0, .int .i64 (-1)]) ∧ Hid (Qt w w') := hR
  clear ic hz hR hn
  go_enter Tryd.func100, Tryd.ntmps100
  go_wp2_with fail
  refine (hR2 _).mono ?_
  rintro e w1 ⟨rfl, q1⟩
  have Z : Hid (Zr w.heap.size w1) := Zr.mv (w := w.alloc zeros) (heap_alloc_new w zeros) q1.out (fun h => h)
  obtain ⟨k0, k1, k2, k3, l0, l1, l2, l3⟩ := Zr.facts Z
  have Q : Hid (Qt w w1) := ((Qt.refl w).alloc _).comp q1.out
  go_wp2_with fail
  refine bodyPost_ret (resA _ _ w.heap.size _ _ _ _ _ _ rfl rfl rfl (put4_heap Z.out _ _ _ _)) rfl ?_
  exact ⟨rfl, Qt.put Q _ _ _ _⟩
set_option maxRecDepth 20000 in
set_option maxHeartbeats 2000000 in
theorem rclass_ss (S : ByteArray) (c a : Nat) (t u : List Nat) (h46 : c ≠ 46) (h91 : c ≠ 91) (hn : sgn (c :: t) = some (a, u)) (F : Hid (Sf S 0 (c :: t))) (hs : S.size < 1000000) (w : World) :
    Calls Tryd.prog 100 #[.string S] w fun e w' => e = .returned (ptv S (some (btw a a, u))) ∧ Hid (Qt w w') := by
  obtain ⟨ic, hc⟩ := F.out.at
  have ic2 : ∀ w, (Instr.index 9 (.string S) (.int .i64 0)).run Tryd.prog w = .ok (.int .u8 (c : Int)) w := ic
  have hz := F.out.size
  have hl := sgn_len hn
  simp only [List.length_cons] at hz hl
  have g0 : (0 : Int) < (S.size : Int) := by omega
  have g1 : ((S.size : Int) == 0) = false := beq_eq_false_iff_ne.2 (by omega)
  have g2 : ((c : Int) == 46) = false := by simp; omega
  have g3 : ((c : Int) != 91) = true := by have h : ((c : Int) == 91) = false := (by simp; omega); rw [bne, h]; rfl
  have hR := fun w => rsign_any S 0 (c :: t) w F hs
  rw [hn] at hR
  have hR2 : ∀ w, Calls Tryd.prog 107 #[.string S, .int .i64 0] w fun e w' => e = .returned (.tuple #[.int .u8 (a : Int), .int .i64 ((S.size - u.length : Nat) : Int)]) ∧ Hid (Qt w w') := hR
  have ha := hl.2
  have HN : Hid (S.size - u.length = S.size - u.length) := rfl
  clear ic hz hR hn hl
  unfold ptv
  simp only
  generalize S.size - u.length = n at *
  go_enter Tryd.func100, Tryd.ntmps100
  go_wp2_with fail
  refine (hR2 _).mono ?_
  rintro e w1 ⟨rfl, q1⟩
  go_wp2_with fail
  refine (rof_one a ha w1).mono ?_
  rintro e w2 ⟨rfl, q2⟩
  rw [sv_cells]
  have Z : Hid (Zr w.heap.size w2) := Zr.mv (Zr.mv (Zr.mv (w := w.alloc zeros) (heap_alloc_new w zeros) q1.out (fun h => h)) (Mv.alloc (fun _ => False) _ _) (fun h => h)) q2.out (fun h => h)
  obtain ⟨k0, k1, k2, k3, l0, l1, l2, l3⟩ := Zr.facts Z
  have Q : Hid (Qt w w2) := ((((Qt.refl w).alloc _).comp q1.out).alloc _).comp q2.out
  go_wp2_with fail
  refine bodyPost_ret (resA _ _ w.heap.size _ _ _ _ _ _ rfl rfl rfl (put4_heap Z.out _ _ _ _)) rfl ?_
  exact ⟨rfl, Qt.put Q _ _ _ _⟩

end Go.Proofs.YtkclkhfcmjhogaaDoor
