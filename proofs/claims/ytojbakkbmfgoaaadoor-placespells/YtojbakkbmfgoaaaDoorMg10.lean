/- Show. -/
import Derived.Test.YtojbakkbmfgoaaaDoorMg08
import Derived.Test.YtojbakkbmfgoaaaDoorMsC4
import Derived.Test.YtojbakkbmfgoaaaDoorMg00
import Derived.Test.YtojbakkbmfgoaaaDoorMg07
import Derived.Test.YtojbakkbmfgoaaaDoorMg09
namespace Go.Proofs.YtojbakkbmfgoaaaDoor
open Go.RowKit
set_option linter.unusedVariables false

abbrev cs4 (p : Nat → Bool) : Array Value := #[.int .u64 (limb p 0), .int .u64 (limb p 1), .int .u64 (limb p 2), .int .u64 (limb p 3)]
theorem same_none2 (p : Nat → Bool) : same p (fun _ => false) = !any p := by rw [← same_none]; simp
theorem eql_none (p : Nat → Bool) (W : World) : (binOp .eql 26 (.agg #[.int .u64 (limb p 0), .int .u64 (limb p 1), .int .u64 (limb p 2), .int .u64 (limb p 3)]) (.agg #[.int .u64 0, .int .u64 0, .int .u64 0, .int .u64 0])).run Tryd.prog W = .ok (.bool (!any p)) W := by
  have := eql_run p (fun _ => false) W
  rwa [sv_none, sv_cells, same_none2] at this
theorem c4 (w : World) (p : Nat → Bool) : (w.alloc (.cells (cs4 p) 26)).cell? ⟨w.heap.size, 0, none⟩ = some (.int .u64 (limb p 0)) ∧ (w.alloc (.cells (cs4 p) 26)).cell? ⟨w.heap.size, 1, none⟩ = some (.int .u64 (limb p 1)) ∧ (w.alloc (.cells (cs4 p) 26)).cell? ⟨w.heap.size, 2, none⟩ = some (.int .u64 (limb p 2)) ∧ (w.alloc (.cells (cs4 p) 26)).cell? ⟨w.heap.size, 3, none⟩ = some (.int .u64 (limb p 3)) := ⟨by simp, by simp, by simp, by simp⟩

end Go.Proofs.YtojbakkbmfgoaaaDoor

namespace Go.Proofs.YtojbakkbmfgoaaaDoor
open Go.RowKit
set_option linter.unusedVariables false

theorem rtx_lt {r : Nat × Nat} (h : r.1 ≤ r.2 ∧ r.2 < 256) : (∀ c ∈ rtx r, c < 256) ∧ (rtx r).length ≤ 9 := by
  have hs : ∀ x, x < 256 → (∀ c ∈ shn x, c < 256) := by
    intro x hx c hc
    unfold shn hexd at hc
    split at hc
    · simp at hc; omega
    · split at hc
      · simp at hc; omega
      · simp at hc
        rcases hc with rfl | rfl | rfl | rfl
        · omega
        · omega
        · split <;> omega
        · split <;> omega
  have h1 := hs r.1 (by omega)
  have h2 := hs r.2 (by omega)
  have l1 := shn_le r.1
  have l2 := shn_le r.2
  unfold rtx
  split
  · exact ⟨h1, by omega⟩
  · split
    · refine ⟨fun c hc => ?_, by simp; omega⟩
      rcases List.mem_append.1 hc with hc | hc
      · exact h1 c hc
      · exact h2 c hc
    · refine ⟨fun c hc => ?_, by simp; omega⟩
      rcases List.mem_append.1 hc with hc | hc
      · exact h1 c hc
      · rcases List.mem_cons.1 hc with rfl | hc
        · omega
        · exact h2 c hc
theorem flat_lt {R : List (Nat × Nat)} (h : Goodr R) : (∀ c ∈ R.flatMap rtx, c < 256) ∧ (R.flatMap rtx).length ≤ 9 * R.length := by
  induction R with
  | nil => exact ⟨by simp, by simp⟩
  | cons r R ih =>
    obtain ⟨a, b⟩ := ih (fun x hx => h x (List.mem_cons_of_mem _ hx))
    obtain ⟨c, d⟩ := rtx_lt (h r (List.mem_cons_self ..))
    rw [List.flatMap_cons]
    refine ⟨fun x hx => ?_, by rw [List.length_append, List.length_cons]; omega⟩
    rcases List.mem_append.1 hx with hx | hx
    · exact c x hx
    · exact a x hx
end Go.Proofs.YtojbakkbmfgoaaaDoor

namespace Go.Proofs.YtojbakkbmfgoaaaDoor
open Go.RowKit
set_option linter.unusedVariables false

def ou (p q : Nat → Bool) : Nat → Bool := fun b => p b || q b
end Go.Proofs.YtojbakkbmfgoaaaDoor

namespace Go.Proofs.YtojbakkbmfgoaaaDoor
open Go.RowKit
set_option linter.unusedVariables false

theorem idx_at (S : ByteArray) (i : Nat) (hi : i < (bs S).length) (w : World) : (Instr.index 9 (.string S) (.int .i64 (i : Int))).run Tryd.prog w = .ok (.int .u8 (((bs S)[i] : Nat) : Int)) w := by
  have h := index_run S ((bs S).take i) ((bs S).drop (i + 1)) ((bs S)[i]) (by rw [List.getElem_cons_drop, List.take_append_drop]) w
  rw [List.length_take, Nat.min_eq_left (by omega)] at h
  exact h
end Go.Proofs.YtojbakkbmfgoaaaDoor

namespace Go.Proofs.YtojbakkbmfgoaaaDoor
open Go.RowKit
set_option linter.unusedVariables false

set_option maxHeartbeats 1000000 in
theorem rhas_at (x : Nat → Nat) (b r q : Nat) (w : World) (hb : b < 256) (hr : (b : Int) % 64 = (r : Int)) (hr2 : r < 64) (hq4 : q < 4) (hq : (b : Int) / 64 = (q : Int)) :
    Calls Tryd.prog 13 #[.agg #[.int .u64 (x 0), .int .u64 (x 1), .int .u64 (x 2), .int .u64 (x 3)], .int .u8 b] w fun e w' => e = .returned (.bool (bits .and .u64 ((x q : Int) / 2 ^ r) 1 == 1)) ∧ Hid (Qt w w') := by
  rcases (show q = 0 ∨ q = 1 ∨ q = 2 ∨ q = 3 from by omega) with rfl | rfl | rfl | rfl
  all_goals
    go_enter Tryd.func13, Tryd.ntmps13
    go_wp2
    go_ret
    exact ⟨rfl, (Qt.refl w).alloc _⟩
theorem rhas_any (p : Nat → Bool) (b : Nat) (hb : b < 256) (w : World) : Calls Tryd.prog 13 #[.agg #[.int .u64 (limb p 0), .int .u64 (limb p 1), .int .u64 (limb p 2), .int .u64 (limb p 3)], .int .u8 b] w fun e w' => e = .returned (.bool (p b)) ∧ Hid (Qt w w') := by
  refine (rhas_at (limb p) b (b % 64) (b / 64) w hb (by omega) (by omega) (by omega) (by omega)).mono ?_
  rintro e w' ⟨rfl, h⟩
  refine ⟨?_, h⟩
  have e1 : ((limb p (b / 64) : Nat) : Int) / 2 ^ (b % 64) = ((limb p (b / 64) >>> (b % 64) : Nat) : Int) := by
    rw [Nat.shiftRight_eq_div_pow]; push_cast; rfl
  have hlt : limb p (b / 64) >>> (b % 64) < 18446744073709551616 := by
    rw [Nat.shiftRight_eq_div_pow]; exact Nat.lt_of_le_of_lt (Nat.div_le_self _ _) (limb_lt p _)
  have e2 := bits_and_u64_nat (limb p (b / 64) >>> (b % 64)) 1 hlt (by decide)
  rw [e1, show (1 : Int) = ((1 : Nat) : Int) from rfl, e2, Nat.and_one_is_mod, limb_has]
  cases p b <;> rfl

theorem Made.drew {w wr : World} {g : Nat} {p : Nat → Bool} (M : Hid (Made w wr g p)) : Hid (Made w wr.drew g p) := ⟨Qt.drew M.out.qt, M.out.new, M.out.res, M.out.at_⟩
/-- The bytes of a list. -/
def inl (l : List Nat) : Nat → Bool := fun b => l.contains b
theorem inl_ofl (l : List Nat) : ofl (fun i => l.getD i 0) l.length = inl l := by
  funext b
  rw [Bool.eq_iff_iff]
  unfold ofl inl
  rw [List.any_eq_true, List.contains_iff_mem]
  constructor
  · rintro ⟨i, hi, h⟩
    rw [List.mem_range] at hi
    simp [List.getD, hi] at h
    rw [← h]; exact List.getElem_mem hi
  · intro h
    obtain ⟨i, hi, rfl⟩ := List.getElem_of_mem h
    exact ⟨i, List.mem_range.2 hi, by simp [List.getD, hi]⟩

set_option maxRecDepth 20000 in
set_option maxHeartbeats 4000000 in
theorem rof_f (a : Option Addr) (n c : Nat) (f : Nat → Nat) (w : World) (hs : Sl w a n (Bn f)) (hf : ∀ i, i < n → f i < 256) (hn : n < 1000000) :
    Calls Tryd.prog 29 #[.slice a n c] w fun e w' => e = .returned (sv (ofl f n)) ∧ Hid (Qt w w') := by
  go_enter Tryd.func29, Tryd.ntmps29
  go_wp2
  go_loopw [4] (fun s4 wr => ∃ i : Nat, i ≤ n ∧ s4 = .int .i64 i ∧ Hid (Made w wr (w.heap.size + 1) (ofl f i))) (fun s4 _ => n - (intOf s4).toNat)
  case atStart =>
    refine ⟨0, by omega, rfl, ⟨((Qt.refl w).alloc _).alloc _, by omega, heap2a _ _ _, ?_⟩⟩
    have e : ofl f 0 = fun _ => false := by funext b; simp [ofl]
    rw [e, limb_none, limb_none, limb_none, limb_none]
    exact heap_alloc2_new _ _ _
  case round =>
    obtain ⟨i, hi, rfl, M⟩ := hrel
    by_cases hlt : i < n
    · obtain ⟨b, off, rfl, hbl, hc⟩ := hs i hlt
      have hc2 : wr.cell? ⟨b, off + i, none⟩ = some (.int .u8 (f i : Int)) := M.out.qt.cell (p := ⟨b, off + i, none⟩) hc (fun h => h)
      have hb := hf i hlt
      have H : Hid (∀ q, q = f i / 64 → Made w (wr.setCell ⟨w.heap.size + 1, q, none⟩ (.int .u64 (bits .or .u64 (limb (ofl f i) q : Int) (IntKind.u64.wrap (2 ^ (f i % 64)))))) (w.heap.size + 1) (ofl f (i + 1))) := by
        intro q hq
        rw [ofl_succ]
        exact M.out.put (by omega) (f i) q hb hq
      have e1 : (f i : Int) % 64 = ((f i % 64 : Nat) : Int) := by omega
      have hr : f i % 64 < 64 := by omega
      have j1 : (0 : Int) ≤ (i : Int) := by omega
      have j2 : (i : Int) < (n : Int) := by omega
      generalize f i % 64 = r at *
      have HI : Hid (i < n) := hlt
      clear hs hc
      rcases (show f i / 64 = 0 ∨ f i / 64 = 1 ∨ f i / 64 = 2 ∨ f i / 64 = 3 from by omega) with hq | hq | hq | hq
      · have K : Hid _ := H.out 0 hq.symm
        obtain ⟨g0, z0⟩ := M.out.cells 0 (by decide)
        have hq2 : (f i : Int) / 64 = 0 := by omega
        clear H
        go_wp2_with fail
        go_region
        go_wp2_with fail
        exact ⟨⟨i + 1, by omega, by go_num, Made.drew K⟩, by simp [intOf]; omega⟩
      · have K : Hid _ := H.out 1 hq.symm
        obtain ⟨g0, z0⟩ := M.out.cells 1 (by decide)
        have hq2 : (f i : Int) / 64 = 1 := by omega
        clear H
        go_wp2_with fail
        go_region
        go_wp2_with fail
        exact ⟨⟨i + 1, by omega, by go_num, Made.drew K⟩, by simp [intOf]; omega⟩
      · have K : Hid _ := H.out 2 hq.symm
        obtain ⟨g0, z0⟩ := M.out.cells 2 (by decide)
        have hq2 : (f i : Int) / 64 = 2 := by omega
        clear H
        go_wp2_with fail
        go_region
        go_wp2_with fail
        exact ⟨⟨i + 1, by omega, by go_num, Made.drew K⟩, by simp [intOf]; omega⟩
      · have K : Hid _ := H.out 3 hq.symm
        obtain ⟨g0, z0⟩ := M.out.cells 3 (by decide)
        have hq2 : (f i : Int) / 64 = 3 := by omega
        clear H
        go_wp2_with fail
        go_region
        go_wp2_with fail
        exact ⟨⟨i + 1, by omega, by go_num, Made.drew K⟩, by simp [intOf]; omega⟩
    · obtain rfl : i = n := by omega
      obtain ⟨c0, _⟩ := M.out.cells 0 (by decide)
      obtain ⟨c1, _⟩ := M.out.cells 1 (by decide)
      obtain ⟨c2, _⟩ := M.out.cells 2 (by decide)
      obtain ⟨c3, _⟩ := M.out.cells 3 (by decide)
      obtain ⟨r0, f0⟩ := M.out.cellr 0 (by decide)
      obtain ⟨r1, f1⟩ := M.out.cellr 1 (by decide)
      obtain ⟨r2, f2⟩ := M.out.cellr 2 (by decide)
      obtain ⟨r3, f3⟩ := M.out.cellr 3 (by decide)
      clear hs hf
      go_wp2
      refine bodyPost_ret (results_cell_row (p := 2) (ty := 26) rfl _ _ w.heap.size 26 _ (0, 0) _ rfl (heap_set (heap_set (heap_set (heap_set M.out.res)))) Tryd.underlying26 rfl (by kernel_rfl)) rfl ?_
      exact ⟨rfl, M.out.four _ _ _ _⟩

/-- A row of bytes of one's own. -/
def Ol (w : World) (base : Nat) (v : Value) (l : List Nat) : Prop := w.ownsRow base 5 1 v l.length (nc l)
theorem Ol.mv {S : Nat → Prop} {w w' : World} {base : Nat} {v : Value} {l : List Nat} (h : Hid (Ol w base v l)) (k : Mv S w w') (hs : ∀ j, base ≤ j → ¬ S j) : Hid (Ol w' base v l) :=
  k.owns h.out (fun j hj => hs j (ow_blk h.out j hj).1)
theorem Ol.qt {w w' : World} {base : Nat} {v : Value} {l : List Nat} (h : Hid (Ol w base v l)) (k : Hid (Qt w w')) : Hid (Ol w' base v l) := k.out.owns h.out (fun _ _ h => h)
theorem Ol.nil (w : World) (base : Nat) : Hid (Ol w base (.slice none 0 0) []) := ow_nil _ _ _ _
theorem Ol.sl {w : World} {base : Nat} {v : Value} {l : List Nat} (h : Hid (Ol w base v l)) : ∃ a cap, v = .slice a l.length cap ∧ Sl w a l.length (Bn (fun i => l.getD i 0)) ∧ l.length ≤ cap ∧ (∀ p, a = some p → base ≤ p.block ∧ p.block < w.heap.size) := by
  obtain ⟨a, cap, e, hl, h1, _, h3⟩ := ow_ls h.out
  refine ⟨a, cap, e, fun i hi => ?_, h1, fun p hp => ow_blk h.out _ (h3 p hp)⟩
  obtain ⟨b, off, e1, e2, e3⟩ := hl i (.int .u8 (l.getD i 0 : Nat)) (by unfold nc; rw [List.getElem?_map]; simp [List.getD, hi])
  exact ⟨b, off, e1, e2, e3⟩
theorem push {w : World} {base : Nat} {v : Value} {l : List Nat} (h : Hid (Ol w base v l)) (hb : base ≤ w.heap.size) (hl : l.length < 90000) (c : Nat) :
    ∃ v' W, (Builtin.append_ #[22, 22] 22 #[v, .slice (some ⟨w.heap.size, 0, none⟩) 1 1]).run Tryd.prog (w.alloc (.cells #[.int .u8 (c : Int)] 5)) = .ok v' W ∧ Hid (Ol W base v' (l ++ [c])) ∧ Hid (Mv (fun j => base ≤ j) w W) := by
  have qW : Qt w (w.alloc (.cells #[.int .u8 (c : Int)] 5)) := (Qt.refl w).alloc _
  obtain ⟨v', W, hr, hown, hgr, _⟩ := append_ow 22 22 5 Tryd.t5 (.int .u8 0) 1 1 Tryd.underlying22 info5 zero5 size5 bytes5 (by rfl) (by omega) (by omega) (w.alloc (.cells #[.int .u8 (c : Int)] 5)) base v l.length 1 1 (nc l) [.int .u8 (c : Int)] (some ⟨w.heap.size, 0, none⟩) (qW.owns h.out (fun _ _ h => h)) (by simpa using Ls.new w #[.int .u8 (c : Int)] 5) rfl (by intro u hu; simp at hu; subst hu; rfl) (by omega) (by intro h; cases h) (by simp; omega)
  refine ⟨v', W, hr, ?_, ?_⟩
  · show W.ownsRow _ _ _ _ _ _
    rw [nc_append, List.length_append]; exact hown
  · exact Mv.trans (qW.mono (fun _ _ h => h.elim)) (Mv.of_grown hgr) (fun j hj e => (ow_blk h.out j e).1)
end Go.Proofs.YtojbakkbmfgoaaaDoor

namespace Go.Proofs.YtojbakkbmfgoaaaDoor
open Go.RowKit
set_option linter.unusedVariables false

theorem sv_like {p q : Nat → Bool} (h : Like p q) : sv p = sv q := by
  unfold sv
  rw [limb_like h (by decide), limb_like h (by decide), limb_like h (by decide), limb_like h (by decide)]
theorem rof_l {w : World} {base : Nat} {v : Value} {l : List Nat} (h : Hid (Ol w base v l)) (hl : ∀ c ∈ l, c < 256) (hn : l.length < 90000) : Calls Tryd.prog 29 #[v] w fun e w' => e = .returned (sv (inl l)) ∧ Hid (Qt w w') := by
  obtain ⟨a, cap, rfl, hs, _, _⟩ := Ol.sl h
  have := rof_f a l.length cap (fun i => l.getD i 0) w hs (fun i hi => by simp [List.getD, hi]; exact hl _ (List.getElem_mem hi)) (by omega)
  rw [inl_ofl] at this
  exact this
/-- The bytes below n of a set. -/
def upl (p : Nat → Bool) (n : Nat) : List Nat := (List.range n).filter p
theorem upl_yes {p : Nat → Bool} {n : Nat} (h : p n = true) : upl p (n + 1) = upl p n ++ [n] := by unfold upl; rw [List.range_succ, List.filter_append]; simp [h]
theorem upl_no {p : Nat → Bool} {n : Nat} (h : p n = false) : upl p (n + 1) = upl p n := by unfold upl; rw [List.range_succ, List.filter_append]; simp [h]
theorem upl_lt {p : Nat → Bool} {n : Nat} : ∀ c ∈ upl p n, c < n := by
  intro c hc
  unfold upl at hc
  rw [List.mem_filter, List.mem_range] at hc
  exact hc.1
theorem upl_len (p : Nat → Bool) (n : Nat) : (upl p n).length ≤ n := by
  unfold upl
  have := List.length_filter_le p (List.range n)
  rw [List.length_range] at this
  exact this
theorem inl_upl (p : Nat → Bool) : Like (inl (upl p 256)) p := by
  intro b hb
  unfold inl upl
  rw [Bool.eq_iff_iff, List.contains_iff_mem, List.mem_filter, List.mem_range]
  simp [hb]

/-- While a row of bytes is made. -/
structure Rn (W0 wr : World) (B : Nat) (v : Value) (l : List Nat) : Prop where
  own : Ol wr B v l
  mv : Mv (fun j => B ≤ j) W0 wr
theorem Rn.qt {W0 wr w' : World} {B : Nat} {v : Value} {l : List Nat} (h : Hid (Rn W0 wr B v l)) (q : Hid (Qt wr w')) : Hid (Rn W0 w' B v l) :=
  ⟨(Ol.qt h.out.own q).out, h.out.mv.trans q.out (fun _ _ h => h.elim)⟩
theorem Rn.push {W0 wr : World} {B : Nat} {v : Value} {l : List Nat} (h : Hid (Rn W0 wr B v l)) (hB : B ≤ W0.heap.size) (hl : l.length < 90000) (c : Nat) :
    ∃ v' W, (Builtin.append_ #[22, 22] 22 #[v, .slice (some ⟨wr.heap.size, 0, none⟩) 1 1]).run Tryd.prog (wr.alloc (.cells #[.int .u8 (c : Int)] 5)) = .ok v' W ∧ Hid (Rn W0 W B v' (l ++ [c])) := by
  obtain ⟨v', W, h1, h2, h3⟩ := Go.Proofs.YtojbakkbmfgoaaaDoor.push h.out.own (Nat.le_trans hB h.out.mv.size) hl c
  exact ⟨v', W, h1, ⟨h2.out, h.out.mv.trans h3.out (fun _ _ h => h)⟩⟩
theorem Rn.bk {W0 wr : World} {B : Nat} {v : Value} {l : List Nat} (h : Hid (Rn W0 wr B v l)) {g : Nat} {p : Nat → Bool} (hb : Hid (Bk g p W0)) (hg : g < B) : Hid (Bk g p wr) := Bk.mv hb h.out.mv (by omega)

set_option maxRecDepth 20000 in
set_option maxHeartbeats 4000000 in
theorem rnot_any (p : Nat → Bool) (w : World) : Calls Tryd.prog 30 #[.agg #[.int .u64 (limb p 0), .int .u64 (limb p 1), .int .u64 (limb p 2), .int .u64 (limb p 3)]] w fun e w' => e = .returned (sv (no p)) ∧ Hid (Qt w w') := by
  go_enter Tryd.func30, Tryd.ntmps30
  go_wp2_with fail
  have HB : Hid (Bk w.heap.size p ((w.alloc (.cells #[.int .u64 (limb p 0), .int .u64 (limb p 1), .int .u64 (limb p 2), .int .u64 (limb p 3)] 26)).alloc (.cells #[.int .u64 0, .int .u64 0, .int .u64 0, .int .u64 0] 26))) := heap2a _ _ _
  have HZ : Hid (Zr (w.heap.size + 1) ((w.alloc (.cells #[.int .u64 (limb p 0), .int .u64 (limb p 1), .int .u64 (limb p 2), .int .u64 (limb p 3)] 26)).alloc (.cells #[.int .u64 0, .int .u64 0, .int .u64 0, .int .u64 0] 26))) := heap_alloc2_new _ _ _
  have HS : Hid (w.heap.size + 2 ≤ ((w.alloc (.cells #[.int .u64 (limb p 0), .int .u64 (limb p 1), .int .u64 (limb p 2), .int .u64 (limb p 3)] 26)).alloc (.cells #[.int .u64 0, .int .u64 0, .int .u64 0, .int .u64 0] 26)).heap.size) := by show _ ≤ _; simp
  have HQ : Hid (Qt w ((w.alloc (.cells #[.int .u64 (limb p 0), .int .u64 (limb p 1), .int .u64 (limb p 2), .int .u64 (limb p 3)] 26)).alloc (.cells #[.int .u64 0, .int .u64 0, .int .u64 0, .int .u64 0] 26))) := ((Qt.refl w).alloc _).alloc _
  generalize (w.alloc (.cells #[.int .u64 (limb p 0), .int .u64 (limb p 1), .int .u64 (limb p 2), .int .u64 (limb p 3)] 26)).alloc (.cells #[.int .u64 0, .int .u64 0, .int .u64 0, .int .u64 0] 26) = W0 at *
  go_loopw [3, 4] (fun s3 s4 wr => ∃ i : Nat, i ≤ 256 ∧ s4 = .int .i64 i ∧ Hid (Rn W0 wr (w.heap.size + 2) s3 (upl (no p) i))) (fun _ s4 _ => 256 - (intOf s4).toNat)
  case atStart => exact ⟨0, by omega, rfl, (Ol.nil _ _).out, Mv.refl _ _⟩
  case round =>
    obtain ⟨i, hi, rfl, B⟩ := hrel
    obtain ⟨v, hv⟩ : ∃ v, v = u3 := ⟨_, rfl⟩
    subst hv
    by_cases hlt : i < 256
    · obtain ⟨k0, k1, k2, k3, _⟩ := Bk.facts (Rn.bk B HB (by omega))
      have wz : IntKind.u8.wrap (i : Int) = (i : Int) := by rw [IntKind.wrap_u8]; omega
      have hh := rhas_any p i hlt
      cases hp : p i with
      | true =>
        have HU : Hid (upl (no p) (i + 1) = upl (no p) i) := upl_no (by unfold no; rw [hp]; rfl)
        rw [hp] at hh
        clear hp
        go_wp2_with fail
        refine (hh _).mono ?_
        rintro e w2 ⟨rfl, q2⟩
        go_wp2_with fail
        refine ⟨⟨i + 1, by omega, by go_num, ?_⟩, by simp [intOf]; omega⟩
        rw [HU.out]; exact Rn.qt B q2
      | false =>
        have HU : Hid (upl (no p) (i + 1) = upl (no p) i ++ [i]) := upl_yes (by unfold no; rw [hp]; rfl)
        rw [hp] at hh
        clear hp
        go_wp2_with fail
        refine (hh _).mono ?_
        rintro e w2 ⟨rfl, q2⟩
        obtain ⟨v', W, hr, B2⟩ := Rn.push (Rn.qt B q2) HS.out (Nat.lt_of_le_of_lt (upl_len _ _) (by omega)) i
        clear k0 k1 k2 k3 hh
        go_wp2_with (at_builtin; first | (refine wpList_append_given rfl _ _ 22 rfl _ _ _ W rfl rfl hr ?_))
        refine ⟨⟨i + 1, by omega, by go_num, ?_⟩, by simp [intOf]; omega⟩
        rw [HU.out]; exact B2
    · obtain rfl : i = 256 := by omega
      have HL : Hid (sv (inl (upl (no p) 256)) = sv (no p)) := sv_like (inl_upl (no p))
      go_wp2_with fail
      refine (rof_l B.out.own upl_lt (Nat.lt_of_le_of_lt (upl_len _ _) (by omega))).mono ?_
      rintro e w2 ⟨rfl, q2⟩
      rw [HL.out, sv_cells]
      have Z2 : Hid (Zr (w.heap.size + 1) w2) := Zr.mv (Zr.mv HZ B.out.mv (by omega)) q2.out (fun h => h)
      obtain ⟨k0, k1, k2, k3, l0, l1, l2, l3⟩ := Zr.facts Z2
      have QW : Hid (Qt w w2) := Qt.comp (Mv.trans HQ.out B.out.mv (fun j hj h => by omega)) q2.out
      go_wp2_with fail
      refine bodyPost_ret (results_cell_row (p := 2) (ty := 26) rfl _ _ (w.heap.size + 1) 26 _ (0, 0) _ rfl (put4_heap Z2.out _ _ _ _) Tryd.underlying26 rfl (by kernel_rfl)) rfl ?_
      exact ⟨rfl, Mv.trans QW.out (put4_mv w2 (w.heap.size + 1) _ _ _ _) (fun j hj e => by omega)⟩

end Go.Proofs.YtojbakkbmfgoaaaDoor

namespace Go.Proofs.YtojbakkbmfgoaaaDoor
open Go.RowKit
set_option linter.unusedVariables false
set_option linter.unusedSimpArgs false

theorem sl1r {w : World} {a : Nat} : Sl (w.alloc (.cells #[.int .u8 (a : Int)] 5)) (some ⟨w.heap.size, 0, none⟩) 1 (Bn (fun _ => a)) := by
  intro i hi
  obtain rfl : i = 0 := by omega
  exact ⟨_, _, rfl, by simp, by simp [Bn]⟩
theorem rof_one (a : Nat) (ha : a < 256) (w : World) : Calls Tryd.prog 29 #[.slice (some ⟨w.heap.size, 0, none⟩) 1 1] (w.alloc (.cells #[.int .u8 (a : Int)] 5)) fun e w' => e = .returned (sv (btw a a)) ∧ Hid (Qt (w.alloc (.cells #[.int .u8 (a : Int)] 5)) w') := by
  have h := rof_f (some ⟨w.heap.size, 0, none⟩) 1 1 (fun _ => a) (w.alloc (.cells #[.int .u8 (a : Int)] 5)) sl1r (fun _ _ => ha) (by omega)
  rw [sv_like (q := btw a a) (fun b _ => by unfold btw ofl; rw [Bool.eq_iff_iff]; simp; omega)] at h
  exact h
/-- Behind the last store. -/
theorem Qt.put {w W : World} (h : Hid (Qt w W)) (v0 v1 v2 v3 : Value) : Hid (Qt w (put4 W w.heap.size v0 v1 v2 v3)) := Mv.trans h.out (put4_mv W w.heap.size v0 v1 v2 v3) (fun j hj e => by omega)

end Go.Proofs.YtojbakkbmfgoaaaDoor

namespace Go.Proofs.YtojbakkbmfgoaaaDoor
open Go.RowKit
set_option linter.unusedVariables false

set_option maxHeartbeats 1000000 in
theorem empty_any (p : Nat → Bool) (b : Bool) (hb : (!any p) = b) (w : World) : Calls Tryd.prog 49 #[.agg #[.int .u64 (limb p 0), .int .u64 (limb p 1), .int .u64 (limb p 2), .int .u64 (limb p 3)]] w fun e w' => e = .returned (.bool b) ∧ Hid (Qt w w') := by
  have he := eql_none p
  rw [hb] at he
  clear hb
  go_enter Tryd.func49, Tryd.ntmps49
  go_wp2_with fail
  go_ret
  exact ⟨rfl, (Qt.refl w).alloc _⟩

theorem shw_len {p : Nat → Bool} {R : List (Nat × Nat)} (h : Runs p 0 R) (hl : R.length ≤ 256) : (shw R).length ≤ 3000 ∧ ∀ c ∈ shw R, c < 256 := by
  have hg := h.good
  obtain ⟨f1, f2⟩ := flat_lt hg
  have hb : (91 :: (R.flatMap rtx ++ [93])).length ≤ 3000 ∧ ∀ c ∈ 91 :: (R.flatMap rtx ++ [93]), c < 256 := by
    refine ⟨by simp only [List.length_cons, List.length_append, List.length_nil]; omega, fun c hc => ?_⟩
    rcases List.mem_cons.1 hc with rfl | hc
    · omega
    · rcases List.mem_append.1 hc with hc | hc
      · exact f1 c hc
      · simp at hc; omega
  match R, hb, hg with
  | [], _, _ => exact ⟨by simp [shw], by simp [shw]⟩
  | [(a, b)], hb, hg =>
    unfold shw
    simp only
    by_cases h1 : a = b
    · rw [if_pos h1]
      have := rtx_lt (hg (a, b) (List.mem_cons_self ..))
      have e : rtx (a, b) = shn a := by unfold rtx; simp [h1]
      rw [e] at this
      exact ⟨by omega, this.1⟩
    · rw [if_neg h1]
      by_cases h2 : a = 0 ∧ b = 255
      · rw [if_pos h2]; exact ⟨by simp, by simp⟩
      · rw [if_neg h2]; simpa using hb
  | r :: s :: R, hb, _ => exact hb
theorem Runs.len {p : Nat → Bool} : ∀ {n : Nat} {R : List (Nat × Nat)}, Runs p n R → n ≤ 256 → R.length ≤ 256 - n
  | n, [], _, _ => by simp
  | n, (a, b) :: R, h, hn => by
    have := Runs.len h.2.2.2.2.2.2 (by have := h.2.2.1; omega)
    have := h.1; have := h.2.1; have := h.2.2.1
    simp; omega

end Go.Proofs.YtojbakkbmfgoaaaDoor
