/- A list of pieces in two: split. -/
import Derived.Test.YtjelclomigmlmaaC4
namespace Go.Proofs.Ytjelclomigmlmaa
open Go.RowKit

theorem elem41 : Try.prog.elem 41 = 50 := by kernel_rfl
theorem under41 : Try.prog.underlying 41 = some (.slice (Try.prog.elem 41)) := by rw [elem41]; exact Try.underlying41
theorem size50 (w : World) : (sizeOf 50).run Try.prog w = .ok 3 w := by
  have e : Try.t50.size = 3 := by kernel_rfl
  simp [sizeOf, typeInfo, info50, e]

/-- A list that lies there. -/
structure Li (w : World) (a : Option Addr) (c : Nat) (ps : List Pc) : Prop where
  ls : Ls w a (cellsP ps)
  cap : ps.length ≤ c
  none : a = none → ps.length = 0 ∧ c = 0
theorem Li.qt {w w' : World} {a : Option Addr} {c : Nat} {ps : List Pc} (h : Li w a c ps) (q : Qt w w') : Li w' a c ps := ⟨h.ls.qt q, h.cap, h.none⟩

/-- The first i. -/
theorem slice_to (w : World) (a : Option Addr) (c : Nat) (ps : List Pc) (h : Li w a c ps) (i : Nat) (hi : i ≤ ps.length) : ∃ p k, (∀ w, (Instr.slice 41 (.slice a ps.length c) none (some (.int .i64 (i : Int))) none).run Try.prog w = .ok (.slice p i k) w) ∧ Li w p k (ps.take i) ∧ ∀ q, p = some q → ∃ q0, a = some q0 ∧ q.block = q0.block := by
  have hl : (ps.take i).length = i := by rw [List.length_take]; omega
  have := h.cap
  refine ⟨if c = 0 then a else a.map (·.add (0 * 3)), c - 0, ?_, ⟨?_, ?_, ?_⟩, ?_⟩
  · intro w
    rw [run_slice_h w 41 a ps.length c under41 .i64 i (by omega) (by omega), elem41, size50]
    simp only [Result.andThen_ok, sliced, Int.toNat_natCast, Nat.sub_zero]
  · have hp : Ls w a (cellsP (ps.take i)) := by rw [← cellsP_take]; exact h.ls.take _
    split
    · exact hp
    · intro j u hj
      obtain ⟨b, off, e, hb, hc⟩ := hp j u hj
      exact ⟨b, off, by rw [e, Option.map_some, addr_add]; rfl, hb, hc⟩
  · rw [hl]; omega
  · intro e
    have : a = none := by
      split at e
      · exact e
      · cases a with
        | none => rfl
        | some p => simp at e
    have := h.none this
    rw [hl]; omega
  · intro q e
    split at e
    · exact ⟨q, e, rfl⟩
    · cases a with
      | none => simp at e
      | some p =>
        simp at e
        refine ⟨p, rfl, ?_⟩
        rw [← e]
        unfold Addr.add
        split <;> rfl
/-- From i on. -/
theorem slice_from (w : World) (a : Option Addr) (c : Nat) (ps : List Pc) (h : Li w a c ps) (i : Nat) (hi : i ≤ ps.length) : ∃ p k, (∀ w, (Instr.slice 41 (.slice a ps.length c) (some (.int .i64 (i : Int))) none none).run Try.prog w = .ok (.slice p (ps.length - i) k) w) ∧ Li w p k (ps.drop i) ∧ ∀ q, p = some q → ∃ q0, a = some q0 ∧ q.block = q0.block := by
  have hl : (ps.drop i).length = ps.length - i := by rw [List.length_drop]
  have := h.cap
  refine ⟨if c = i then a else a.map (·.add (i * 3)), c - i, ?_, ⟨?_, ?_, ?_⟩, ?_⟩
  · intro w
    rw [run_slice_l w 41 a ps.length c under41 .i64 i (by omega) (by omega), elem41, size50]
    simp only [Result.andThen_ok, sliced, Int.toNat_natCast]
  · split
    · have : ps.drop i = [] := List.drop_eq_nil_of_le (by omega)
      rw [this]; exact Ls.nil _ _
    · rw [← cellsP_drop]; exact h.ls.drop _
  · rw [hl]; omega
  · intro e
    have : a = none := by
      split at e
      · exact e
      · cases a with
        | none => rfl
        | some p => simp at e
    have := h.none this
    rw [hl]; omega
  · intro q e
    split at e
    · exact ⟨q, e, rfl⟩
    · cases a with
      | none => simp at e
      | some p =>
        simp at e
        refine ⟨p, rfl, ?_⟩
        rw [← e]
        unfold Addr.add
        split <;> rfl

/-- It lies where a does, or is new. -/
def Nigh (w : World) (a b : Option Addr) : Prop := ∀ q, b = some q → (∃ q0, a = some q0 ∧ q.block = q0.block) ∨ w.heap.size ≤ q.block
/-- What split tells. -/
def Told2 (w w' : World) (sa : Option Addr) (X : List Bt) (at' m : Nat) (v : Value) : Prop := ∃ a1 c1 ps1 a2 c2 ps2, v = .tuple #[.slice a1 ps1.length c1, .slice a2 ps2.length c2] ∧ Li w' a1 c1 ps1 ∧ Li w' a2 c2 ps2 ∧ Fit ps1 ∧ Fit ps2 ∧ spl ps1 = X.take at' ∧ spl ps2 = X.drop at' ∧ ps1.length ≤ m + 1 ∧ ps2.length ≤ m + 1 ∧ Qt w w' ∧ Nigh w sa a1 ∧ Nigh w sa a2

theorem fit_take {ps : List Pc} (h : Fit ps) (i : Nat) : Fit (ps.take i) := fun p hp => h p (List.mem_of_mem_take hp)
theorem fit_drop {ps : List Pc} (h : Fit ps) (i : Nat) : Fit (ps.drop i) := fun p hp => h p (List.mem_of_mem_drop hp)
theorem fit_le {ps : List Pc} (h : Fit ps) : ∀ p ∈ ps, p.fr ≤ p.to := fun p hp => (h p hp).1

/-- An append in a region that draws. -/
theorem step_append_pc {ops : Array Oper} {o : Oper} {a : Act} {w : World} {K : Act → World → Prop} {Q : Exit → Act → World → Prop} {E : Prop} (hgd : o.guard = none) (s x : Operand)
    (ho : o.op = .call { callee := .builtin .append, args := #[s, x], argTypes := #[41, 41] })
    (base : Nat) (w0 : World) (v : Value) (ps : List Pc) (sl : Option Addr) (m c : Nat) (qs : List Pc) (hs : a.eval s = v) (hx : a.eval x = .slice sl m c) (hm : m = qs.length)
    (hown : Op3 w base v ps) (hsl : Ls w sl (cellsP qs)) (hn : ps.length + qs.length < 100000) (hnone : sl = none → qs.length = 0 ∧ c = 0) (hw0 : Below base w0 w) (hb : base ≤ w0.heap.size)
    (h : ∀ v' W, Op3 W base v' (ps ++ qs) → w.grownBy W v.ownBlock → Below base w0 W → K (a.put o.dst v') W) :
    if Region.wanted o (yielded ops a.tmps) = true then Oper.wp Try.prog o a w K Q else E := by
  have hw : Region.wanted o (yielded ops a.tmps) = true := by simp [Region.wanted, hgd]
  rw [if_pos hw]
  subst hm
  obtain ⟨v', W, h1, h2, h3, _⟩ := append_pc o.type w base v ps qs sl c hown hsl hn hnone (Nat.le_trans hb hw0.size)
  exact wp_append_given s x 41 ho v _ v' W hs hx h1 (h v' W h2 h3 (hw0.grown h3 (Nat.le_trans hb hw0.size) (fun k hk => (ow_blk hown k hk).1)))

theorem Ls.grown {w W : World} {a : Option Addr} {xs : List Value} {r : Option Nat} (h : Ls w a xs) (hg : w.grownBy W r) (hne : ∀ p, a = some p → some p.block ≠ r) : Ls W a xs := by
  intro i u hi
  obtain ⟨b, off, e, hb, hc⟩ := h i u hi
  have := hne _ e
  exact ⟨b, off, e, Nat.lt_of_lt_of_le hb hg.size, (World.cell?_of_block (hg.block b hb this)).trans hc⟩
theorem ls_one (w : World) (a : Bool) (f t : Int) (g u : Nat) (B : Nat) (hB : B = w.heap.size) (hf : f = g) (ht : t = u) : Ls (w.alloc (.cells #[.bool a, .int .i64 f, .int .i64 t] 50)) (some ⟨B, 0, none⟩) (cellsP [⟨a, g, u⟩]) := by
  subst hB hf ht; exact Ls.new w _ 50
theorem ls_one_drew (w : World) (a : Bool) (f t : Int) (g u : Nat) (B : Nat) (hB : B = w.heap.size) (hf : f = g) (ht : t = u) : Ls (w.alloc (.cells #[.bool a, .int .i64 f, .int .i64 t] 50)).drew (some ⟨B, 0, none⟩) (cellsP [⟨a, g, u⟩]) := ls_one w a f t g u B hB hf ht

set_option maxHeartbeats 2000000 in
theorem split_whole (sa : Option Addr) (sc : Nat) (ps : List Pc) (at' : Nat) (w : World) (h : Hid (Li w sa sc ps)) (F : Hid (Fit ps)) (hl : ps.length < 40000) (hat : at' < 1000000) (h0 : (plc ps at').2 = 0) :
    Calls Try.prog 28 #[.slice sa ps.length sc, .int .i64 at'] w fun e w' => ∃ v, e = .returned v ∧ Hid (Told2 w w' sa (spl ps) at' ps.length v) := by
  have PC := place_any sa sc ps at' w h.out.ls F (by omega) hat
  have E := (plc_split ps at' (fit_le F.out)).1 h0
  have hi := (plc_le ps at').1
  have h0z : ((plc ps at').2 : Int) = 0 := by omega
  rw [h0z] at PC
  generalize (plc ps at').1 = i at PC E hi
  obtain ⟨p1, k1, r1, L1, G1⟩ := slice_to w sa sc ps h.out i hi
  obtain ⟨p2, k2, r2, L2, G2⟩ := slice_from w sa sc ps h.out i hi
  have FIN : Hid (∀ W, Qt w W → Told2 w W sa (spl ps) at' ps.length (.tuple #[.slice p1 i k1, .slice p2 (ps.length - i) k2])) := by
    intro W q
    refine ⟨p1, k1, ps.take i, p2, k2, ps.drop i, ?_, L1.qt q, L2.qt q, fit_take F.out i, fit_drop F.out i, E.1, E.2, ?_, ?_, q, fun q e => .inl (G1 q e), fun q e => .inl (G2 q e)⟩
    · rw [List.length_take, List.length_drop, Nat.min_eq_left hi]
    · rw [List.length_take]; omega
    · rw [List.length_drop]; omega
  clear E h0 h0z L1 L2 G1 G2
  generalize ps.length = n at *
  go_enter Try.func28, Try.ntmps28
  go_wp2_with fail
  refine PC.mono ?_
  rintro e w1 ⟨rfl, q1⟩
  go_wp2_with fail
  go_region
  go_wp2_with fail
  go_ret2
  exact ⟨_, rfl, FIN.out _ (q1.out.comp (Mv.drewN _ _ 1))⟩
end Go.Proofs.Ytjelclomigmlmaa
