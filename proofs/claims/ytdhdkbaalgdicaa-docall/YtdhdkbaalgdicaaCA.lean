/- CA: r6_M1 r6_N1 r6_N2 r6_N3 r6_N4 r6_N5 r6_N6 r6_LB r6_KB r6_TB r6_GB r6_HB r6_N8 r6_N9 r6_UB. -/
import Derived.Maps.OwnSet
import Derived.RegionTactic
import Derived.BigRegion
import Derived.Deep.RegionLaw
import Derived.Test.YtdhdkbaalgdicaaBY
/- A map of keys to blocks, and what a link is. -/
namespace Go.Proofs.Ytdhdkbaalgdicaa
open Go.RowKit

/-- A pointer to a block's first cell, or none. -/
def pt : Option Nat → Value
  | none => .pointer none
  | some b => .pointer (some ⟨b, 0, none⟩)

/-- How a pointer to a node reads. -/
def nodeElem : Value → Option (DataW Unit × List MemPlace)
  | .pointer none => some (.nil, [])
  | .pointer (some ⟨b, 0, none⟩) => some (.lit (.int .i64 b), [])
  | _ => none

def dat : Option Nat → DataW Unit
  | none => .nil
  | some b => .lit (.int .i64 b)

theorem nodeElem_pt (x : Option Nat) : nodeElem (pt x) = some (dat x, []) := by cases x <;> rfl

theorem nodeElem_inv {v : Value} {x : Option Nat} {ps : List MemPlace} (h : nodeElem v = some (dat x, ps)) : v = pt x := by
  unfold nodeElem at h
  split at h
  · cases x with
    | none => rfl
    | some b => simp [dat] at h
  · rename_i b
    cases x with
    | none => simp [dat] at h
    | some b' =>
      simp [dat] at h
      obtain ⟨h, _⟩ := h
      obtain rfl : b = b' := by omega
      rfl
  · cases h

abbrev kl (k : Int) : Lit := .int .i64 k
def fits (k : Int) : Prop := (Lit.int .i64 k).wf = true

theorem keyed3 : Maps.Keyed Try.prog 3 := Maps.int_keyed Try.underlying3

/-- Block m of w is a map of n keys; f tells whose block it has. -/
def Mp (w : World) (m n : Nat) (f : Int → Option Nat) : Prop :=
  ∃ D : DataW Unit, w.ownsMap Try.prog 3 nodeElem m n D ∧ Maps.size D = n ∧ ∀ k, fits k → D.atKey (kl k) .nil = dat (f k) ∧ Maps.has D (kl k) = (f k).isSome

theorem ownsMap_tight {w : World} {m n : Nat} {D : DataW Unit} (h : w.ownsMap Try.prog 3 nodeElem m n D) : w.ownsMap Try.prog 3 nodeElem m (Maps.size D) D := by
  obtain ⟨es, clock, hb, F, _, rfl⟩ := h
  refine ⟨es, clock, hb, F, ?_, rfl⟩
  simp [Maps.size, length_sorted]

theorem kl_ne {k k' : Int} (h : k' ≠ k) : kl k' ≠ kl k := by
  intro e
  injection e with _ e2
  exact h e2

theorem keyOf3 {k : Int} (h : fits k) : keyOf Try.prog 3 (.int .i64 k) = some (kl k) := Maps.keyOf_int_mk Try.underlying3 h

theorem Mp.mv {S : Nat → Prop} {w w' : World} {m n : Nat} {f : Int → Option Nat} (h : Mp w m n f) (hm : Mv S w w') (hs : ¬ S m) : Mp w' m n f := by
  obtain ⟨D, ⟨es, clock, hb, F, hs', hD⟩, h2, h3⟩ := h
  refine ⟨D, ⟨es, clock, ?_, F, hs', hD⟩, h2, h3⟩
  rw [hm.block m (Array.getElem?_eq_some_iff.1 hb).1 hs]; exact hb
theorem Mp.lt {w : World} {m n : Nat} {f : Int → Option Nat} (h : Mp w m n f) : m < w.heap.size := by
  obtain ⟨D, h1, _⟩ := h
  exact h1.lt
theorem Mp.noCell {w : World} {m n : Nat} {f : Int → Option Nat} (h : Mp w m n f) {p : Addr} {v : Value} (hc : w.cell? p = some v) : p.block ≠ m := by
  obtain ⟨D, ⟨es, clock, hb, _⟩, _⟩ := h
  intro e
  unfold World.cell? at hc
  rw [e, hb] at hc
  simp at hc
theorem Mp.congr {w : World} {m n : Nat} {f g : Int → Option Nat} (h : Mp w m n f) (e : ∀ k, f k = g k) : Mp w m n g := by
  obtain rfl : f = g := funext e
  exact h

theorem Mp.made (w : World) : Mp (w.alloc (.map #[] 0)) w.heap.size 0 (fun _ => none) :=
  ⟨.map [], World.ownsMap_made _ _ _ _, rfl, fun _ _ => ⟨rfl, rfl⟩⟩

theorem Mp.look {w : World} {m n : Nat} {f : Int → Option Nat} (h : Mp w m n f) (t e : TypeId) (ht : Try.prog.underlying t = some (.map 3 e)) (hz : (zeroValue e).run Try.prog w = .ok (.pointer none) w) {k : Int} (hk : fits k) :
    (Instr.lookup t (.map (some m)) (.int .i64 k) false).run Try.prog w = .ok (pt (f k)) w := by
  obtain ⟨D, h1, h2, h3⟩ := h
  obtain ⟨v, ps, hr, hv⟩ := h1.lookup keyed3 ht hz (zd := .nil) (zp := []) rfl (keyOf3 hk)
  rw [(h3 k hk).1] at hv
  rw [hr, nodeElem_inv hv]

theorem Mp.len {w : World} {m n : Nat} {f : Int → Option Nat} (h : Mp w m n f) (t e ty : TypeId) (ht : Try.prog.underlying t = some (.map 3 e)) :
    (Builtin.len_ #[t] ty #[.map (some m)]).run Try.prog w = .ok (.int .i64 n) w := by
  obtain ⟨D, h1, h2, _⟩ := h
  rw [h1.len ht ty, h2]

theorem isKey (k : Int) : WideAt.IsKeyLit (kl k) := by trivial

theorem Mp.store {w : World} {m n : Nat} {f : Int → Option Nat} (h : Mp w m n f) (t e : TypeId) (ht : Try.prog.underlying t = some (.map 3 e)) {k : Int} (hk : fits k) (hf : f k = none) (hn : n < 100000) (b : Nat) :
    ∃ w', (Instr.mapUpdate t (.map (some m)) (.int .i64 k) (pt (some b))).run Try.prog w = .ok () w' ∧ Mp w' m (n + 1) (fun j => if j = k then some b else f j) ∧ Mv (fun j => j = m) w w' := by
  obtain ⟨D, h1, h2, h3⟩ := h
  obtain ⟨w', hr, h4, h5⟩ := h1.update keyed3 ht (by simp only [maxLen]; omega) (keyOf3 hk) (nodeElem_pt (some b))
  have hh : Maps.has D (kl k) = false := by rw [(h3 k hk).2, hf]; rfl
  have hs : Maps.size (D.put (kl k) (dat (some b))) = n + 1 := by rw [Maps.size_put (h1.tidy keyed3), hh, h2]; rfl
  refine ⟨w', hr, ⟨_, ?_, hs, ?_⟩, (Mv.of_grown h5).mono (fun j _ h => (Option.some.inj h).symm)⟩
  · have := ownsMap_tight h4
    rw [hs] at this
    exact this
  · intro j hj
    dsimp only
    by_cases hjk : j = k
    · subst hjk
      rw [if_pos rfl, Maps.atKey_put_same h1.isMap (isKey _), Maps.has_put_same h1.isMap (isKey _)]
      exact ⟨rfl, rfl⟩
    · rw [if_neg hjk, Maps.atKey_put_other (kl_ne hjk), Maps.has_put_other (kl_ne hjk)]
      exact h3 j hj

theorem Mp.del {w : World} {m n : Nat} {f : Int → Option Nat} (h : Mp w m (n + 1) f) (t e ty : TypeId) (ht : Try.prog.underlying t = some (.map 3 e)) {k : Int} (hk : fits k) (hf : (f k).isSome = true) :
    ∃ w', (Builtin.delete_ #[t, 3] ty #[.map (some m), .int .i64 k]).run Try.prog w = .ok (.tuple #[]) w' ∧ Mp w' m n (fun j => if j = k then none else f j) ∧ Mv (fun j => j = m) w w' := by
  obtain ⟨D, h1, h2, h3⟩ := h
  obtain ⟨w', hr, h4, h5⟩ := h1.drop keyed3 ht (keyOf3 hk) ty
  have hh : Maps.has D (kl k) = true := by rw [(h3 k hk).2, hf]
  have hs : Maps.size (D.del (kl k)) = n := by
    have := Maps.size_del (k := kl k) (h1.tidy keyed3)
    rw [hh, h2, if_pos rfl] at this
    omega
  refine ⟨w', hr, ⟨_, ?_, hs, ?_⟩, (Mv.of_grown h5.grown).mono (fun j _ h => (Option.some.inj h).symm)⟩
  · have := ownsMap_tight h4
    rw [hs] at this
    exact this
  · intro j hj
    dsimp only
    by_cases hjk : j = k
    · subst hjk
      rw [if_pos rfl, Maps.atKey_del_same, Maps.has_del_same]
      exact ⟨rfl, rfl⟩
    · rw [if_neg hjk, Maps.atKey_del_other (kl_ne hjk), Maps.has_del_other (kl_ne hjk)]
      exact h3 j hj

end Go.Proofs.Ytdhdkbaalgdicaa

/- A list that is linked both ways. -/
namespace Go.Proofs.Ytdhdkbaalgdicaa
open Go.RowKit

/-- Where the way down to element i stands, and the way up from it. -/
def dnA (c o : Nat) (B : Nat → Nat) (i : Nat) : Addr := if i = 0 then ⟨c, 2, none⟩ else ⟨B (i - 1), o + 1, none⟩
def upA (c o : Nat) (B : Nat → Nat) (n i : Nat) : Addr := if i < n then ⟨B i, o, none⟩ else ⟨c, 3, none⟩
def ptD (n : Nat) (B : Nat → Nat) (i : Nat) : Value := if i < n then pt (some (B i)) else pt none
def ptU (B : Nat → Nat) (i : Nat) : Value := if i = 0 then pt none else pt (some (B (i - 1)))

structure Dl (w : World) (c o n : Nat) (B : Nat → Nat) : Prop where
  dn : ∀ i, i ≤ n → w.cell? (dnA c o B i) = some (ptD n B i)
  up : ∀ i, i ≤ n → w.cell? (upA c o B n i) = some (ptU B i)
  zn : ∀ i, i ≤ n → w.frozen? (dnA c o B i) = false
  zp : ∀ i, i ≤ n → w.frozen? (upA c o B n i) = false
  inj : ∀ i j, i < n → j < n → B i = B j → i = j
  nc : ∀ i, i < n → B i ≠ c

def cutB (B : Nat → Nat) (j : Nat) : Nat → Nat := fun i => if i < j then B i else B (i + 1)
def putB (B : Nat → Nat) (b : Nat) : Nat → Nat := fun i => if i = 0 then b else B (i - 1)

theorem addr_ne {a b i j : Nat} (h : a = b → i ≠ j) : (⟨a, i, none⟩ : Addr) ≠ ⟨b, j, none⟩ := by
  intro e
  injection e with e1 e2
  exact h e1 e2

section
variable {w : World} {c o n : Nat} {B : Nat → Nat}
theorem Dl.dn_ne (h : Dl w c o n B) {i j : Nat} (hi : i ≤ n) (hj : j ≤ n) (hij : i ≠ j) : dnA c o B i ≠ dnA c o B j := by
  unfold dnA
  by_cases h1 : i = 0 <;> by_cases h2 : j = 0
  · omega
  · rw [if_pos h1, if_neg h2]; exact addr_ne (fun e => ((h.nc (j - 1) (by omega)) e.symm).elim)
  · rw [if_neg h1, if_pos h2]; exact addr_ne (fun e => ((h.nc (i - 1) (by omega)) e).elim)
  · rw [if_neg h1, if_neg h2]; exact addr_ne (fun e => by have := h.inj (i - 1) (j - 1) (by omega) (by omega) e; omega)
theorem Dl.up_ne (h : Dl w c o n B) {i j : Nat} (hi : i ≤ n) (hj : j ≤ n) (hij : i ≠ j) : upA c o B n i ≠ upA c o B n j := by
  unfold upA
  by_cases h1 : i < n <;> by_cases h2 : j < n
  · rw [if_pos h1, if_pos h2]; exact addr_ne (fun e => by have := h.inj i j h1 h2 e; omega)
  · rw [if_pos h1, if_neg h2]; exact addr_ne (fun e => ((h.nc i h1) e).elim)
  · rw [if_neg h1, if_pos h2]; exact addr_ne (fun e => ((h.nc j h2) e.symm).elim)
  · omega
theorem Dl.du_ne (h : Dl w c o n B) {i j : Nat} (hi : i ≤ n) (hj : j ≤ n) : dnA c o B i ≠ upA c o B n j := by
  unfold dnA upA
  by_cases h1 : i = 0 <;> by_cases h2 : j < n
  · rw [if_pos h1, if_pos h2]; exact addr_ne (fun e => ((h.nc j h2) e.symm).elim)
  · rw [if_pos h1, if_neg h2]; exact addr_ne (fun _ => by omega)
  · rw [if_neg h1, if_pos h2]; exact addr_ne (fun _ => by omega)
  · rw [if_neg h1, if_neg h2]; exact addr_ne (fun e => ((h.nc (i - 1) (by omega)) e).elim)
theorem dn_cut {j : Nat} (i : Nat) : dnA c o (cutB B j) i = if i ≤ j then dnA c o B i else dnA c o B (i + 1) := by
  unfold dnA cutB
  by_cases h1 : i = 0
  · rw [if_pos h1, if_pos (by omega), if_pos h1]
  · rw [if_neg h1]
    by_cases h2 : i ≤ j
    · rw [if_pos h2, if_neg h1, if_pos (by omega)]
    · rw [if_neg h2, if_neg (by omega), if_neg (by omega)]
      congr 2
      omega
theorem up_cut {j : Nat} (hj : j < n) (i : Nat) : upA c o (cutB B j) (n - 1) i = if i < j then upA c o B n i else upA c o B n (i + 1) := by
  unfold upA cutB
  by_cases h1 : i < n - 1
  · rw [if_pos h1]
    by_cases h2 : i < j
    · rw [if_pos h2, if_pos h2, if_pos (by omega)]
    · rw [if_neg h2, if_neg h2, if_pos (by omega)]
  · rw [if_neg h1, if_neg (by omega), if_neg (by omega)]
theorem pd_cut {j : Nat} (hj : j < n) (i : Nat) : ptD (n - 1) (cutB B j) i = if i < j then ptD n B i else ptD n B (i + 1) := by
  unfold ptD cutB
  by_cases h1 : i < n - 1
  · rw [if_pos h1]
    by_cases h2 : i < j
    · rw [if_pos h2, if_pos h2, if_pos (by omega)]
    · rw [if_neg h2, if_neg h2, if_pos (by omega)]
  · rw [if_neg h1, if_neg (by omega), if_neg (by omega)]
theorem pu_cut {j : Nat} (i : Nat) : ptU (cutB B j) i = if i ≤ j then ptU B i else ptU B (i + 1) := by
  unfold ptU cutB
  by_cases h1 : i = 0
  · rw [if_pos h1, if_pos (by omega), if_pos h1]
  · rw [if_neg h1]
    by_cases h2 : i ≤ j
    · rw [if_pos h2, if_neg h1, if_pos (by omega)]
    · rw [if_neg h2, if_neg (by omega), if_neg (by omega)]
      congr 3
      omega
/-- Element j is taken out. -/
theorem Dl.cut (h : Dl w c o n B) {j : Nat} (hj : j < n) : Dl ((w.setCell (dnA c o B j) (ptD n B (j + 1))).setCell (upA c o B n (j + 1)) (ptU B j)) c o (n - 1) (cutB B j) := by
  have hd := h.dn j (by omega)
  have hu := h.up (j + 1) (by omega)
  refine ⟨?_, ?_, ?_, ?_, ?_, ?_⟩
  · intro i hi
    rw [dn_cut, pd_cut hj]
    by_cases h1 : i < j
    · rw [if_pos (by omega), if_pos h1, World.cell?_setCell_other _ _ _ _ (Ne.symm (h.du_ne (by omega) (by omega))), World.cell?_setCell_other _ _ _ _ (h.dn_ne (by omega) (by omega) (by omega))]
      exact h.dn i (by omega)
    · rw [if_neg h1]
      by_cases h2 : i = j
      · subst h2
        rw [if_pos (by omega), World.cell?_setCell_other _ _ _ _ (Ne.symm (h.du_ne (by omega) (by omega)))]
        exact World.cell?_setCell_same _ _ _ hd
      · rw [if_neg (by omega), World.cell?_setCell_other _ _ _ _ (Ne.symm (h.du_ne (by omega) (by omega))), World.cell?_setCell_other _ _ _ _ (h.dn_ne (by omega) (by omega) (by omega))]
        exact h.dn (i + 1) (by omega)
  · intro i hi
    rw [up_cut hj, pu_cut]
    by_cases h1 : i < j
    · rw [if_pos h1, if_pos (by omega), World.cell?_setCell_other _ _ _ _ (h.up_ne (by omega) (by omega) (by omega)), World.cell?_setCell_other _ _ _ _ (h.du_ne (by omega) (by omega))]
      exact h.up i (by omega)
    · rw [if_neg h1]
      by_cases h2 : i = j
      · subst h2
        rw [if_pos (by omega)]
        refine World.cell?_setCell_same _ _ _ (u := ptU B (i + 1)) ?_
        rw [World.cell?_setCell_other _ _ _ _ (h.du_ne (by omega) (by omega))]
        exact hu
      · rw [if_neg (by omega), World.cell?_setCell_other _ _ _ _ (h.up_ne (by omega) (by omega) (by omega)), World.cell?_setCell_other _ _ _ _ (h.du_ne (by omega) (by omega))]
        exact h.up (i + 1) (by omega)
  · intro i hi
    rw [World.frozen?_setCell, World.frozen?_setCell, dn_cut]
    split
    · exact h.zn i (by omega)
    · exact h.zn (i + 1) (by omega)
  · intro i hi
    rw [World.frozen?_setCell, World.frozen?_setCell, up_cut hj]
    split
    · exact h.zp i (by omega)
    · exact h.zp (i + 1) (by omega)
  · intro i i' hi hi' e
    unfold cutB at e
    by_cases h1 : i < j <;> by_cases h2 : i' < j
    · rw [if_pos h1, if_pos h2] at e; exact h.inj _ _ (by omega) (by omega) e
    · rw [if_pos h1, if_neg h2] at e; have := h.inj _ _ (by omega) (by omega) e; omega
    · rw [if_neg h1, if_pos h2] at e; have := h.inj _ _ (by omega) (by omega) e; omega
    · rw [if_neg h1, if_neg h2] at e; have := h.inj _ _ (by omega) (by omega) e; omega
  · intro i hi
    unfold cutB
    split
    · exact h.nc _ (by omega)
    · exact h.nc _ (by omega)
theorem Dl.mv {S : Nat → Prop} {w' : World} (h : Dl w c o n B) (hm : Mv S w w') (hc : ¬ S c) (hB : ∀ i, i < n → ¬ S (B i)) : Dl w' c o n B := by
  have b1 : ∀ i, i ≤ n → ¬ S (dnA c o B i).block := by
    intro i hi
    unfold dnA
    split
    · exact hc
    · exact hB _ (by omega)
  have b2 : ∀ i, i ≤ n → ¬ S (upA c o B n i).block := by
    intro i hi
    unfold upA
    split
    · exact hB _ (by omega)
    · exact hc
  refine ⟨fun i hi => hm.cell (h.dn i hi) (b1 i hi), fun i hi => hm.cell (h.up i hi) (b2 i hi), ?_, ?_, h.inj, h.nc⟩
  · intro i hi
    rw [hm.frozen (World.block_lt_of_cell? _ _ (h.dn i hi)) (b1 i hi)]; exact h.zn i hi
  · intro i hi
    rw [hm.frozen (World.block_lt_of_cell? _ _ (h.up i hi)) (b2 i hi)]; exact h.zp i hi
/-- A node is laid at the head. -/
theorem Dl.push (h : Dl w c o n B) {b : Nat} (hb : ∀ i, i < n → B i ≠ b) (hbc : b ≠ c) {v2 v3 : Value} (u2 : w.cell? ⟨b, o, none⟩ = some v2) (z2 : w.frozen? ⟨b, o, none⟩ = false) (u3 : w.cell? ⟨b, o + 1, none⟩ = some v3) (z3 : w.frozen? ⟨b, o + 1, none⟩ = false) :
    Dl ((((w.setCell ⟨b, o, none⟩ (pt none)).setCell ⟨b, o + 1, none⟩ (ptD n B 0)).setCell (upA c o B n 0) (pt (some b))).setCell ⟨c, 2, none⟩ (pt (some b))) c o (n + 1) (putB B b) := by
  have hD0 : dnA c o B 0 = ⟨c, 2, none⟩ := by unfold dnA; rw [if_pos rfl]
  have e1 : ∀ i, dnA c o (putB B b) i = if i = 0 then ⟨c, 2, none⟩ else if i = 1 then ⟨b, o + 1, none⟩ else dnA c o B (i - 1) := by
    intro i
    unfold dnA putB
    by_cases h0 : i = 0
    · rw [if_pos h0, if_pos h0]
    · rw [if_neg h0, if_neg h0]
      by_cases h1 : i = 1
      · subst h1; rfl
      · rw [if_neg h1, if_neg (by omega), if_neg (by omega)]
  have e2 : ∀ i, upA c o (putB B b) (n + 1) i = if i = 0 then ⟨b, o, none⟩ else upA c o B n (i - 1) := by
    intro i
    unfold upA putB
    by_cases h0 : i = 0
    · subst h0; rw [if_pos (by omega), if_pos rfl, if_pos rfl]
    · by_cases h1 : i < n + 1
      · rw [if_pos h1, if_neg h0, if_neg h0, if_pos (by omega)]
      · rw [if_neg h1, if_neg h0, if_neg (by omega)]
  have e3 : ∀ i, ptD (n + 1) (putB B b) i = if i = 0 then pt (some b) else ptD n B (i - 1) := by
    intro i
    unfold ptD putB
    by_cases h0 : i = 0
    · subst h0; rw [if_pos (by omega), if_pos rfl, if_pos rfl]
    · by_cases h1 : i < n + 1
      · rw [if_pos h1, if_neg h0, if_neg h0, if_pos (by omega)]
      · rw [if_neg h1, if_neg h0, if_neg (by omega)]
  have e4 : ∀ i, ptU (putB B b) i = if i = 0 then pt none else if i = 1 then pt (some b) else ptU B (i - 1) := by
    intro i
    unfold ptU putB
    by_cases h0 : i = 0
    · rw [if_pos h0, if_pos h0]
    · rw [if_neg h0, if_neg h0]
      by_cases h1 : i = 1
      · subst h1; rfl
      · rw [if_neg h1, if_neg (by omega), if_neg (by omega)]
  have blk : ∀ i x, i ≤ n → dnA c o B i ≠ ⟨b, x, none⟩ := by
    intro i x hi
    unfold dnA
    split
    · exact addr_ne (fun e => (hbc e.symm).elim)
    · exact addr_ne (fun e => (hb _ (by omega) e).elim)
  have blu : ∀ i x, i ≤ n → upA c o B n i ≠ ⟨b, x, none⟩ := by
    intro i x hi
    unfold upA
    split
    · exact addr_ne (fun e => (hb _ (by omega) e).elim)
    · exact addr_ne (fun e => (hbc e.symm).elim)
  have bc : ∀ x, (⟨b, x, none⟩ : Addr) ≠ ⟨c, 2, none⟩ := fun x => addr_ne (fun e => (hbc e).elim)
  have uc : ∀ i, i ≤ n → upA c o B n i ≠ ⟨c, 2, none⟩ := by
    intro i hi
    rw [← hD0]; exact Ne.symm (h.du_ne (by omega) hi)
  have dc : ∀ i, 0 < i → i ≤ n → dnA c o B i ≠ ⟨c, 2, none⟩ := by
    intro i h0 hi
    rw [← hD0]; exact h.dn_ne hi (by omega) (by omega)
  refine ⟨?_, ?_, ?_, ?_, ?_, ?_⟩
  · intro i hi
    rw [e1, e3]
    by_cases h0 : i = 0
    · rw [if_pos h0, if_pos h0]
      refine World.cell?_setCell_same _ _ _ (u := ptD n B 0) ?_
      rw [World.cell?_setCell_other _ _ _ _ (uc 0 (by omega)), World.cell?_setCell_other _ _ _ _ (bc _), World.cell?_setCell_other _ _ _ _ (bc _), ← hD0]
      exact h.dn 0 (by omega)
    · rw [if_neg h0, if_neg h0]
      by_cases h1 : i = 1
      · subst h1
        rw [if_pos rfl, World.cell?_setCell_other _ _ _ _ (Ne.symm (bc _)), World.cell?_setCell_other _ _ _ _ (blu 0 _ (by omega))]
        refine World.cell?_setCell_same _ _ _ (u := v3) ?_
        rw [World.cell?_setCell_other _ _ _ _ (addr_ne (fun _ => by omega))]
        exact u3
      · rw [if_neg h1, World.cell?_setCell_other _ _ _ _ (Ne.symm (dc _ (by omega) (by omega))), World.cell?_setCell_other _ _ _ _ (Ne.symm (h.du_ne (by omega) (by omega))), World.cell?_setCell_other _ _ _ _ (Ne.symm (blk _ _ (by omega))), World.cell?_setCell_other _ _ _ _ (Ne.symm (blk _ _ (by omega)))]
        exact h.dn (i - 1) (by omega)
  · intro i hi
    rw [e2, e4]
    by_cases h0 : i = 0
    · rw [if_pos h0, if_pos h0, World.cell?_setCell_other _ _ _ _ (Ne.symm (bc _)), World.cell?_setCell_other _ _ _ _ (blu 0 _ (by omega)), World.cell?_setCell_other _ _ _ _ (addr_ne (fun _ => by omega))]
      exact World.cell?_setCell_same _ _ _ u2
    · rw [if_neg h0, if_neg h0, World.cell?_setCell_other _ _ _ _ (Ne.symm (uc _ (by omega)))]
      by_cases h1 : i = 1
      · subst h1
        rw [if_pos rfl]
        refine World.cell?_setCell_same _ _ _ (u := ptU B 0) ?_
        rw [World.cell?_setCell_other _ _ _ _ (Ne.symm (blu _ _ (by omega))), World.cell?_setCell_other _ _ _ _ (Ne.symm (blu _ _ (by omega)))]
        exact h.up 0 (by omega)
      · rw [if_neg h1, World.cell?_setCell_other _ _ _ _ (h.up_ne (by omega) (by omega) (by omega)), World.cell?_setCell_other _ _ _ _ (Ne.symm (blu _ _ (by omega))), World.cell?_setCell_other _ _ _ _ (Ne.symm (blu _ _ (by omega)))]
        exact h.up (i - 1) (by omega)
  · intro i hi
    rw [World.frozen?_setCell, World.frozen?_setCell, World.frozen?_setCell, World.frozen?_setCell, e1]
    split
    · rw [← hD0]; exact h.zn 0 (by omega)
    · split
      · exact z3
      · exact h.zn _ (by omega)
  · intro i hi
    rw [World.frozen?_setCell, World.frozen?_setCell, World.frozen?_setCell, World.frozen?_setCell, e2]
    split
    · exact z2
    · exact h.zp _ (by omega)
  · intro i j hi hj e
    unfold putB at e
    by_cases h1 : i = 0 <;> by_cases h2 : j = 0
    · omega
    · rw [if_pos h1, if_neg h2] at e; exact (hb _ (by omega) e.symm).elim
    · rw [if_neg h1, if_pos h2] at e; exact (hb _ (by omega) e).elim
    · rw [if_neg h1, if_neg h2] at e; have := h.inj _ _ (by omega) (by omega) e; omega
  · intro i hi
    unfold putB
    split
    · exact hbc
    · exact h.nc _ (by omega)
end

end Go.Proofs.Ytdhdkbaalgdicaa

/- The nodes of a cache, and what is in them. -/
namespace Go.Proofs.Ytdhdkbaalgdicaa
open Go.RowKit

structure Nd where
  b : Nat
  k : Int
  v : Nat → Value
def nd0 : Nd := ⟨0, 0, fun _ => .pointer none⟩
def bl (L : List Nd) (i : Nat) : Nat := (L.getD i nd0).b

theorem bl_mem {L : List Nd} {i : Nat} (h : i < L.length) : ∃ x, L[i]? = some x ∧ bl L i = x.b ∧ x ∈ L := by
  refine ⟨L[i], List.getElem?_eq_getElem h, ?_, List.getElem_mem h⟩
  simp [bl, List.getD_eq_getElem?_getD, List.getElem?_eq_getElem h]
theorem bl_of {L : List Nd} {i : Nat} {x : Nd} (h : L[i]? = some x) : bl L i = x.b := by
  simp [bl, List.getD_eq_getElem?_getD, h]
theorem bl_cut (L : List Nd) (j : Nat) : bl (L.eraseIdx j) = cutB (bl L) j := by
  funext i
  unfold bl cutB
  rw [List.getD_eq_getElem?_getD, List.getElem?_eraseIdx]
  split
  · simp [List.getD_eq_getElem?_getD]
  · simp [List.getD_eq_getElem?_getD]
theorem bl_put (L : List Nd) (x : Nd) : bl (x :: L) = putB (bl L) x.b := by
  funext i
  unfold bl putB
  cases i with
  | zero => simp
  | succ i => simp

/-- What a node holds. -/
structure Kv (w : World) (o : Nat) (x : Nd) : Prop where
  key : w.cell? ⟨x.b, 0, none⟩ = some (.int .i64 x.k)
  val : ∀ j, j < o - 1 → w.cell? ⟨x.b, 1 + j, none⟩ = some (x.v j)
  zv : ∀ j, j < o - 1 → w.frozen? ⟨x.b, 1 + j, none⟩ = false

/-- .. with its two ways, wherever they lead. -/
structure Nc (w : World) (o : Nat) (x : Nd) : Prop where
  kv : Kv w o x
  n2 : ∃ v, w.cell? ⟨x.b, o, none⟩ = some v
  n3 : ∃ v, w.cell? ⟨x.b, o + 1, none⟩ = some v
  z2 : w.frozen? ⟨x.b, o, none⟩ = false
  z3 : w.frozen? ⟨x.b, o + 1, none⟩ = false

theorem Kv.mv {S : Nat → Prop} {w w' : World} {o : Nat} {x : Nd} (h : Kv w o x) (hm : Mv S w w') (hx : ¬ S x.b) : Kv w' o x :=
  ⟨hm.cell h.key hx, fun j hj => hm.cell (h.val j hj) hx, fun j hj => (hm.frozen (p := ⟨x.b, 1 + j, none⟩) (World.block_lt_of_cell? _ _ (h.val j hj)) hx).trans (h.zv j hj)⟩
theorem Kv.set {w : World} {o : Nat} {x : Nd} (h : Kv w o x) (p : Addr) (u : Value) (hp : p.block = x.b → o ≤ p.off) (ho : 2 ≤ o) : Kv (w.setCell p u) o x := by
  have hne : ∀ j, j < o → p ≠ ⟨x.b, j, none⟩ := by
    intro j hj e
    have := hp (by rw [e])
    rw [e] at this
    simp at this
    omega
  refine ⟨?_, fun j hj => ?_, fun j hj => ?_⟩
  · rw [World.cell?_setCell_other _ _ _ _ (hne 0 (by omega))]; exact h.key
  · rw [World.cell?_setCell_other _ _ _ _ (hne (1 + j) (by omega))]; exact h.val j hj
  · rw [World.frozen?_setCell]; exact h.zv j hj
theorem set_some {w : World} {p q : Addr} {u : Value} (h : ∃ v, w.cell? q = some v) : ∃ v, (w.setCell p u).cell? q = some v := by
  obtain ⟨v, hv⟩ := h
  by_cases e : p = q
  · subst e; exact ⟨u, World.cell?_setCell_same _ _ _ hv⟩
  · exact ⟨v, by rw [World.cell?_setCell_other _ _ _ _ e]; exact hv⟩
theorem Nc.set {w : World} {o : Nat} {x : Nd} (h : Nc w o x) (p : Addr) (u : Value) (hp : p.block = x.b → o ≤ p.off) (ho : 2 ≤ o) : Nc (w.setCell p u) o x :=
  ⟨h.kv.set p u hp ho, set_some h.n2, set_some h.n3, by rw [World.frozen?_setCell]; exact h.z2, by rw [World.frozen?_setCell]; exact h.z3⟩
theorem Nc.mv {S : Nat → Prop} {w w' : World} {o : Nat} {x : Nd} (h : Nc w o x) (hm : Mv S w w') (hx : ¬ S x.b) : Nc w' o x := by
  obtain ⟨v2, h2⟩ := h.n2
  obtain ⟨v3, h3⟩ := h.n3
  exact ⟨h.kv.mv hm hx, ⟨v2, hm.cell h2 hx⟩, ⟨v3, hm.cell h3 hx⟩, (hm.frozen (p := ⟨x.b, o, none⟩) (World.block_lt_of_cell? _ _ h2) hx).trans h.z2, (hm.frozen (p := ⟨x.b, o + 1, none⟩) (World.block_lt_of_cell? _ _ h3) hx).trans h.z3⟩

/-- A cache's own block and its nodes. -/
structure Li (w : World) (c o : Nat) (mo : Int) (M : Option Nat) (L : List Nd) : Prop where
  cm : w.cell? ⟨c, 0, none⟩ = some (.int .i64 mo)
  ck : w.cell? ⟨c, 1, none⟩ = some (.map M)
  z1 : w.frozen? ⟨c, 1, none⟩ = false
  dl : Dl w c o L.length (bl L)
  kv : ∀ x, x ∈ L → Kv w o x
  o2 : 2 ≤ o

section
variable {w : World} {c o : Nat} {mo : Int} {M : Option Nat} {L : List Nd}
theorem Li.mv {S : Nat → Prop} {w' : World} (h : Li w c o mo M L) (hm : Mv S w w') (hc : ¬ S c) (hB : ∀ x, x ∈ L → ¬ S x.b) : Li w' c o mo M L := by
  refine ⟨hm.cell h.cm hc, hm.cell h.ck hc, (hm.frozen (p := ⟨c, 1, none⟩) (World.block_lt_of_cell? _ _ h.ck) hc).trans h.z1, h.dl.mv hm hc ?_, fun x hx => (h.kv x hx).mv hm (hB x hx), h.o2⟩
  intro i hi
  obtain ⟨x, _, e, hx⟩ := bl_mem hi
  rw [e]; exact hB x hx
theorem Li.ne_c (h : Li w c o mo M L) {x : Nd} (hx : x ∈ L) : x.b ≠ c := by
  obtain ⟨i, hi, e⟩ := List.getElem_of_mem hx
  have := h.dl.nc i hi
  rw [bl_of (x := x) (by rw [List.getElem?_eq_getElem hi, e])] at this
  exact this
theorem Li.nc (h : Li w c o mo M L) {j : Nat} {x : Nd} (hx : L[j]? = some x) : Nc w o x := by
  obtain ⟨hj, e⟩ := List.getElem?_eq_some_iff.1 hx
  have hm : x ∈ L := e ▸ List.getElem_mem hj
  have hb := bl_of hx
  have e2 : upA c o (bl L) L.length j = ⟨x.b, o, none⟩ := by unfold upA; rw [if_pos hj, hb]
  have e3 : dnA c o (bl L) (j + 1) = ⟨x.b, o + 1, none⟩ := by unfold dnA; rw [if_neg (by omega), Nat.add_sub_cancel, hb]
  refine ⟨h.kv x hm, ⟨_, e2 ▸ h.dl.up j (by omega)⟩, ⟨_, e3 ▸ h.dl.dn (j + 1) (by omega)⟩, e2 ▸ h.dl.zp j (by omega), e3 ▸ h.dl.zn (j + 1) (by omega)⟩
theorem upA_off {c o : Nat} {B : Nat → Nat} {n i b : Nat} (hn : b ≠ c) : (upA c o B n i).block = b → o ≤ (upA c o B n i).off := by
  unfold upA
  split
  · exact fun _ => Nat.le_refl _
  · exact fun h => (hn h.symm).elim
theorem dnA_off {c o : Nat} {B : Nat → Nat} {i b : Nat} (hn : b ≠ c) : (dnA c o B i).block = b → o ≤ (dnA c o B i).off := by
  unfold dnA
  split
  · exact fun h => (hn h.symm).elim
  · exact fun _ => Nat.le_succ _
theorem upA_c {c o : Nat} {B : Nat → Nat} {n i k : Nat} (hB : ∀ i, i < n → B i ≠ c) (hk : k < 2) : upA c o B n i ≠ ⟨c, k, none⟩ := by
  unfold upA
  split
  · exact addr_ne (fun e => (hB i (by assumption) e).elim)
  · exact addr_ne (fun _ => by omega)
theorem dnA_c {c o : Nat} {B : Nat → Nat} {n i k : Nat} (hB : ∀ i, i < n → B i ≠ c) (hi : i ≤ n) (hk : k < 2) : dnA c o B i ≠ ⟨c, k, none⟩ := by
  unfold dnA
  split
  · exact addr_ne (fun _ => by omega)
  · exact addr_ne (fun e => (hB (i - 1) (by omega) e).elim)
theorem upA_blk {c o : Nat} {i : Nat} : (upA c o (bl L) L.length i).block = c ∨ ∃ x, x ∈ L ∧ (upA c o (bl L) L.length i).block = x.b := by
  unfold upA
  split
  · obtain ⟨x, _, e, hx⟩ := bl_mem (L := L) (i := i) (by assumption)
    exact .inr ⟨x, hx, e⟩
  · exact .inl rfl
theorem dnA_blk {c o : Nat} {i : Nat} (hi : i ≤ L.length) : (dnA c o (bl L) i).block = c ∨ ∃ x, x ∈ L ∧ (dnA c o (bl L) i).block = x.b := by
  unfold dnA
  split
  · exact .inl rfl
  · obtain ⟨x, _, e, hx⟩ := bl_mem (L := L) (i := i - 1) (by omega)
    exact .inr ⟨x, hx, e⟩
/-- The blocks of a cache that may turn when a node comes or goes. -/
def Mine (c : Nat) (L : List Nd) (k : Nat) : Prop := k = c ∨ ∃ x, x ∈ L ∧ k = x.b
theorem Li.cut (h : Li w c o mo M L) {j : Nat} {x : Nd} (hx : L[j]? = some x) :
    Li ((w.setCell (dnA c o (bl L) j) (ptD L.length (bl L) (j + 1))).setCell (upA c o (bl L) L.length (j + 1)) (ptU (bl L) j)) c o mo M (L.eraseIdx j) ∧
    Nc ((w.setCell (dnA c o (bl L) j) (ptD L.length (bl L) (j + 1))).setCell (upA c o (bl L) L.length (j + 1)) (ptU (bl L) j)) o x ∧
    Mv (Mine c L) w ((w.setCell (dnA c o (bl L) j) (ptD L.length (bl L) (j + 1))).setCell (upA c o (bl L) L.length (j + 1)) (ptU (bl L) j)) := by
  obtain ⟨hj, e⟩ := List.getElem?_eq_some_iff.1 hx
  have hm : x ∈ L := e ▸ List.getElem_mem hj
  have hk : ∀ y, y ∈ L → Kv ((w.setCell (dnA c o (bl L) j) (ptD L.length (bl L) (j + 1))).setCell (upA c o (bl L) L.length (j + 1)) (ptU (bl L) j)) o y := fun y hy =>
    ((h.kv y hy).set _ _ (dnA_off (h.ne_c hy)) h.o2).set _ _ (upA_off (h.ne_c hy)) h.o2
  refine ⟨⟨?_, ?_, ?_, ?_, fun y hy => hk y (List.mem_of_mem_eraseIdx hy), h.o2⟩, ((h.nc hx).set _ _ (dnA_off (h.ne_c hm)) h.o2).set _ _ (upA_off (h.ne_c hm)) h.o2, ?_⟩
  · rw [World.cell?_setCell_other _ _ _ _ (upA_c h.dl.nc (by omega)), World.cell?_setCell_other _ _ _ _ (dnA_c h.dl.nc (by omega) (by omega))]; exact h.cm
  · rw [World.cell?_setCell_other _ _ _ _ (upA_c h.dl.nc (by omega)), World.cell?_setCell_other _ _ _ _ (dnA_c h.dl.nc (by omega) (by omega))]; exact h.ck
  · rw [World.frozen?_setCell, World.frozen?_setCell]; exact h.z1
  · rw [bl_cut, List.length_eraseIdx_of_lt hj]
    exact h.dl.cut hj
  · refine ((Mv.setCell w _ _).mono (T := Mine c L) ?_).trans ((Mv.setCell _ _ _).mono (T := Mine c L) ?_) (fun _ _ h => h)
    · rintro k _ rfl; exact dnA_blk (by omega)
    · rintro k _ rfl; exact upA_blk
theorem Li.push (h : Li w c o mo M L) {x : Nd} (hn : Nc w o x) (hx : ∀ y, y ∈ L → y.b ≠ x.b) (hc : x.b ≠ c) :
    Li ((((w.setCell ⟨x.b, o, none⟩ (pt none)).setCell ⟨x.b, o + 1, none⟩ (ptD L.length (bl L) 0)).setCell (upA c o (bl L) L.length 0) (pt (some x.b))).setCell ⟨c, 2, none⟩ (pt (some x.b))) c o mo M (x :: L) ∧
    Mv (Mine c (x :: L)) w ((((w.setCell ⟨x.b, o, none⟩ (pt none)).setCell ⟨x.b, o + 1, none⟩ (ptD L.length (bl L) 0)).setCell (upA c o (bl L) L.length 0) (pt (some x.b))).setCell ⟨c, 2, none⟩ (pt (some x.b))) := by
  have hB : ∀ i, i < L.length → bl L i ≠ x.b := by
    intro i hi
    obtain ⟨y, _, e, hy⟩ := bl_mem hi
    rw [e]; exact hx y hy
  obtain ⟨v2, h2⟩ := hn.n2
  obtain ⟨v3, h3⟩ := hn.n3
  have hne : ∀ k i, (⟨x.b, i, none⟩ : Addr) ≠ ⟨c, k, none⟩ := fun k i => addr_ne (fun e => (hc e).elim)
  refine ⟨⟨?_, ?_, ?_, ?_, ?_, h.o2⟩, ?_⟩
  · rw [World.cell?_setCell_other _ _ _ _ (addr_ne (fun _ => by omega)), World.cell?_setCell_other _ _ _ _ (upA_c h.dl.nc (by omega)), World.cell?_setCell_other _ _ _ _ (hne _ _), World.cell?_setCell_other _ _ _ _ (hne _ _)]; exact h.cm
  · rw [World.cell?_setCell_other _ _ _ _ (addr_ne (fun _ => by omega)), World.cell?_setCell_other _ _ _ _ (upA_c h.dl.nc (by omega)), World.cell?_setCell_other _ _ _ _ (hne _ _), World.cell?_setCell_other _ _ _ _ (hne _ _)]; exact h.ck
  · rw [World.frozen?_setCell, World.frozen?_setCell, World.frozen?_setCell, World.frozen?_setCell]; exact h.z1
  · rw [bl_put]
    exact h.dl.push hB hc h2 hn.z2 h3 hn.z3
  · intro y hy
    have hyc : y.b ≠ c := by
      rcases List.mem_cons.1 hy with rfl | hy
      · exact hc
      · exact h.ne_c hy
    have hk : Kv w o y := by
      rcases List.mem_cons.1 hy with rfl | hy
      · exact hn.kv
      · exact h.kv y hy
    exact (((hk.set _ _ (fun _ => Nat.le_refl _) h.o2).set _ _ (fun _ => Nat.le_succ _) h.o2).set _ _ (upA_off hyc) h.o2).set _ _ (fun e => (hyc e.symm).elim) h.o2
  · refine ((((Mv.setCell w _ _).mono (T := Mine c (x :: L)) ?_).trans ((Mv.setCell _ _ _).mono (T := Mine c (x :: L)) ?_) (fun _ _ h => h)).trans ((Mv.setCell _ _ _).mono (T := Mine c (x :: L)) ?_) (fun _ _ h => h)).trans ((Mv.setCell _ _ _).mono (T := Mine c (x :: L)) ?_) (fun _ _ h => h)
    · rintro k _ rfl; exact .inr ⟨x, List.mem_cons_self, rfl⟩
    · rintro k _ rfl; exact .inr ⟨x, List.mem_cons_self, rfl⟩
    · rintro k _ rfl
      rcases upA_blk (L := L) (c := c) (o := o) (i := 0) with h | ⟨y, hy, h⟩
      · exact .inl h
      · exact .inr ⟨y, List.mem_cons_of_mem _ hy, h⟩
    · rintro k _ rfl; exact .inl rfl
end

end Go.Proofs.Ytdhdkbaalgdicaa

/- A cache. -/
namespace Go.Proofs.Ytdhdkbaalgdicaa
open Go.RowKit

def fnd (L : List Nd) (k : Int) : Option Nd := L.find? (fun x => decide (x.k = k))
def del (L : List Nd) (k : Int) : List Nd := L.filter (fun x => decide (x.k ≠ k))

theorem fnd_nil (k : Int) : fnd [] k = none := rfl
theorem fnd_cons (x : Nd) (L : List Nd) (k : Int) : fnd (x :: L) k = if x.k = k then some x else fnd L k := by
  unfold fnd
  rw [List.find?_cons]
  by_cases h : x.k = k <;> simp [h]
theorem del_cons (x : Nd) (L : List Nd) (k : Int) : del (x :: L) k = if x.k = k then del L k else x :: del L k := by
  unfold del
  rw [List.filter_cons]
  by_cases h : x.k = k <;> simp [h]
theorem fnd_some {L : List Nd} {k : Int} {x : Nd} (h : fnd L k = some x) : x ∈ L ∧ x.k = k ∧ ∃ j : Nat, L[j]? = some x := by
  have h1 := List.mem_of_find?_eq_some h
  have h2 := List.find?_some h
  refine ⟨h1, by simpa using h2, List.getElem?_of_mem h1⟩
theorem fnd_none {L : List Nd} {k : Int} (h : fnd L k = none) : ∀ x, x ∈ L → x.k ≠ k := by
  intro x hx e
  have := List.find?_eq_none.1 h x hx
  simp [e] at this
theorem fnd_none_of {L : List Nd} {k : Int} (h : ∀ x, x ∈ L → x.k ≠ k) : fnd L k = none := by
  unfold fnd
  rw [List.find?_eq_none]
  intro x hx
  simp [h x hx]
theorem fnd_mem {L : List Nd} (hn : (L.map Nd.k).Nodup) {x : Nd} (hx : x ∈ L) : fnd L x.k = some x := by
  induction L with
  | nil => cases hx
  | cons y r ih =>
    rw [fnd_cons]
    rw [List.map_cons, List.nodup_cons] at hn
    rcases List.mem_cons.1 hx with rfl | h
    · rw [if_pos rfl]
    · rw [if_neg, ih hn.2 h]
      intro e
      exact hn.1 (e ▸ List.mem_map_of_mem h)
theorem del_none {L : List Nd} {k : Int} (h : ∀ x, x ∈ L → x.k ≠ k) : del L k = L := by
  unfold del
  rw [List.filter_eq_self]
  intro x hx
  simp [h x hx]
theorem mem_del {L : List Nd} {k : Int} {x : Nd} : x ∈ del L k ↔ x ∈ L ∧ x.k ≠ k := by
  unfold del
  rw [List.mem_filter]
  simp
theorem fnd_del (L : List Nd) (k i : Int) : fnd (del L k) i = if i = k then none else fnd L i := by
  induction L with
  | nil => rw [show del [] k = [] from rfl, fnd_nil]; split <;> rfl
  | cons x r ih =>
    rw [del_cons, fnd_cons]
    by_cases h : x.k = k
    · rw [if_pos h, ih]
      by_cases h2 : i = k
      · rw [if_pos h2, if_pos h2]
      · rw [if_neg h2, if_neg h2, if_neg (fun e => h2 (e.symm.trans h))]
    · rw [if_neg h, fnd_cons, ih]
      by_cases h2 : i = k
      · rw [if_pos h2, if_pos h2, if_neg (fun e => h (e.trans h2))]
      · rw [if_neg h2, if_neg h2]
theorem nodup_del {L : List Nd} (h : (L.map Nd.k).Nodup) (k : Int) : ((del L k).map Nd.k).Nodup := by
  unfold del
  exact (List.filter_sublist.map Nd.k).nodup h
theorem erase_del {L : List Nd} (hn : (L.map Nd.k).Nodup) {j : Nat} {x : Nd} (hx : L[j]? = some x) : L.eraseIdx j = del L x.k := by
  induction L generalizing j with
  | nil => simp at hx
  | cons y r ih =>
    rw [List.map_cons, List.nodup_cons] at hn
    cases j with
    | zero =>
      simp at hx
      subst hx
      rw [List.eraseIdx_cons_zero, del_cons, if_pos rfl, del_none]
      intro z hz e
      exact hn.1 (e ▸ List.mem_map_of_mem hz)
    | succ j =>
      simp at hx
      rw [List.eraseIdx_cons_succ, ih hn.2 hx, del_cons, if_neg]
      intro e
      exact hn.1 (e ▸ List.mem_map_of_mem (List.mem_of_getElem? hx))
theorem length_del {L : List Nd} (hn : (L.map Nd.k).Nodup) {x : Nd} (hx : x ∈ L) : (del L x.k).length + 1 = L.length := by
  obtain ⟨j, hj⟩ := List.getElem?_of_mem hx
  rw [← erase_del hn hj, List.length_eraseIdx_of_lt (List.getElem?_eq_some_iff.1 hj).1]
  have := (List.getElem?_eq_some_iff.1 hj).1
  omega
theorem nodup_front {L : List Nd} (hn : (L.map Nd.k).Nodup) (x : Nd) : ((x :: del L x.k).map Nd.k).Nodup := by
  rw [List.map_cons, List.nodup_cons]
  refine ⟨?_, nodup_del hn _⟩
  intro h
  obtain ⟨y, hy, e⟩ := List.mem_map.1 h
  exact (mem_del.1 hy).2 e

/-- A cache that lies at c: its nodes, its map, and what it keeps away from. -/
structure Ca (w : World) (c o : Nat) (mo : Int) (M : Option Nat) (L : List Nd) (X : Nat → Prop) : Prop where
  li : Li w c o mo M L
  ks : (L.map Nd.k).Nodup
  fit : ∀ x, x ∈ L → fits x.k
  mp0 : M = none → L = []
  mp1 : ∀ m, M = some m → Mp w m L.length (fun k => (fnd L k).map Nd.b)
  ac : ¬ X c
  an : ∀ x, x ∈ L → ¬ X x.b
  am : ∀ m, M = some m → ¬ X m

section
variable {w : World} {c o : Nat} {mo : Int} {M : Option Nat} {L : List Nd} {X : Nat → Prop}
theorem Ca.lt_c (h : Ca w c o mo M L X) : c < w.heap.size := World.block_lt_of_cell? _ _ h.li.cm
theorem Ca.lt_n (h : Ca w c o mo M L X) {x : Nd} (hx : x ∈ L) : x.b < w.heap.size := World.block_lt_of_cell? _ _ (h.li.kv x hx).key
/-- Others turn what it keeps away from. -/
theorem Ca.mv {S : Nat → Prop} {w' : World} (h : Ca w c o mo M L X) (hm : Mv S w w') (hs : ∀ j, S j → X j) : Ca w' c o mo M L (fun j => X j ∨ w.heap.size ≤ j) := by
  refine ⟨h.li.mv hm (fun e => h.ac (hs _ e)) (fun x hx e => h.an x hx (hs _ e)), h.ks, h.fit, h.mp0, fun m e => (h.mp1 m e).mv hm (fun e' => h.am m e (hs _ e')), ?_, ?_, ?_⟩
  · rintro (e | e)
    · exact h.ac e
    · have := h.lt_c; omega
  · rintro x hx (e | e)
    · exact h.an x hx e
    · have := h.lt_n hx; omega
  · rintro m hm (e | e)
    · exact h.am m hm e
    · have := (h.mp1 m hm).lt; omega
theorem Ca.mono (h : Ca w c o mo M L X) {Y : Nat → Prop} (hy : ∀ j, Y j → X j) : Ca w c o mo M L Y :=
  ⟨h.li, h.ks, h.fit, h.mp0, h.mp1, fun e => h.ac (hy _ e), fun x hx e => h.an x hx (hy _ e), fun m hm e => h.am m hm (hy _ e)⟩
theorem Ca.mine (h : Ca w c o mo M L X) {k : Nat} (hk : Mine c L k) : ¬ X k := by
  rcases hk with rfl | ⟨x, hx, rfl⟩
  · exact h.ac
  · exact h.an x hx
theorem Ca.mine_m (h : Ca w c o mo M L X) {m : Nat} (hm : M = some m) : ¬ Mine c L m := by
  rintro (e | ⟨x, hx, e⟩)
  · exact (h.mp1 m hm).noCell h.li.cm e.symm
  · exact (h.mp1 m hm).noCell (h.li.kv x hx).key e.symm
/-- One that is there goes to the front. -/
theorem Ca.front {w' : World} (h : Ca w c o mo M L X) {x : Nd} (hx : x ∈ L) (hl : Li w' c o mo M (x :: del L x.k)) (hm : Mv (Mine c L) w w') : Ca w' c o mo M (x :: del L x.k) X := by
  have hmem : ∀ y, y ∈ x :: del L x.k → y ∈ L := by
    intro y hy
    rcases List.mem_cons.1 hy with rfl | hy
    · exact hx
    · exact (mem_del.1 hy).1
  refine ⟨hl, nodup_front h.ks x, fun y hy => h.fit y (hmem y hy), fun e => ?_, fun m e => ?_, h.ac, fun y hy => h.an y (hmem y hy), h.am⟩
  · rw [h.mp0 e] at hx; cases hx
  · rw [List.length_cons, length_del h.ks hx]
    refine ((h.mp1 m e).mv hm (h.mine_m e)).congr ?_
    intro k
    rw [fnd_cons, fnd_del]
    by_cases hk : x.k = k
    · rw [if_pos hk, ← hk, fnd_mem h.ks hx]
    · rw [if_neg hk, if_neg (fun e => hk e.symm)]
/-- One that is there goes. -/
theorem Ca.gone {w' : World} (h : Ca w c o mo M L X) {x : Nd} (hx : x ∈ L) {m : Nat} (hM : M = some m) (hl : Li w' c o mo M (del L x.k)) (hp : Mp w' m (L.length - 1) (fun k => if k = x.k then none else (fnd L k).map Nd.b)) : Ca w' c o mo M (del L x.k) X := by
  refine ⟨hl, nodup_del h.ks _, fun y hy => h.fit y (mem_del.1 hy).1, fun e => ?_, fun m' e => ?_, h.ac, fun y hy => h.an y (mem_del.1 hy).1, h.am⟩
  · rw [h.mp0 e] at hx; cases hx
  · rw [hM] at e
    cases e
    have e1 : (del L x.k).length = L.length - 1 := by have := length_del h.ks hx; omega
    rw [e1]
    refine hp.congr ?_
    intro k
    rw [fnd_del]
    split <;> rfl
/-- A new one comes. -/
theorem Ca.come {w' : World} {L : List Nd} {M' : Option Nat} {X : Nat → Prop} (hn : (L.map Nd.k).Nodup) (hf : ∀ x, x ∈ L → fits x.k) (ha : ¬ X c) (hb : ∀ x, x ∈ L → ¬ X x.b) {x : Nd} (hx : fnd L x.k = none) (hfx : fits x.k) (hxX : ¬ X x.b) {m : Nat} (hM : M' = some m) (hmX : ¬ X m)
    (hl : Li w' c o mo M' (x :: L)) (hp : Mp w' m (L.length + 1) (fun k => if k = x.k then some x.b else (fnd L k).map Nd.b)) : Ca w' c o mo M' (x :: L) X := by
  refine ⟨hl, ?_, ?_, fun e => ?_, fun m' e => ?_, ha, ?_, fun m' e => ?_⟩
  · rw [List.map_cons, List.nodup_cons]
    refine ⟨?_, hn⟩
    intro h
    obtain ⟨y, hy, e⟩ := List.mem_map.1 h
    exact fnd_none hx y hy e
  · intro y hy
    rcases List.mem_cons.1 hy with rfl | hy
    · exact hfx
    · exact hf y hy
  · rw [hM] at e; cases e
  · rw [hM] at e; cases e
    rw [List.length_cons]
    refine hp.congr ?_
    intro k
    rw [fnd_cons]
    by_cases hk : k = x.k
    · rw [if_pos hk, if_pos hk.symm]; rfl
    · rw [if_neg hk, if_neg (fun e => hk e.symm)]
  · intro y hy
    rcases List.mem_cons.1 hy with rfl | hy
    · exact hxX
    · exact hb y hy
  · rw [hM] at e; cases e; exact hmX
end

/-- The builtin delete, as a step of a region that draws. -/
theorem step_delete_given {P : Program} {ops : Array Oper} {o : Oper} {a : Act} {w : World} {K : Act → World → Prop} {Q : Exit → Act → World → Prop} {E : Prop}
    (hg : o.guard = none) (m x : Operand) (t k : TypeId) (hop : o.op = Op.call { callee := Callee.builtin Builtin.delete, args := #[m, x], argTypes := #[t, k] })
    (mv kv : Value) (hm : a.eval m = mv) (hx : a.eval x = kv) (W : World) (hr : (Builtin.delete_ #[t, k] o.type #[mv, kv]).run P w = .ok (.tuple #[]) W)
    (hK : K (a.put o.dst (.tuple #[])) W) : if Region.wanted o (yielded ops a.tmps) = true then Oper.wp P o a w K Q else E := by
  have hw : Region.wanted o (yielded ops a.tmps) = true := by simp [Region.wanted, hg]
  rw [if_pos hw]
  unfold Oper.wp
  simp [execOp, hop, resolve, invoke, builtin, hm, hx, hr, Result.andThen]
  exact hK

end Go.Proofs.Ytdhdkbaalgdicaa

/- A cache by what it holds. -/
namespace Go.Proofs.Ytdhdkbaalgdicaa
open Go.RowKit

abbrev Kw := Int × (Nat → Value)
def sfnd (S : List Kw) (k : Int) : Option Kw := S.find? (fun p => decide (p.1 = k))
def sdel (S : List Kw) (k : Int) : List Kw := S.filter (fun p => decide (p.1 ≠ k))
def kw (x : Nd) : Kw := (x.k, x.v)

theorem sfnd_map (L : List Nd) (k : Int) : sfnd (L.map kw) k = (fnd L k).map kw := by
  unfold sfnd fnd
  rw [List.find?_map]
  rfl
theorem sdel_map (L : List Nd) (k : Int) : sdel (L.map kw) k = (del L k).map kw := by
  unfold sdel del
  rw [List.filter_map]
  rfl

/-- One value is another. -/
def setv (L : List Nd) (k : Int) (v : Nat → Value) : List Nd := L.map (fun y => if y.k = k then ⟨y.b, y.k, v⟩ else y)
theorem setv_b (k : Int) (v : Nat → Value) (y : Nd) : (if y.k = k then (⟨y.b, y.k, v⟩ : Nd) else y).b = y.b := by split <;> rfl
theorem setv_k (k : Int) (v : Nat → Value) (y : Nd) : (if y.k = k then (⟨y.b, y.k, v⟩ : Nd) else y).k = y.k := by split <;> rfl
theorem setv_length (L : List Nd) (k : Int) (v : Nat → Value) : (setv L k v).length = L.length := by simp [setv]
theorem setv_keys (L : List Nd) (k : Int) (v : Nat → Value) : (setv L k v).map Nd.k = L.map Nd.k := by
  unfold setv
  rw [List.map_map]
  apply List.map_congr_left
  intro y _
  exact setv_k k v y
theorem setv_bl (L : List Nd) (k : Int) (v : Nat → Value) : bl (setv L k v) = bl L := by
  funext i
  unfold bl setv
  rw [List.getD_eq_getElem?_getD, List.getD_eq_getElem?_getD, List.getElem?_map]
  cases h : L[i]? with
  | none => rfl
  | some y => exact setv_b k v y
theorem setv_mem {L : List Nd} {k : Int} {v : Nat → Value} {z : Nd} (h : z ∈ setv L k v) : ∃ y, y ∈ L ∧ z = if y.k = k then ⟨y.b, y.k, v⟩ else y := by
  obtain ⟨y, hy, e⟩ := List.mem_map.1 h
  exact ⟨y, hy, e.symm⟩
theorem setv_fnd (L : List Nd) (k : Int) (v : Nat → Value) (i : Int) : (fnd (setv L k v) i).map Nd.b = (fnd L i).map Nd.b := by
  induction L with
  | nil => rfl
  | cons y r ih =>
    show (fnd ((if y.k = k then (⟨y.b, y.k, v⟩ : Nd) else y) :: setv r k v) i).map Nd.b = _
    rw [fnd_cons, fnd_cons, setv_k]
    split
    · exact congrArg some (setv_b k v y)
    · exact ih
theorem setv_del (L : List Nd) (k : Int) (v : Nat → Value) : del (setv L k v) k = del L k := by
  induction L with
  | nil => rfl
  | cons y r ih =>
    show del ((if y.k = k then (⟨y.b, y.k, v⟩ : Nd) else y) :: setv r k v) k = _
    rw [del_cons, del_cons, setv_k, ih]
    by_cases h : y.k = k
    · rw [if_pos h, if_pos h]
    · rw [if_neg h, if_neg h, if_neg h]
theorem setv_at {L : List Nd} {x : Nd} (hx : x ∈ L) (v : Nat → Value) : (⟨x.b, x.k, v⟩ : Nd) ∈ setv L x.k v := by
  have := List.mem_map_of_mem (f := fun y : Nd => if y.k = x.k then (⟨y.b, y.k, v⟩ : Nd) else y) hx
  simpa [setv] using this
theorem setv_twice (L : List Nd) (k : Int) (v u : Nat → Value) : setv (setv L k v) k u = setv L k u := by
  unfold setv
  rw [List.map_map]
  apply List.map_congr_left
  intro y _
  show (if (if y.k = k then (⟨y.b, y.k, v⟩ : Nd) else y).k = k then _ else _) = _
  rw [setv_k, setv_b]
  by_cases h : y.k = k
  · rw [if_pos h, if_pos h]
  · rw [if_neg h, if_neg h, if_neg h]

theorem nodup_eq {L : List Nd} (hn : (L.map Nd.k).Nodup) {x y : Nd} (hx : x ∈ L) (hy : y ∈ L) (e : x.k = y.k) : x = y := by
  have h1 := fnd_mem hn hx
  have h2 := fnd_mem hn hy
  rw [e, h2] at h1
  exact (Option.some.inj h1).symm
section
variable {w : World} {c o : Nat} {mo : Int} {M : Option Nat} {L : List Nd} {X : Nat → Prop}
theorem Ca.blk_ne (h : Ca w c o mo M L X) {x y : Nd} (hx : x ∈ L) (hy : y ∈ L) (e : x.b = y.b) : x = y := by
  obtain ⟨i, hi⟩ := List.getElem?_of_mem hx
  obtain ⟨j, hj⟩ := List.getElem?_of_mem hy
  have e3 := h.li.dl.inj i j (List.getElem?_eq_some_iff.1 hi).1 (List.getElem?_eq_some_iff.1 hj).1 (by rw [bl_of hi, bl_of hj]; exact e)
  subst e3
  rw [hi] at hj
  exact Option.some.inj hj
/-- One cell of a value is set. -/
theorem Ca.setv (h : Ca w c o mo M L X) {x : Nd} (hx : x ∈ L) {j : Nat} (hj : j < o - 1) (u : Value) :
    Ca (w.setCell ⟨x.b, 1 + j, none⟩ u) c o mo M (setv L x.k (fun i => if i = j then u else x.v i)) X ∧ Mv (fun k => ¬ X k) w (w.setCell ⟨x.b, 1 + j, none⟩ u) := by
  have hm := Mv.setCell w ⟨x.b, 1 + j, none⟩ u
  have hc := h.li.ne_c hx
  have ho := h.li.o2
  have cc : ∀ i, (⟨x.b, 1 + j, none⟩ : Addr) ≠ ⟨c, i, none⟩ := fun i => addr_ne (fun e => (hc e).elim)
  refine ⟨⟨⟨?_, ?_, ?_, ?_, ?_, ho⟩, ?_, ?_, ?_, ?_, h.ac, ?_, h.am⟩, hm.mono (fun k _ e => ?_)⟩
  · rw [World.cell?_setCell_other _ _ _ _ (cc _)]; exact h.li.cm
  · rw [World.cell?_setCell_other _ _ _ _ (cc _)]; exact h.li.ck
  · rw [World.frozen?_setCell]; exact h.li.z1
  · rw [setv_length, setv_bl]
    have a1 : ∀ i, (⟨x.b, 1 + j, none⟩ : Addr) ≠ dnA c o (bl L) i := by
      intro i
      unfold dnA
      split
      · exact cc _
      · exact addr_ne (fun _ => by omega)
    have a2 : ∀ i, (⟨x.b, 1 + j, none⟩ : Addr) ≠ upA c o (bl L) L.length i := by
      intro i
      unfold upA
      split
      · exact addr_ne (fun _ => by omega)
      · exact cc _
    refine ⟨fun i hi => ?_, fun i hi => ?_, fun i hi => ?_, fun i hi => ?_, h.li.dl.inj, h.li.dl.nc⟩
    · rw [World.cell?_setCell_other _ _ _ _ (a1 i)]; exact h.li.dl.dn i hi
    · rw [World.cell?_setCell_other _ _ _ _ (a2 i)]; exact h.li.dl.up i hi
    · rw [World.frozen?_setCell]; exact h.li.dl.zn i hi
    · rw [World.frozen?_setCell]; exact h.li.dl.zp i hi
  · intro z hz
    obtain ⟨y, hy, rfl⟩ := setv_mem hz
    by_cases e : y.k = x.k
    · rw [if_pos e]
      obtain rfl := nodup_eq h.ks hy hx e
      have hk := h.li.kv y hy
      refine ⟨?_, ?_, ?_⟩
      · rw [World.cell?_setCell_other _ _ _ _ (addr_ne (fun _ => by omega))]; exact hk.key
      · intro i hi
        dsimp only
        by_cases hij : i = j
        · subst hij
          rw [if_pos rfl]
          exact World.cell?_setCell_same _ _ _ (hk.val i hi)
        · rw [if_neg hij, World.cell?_setCell_other _ _ _ _ (addr_ne (fun _ => by omega))]
          exact hk.val i hi
      · intro i hi
        rw [World.frozen?_setCell]; exact hk.zv i hi
    · rw [if_neg e]
      exact (h.li.kv y hy).mv hm (fun hb => e (by rw [h.blk_ne hy hx hb]))
  · rw [setv_keys]; exact h.ks
  · intro z hz
    obtain ⟨y, hy, rfl⟩ := setv_mem hz
    rw [setv_k]; exact h.fit y hy
  · intro e; rw [h.mp0 e]; rfl
  · intro m e
    rw [setv_length]
    have hxm := (h.mp1 m e).noCell (h.li.kv x hx).key
    refine ((h.mp1 m e).mv hm (fun e => hxm e.symm)).congr ?_
    intro k
    rw [setv_fnd]
  · intro z hz
    obtain ⟨y, hy, rfl⟩ := setv_mem hz
    rw [setv_b]; exact h.an y hy
  · have e' : k = x.b := e
    rw [e']; exact h.an x hx
end

/-- A cache at c: what it holds, who was used last first. -/
def Ch (w : World) (c o : Nat) (mo : Int) (S : List Kw) (X : Nat → Prop) : Prop := ∃ M L, Ca w c o mo M L X ∧ S = L.map kw

section
variable {w : World} {c o : Nat} {mo : Int} {S : List Kw} {X : Nat → Prop}
theorem Ch.mv {T : Nat → Prop} {w' : World} (h : Ch w c o mo S X) (hm : Mv T w w') (hs : ∀ j, T j → X j) : Ch w' c o mo S (fun j => X j ∨ w.heap.size ≤ j) := by
  obtain ⟨M, L, h, e⟩ := h
  exact ⟨M, L, h.mv hm hs, e⟩
theorem Ch.mono (h : Ch w c o mo S X) {Y : Nat → Prop} (hy : ∀ j, Y j → X j) : Ch w c o mo S Y := by
  obtain ⟨M, L, h, e⟩ := h
  exact ⟨M, L, h.mono hy, e⟩
theorem Ch.nodup (h : Ch w c o mo S X) : (S.map Prod.fst).Nodup := by
  obtain ⟨M, L, h, rfl⟩ := h
  have := h.ks
  rw [List.map_map]
  exact this
theorem Ch.lt (h : Ch w c o mo S X) : c < w.heap.size ∧ ¬ X c := by
  obtain ⟨M, L, h, rfl⟩ := h
  exact ⟨h.lt_c, h.ac⟩
end

theorem drop_last {L : List Nd} (hn : (L.map Nd.k).Nodup) {y : Nd} (hy : L.getLast? = some y) : del L y.k = L.dropLast := by
  have e1 : L[L.length - 1]? = some y := by rw [← hy, List.getLast?_eq_getElem?]
  rw [← erase_del hn e1]
  exact List.eraseIdx_length_sub_one

/-- What Put tells, and what it leaves. -/
def pOk (mo : Int) (S : List Kw) (k : Int) : Bool := decide (((sdel S k).length : Int) + 1 ≤ max mo 1)
def pS (mo : Int) (S : List Kw) (k : Int) (v : Nat → Value) : List Kw := if pOk mo S k then (k, v) :: sdel S k else ((k, v) :: sdel S k).dropLast
def pG (mo : Int) (S : List Kw) (k : Int) (v : Nat → Value) : Int := if pOk mo S k then 0 else ((((k, v) :: sdel S k).getLast?).map Prod.fst).getD 0

theorem len_zero_row {w : World} {base g n : Nat} {e : TypeId} {V U : Nat → Value} (h : Own w base e (.slice (some ⟨g, 0, none⟩) n n) n V) : Own w base e (.slice (some ⟨g, 0, none⟩) 0 n) 0 U := by
  unfold Own at *
  refine ⟨rfl, .inr ?_⟩
  rcases h.2 with ⟨e, _⟩ | ⟨g', cap, cur, e, hb, hg, hnc, hcm, hcs, htake⟩
  · cases e
  · cases e
    exact ⟨g, n, cur, rfl, hb, hg, by omega, hcm, hcs, by simp [row]⟩

end Go.Proofs.Ytdhdkbaalgdicaa

/- A new cache, the length of a map in a walk, the last one. -/
namespace Go.Proofs.Ytdhdkbaalgdicaa
open Go.RowKit

theorem wpList_len_given {P : Program} {w : World} {ops : Array Oper} {rest : List Oper} {o : Oper} {a : Act} {Q : Exit → Act → World → Prop} (hg : o.guard = none) (m : Operand) (t : TypeId)
    (hop : o.op = Op.call { callee := Callee.builtin Builtin.len, args := #[m], argTypes := #[t] }) (mv : Value) (hm : a.eval m = mv) (n : Value) (hr : (Builtin.len_ #[t] o.type #[mv]).run P w = .ok n w)
    (hK : wpList P ops Q rest (a.put o.dst n) w) : wpList P ops Q (o :: rest) a w := by
  refine wpList_plain hg fun K' hK' => ?_
  unfold Oper.wp
  simp [execOp, hop, resolve, invoke, builtin, hm, hr, Result.andThen]
  exact hK' _ _ hK

theorem Ch.new (w : World) (o : Nat) (mo : Int) (T : TypeId) (X : Nat → Prop) (hX : ∀ j, X j → j < w.heap.size) (ho : 2 ≤ o) : Ch (w.alloc (.cells #[.int .i64 mo, .map none, .pointer none, .pointer none] T)) w.heap.size o mo [] X := by
  have A : ∀ i v, (#[Value.int .i64 mo, .map none, .pointer none, .pointer none] : Array Value)[i]? = some v → _ := fun i v => alloc_new w #[.int .i64 mo, .map none, .pointer none, .pointer none] T i v
  refine ⟨none, [], ⟨⟨(A 0 _ rfl).1, (A 1 _ rfl).1, (A 1 _ rfl).2, ⟨?_, ?_, ?_, ?_, fun i j hi => (by simp at hi), fun i hi => (by simp at hi)⟩, fun y hy => (by cases hy), ho⟩, List.nodup_nil, fun y hy => (by cases hy), fun _ => rfl, fun m e => (by cases e), fun e => ?_, fun y hy => (by cases hy), fun m e => (by cases e)⟩, rfl⟩
  · intro i hi
    obtain rfl : i = 0 := by simpa using hi
    exact (A 2 _ rfl).1
  · intro i hi
    obtain rfl : i = 0 := by simpa using hi
    exact (A 3 _ rfl).1
  · intro i hi
    obtain rfl : i = 0 := by simpa using hi
    exact (A 2 _ rfl).2
  · intro i hi
    obtain rfl : i = 0 := by simpa using hi
    exact (A 3 _ rfl).2
  · have := hX _ e; omega

section
variable {w : World} {c o : Nat} {mo : Int} {M : Option Nat} {L : List Nd} {X : Nat → Prop}
theorem Ca.oldest (h : Ca w c o mo M L X) (hL : L ≠ []) : ∃ y, L.getLast? = some y ∧ y ∈ L ∧ w.cell? ⟨c, 3, none⟩ = some (.pointer (some ⟨y.b, 0, none⟩)) := by
  have hp := List.length_pos_iff.2 hL
  have e0 : L[L.length - 1]? = some (L[L.length - 1]'(by omega)) := List.getElem?_eq_getElem (by omega)
  refine ⟨L[L.length - 1]'(by omega), ?_, List.getElem_mem _, ?_⟩
  · rw [List.getLast?_eq_getElem?, e0]
  · have h1 := h.li.dl.up L.length (by omega)
    unfold upA ptU at h1
    rw [if_neg (by omega), if_neg (by omega), bl_of e0] at h1
    exact h1
theorem Ca.newest (h : Ca w c o mo M L X) : w.cell? ⟨c, 2, none⟩ = some (pt (L[0]?.map Nd.b)) := by
  have h1 := h.li.dl.dn 0 (by omega)
  unfold dnA ptD at h1
  rw [if_pos rfl] at h1
  rw [h1]
  cases L with
  | nil => rfl
  | cons x r => rfl
/-- The way down. -/
theorem Ca.older (h : Ca w c o mo M L X) {i : Nat} {x : Nd} (hx : L[i]? = some x) : w.cell? ⟨x.b, o + 1, none⟩ = some (pt (L[i + 1]?.map Nd.b)) := by
  obtain ⟨hi, e⟩ := List.getElem?_eq_some_iff.1 hx
  have h1 := h.li.dl.dn (i + 1) (by omega)
  unfold dnA ptD at h1
  rw [if_neg (by omega), Nat.add_sub_cancel, bl_of hx] at h1
  rw [h1]
  by_cases hj : i + 1 < L.length
  · rw [if_pos hj, List.getElem?_eq_getElem hj, bl_of (List.getElem?_eq_getElem hj)]; rfl
  · rw [if_neg hj, List.getElem?_eq_none (by omega)]; rfl
theorem Ca.some_m (h : Ca w c o mo M L X) (hL : L ≠ []) : ∃ m, M = some m := by
  cases M with
  | none => exact (hL (h.mp0 rfl)).elim
  | some m => exact ⟨m, rfl⟩
end

end Go.Proofs.Ytdhdkbaalgdicaa

/- Of a value only its cells count. -/
namespace Go.Proofs.Ytdhdkbaalgdicaa
open Go.RowKit

theorem Ca.head_v {w : World} {c o : Nat} {mo : Int} {M : Option Nat} {L : List Nd} {X : Nat → Prop} {x : Nd} (h : Ca w c o mo M (x :: L) X) (v : Nat → Value) (e : ∀ j, j < o - 1 → x.v j = v j) : Ca w c o mo M (⟨x.b, x.k, v⟩ :: L) X := by
  have eb : bl (⟨x.b, x.k, v⟩ :: L) = bl (x :: L) := by rw [bl_put, bl_put]
  refine ⟨⟨h.li.cm, h.li.ck, h.li.z1, ?_, ?_, h.li.o2⟩, h.ks, ?_, fun e => ?_, fun m e => ?_, h.ac, ?_, h.am⟩
  · rw [eb]; exact h.li.dl
  · intro y hy
    rcases List.mem_cons.1 hy with rfl | hy
    · have hk := h.li.kv x List.mem_cons_self
      exact ⟨hk.key, fun j hj => by rw [hk.val j hj, e j hj], hk.zv⟩
    · exact h.li.kv y (List.mem_cons_of_mem _ hy)
  · intro y hy
    rcases List.mem_cons.1 hy with rfl | hy
    · exact h.fit x List.mem_cons_self
    · exact h.fit y (List.mem_cons_of_mem _ hy)
  · exact absurd (h.mp0 e) (by simp)
  · refine (h.mp1 m e).congr ?_
    intro k
    rw [fnd_cons, fnd_cons]
    split <;> rfl
  · intro y hy
    rcases List.mem_cons.1 hy with rfl | hy
    · exact h.an x List.mem_cons_self
    · exact h.an y (List.mem_cons_of_mem _ hy)

/-- What Put leaves and tells, by who is there. -/
theorem sdel_none {S : List Kw} {k : Int} (h : sfnd S k = none) : sdel S k = S := by
  unfold sdel
  rw [List.filter_eq_self]
  intro p hp
  have := List.find?_eq_none.1 h p hp
  simpa using this
theorem sdel_length {S : List Kw} (hn : (S.map Prod.fst).Nodup) {k : Int} {p : Kw} (h : sfnd S k = some p) : (sdel S k).length + 1 = S.length := by
  induction S with
  | nil => cases h
  | cons q r ih =>
    rw [List.map_cons, List.nodup_cons] at hn
    unfold sfnd at h
    unfold sdel
    rw [List.find?_cons] at h
    rw [List.filter_cons]
    by_cases hq : q.1 = k
    · simp only [hq, ne_eq, not_true_eq_false, decide_false, Bool.false_eq_true, if_false]
      have : r.filter (fun p => decide (p.1 ≠ k)) = r := by
        rw [List.filter_eq_self]
        intro p hp
        have : p.1 ≠ k := fun e => hn.1 (by rw [hq, ← e]; exact List.mem_map_of_mem hp)
        simpa using this
      rw [this, List.length_cons]
    · simp only [hq, decide_false, ne_eq, not_false_eq_true, decide_true, if_true, List.length_cons] at h ⊢
      have := ih hn.2 h
      unfold sdel at this
      simp only [ne_eq] at this
      omega

end Go.Proofs.Ytdhdkbaalgdicaa

/- The list of a cache: what its two functions do. -/
namespace Go.Proofs.Ytdhdkbaalgdicaa
open Go.RowKit

set_option maxHeartbeats 1000000 in
theorem bremove00 (c nb  : Nat) (w : World) (v2 v3 : Value) (h2 : w.cell? ⟨nb, 2, none⟩ = some (.pointer none)) (h3 : w.cell? ⟨nb, 3, none⟩ = some (.pointer none))
    (u2 : w.cell? ⟨c, 2, none⟩ = some v2) (z2 : w.frozen? ⟨c, 2, none⟩ = false) (u3 : w.cell? ⟨c, 3, none⟩ = some v3) (z3 : w.frozen? ⟨c, 3, none⟩ = false) (hne : nb ≠ c) :
    Calls Try.prog 67 #[.pointer (some ⟨c, 2, none⟩), .pointer (some ⟨nb, 0, none⟩)] w fun e w' => e = .returned (.tuple #[]) ∧ Hid (Mv (fun _ => False) ((w.setCell ⟨c, 2, none⟩ (.pointer none)).setCell ⟨c, 3, none⟩ (.pointer none)) w') := by
  go_enter Try.func67, Try.ntmps67
  go_wp2
  go_end0
  exact ⟨rfl, Mv.refl _ _⟩

set_option maxHeartbeats 1000000 in
theorem bremove01 (c nb nx : Nat) (w : World) (v2 v3 : Value) (h2 : w.cell? ⟨nb, 2, none⟩ = some (.pointer none)) (h3 : w.cell? ⟨nb, 3, none⟩ = some (.pointer (some ⟨nx, 0, none⟩)))
    (u2 : w.cell? ⟨c, 2, none⟩ = some v2) (z2 : w.frozen? ⟨c, 2, none⟩ = false) (u3 : w.cell? ⟨nx, 2, none⟩ = some v3) (z3 : w.frozen? ⟨nx, 2, none⟩ = false) (hne : nb ≠ c) (hnx : nb ≠ nx) (hcx : c ≠ nx) :
    Calls Try.prog 67 #[.pointer (some ⟨c, 2, none⟩), .pointer (some ⟨nb, 0, none⟩)] w fun e w' => e = .returned (.tuple #[]) ∧ Hid (Mv (fun _ => False) ((w.setCell ⟨c, 2, none⟩ (.pointer (some ⟨nx, 0, none⟩))).setCell ⟨nx, 2, none⟩ (.pointer none)) w') := by
  go_enter Try.func67, Try.ntmps67
  go_wp2
  go_region
  go_wp2
  go_end0
  exact ⟨rfl, ⟨rfl, rfl, rfl, Nat.le_refl _, fun _ _ _ => rfl⟩⟩

set_option maxHeartbeats 1000000 in
theorem bremove10 (c nb pv : Nat) (w : World) (v2 v3 : Value) (h2 : w.cell? ⟨nb, 2, none⟩ = some (.pointer (some ⟨pv, 0, none⟩))) (h3 : w.cell? ⟨nb, 3, none⟩ = some (.pointer none))
    (u2 : w.cell? ⟨pv, 3, none⟩ = some v2) (z2 : w.frozen? ⟨pv, 3, none⟩ = false) (u3 : w.cell? ⟨c, 3, none⟩ = some v3) (z3 : w.frozen? ⟨c, 3, none⟩ = false) (hnp : nb ≠ pv) (hcp : c ≠ pv) :
    Calls Try.prog 67 #[.pointer (some ⟨c, 2, none⟩), .pointer (some ⟨nb, 0, none⟩)] w fun e w' => e = .returned (.tuple #[]) ∧ Hid (Mv (fun _ => False) ((w.setCell ⟨pv, 3, none⟩ (.pointer none)).setCell ⟨c, 3, none⟩ (.pointer (some ⟨pv, 0, none⟩))) w') := by
  go_enter Try.func67, Try.ntmps67
  go_wp2
  go_region
  go_wp2
  go_end0
  exact ⟨rfl, ⟨rfl, rfl, rfl, Nat.le_refl _, fun _ _ _ => rfl⟩⟩

set_option maxHeartbeats 1000000 in
theorem bremove11 (c nb pv nx : Nat) (w : World) (v2 v3 : Value) (h2 : w.cell? ⟨nb, 2, none⟩ = some (.pointer (some ⟨pv, 0, none⟩))) (h3 : w.cell? ⟨nb, 3, none⟩ = some (.pointer (some ⟨nx, 0, none⟩)))
    (u2 : w.cell? ⟨pv, 3, none⟩ = some v2) (z2 : w.frozen? ⟨pv, 3, none⟩ = false) (u3 : w.cell? ⟨nx, 2, none⟩ = some v3) (z3 : w.frozen? ⟨nx, 2, none⟩ = false) (hnp : nb ≠ pv) (hcp : c ≠ pv) (hnx : nb ≠ nx) (hcx : c ≠ nx) :
    Calls Try.prog 67 #[.pointer (some ⟨c, 2, none⟩), .pointer (some ⟨nb, 0, none⟩)] w fun e w' => e = .returned (.tuple #[]) ∧ Hid (Mv (fun _ => False) ((w.setCell ⟨pv, 3, none⟩ (.pointer (some ⟨nx, 0, none⟩))).setCell ⟨nx, 2, none⟩ (.pointer (some ⟨pv, 0, none⟩))) w') := by
  go_enter Try.func67, Try.ntmps67
  go_wp2
  go_region
  go_wp2
  go_region
  go_wp2
  go_end0
  exact ⟨rfl, ⟨rfl, rfl, rfl, Nat.le_refl _, fun _ _ _ => rfl⟩⟩

set_option maxHeartbeats 1000000 in
theorem badd0 (c nb : Nat) (w : World) (v2 v3 vd : Value) (h2 : w.cell? ⟨c, 2, none⟩ = some (.pointer none)) (y2 : w.frozen? ⟨c, 2, none⟩ = false) 
    (u2 : w.cell? ⟨nb, 2, none⟩ = some v2) (z2 : w.frozen? ⟨nb, 2, none⟩ = false) (u3 : w.cell? ⟨nb, 3, none⟩ = some v3) (z3 : w.frozen? ⟨nb, 3, none⟩ = false) (ud : w.cell? ⟨c, 3, none⟩ = some vd) (zd : w.frozen? ⟨c, 3, none⟩ = false) (hne : nb ≠ c) :
    Calls Try.prog 68 #[.pointer (some ⟨c, 2, none⟩), .pointer (some ⟨nb, 0, none⟩)] w fun e w' => e = .returned (.tuple #[]) ∧ Hid (Mv (fun _ => False) ((((w.setCell ⟨nb, 2, none⟩ (.pointer none)).setCell ⟨nb, 3, none⟩ (.pointer none)).setCell ⟨c, 3, none⟩ (.pointer (some ⟨nb, 0, none⟩))).setCell ⟨c, 2, none⟩ (.pointer (some ⟨nb, 0, none⟩))) w') := by
  go_enter Try.func68, Try.ntmps68
  go_wp2
  go_end0
  exact ⟨rfl, Mv.refl _ _⟩

set_option maxHeartbeats 1000000 in
theorem badd1 (c nb nx : Nat) (w : World) (v2 v3 vd : Value) (h2 : w.cell? ⟨c, 2, none⟩ = some (.pointer (some ⟨nx, 0, none⟩))) (y2 : w.frozen? ⟨c, 2, none⟩ = false) 
    (u2 : w.cell? ⟨nb, 2, none⟩ = some v2) (z2 : w.frozen? ⟨nb, 2, none⟩ = false) (u3 : w.cell? ⟨nb, 3, none⟩ = some v3) (z3 : w.frozen? ⟨nb, 3, none⟩ = false) (ud : w.cell? ⟨nx, 2, none⟩ = some vd) (zd : w.frozen? ⟨nx, 2, none⟩ = false) (hne : nb ≠ c) (hnx : nb ≠ nx) (hcx : c ≠ nx) :
    Calls Try.prog 68 #[.pointer (some ⟨c, 2, none⟩), .pointer (some ⟨nb, 0, none⟩)] w fun e w' => e = .returned (.tuple #[]) ∧ Hid (Mv (fun _ => False) ((((w.setCell ⟨nb, 2, none⟩ (.pointer none)).setCell ⟨nb, 3, none⟩ (.pointer (some ⟨nx, 0, none⟩))).setCell ⟨nx, 2, none⟩ (.pointer (some ⟨nb, 0, none⟩))).setCell ⟨c, 2, none⟩ (.pointer (some ⟨nb, 0, none⟩))) w') := by
  go_enter Try.func68, Try.ntmps68
  go_wp2
  go_end0
  exact ⟨rfl, Mv.refl _ _⟩

end Go.Proofs.Ytdhdkbaalgdicaa

/- The list's functions, by what a list is. -/
namespace Go.Proofs.Ytdhdkbaalgdicaa
open Go.RowKit

theorem blrem {w : World} {c : Nat} {mo : Int} {M : Option Nat} {L : List Nd} (h : Li w c 2 mo M L) {j : Nat} {x : Nd} (hx : L[j]? = some x) :
    Calls Try.prog 67 #[.pointer (some ⟨c, 2, none⟩), .pointer (some ⟨x.b, 0, none⟩)] w fun e w' => e = .returned (.tuple #[]) ∧ Hid (Li w' c 2 mo M (L.eraseIdx j) ∧ Nc w' 2 x ∧ Mv (Mine c L) w w') := by
  obtain ⟨hj, e⟩ := List.getElem?_eq_some_iff.1 hx
  have hm : x ∈ L := e ▸ List.getElem_mem hj
  have hb := bl_of hx
  have hnc := h.ne_c hm
  have H := h.cut hx
  have h2 := h.dl.up j (by omega)
  have h3 := h.dl.dn (j + 1) (by omega)
  have u2 := h.dl.dn j (by omega)
  have z2 := h.dl.zn j (by omega)
  have u3 := h.dl.up (j + 1) (by omega)
  have z3 := h.dl.zp (j + 1) (by omega)
  have e2 : upA c 2 (bl L) L.length j = ⟨x.b, 2, none⟩ := by unfold upA; rw [if_pos hj, hb]
  have e3 : dnA c 2 (bl L) (j + 1) = ⟨x.b, 3, none⟩ := by unfold dnA; rw [if_neg (by omega), Nat.add_sub_cancel, hb]
  rw [e2] at h2
  rw [e3] at h3
  have fin : ∀ w', Mv (fun _ => False) ((w.setCell (dnA c 2 (bl L) j) (ptD L.length (bl L) (j + 1))).setCell (upA c 2 (bl L) L.length (j + 1)) (ptU (bl L) j)) w' → Hid (Li w' c 2 mo M (L.eraseIdx j) ∧ Nc w' 2 x ∧ Mv (Mine c L) w w') := fun w' hw =>
    ⟨H.1.mv hw (fun h => h) (fun _ _ h => h), H.2.1.mv hw (fun h => h), H.2.2.trans hw (fun _ _ h => h.elim)⟩
  clear H
  by_cases j0 : j = 0
  · have d0 : dnA c 2 (bl L) j = ⟨c, 2, none⟩ := by unfold dnA; rw [if_pos j0]
    have p0 : ptU (bl L) j = .pointer none := by unfold ptU; rw [if_pos j0]; rfl
    rw [d0] at u2 z2 fin
    rw [p0] at h2 fin
    by_cases jn : j + 1 < L.length
    · have d1 : upA c 2 (bl L) L.length (j + 1) = ⟨bl L (j + 1), 2, none⟩ := by unfold upA; rw [if_pos jn]
      have p1 : ptD L.length (bl L) (j + 1) = .pointer (some ⟨bl L (j + 1), 0, none⟩) := by unfold ptD; rw [if_pos jn]; rfl
      rw [d1] at u3 z3 fin
      rw [p1] at h3 fin
      refine (bremove01 c x.b (bl L (j + 1)) w _ _ h2 h3 u2 z2 u3 z3 hnc ?_ ?_).mono ?_
      · intro e; rw [← hb] at e; have := h.dl.inj _ _ hj jn e; omega
      · exact Ne.symm (h.dl.nc _ jn)
      · rintro e w' ⟨rfl, hw⟩
        exact ⟨rfl, fin w' hw⟩
    · have d1 : upA c 2 (bl L) L.length (j + 1) = ⟨c, 3, none⟩ := by unfold upA; rw [if_neg jn]
      have p1 : ptD L.length (bl L) (j + 1) = .pointer none := by unfold ptD; rw [if_neg jn]; rfl
      rw [d1] at u3 z3 fin
      rw [p1] at h3 fin
      refine (bremove00 c x.b w _ _ h2 h3 u2 z2 u3 z3 hnc).mono ?_
      rintro e w' ⟨rfl, hw⟩
      exact ⟨rfl, fin w' hw⟩
  · have d0 : dnA c 2 (bl L) j = ⟨bl L (j - 1), 3, none⟩ := by unfold dnA; rw [if_neg j0]
    have p0 : ptU (bl L) j = .pointer (some ⟨bl L (j - 1), 0, none⟩) := by unfold ptU; rw [if_neg j0]; rfl
    rw [d0] at u2 z2 fin
    rw [p0] at h2 fin
    have k1 : x.b ≠ bl L (j - 1) := by
      intro e; rw [← hb] at e; have := h.dl.inj _ _ hj (by omega) e; omega
    have k2 : c ≠ bl L (j - 1) := Ne.symm (h.dl.nc _ (by omega))
    by_cases jn : j + 1 < L.length
    · have d1 : upA c 2 (bl L) L.length (j + 1) = ⟨bl L (j + 1), 2, none⟩ := by unfold upA; rw [if_pos jn]
      have p1 : ptD L.length (bl L) (j + 1) = .pointer (some ⟨bl L (j + 1), 0, none⟩) := by unfold ptD; rw [if_pos jn]; rfl
      rw [d1] at u3 z3 fin
      rw [p1] at h3 fin
      refine (bremove11 c x.b (bl L (j - 1)) (bl L (j + 1)) w _ _ h2 h3 u2 z2 u3 z3 k1 k2 ?_ ?_).mono ?_
      · intro e; rw [← hb] at e; have := h.dl.inj _ _ hj jn e; omega
      · exact Ne.symm (h.dl.nc _ jn)
      · rintro e w' ⟨rfl, hw⟩
        exact ⟨rfl, fin w' hw⟩
    · have d1 : upA c 2 (bl L) L.length (j + 1) = ⟨c, 3, none⟩ := by unfold upA; rw [if_neg jn]
      have p1 : ptD L.length (bl L) (j + 1) = .pointer none := by unfold ptD; rw [if_neg jn]; rfl
      rw [d1] at u3 z3 fin
      rw [p1] at h3 fin
      refine (bremove10 c x.b (bl L (j - 1)) w _ _ h2 h3 u2 z2 u3 z3 k1 k2).mono ?_
      rintro e w' ⟨rfl, hw⟩
      exact ⟨rfl, fin w' hw⟩

theorem bladd {w : World} {c : Nat} {mo : Int} {M : Option Nat} {L : List Nd} (h : Li w c 2 mo M L) {x : Nd} (hn : Nc w 2 x) (hx : ∀ y, y ∈ L → y.b ≠ x.b) (hc : x.b ≠ c) :
    Calls Try.prog 68 #[.pointer (some ⟨c, 2, none⟩), .pointer (some ⟨x.b, 0, none⟩)] w fun e w' => e = .returned (.tuple #[]) ∧ Hid (Li w' c 2 mo M (x :: L) ∧ Mv (Mine c (x :: L)) w w') := by
  have H := h.push hn hx hc
  obtain ⟨v2, h2⟩ := hn.n2
  obtain ⟨v3, h3⟩ := hn.n3
  have u2 := h.dl.dn 0 (by omega)
  have z2 := h.dl.zn 0 (by omega)
  have u3 := h.dl.up 0 (by omega)
  have z3 := h.dl.zp 0 (by omega)
  have d0 : dnA c 2 (bl L) 0 = ⟨c, 2, none⟩ := by unfold dnA; rw [if_pos rfl]
  rw [d0] at u2 z2
  have fin : ∀ w', Mv (fun _ => False) ((((w.setCell ⟨x.b, 2, none⟩ (pt none)).setCell ⟨x.b, 3, none⟩ (ptD L.length (bl L) 0)).setCell (upA c 2 (bl L) L.length 0) (pt (some x.b))).setCell ⟨c, 2, none⟩ (pt (some x.b))) w' → Hid (Li w' c 2 mo M (x :: L) ∧ Mv (Mine c (x :: L)) w w') := fun w' hw =>
    ⟨H.1.mv hw (fun h => h) (fun _ _ h => h), H.2.trans hw (fun _ _ h => h.elim)⟩
  clear H
  by_cases jn : 0 < L.length
  · have d1 : upA c 2 (bl L) L.length 0 = ⟨bl L 0, 2, none⟩ := by unfold upA; rw [if_pos jn]
    have p1 : ptD L.length (bl L) 0 = .pointer (some ⟨bl L 0, 0, none⟩) := by unfold ptD; rw [if_pos jn]; rfl
    rw [d1] at u3 z3 fin
    rw [p1] at u2 fin
    obtain ⟨y, _, ey, hy⟩ := bl_mem jn
    refine (badd1 c x.b (bl L 0) w _ _ _ u2 z2 h2 hn.z2 h3 hn.z3 u3 z3 hc (by rw [ey]; exact Ne.symm (hx y hy)) (Ne.symm (h.dl.nc _ jn))).mono ?_
    rintro e w' ⟨rfl, hw⟩
    exact ⟨rfl, fin w' hw⟩
  · have d1 : upA c 2 (bl L) L.length 0 = ⟨c, 3, none⟩ := by unfold upA; rw [if_neg jn]
    have p1 : ptD L.length (bl L) 0 = .pointer none := by unfold ptD; rw [if_neg jn]; rfl
    rw [d1] at u3 z3 fin
    rw [p1] at u2 fin
    refine (badd0 c x.b w _ _ _ u2 z2 h2 hn.z2 h3 hn.z3 u3 z3 hc).mono ?_
    rintro e w' ⟨rfl, hw⟩
    exact ⟨rfl, fin w' hw⟩

end Go.Proofs.Ytdhdkbaalgdicaa

/- What the functions of a cache do to it. -/
namespace Go.Proofs.Ytdhdkbaalgdicaa
open Go.RowKit

theorem bzero (w : World) : (zeroValue 91).run Try.prog w = .ok (.pointer none) w := by kernel_rfl

theorem bmapn (w : World) : (binOp .eql 90 (.map none) (.map none)).run Try.prog w = .ok (.bool true) w := by first | kernel_rfl | rfl
theorem bmaps (w : World) (m : Nat) : (binOp .eql 90 (.map (some m)) (.map none)).run Try.prog w = .ok (.bool false) w := by first | kernel_rfl | rfl

section
variable {w : World} {c : Nat} {mo : Int} {M : Option Nat} {L : List Nd} {X : Nat → Prop}

theorem bfind (h : Ca w c 2 mo M L X) {k : Int} (hk : fits k) :
    Calls Try.prog 60 #[.pointer (some ⟨c, 0, none⟩), .int .i64 k] w fun e w' => e = .returned (pt ((fnd L k).map Nd.b)) ∧ w' = w := by
  have hc := h.li.ck
  cases M with
  | none =>
    have e : fnd L k = none := by rw [h.mp0 rfl]; rfl
    rw [e]
    have hr := Maps.look_nil (t := 90) (e := 91) (w := w) false keyed3 Try.underlying90 (bzero w) (keyOf3 hk)
    clear h hk e
    go_enter Try.func60, Try.ntmps60
    go_wp2
    go_ret
    exact ⟨rfl, rfl⟩
  | some m =>
    have hr := (h.mp1 m rfl).look 90 91 Try.underlying90 (bzero w) hk
    clear h hk
    go_enter Try.func60, Try.ntmps60
    go_wp2
    go_ret
    exact ⟨rfl, rfl⟩

theorem buse (h : Ca w c 2 mo M L X) {x : Nd} (hx : x ∈ L) :
    Calls Try.prog 61 #[.pointer (some ⟨c, 0, none⟩), .pointer (some ⟨x.b, 0, none⟩)] w fun e w' => e = .returned (.tuple #[]) ∧ Hid (Ca w' c 2 mo M (x :: del L x.k) X ∧ Mv (Mine c L) w w') := by
  obtain ⟨j, hj⟩ := List.getElem?_of_mem hx
  go_enter Try.func61, Try.ntmps61
  go_wp2_with fail
  refine (blrem h.li hj).mono ?_
  rintro e w1 ⟨rfl, h1⟩
  go_wp2_with fail
  have h2 : Hid (Li w1 c 2 mo M (del L x.k) ∧ Nc w1 2 x ∧ Mv (Mine c L) w w1) := by
    have := h1.out
    rw [erase_del h.ks hj] at this
    exact this
  refine (bladd h2.out.1 h2.out.2.1 ?_ (h.li.ne_c hx)).mono ?_
  · intro y hy e
    have hy' := mem_del.1 hy
    obtain ⟨i, hi⟩ := List.getElem?_of_mem hy'.1
    have e1 := bl_of hi
    have e2 := bl_of hj
    have e3 := h.li.dl.inj i j (List.getElem?_eq_some_iff.1 hi).1 (List.getElem?_eq_some_iff.1 hj).1 (by rw [e1, e2]; exact e)
    subst e3
    rw [hi] at hj
    cases hj
    exact hy'.2 rfl
  rintro e w2 ⟨rfl, h3⟩
  go_wp2_with fail
  go_end0
  have hM : Mv (Mine c L) w w2 := h2.out.2.2.trans h3.out.2 (fun k _ hk => by
    rcases hk with hk | ⟨y, hy, hk⟩
    · exact .inl hk
    · rcases List.mem_cons.1 hy with rfl | hy
      · exact .inr ⟨_, hx, hk⟩
      · exact .inr ⟨y, (mem_del.1 hy).1, hk⟩)
  exact ⟨rfl, h.front hx h3.out.1 hM, hM⟩

theorem broom (h : w.cell? ⟨c, 0, none⟩ = some (.int .i64 mo)) :
    Calls Try.prog 65 #[.pointer (some ⟨c, 0, none⟩)] w fun e w' => e = .returned (.int .i64 (max mo 1)) ∧ w' = w := by
  by_cases hm : mo < 1
  · have e1 : Hid (max mo 1 = 1) := Int.max_eq_right (by omega)
    go_enter Try.func65, Try.ntmps65
    go_wp2
    go_ret
    exact ⟨by rw [e1.out]; rfl, rfl⟩
  · have e1 : Hid (max mo 1 = mo) := Int.max_eq_left (by omega)
    have hm' : 1 ≤ mo := by omega
    go_enter Try.func65, Try.ntmps65
    go_wp2
    go_ret
    exact ⟨by rw [e1.out]; rfl, rfl⟩

set_option maxHeartbeats 1000000 in
theorem bins (h : Ca w c 2 mo M L X) {x : Nd} (hn : Nc w 2 x) (hx : ∀ y, y ∈ L → y.b ≠ x.b) (hc : x.b ≠ c) (hf : fnd L x.k = none) (hfx : fits x.k) (hX : ¬ X x.b) (hXw : ∀ j, X j → j < w.heap.size) (hl : L.length < 100000) :
    Calls Try.prog 64 #[.pointer (some ⟨c, 0, none⟩), .pointer (some ⟨x.b, 0, none⟩)] w fun e w' => e = .returned (.tuple #[]) ∧ Hid (∃ M', Ca w' c 2 mo M' (x :: L) X ∧ Mv (fun k => ¬ X k) w w') := by
  have hck := h.li.ck
  have hkx := hn.kv.key
  cases M with
  | none =>
    obtain rfl := h.mp0 rfl
    have z1 := h.li.z1
    have hq := bmapn w
    have hmk := @run_makeMap Try.prog
    have hcc : c ≠ w.heap.size := by have := h.lt_c; omega
    have hlx : x.b < w.heap.size := World.block_lt_of_cell? _ _ hkx
    have A1 : Mv (fun _ => False) w (w.alloc (.map #[] 0)) := Mv.alloc _ _ _
    have A2 := Mv.setCell (w.alloc (.map #[] 0)) ⟨c, 1, none⟩ (.map (some w.heap.size))
    have A3 : Mv (fun k => k = c) w ((w.alloc (.map #[] 0)).setCell ⟨c, 1, none⟩ (.map (some w.heap.size))) := (A1.mono (T := fun k => k = c) (fun _ _ h => h.elim)).trans A2 (fun _ _ h => h)
    have hD : Mv (fun _ => False) ((w.alloc (.map #[] 0)).setCell ⟨c, 1, none⟩ (.map (some w.heap.size))) ((w.alloc (.map #[] 0)).setCell ⟨c, 1, none⟩ (.map (some w.heap.size))).drew := ⟨rfl, rfl, rfl, Nat.le_refl _, fun _ _ _ => rfl⟩
    have q0 := (Mp.made w).mv A2 (fun e => hcc e.symm)
    obtain ⟨W, hr, hp, hm⟩ := (q0.mv hD (fun h => h)).store 90 91 Try.underlying90 hfx rfl (by omega) x.b
    have hr : (Instr.mapUpdate 90 (.map (some w.heap.size)) (.int .i64 x.k) (.pointer (some ⟨x.b, 0, none⟩))).run Try.prog ((w.alloc (.map #[] 0)).setCell ⟨c, 1, none⟩ (.map (some w.heap.size))).drew = .ok () W := hr
    have hm' : Mv (fun k => k = w.heap.size) ((w.alloc (.map #[] 0)).setCell ⟨c, 1, none⟩ (.map (some w.heap.size))) W := (hD.mono (T := fun k => k = w.heap.size) (fun _ _ h => h.elim)).trans hm (fun _ _ h => h)
    have hM : Mv (fun k => k = c) w W := A3.trans hm' (fun k hk e => by omega)
    have q1 : Li ((w.alloc (.map #[] 0)).setCell ⟨c, 1, none⟩ (.map (some w.heap.size))) c 2 mo (some w.heap.size) [] := by
      have b := h.li.mv A1 (fun h => h) (fun _ _ h => h)
      have e1 : ∀ i : Nat, i ≠ 1 → ((w.alloc (.map #[] 0)).setCell ⟨c, 1, none⟩ (.map (some w.heap.size))).cell? ⟨c, i, none⟩ = (w.alloc (.map #[] 0)).cell? ⟨c, i, none⟩ := fun i hi => World.cell?_setCell_other _ _ _ _ (addr_ne (fun _ => by omega))
      have d0 := b.dl.dn 0 (by omega)
      have d1 := b.dl.up 0 (by omega)
      have d2 := b.dl.zn 0 (by omega)
      have d3 := b.dl.zp 0 (by omega)
      refine ⟨?_, World.cell?_setCell_same _ _ _ b.ck, ?_, ⟨?_, ?_, ?_, ?_, fun i j hi => (by simp at hi), fun i hi => (by simp at hi)⟩, fun y hy => (by cases hy), h.li.o2⟩
      · rw [e1 0 (by omega)]; exact b.cm
      · rw [World.frozen?_setCell]; exact b.z1
      · intro i hi
        obtain rfl : i = 0 := by simpa using hi
        exact (e1 2 (by omega)).trans d0
      · intro i hi
        obtain rfl : i = 0 := by simpa using hi
        exact (e1 3 (by omega)).trans d1
      · intro i hi
        obtain rfl : i = 0 := by simpa using hi
        rw [World.frozen?_setCell]; exact d2
      · intro i hi
        obtain rfl : i = 0 := by simpa using hi
        rw [World.frozen?_setCell]; exact d3
    have hL : Hid (Li W c 2 mo (some w.heap.size) [] ∧ Nc W 2 x ∧ Mv (fun j => j = c) w W ∧ Mp W w.heap.size 1 (fun j => if j = x.k then some x.b else (fnd [] j).map Nd.b)) :=
      ⟨q1.mv hm' hcc (fun y hy => by cases hy), hn.mv hM (fun e => hc e), hM, hp⟩
    have hmX : ¬ X w.heap.size := fun e => by have := hXw _ e; omega
    have y1 := A1.cell hck (fun h => h)
    have y2 : (w.alloc (.map #[] 0)).frozen? ⟨c, 1, none⟩ = false := (A1.frozen (p := ⟨c, 1, none⟩) h.lt_c (fun h => h)).trans z1
    have y3 := A1.cell hkx (fun h => h)
    clear hp hm hm' A1 A2 A3 hD q0 q1 hM
    go_enter Try.func64, Try.ntmps64
    go_wp2
    go_region
    go_wp2_with fail
    refine (bladd hL.out.1 hL.out.2.1 (fun y hy => by cases hy) hc).mono ?_
    rintro e w2 ⟨rfl, h3⟩
    go_wp2_with fail
    go_end0
    have hmm : ¬ Mine c [x] w.heap.size := by
      rintro (e | ⟨y, hy, e⟩)
      · omega
      · rcases List.mem_cons.1 hy with rfl | hy
        · omega
        · cases hy
    refine ⟨rfl, some w.heap.size, Ca.come h.ks h.fit h.ac h.an hf hfx hX rfl hmX h3.out.1 (hL.out.2.2.2.mv h3.out.2 hmm), ?_⟩
    refine (hL.out.2.2.1.mono (T := fun k => ¬ X k) (fun k _ e => by rw [e]; exact h.ac)).trans (h3.out.2.mono (T := fun k => ¬ X k) ?_) (fun _ _ h => h)
    rintro k _ (e | ⟨y, hy, e⟩)
    · rw [e]; exact h.ac
    · rcases List.mem_cons.1 hy with rfl | hy
      · rw [e]; exact hX
      · cases hy
  | some m =>
    have hD : Mv (fun _ => False) w w.drew := ⟨rfl, rfl, rfl, Nat.le_refl _, fun _ _ _ => rfl⟩
    have hmp := h.mp1 m rfl
    obtain ⟨W, hr, hp, hm⟩ := (hmp.mv hD (fun h => h)).store 90 91 Try.underlying90 hfx (by rw [hf]; rfl) hl x.b
    have hr : (Instr.mapUpdate 90 (.map (some m)) (.int .i64 x.k) (.pointer (some ⟨x.b, 0, none⟩))).run Try.prog w.drew = .ok () W := hr
    have hmc : ∀ p v, w.cell? p = some v → p.block ≠ m := fun p v => hmp.noCell
    have hm' : Mv (fun j => j = m) w W := (hD.mono (T := fun j => j = m) (fun _ _ h => h.elim)).trans hm (fun _ _ h => h)
    have hL : Hid (Li W c 2 mo (some m) L ∧ Nc W 2 x ∧ Mv (fun j => j = m) w W ∧ Mp W m (L.length + 1) (fun j => if j = x.k then some x.b else (fnd L j).map Nd.b)) :=
      ⟨h.li.mv hm' (hmc _ _ h.li.cm) (fun y hy => hmc _ _ (h.li.kv y hy).key), hn.mv hm' (hmc _ _ hkx), hm', hp⟩
    have hmx : x.b ≠ m := hmc _ _ hkx
    clear hp hm hm' hmc hmp hD
    have hq := bmaps w m
    go_enter Try.func64, Try.ntmps64
    go_wp2
    go_region
    go_wp2_with fail
    refine (bladd hL.out.1 hL.out.2.1 hx hc).mono ?_
    rintro e w2 ⟨rfl, h3⟩
    go_wp2_with fail
    go_end0
    have hmm : ¬ Mine c (x :: L) m := by
      rintro (e | ⟨y, hy, e⟩)
      · exact h.mine_m rfl (.inl e)
      · rcases List.mem_cons.1 hy with rfl | hy
        · exact hmx e.symm
        · exact h.mine_m rfl (.inr ⟨y, hy, e⟩)
    refine ⟨rfl, some m, Ca.come h.ks h.fit h.ac h.an hf hfx hX rfl (h.am m rfl) h3.out.1 (hL.out.2.2.2.mv h3.out.2 hmm), ?_⟩
    refine (hL.out.2.2.1.mono (T := fun k => ¬ X k) (fun k _ e => by rw [e]; exact h.am m rfl)).trans (h3.out.2.mono (T := fun k => ¬ X k) ?_) (fun _ _ h => h)
    rintro k _ (e | ⟨y, hy, e⟩)
    · rw [e]; exact h.ac
    · rcases List.mem_cons.1 hy with rfl | hy
      · rw [e]; exact hX
      · rw [e]; exact h.an y hy

set_option maxHeartbeats 1000000 in
theorem brem (h : Ca w c 2 mo M L X) {x : Nd} (hx : x ∈ L) :
    Calls Try.prog 66 #[.pointer (some ⟨c, 0, none⟩), .pointer (some ⟨x.b, 0, none⟩)] w fun e w' => e = .returned (.tuple #[]) ∧ Hid (Ca w' c 2 mo M (del L x.k) X ∧ Nc w' 2 x ∧ Mv (fun k => ¬ X k) w w') := by
  have hck := h.li.ck
  have hkx := (h.li.kv x hx).key
  obtain ⟨j, hj⟩ := List.getElem?_of_mem hx
  cases M with
  | none => rw [h.mp0 rfl] at hx; cases hx
  | some m =>
    have hD : Mv (fun _ => False) w w.drew := ⟨rfl, rfl, rfl, Nat.le_refl _, fun _ _ _ => rfl⟩
    have hmp := h.mp1 m rfl
    have hlen : L.length = (L.length - 1) + 1 := by have := List.length_pos_of_mem hx; omega
    have hmp1 : Mp w m ((L.length - 1) + 1) (fun k => (fnd L k).map Nd.b) := hlen ▸ hmp
    obtain ⟨W, hr, hp, hm⟩ := (hmp1.mv hD (fun h => h)).del 90 91 0 Try.underlying90 (h.fit x hx) (by rw [fnd_mem h.ks hx]; rfl)
    have hmc : ∀ p v, w.cell? p = some v → p.block ≠ m := fun p v => hmp.noCell
    have hm' : Mv (fun j => j = m) w W := (hD.mono (T := fun j => j = m) (fun _ _ h => h.elim)).trans hm (fun _ _ h => h)
    have hL : Hid (Li W c 2 mo (some m) L ∧ Mv (fun j => j = m) w W ∧ Mp W m (L.length - 1) (fun j => if j = x.k then none else (fnd L j).map Nd.b)) :=
      ⟨h.li.mv hm' (hmc _ _ h.li.cm) (fun y hy => hmc _ _ (h.li.kv y hy).key), hm', hp⟩
    have fin : ∀ w2, Hid (Li w2 c 2 mo (some m) (L.eraseIdx j) ∧ Nc w2 2 x ∧ Mv (Mine c L) W w2) → Hid (Ca w2 c 2 mo (some m) (del L x.k) X ∧ Nc w2 2 x ∧ Mv (fun k => ¬ X k) w w2) := by
      intro w2 h3
      have h4 := h3.out
      rw [erase_del h.ks hj] at h4
      refine ⟨h.gone hx rfl h4.1 (hL.out.2.2.mv h4.2.2 (h.mine_m rfl)), h4.2.1, ?_⟩
      exact (hL.out.2.1.mono (T := fun k => ¬ X k) (fun k _ e => by rw [e]; exact h.am m rfl)).trans h4.2.2 (fun k _ e => h.mine e)
    clear hp hm hm' hmc hmp hD hmp1 hlen
    go_enter Try.func66, Try.ntmps66
    go_wp2
    go_region_law (refine step_delete_given rfl (.tmp 7) (.tmp 11) 90 3 rfl _ _ rfl rfl W hr ?_)
    all_goals (go_wp2_with fail; refine (blrem hL.out.1 hj).mono ?_; rintro e w2 ⟨rfl, h3⟩; go_wp2_with fail; go_end0; exact ⟨rfl, fin w2 h3⟩)

end
end Go.Proofs.Ytdhdkbaalgdicaa

/- Get, Put, Drop, Clear of a cache. -/
namespace Go.Proofs.Ytdhdkbaalgdicaa
open Go.RowKit

theorem bnew (mo : Int) (w : World) : Calls Try.prog 30 #[.int .i64 mo] w fun e w' => e = .returned (.pointer (some ⟨w.heap.size, 0, none⟩)) ∧ w' = w.alloc (.cells #[.int .i64 mo, .map none, .pointer none, .pointer none] 95) := by
  go_enter Try.func30, Try.ntmps30
  go_wp2
  go_ret
  exact ⟨rfl, rfl⟩

section
variable {w : World} {c : Nat} {mo : Int} {S : List Kw} {X : Nat → Prop}

theorem bget_none (h : Ch w c 2 mo S X) {k : Int} (hk : fits k) (hf : sfnd S k = none) :
    Calls Try.prog 57 #[.pointer (some ⟨c, 0, none⟩), .int .i64 k] w fun e w' => e = .returned (.tuple #[.slice none 0 0, .bool false]) ∧ w' = w := by
  obtain ⟨M, L, h, rfl⟩ := h
  rw [sfnd_map, Option.map_eq_none_iff] at hf
  have F := bfind h hk
  rw [hf] at F
  clear hf h hk
  go_enter Try.func57, Try.ntmps57
  go_wp2_with fail
  refine F.mono ?_
  rintro e w1 ⟨rfl, hw⟩
  obtain rfl := hw.symm
  clear hw F
  simp only [Option.map_none, pt]
  go_wp2_with fail
  go_ret2
  exact ⟨rfl, rfl⟩

theorem bget_some (h : Ch w c 2 mo S X) {k : Int} (hk : fits k) {p : Kw} (hf : sfnd S k = some p) :
    Calls Try.prog 57 #[.pointer (some ⟨c, 0, none⟩), .int .i64 k] w fun e w' => e = .returned (.tuple #[p.2 0, .bool true]) ∧ Hid (Ch w' c 2 mo (p :: sdel S k) X ∧ Mv (fun j => ¬ X j) w w') := by
  obtain ⟨M, L, h, rfl⟩ := h
  rw [sfnd_map, Option.map_eq_some_iff] at hf
  obtain ⟨x, hf, rfl⟩ := hf
  obtain ⟨hx, rfl, _⟩ := fnd_some hf
  have F := bfind h hk
  rw [hf] at F
  have U := buse h hx
  have fin : ∀ w', Hid (Ca w' c 2 mo M (x :: del L x.k) X ∧ Mv (Mine c L) w w') → Hid (Ch w' c 2 mo (kw x :: sdel (L.map kw) x.k) X ∧ Mv (fun j => ¬ X j) w w') := by
    intro w' h'
    refine ⟨⟨M, _, h'.out.1, ?_⟩, h'.out.2.mono (fun k _ e => h.mine e)⟩
    rw [sdel_map]; rfl
  have hv : ∀ w', Hid (Ca w' c 2 mo M (x :: del L x.k) X ∧ Mv (Mine c L) w w') → w'.cell? ⟨x.b, 1, none⟩ = some (x.v 0) := fun w' h' => (h'.out.1.li.kv x List.mem_cons_self).val 0 (by omega)
  clear hf h hk hx
  go_enter Try.func57, Try.ntmps57
  go_wp2_with fail
  refine F.mono ?_
  rintro e w1 ⟨rfl, hw⟩
  obtain rfl := hw.symm
  clear hw F
  simp only [Option.map_some, pt]
  go_wp2_with fail
  refine U.mono ?_
  rintro e w2 ⟨rfl, h2⟩
  have hv2 := hv w2 h2
  clear hv U
  go_wp2_with fail
  go_ret2
  exact ⟨rfl, fin w2 h2⟩

end
end Go.Proofs.Ytdhdkbaalgdicaa

/- Put of a cache. -/
namespace Go.Proofs.Ytdhdkbaalgdicaa
open Go.RowKit

section
variable {w : World} {c : Nat} {mo : Int} {S : List Kw} {X : Nat → Prop}

set_option maxHeartbeats 1000000 in
/-- A key that is there. -/
theorem bput_has (h : Ch w c 2 mo S X) {k : Int} (hk : fits k) {p : Kw} (hf : sfnd S k = some p) (za : Option Addr) (zn zc : Nat) :
    Calls Try.prog 59 #[.pointer (some ⟨c, 0, none⟩), .int .i64 k, .slice za zn zc] w fun e w' => e = .returned (.tuple #[.int .i64 0, .bool false]) ∧ Hid (Ch w' c 2 mo ((k, fun _ => .slice za zn zc) :: sdel S k) X ∧ Mv (fun j => ¬ X j) w w') := by
  obtain ⟨M, L, h, rfl⟩ := h
  rw [sfnd_map, Option.map_eq_some_iff] at hf
  obtain ⟨x, hf, rfl⟩ := hf
  obtain ⟨hx, rfl, _⟩ := fnd_some hf
  have F := bfind h hk
  rw [hf] at F
  have V := h.setv hx (j := 0) (by omega) (.slice za zn zc)
  have U := buse V.1 (setv_at hx _)
  have cv : w.cell? ⟨x.b, 1, none⟩ = some (x.v 0) := (h.li.kv x hx).val 0 (by omega)
  have zv : w.frozen? ⟨x.b, 1, none⟩ = false := (h.li.kv x hx).zv 0 (by omega)
  have fin : ∀ w', Hid (Ca w' c 2 mo M (⟨x.b, x.k, fun i => if i = 0 then .slice za zn zc else x.v i⟩ :: del (setv L x.k (fun i => if i = 0 then .slice za zn zc else x.v i)) x.k) X ∧ Mv (Mine c (setv L x.k (fun i => if i = 0 then .slice za zn zc else x.v i))) (w.setCell ⟨x.b, 1 + 0, none⟩ (.slice za zn zc)) w') → Hid (Ch w' c 2 mo ((x.k, fun _ => .slice za zn zc) :: sdel (L.map kw) x.k) X ∧ Mv (fun j => ¬ X j) w w') := by
    intro w' h'
    refine ⟨⟨M, _, h'.out.1.head_v (fun _ => .slice za zn zc) (fun j hj => ?_), ?_⟩, V.2.trans h'.out.2 (fun k _ e => V.1.mine e)⟩
    · obtain rfl : j = 0 := by omega
      rfl
    · rw [setv_del, sdel_map]; rfl
  clear hf h hk hx V
  go_enter Try.func59, Try.ntmps59
  go_wp2_with fail
  refine F.mono ?_
  rintro e w1 ⟨rfl, hw⟩
  obtain rfl := hw.symm
  clear hw F
  simp only [Option.map_some, pt]
  go_wp2_with fail
  refine U.mono ?_
  rintro e w2 ⟨rfl, h2⟩
  clear U
  go_wp2_with fail
  go_ret2
  exact ⟨rfl, fin w2 h2⟩

/-- A node that is new. -/
theorem bnode (w : World) (k : Int) (za : Option Addr) (zn zc : Nat) : Nc (w.alloc (.cells #[.int .i64 k, .slice za zn zc, .pointer none, .pointer none] 111)) 2 ⟨w.heap.size, k, fun _ => .slice za zn zc⟩ := by
  have A : ∀ i v, (#[Value.int .i64 k, .slice za zn zc, .pointer none, .pointer none] : Array Value)[i]? = some v → _ := fun i v => alloc_new w #[.int .i64 k, .slice za zn zc, .pointer none, .pointer none] 111 i v
  refine ⟨⟨(A 0 _ rfl).1, fun j hj => ?_, fun j hj => ?_⟩, ⟨_, (A 2 _ rfl).1⟩, ⟨_, (A 3 _ rfl).1⟩, (A 2 _ rfl).2, (A 3 _ rfl).2⟩
  · obtain rfl : j = 0 := by omega
    exact (A 1 _ rfl).1
  · obtain rfl : j = 0 := by omega
    exact (A 1 _ rfl).2

/-- .. and what insert makes of it. -/
theorem bput_ins {M : Option Nat} {L : List Nd} (h : Ca w c 2 mo M L X) {k : Int} (hk : fits k) (hf : fnd L k = none) (hX : ∀ j, X j → j < w.heap.size) (hl : L.length < 90000) (za : Option Addr) (zn zc : Nat) :
    Calls Try.prog 64 #[.pointer (some ⟨c, 0, none⟩), .pointer (some ⟨w.heap.size, 0, none⟩)] (w.alloc (.cells #[.int .i64 k, .slice za zn zc, .pointer none, .pointer none] 111)) fun e w' => e = .returned (.tuple #[]) ∧
      ∃ m, Hid (Ca w' c 2 mo (some m) (⟨w.heap.size, k, fun _ => .slice za zn zc⟩ :: L) X ∧ Mv (fun j => ¬ X j) w w') := by
  have A1 : Mv (fun _ => False) w (w.alloc (.cells #[.int .i64 k, .slice za zn zc, .pointer none, .pointer none] 111)) := Mv.alloc _ _ _
  have h1 := (h.mv A1 (fun _ h => h.elim)).mono (Y := X) (fun j hj => .inl hj)
  have hlc := h.lt_c
  refine (bins h1 (bnode w k za zn zc) (fun y hy e => ?_) ?_ hf hk (fun e => ?_) (fun j hj => ?_) (by omega)).mono ?_
  · have := h.lt_n hy
    have e' : y.b = w.heap.size := e
    omega
  · show w.heap.size ≠ c
    omega
  · have := hX _ e
    have e' : w.heap.size < w.heap.size := this
    omega
  · have := hX j hj
    simp
    omega
  · rintro e w' ⟨rfl, h2⟩
    obtain ⟨M', h3, h4⟩ := h2.out
    obtain ⟨m, rfl⟩ := h3.some_m (by simp)
    exact ⟨rfl, m, h3, (A1.mono (fun _ _ h => h.elim)).trans h4 (fun _ _ h => h)⟩

set_option maxHeartbeats 2000000 in
/-- A new key, and there is room. -/
theorem bput_room (h : Ch w c 2 mo S X) {k : Int} (hk : fits k) (hf : sfnd S k = none) (hX : ∀ j, X j → j < w.heap.size) (hl : S.length < 90000) (hr : (S.length : Int) + 1 ≤ max mo 1) (za : Option Addr) (zn zc : Nat) :
    Calls Try.prog 59 #[.pointer (some ⟨c, 0, none⟩), .int .i64 k, .slice za zn zc] w fun e w' => e = .returned (.tuple #[.int .i64 0, .bool false]) ∧ Hid (Ch w' c 2 mo ((k, fun _ => .slice za zn zc) :: S) X ∧ Mv (fun j => ¬ X j) w w') := by
  obtain ⟨M, L, h, rfl⟩ := h
  rw [sfnd_map, Option.map_eq_none_iff] at hf
  have F := bfind h hk
  rw [hf] at F
  rw [List.length_map] at hl hr
  have U := bput_ins h hk hf hX hl za zn zc
  obtain ⟨R, hR⟩ : ∃ R, R = max mo 1 := ⟨_, rfl⟩
  have room : ∀ W : World, W.cell? ⟨c, 0, none⟩ = some (.int .i64 mo) → Calls Try.prog 65 #[.pointer (some ⟨c, 0, none⟩)] W fun e w' => e = .returned (.int .i64 R) ∧ w' = W := fun W hc => hR ▸ broom hc
  rw [← hR] at hr
  clear hR hf h hk hX
  go_enter Try.func59, Try.ntmps59
  go_wp2_with fail
  refine F.mono ?_
  rintro e w1 ⟨rfl, hw⟩
  obtain rfl := hw.symm
  clear hw F
  simp only [Option.map_none, pt]
  go_wp2_with fail
  refine U.mono ?_
  rintro e w2 ⟨rfl, m, h2⟩
  clear U
  have g0 := h2.out.1.li.cm
  have g1 := h2.out.1.li.ck
  have hlen : ∀ ty, (Builtin.len_ #[90] ty #[.map (some m)]).run Try.prog w2 = .ok (.int .i64 ((L.length + 1 : Nat) : Int)) w2 := fun ty => (h2.out.1.mp1 m rfl).len 90 91 ty Try.underlying90
  have hr' : ((L.length + 1 : Nat) : Int) ≤ R := by omega
  have rm := room w2 g0
  clear room
  go_wp2_with (first | (at_len; refine wpList_len_given rfl _ _ rfl _ rfl _ (hlen _) ?_))
  refine rm.mono ?_
  rintro e w3 ⟨rfl, hw⟩
  obtain rfl := hw.symm
  clear hw rm hlen
  go_wp2_with fail
  go_ret2
  exact ⟨rfl, ⟨_, _, h2.out.1, rfl⟩, h2.out.2⟩

set_option maxHeartbeats 2000000 in
/-- A new key, and one must go. -/
theorem bput_full (h : Ch w c 2 mo S X) {k : Int} (hk : fits k) (hf : sfnd S k = none) (hX : ∀ j, X j → j < w.heap.size) (hl : S.length < 90000) (hr : max mo 1 < (S.length : Int) + 1) (za : Option Addr) (zn zc : Nat) :
    Calls Try.prog 59 #[.pointer (some ⟨c, 0, none⟩), .int .i64 k, .slice za zn zc] w fun e w' => e = .returned (.tuple #[.int .i64 (((((k, fun _ => .slice za zn zc) :: S).getLast?).map Prod.fst).getD 0), .bool true]) ∧ Hid (Ch w' c 2 mo (((k, fun _ => .slice za zn zc) :: S).dropLast) X ∧ Mv (fun j => ¬ X j) w w') := by
  obtain ⟨M, L, h, rfl⟩ := h
  rw [sfnd_map, Option.map_eq_none_iff] at hf
  have F := bfind h hk
  rw [hf] at F
  rw [List.length_map] at hl hr
  have U := bput_ins h hk hf hX hl za zn zc
  obtain ⟨R, hR⟩ : ∃ R, R = max mo 1 := ⟨_, rfl⟩
  have room : ∀ W : World, W.cell? ⟨c, 0, none⟩ = some (.int .i64 mo) → Calls Try.prog 65 #[.pointer (some ⟨c, 0, none⟩)] W fun e w' => e = .returned (.int .i64 R) ∧ w' = W := fun W hc => hR ▸ broom hc
  rw [← hR] at hr
  clear hR hf h hk hX
  go_enter Try.func59, Try.ntmps59
  go_wp2_with fail
  refine F.mono ?_
  rintro e w1 ⟨rfl, hw⟩
  obtain rfl := hw.symm
  clear hw F
  simp only [Option.map_none, pt]
  go_wp2_with fail
  refine U.mono ?_
  rintro e w2 ⟨rfl, m, h2⟩
  clear U
  have g0 := h2.out.1.li.cm
  have g1 := h2.out.1.li.ck
  obtain ⟨y, hy, hym, g3⟩ := h2.out.1.oldest (by simp)
  have hlen : ∀ ty, (Builtin.len_ #[90] ty #[.map (some m)]).run Try.prog w2 = .ok (.int .i64 ((L.length + 1 : Nat) : Int)) w2 := fun ty => (h2.out.1.mp1 m rfl).len 90 91 ty Try.underlying90
  have hr' : R < ((L.length + 1 : Nat) : Int) := by omega
  have rm := room w2 g0
  have V := brem h2.out.1 hym
  have ed := drop_last h2.out.1.ks hy
  have hfin : Hid (((((k, fun _ => .slice za zn zc) :: L.map kw).getLast?).map Prod.fst).getD 0 = y.k) := by
    show _ = _
    have e1 : ((k, fun _ => .slice za zn zc) :: L.map kw) = ((⟨w.heap.size, k, fun _ => .slice za zn zc⟩ :: L : List Nd).map kw) := rfl
    rw [e1, List.getLast?_map, hy]; rfl
  have fin : ∀ w', Hid (Ca w' c 2 mo (some m) (del (⟨w.heap.size, k, fun _ => .slice za zn zc⟩ :: L) y.k) X ∧ Nc w' 2 y ∧ Mv (fun j => ¬ X j) w2 w') → Hid (Ch w' c 2 mo (((k, fun _ => .slice za zn zc) :: L.map kw).dropLast) X ∧ Mv (fun j => ¬ X j) w w') := by
    intro w' h'
    refine ⟨⟨_, _, h'.out.1, ?_⟩, h2.out.2.trans h'.out.2.2 (fun _ _ h => h)⟩
    rw [ed, List.map_dropLast]; rfl
  clear room ed hy hym
  go_wp2_with (first | (at_len; refine wpList_len_given rfl _ _ rfl _ rfl _ (hlen _) ?_))
  refine rm.mono ?_
  rintro e w3 ⟨rfl, hw⟩
  obtain rfl := hw.symm
  clear hw rm hlen
  go_wp2_with fail
  refine V.mono ?_
  rintro e w4 ⟨rfl, h4⟩
  have hyk := h4.out.2.1.kv.key
  clear V
  go_wp2_with fail
  go_ret2
  exact ⟨by rw [hfin.out]; rfl, fin w4 h4⟩

end
end Go.Proofs.Ytdhdkbaalgdicaa

/- What Put leaves: how many. -/
namespace Go.Proofs.Ytdhdkbaalgdicaa
open Go.RowKit

theorem sfnd_key {S : List Kw} {k : Int} {p : Kw} (h : sfnd S k = some p) : p ∈ S ∧ p.1 = k := by
  have h1 := List.mem_of_find?_eq_some h
  have h2 := List.find?_some h
  exact ⟨h1, by simpa using h2⟩
theorem pS_has {S : List Kw} (hn : (S.map Prod.fst).Nodup) {mo k : Int} {p : Kw} (hf : sfnd S k = some p) (hm : (S.length : Int) ≤ max mo 1) (v : Nat → Value) : pOk mo S k = true ∧ pS mo S k v = (k, v) :: sdel S k ∧ pG mo S k v = 0 := by
  have h1 := sdel_length hn hf
  have h2 : pOk mo S k = true := by
    unfold pOk
    rw [decide_eq_true_iff]
    omega
  exact ⟨h2, by unfold pS; rw [if_pos h2], by unfold pG; rw [if_pos h2]⟩
theorem pS_room {S : List Kw} {mo k : Int} (hf : sfnd S k = none) (hm : (S.length : Int) + 1 ≤ max mo 1) (v : Nat → Value) : pOk mo S k = true ∧ pS mo S k v = (k, v) :: S ∧ pG mo S k v = 0 := by
  have h2 : pOk mo S k = true := by
    unfold pOk
    rw [decide_eq_true_iff, sdel_none hf]
    exact hm
  exact ⟨h2, by unfold pS; rw [if_pos h2, sdel_none hf], by unfold pG; rw [if_pos h2]⟩
theorem pS_full {S : List Kw} {mo k : Int} (hf : sfnd S k = none) (hm : max mo 1 < (S.length : Int) + 1) (v : Nat → Value) : pOk mo S k = false ∧ pS mo S k v = ((k, v) :: S).dropLast ∧ pG mo S k v = ((((k, v) :: S).getLast?).map Prod.fst).getD 0 := by
  have h2 : pOk mo S k = false := by
    unfold pOk
    rw [decide_eq_false_iff_not, sdel_none hf]
    omega
  exact ⟨h2, by unfold pS; rw [h2, if_neg (by simp), sdel_none hf], by unfold pG; rw [h2, if_neg (by simp), sdel_none hf]⟩
theorem pS_length {S : List Kw} (hn : (S.map Prod.fst).Nodup) {mo k : Int} (hm : (S.length : Int) ≤ max mo 1) (v : Nat → Value) : ((pS mo S k v).length : Int) ≤ max mo 1 ∧ (pS mo S k v).length ≤ S.length + 1 := by
  cases hf : sfnd S k with
  | none =>
    by_cases hr : (S.length : Int) + 1 ≤ max mo 1
    · rw [(pS_room hf hr v).2.1, List.length_cons]; omega
    · rw [(pS_full hf (by omega) v).2.1, List.length_dropLast, List.length_cons]; omega
  | some p =>
    have h1 := sdel_length hn hf
    rw [(pS_has hn hf hm v).2.1, List.length_cons]; omega

end Go.Proofs.Ytdhdkbaalgdicaa

/- Lists of keys: who was used last. -/
namespace Go.Proofs.Ytdhdkbaalgdicaa
open Go.RowKit

def lof (l : List Int) (i : Nat) : Int := l[i]?.getD 0
def ks (S : List Kw) : List Int := S.map Prod.fst
theorem ks_length (S : List Kw) : (ks S).length = S.length := by simp [ks]
/-- A list without one. -/
def wo (l : List Int) (k : Int) : List Int := l.filter (fun x => decide (x ≠ k))
theorem ks_sdel (S : List Kw) (k : Int) : ks (sdel S k) = wo (ks S) k := by
  unfold ks sdel wo
  rw [List.filter_map]
  rfl
theorem wo_cons (x : Int) (l : List Int) (k : Int) : wo (x :: l) k = if x = k then wo l k else x :: wo l k := by
  unfold wo
  rw [List.filter_cons]
  by_cases h : x = k <;> simp [h]
theorem wo_none {l : List Int} {k : Int} (h : k ∉ l) : wo l k = l := by
  unfold wo
  rw [List.filter_eq_self]
  intro x hx
  have : x ≠ k := fun e => h (e ▸ hx)
  simpa using this
theorem mem_wo {l : List Int} {k x : Int} : x ∈ wo l k ↔ x ∈ l ∧ x ≠ k := by
  unfold wo; rw [List.mem_filter]; simp
theorem sfnd_none_iff {S : List Kw} {k : Int} : sfnd S k = none ↔ k ∉ ks S := by
  unfold sfnd ks
  rw [List.find?_eq_none]
  constructor
  · intro h e
    obtain ⟨p, hp, e⟩ := List.mem_map.1 e
    have := h p hp
    simp [e] at this
  · intro h p hp
    have : p.1 ≠ k := fun e => h (e ▸ List.mem_map_of_mem hp)
    simpa using this
/-- A key is used: at most N are kept. -/
def step (N : Nat) (l : List Int) (k : Int) : List Int := (k :: wo l k).take N
theorem ks_pS {S : List Kw} (hn : (S.map Prod.fst).Nodup) {mo : Int} {N : Nat} (hN : (N : Int) = max mo 1) (hm : S.length ≤ N) (k : Int) (v : Nat → Value) : ks (pS mo S k v) = step N (ks S) k := by
  unfold step
  cases hf : sfnd S k with
  | none =>
    have hk := sfnd_none_iff.1 hf
    rw [wo_none hk]
    by_cases hr : S.length + 1 ≤ N
    · rw [(pS_room hf (by omega) v).2.1]
      show k :: ks S = _
      rw [List.take_of_length_le (by rw [List.length_cons, ks_length]; omega)]
    · rw [(pS_full (mo := mo) hf (by omega) v).2.1]
      unfold ks
      rw [List.map_dropLast, List.dropLast_eq_take]
      have : (List.map Prod.fst ((k, v) :: S)).length - 1 = N := by simp; omega
      rw [this]; rfl
  | some p =>
    have h1 := sdel_length hn hf
    rw [(pS_has hn hf (by omega) v).2.1]
    show k :: ks (sdel S k) = _
    rw [ks_sdel, List.take_of_length_le]
    rw [List.length_cons, ← ks_sdel, ks_length]; omega
theorem ks_get {S : List Kw} (hn : (S.map Prod.fst).Nodup) {N : Nat} (hm : S.length ≤ N) {k : Int} {p : Kw} (hf : sfnd S k = some p) : ks (p :: sdel S k) = step N (ks S) k := by
  have h1 := sdel_length hn hf
  unfold step
  show p.1 :: ks (sdel S k) = _
  rw [(sfnd_key hf).2, ks_sdel, List.take_of_length_le]
  rw [List.length_cons, ← ks_sdel, ks_length]; omega

/-- Each but once, where it stands first. -/
def rcn : List Int → List Int
  | [] => []
  | y :: r => y :: wo (rcn r) y
theorem nodup_wo {l : List Int} (h : l.Nodup) (k : Int) : (wo l k).Nodup := List.filter_sublist.nodup h
theorem nodup_rcn : ∀ l, (rcn l).Nodup
  | [] => List.nodup_nil
  | y :: r => by
    unfold rcn
    rw [List.nodup_cons]
    exact ⟨fun h => (mem_wo.1 h).2 rfl, nodup_wo (nodup_rcn r) y⟩
theorem rcn_snoc : ∀ (l : List Int) (y : Int), rcn (l ++ [y]) = if y ∈ rcn l then rcn l else rcn l ++ [y]
  | [], y => by simp [rcn, wo]
  | a :: r, y => by
    show a :: wo (rcn (r ++ [y])) a = _
    rw [rcn_snoc r y]
    show _ = if y ∈ a :: wo (rcn r) a then a :: wo (rcn r) a else (a :: wo (rcn r) a) ++ [y]
    by_cases h : y ∈ rcn r
    · rw [if_pos h, if_pos]
      by_cases e : y = a
      · rw [e]; exact List.mem_cons_self
      · exact List.mem_cons_of_mem _ (mem_wo.2 ⟨h, e⟩)
    · rw [if_neg h]
      have e1 : wo (rcn r ++ [y]) a = wo (rcn r) a ++ wo [y] a := by unfold wo; rw [List.filter_append]
      rw [e1]
      by_cases e : y = a
      · subst e
        rw [if_pos List.mem_cons_self, wo_cons, if_pos rfl]
        simp [wo]
      · rw [wo_cons, if_neg e, if_neg]
        · rfl
        · intro h'
          rcases List.mem_cons.1 h' with h' | h'
          · exact e h'
          · exact h (mem_wo.1 h').1
theorem rcn_pre (l m : List Int) : ∃ r, rcn (l ++ m) = rcn l ++ r := by
  induction m generalizing l with
  | nil => exact ⟨[], by simp⟩
  | cons y m ih =>
    obtain ⟨r, hr⟩ := ih (l ++ [y])
    have e : l ++ y :: m = (l ++ [y]) ++ m := by simp
    rw [e, hr, rcn_snoc]
    split
    · exact ⟨r, rfl⟩
    · exact ⟨[y] ++ r, by simp⟩
theorem take_wo {l : List Int} (hn : l.Nodup) (k : Int) (N : Nat) : (wo (l.take (N + 1)) k).take N = (wo l k).take N := by
  induction l generalizing N with
  | nil => simp
  | cons x r ih =>
    rw [List.nodup_cons] at hn
    rw [List.take_succ_cons, wo_cons, wo_cons]
    by_cases e : x = k
    · subst e
      rw [if_pos rfl, if_pos rfl, wo_none hn.1, wo_none (fun h => hn.1 (List.mem_of_mem_take h)), List.take_take, Nat.min_self]
    · rw [if_neg e, if_neg e]
      cases N with
      | zero => rfl
      | succ N => rw [List.take_succ_cons, List.take_succ_cons, ih hn.2]
theorem step_take {l : List Int} (hn : l.Nodup) (k : Int) (N : Nat) (hN : 0 < N) : step N (l.take N) k = (k :: wo l k).take N := by
  unfold step
  obtain ⟨M, rfl⟩ : ∃ M, N = M + 1 := ⟨N - 1, by omega⟩
  rw [List.take_succ_cons, List.take_succ_cons, take_wo hn]

/-- The first n of a row, the last first. -/
def rv (q : Nat → Int) : Nat → List Int
  | 0 => []
  | n + 1 => q n :: rv q n
theorem rv_length (q : Nat → Int) : ∀ n, (rv q n).length = n
  | 0 => rfl
  | n + 1 => by show (rv q n).length + 1 = n + 1; rw [rv_length q n]
theorem rv_get (q : Nat → Int) : ∀ (n j : Nat), j < n → (rv q n)[j]? = some (q (n - 1 - j))
  | 0, j, h => by omega
  | n + 1, 0, _ => by show some (q n) = _; congr 2
  | n + 1, j + 1, h => by
    show (rv q n)[j]? = _
    rw [rv_get q n j (by omega)]
    congr 2
    omega
theorem rv_take (q : Nat → Int) (n j : Nat) (h : j < n) : (rv q n).take (j + 1) = (rv q n).take j ++ [q (n - 1 - j)] := by
  rw [List.take_add_one, rv_get q n j h]; rfl

end Go.Proofs.Ytdhdkbaalgdicaa

/- Put, all its ways. -/
namespace Go.Proofs.Ytdhdkbaalgdicaa
open Go.RowKit

theorem bput {w : World} {c : Nat} {mo : Int} {S : List Kw} {X : Nat → Prop} (h : Ch w c 2 mo S X) {k : Int} (hk : fits k) (hX : ∀ j, X j → j < w.heap.size) (hl : S.length < 80000) (hm : (S.length : Int) ≤ max mo 1) (za : Option Addr) (zn zc : Nat) :
    Calls Try.prog 59 #[.pointer (some ⟨c, 0, none⟩), .int .i64 k, .slice za zn zc] w fun e w' => e = .returned (.tuple #[.int .i64 (pG mo S k (fun _ => .slice za zn zc)), .bool (!pOk mo S k)]) ∧ Hid (Ch w' c 2 mo (pS mo S k (fun _ => .slice za zn zc)) X ∧ Mv (fun j => ¬ X j) w w') := by
  cases hf : sfnd S k with
  | none =>
    by_cases hr : (S.length : Int) + 1 ≤ max mo 1
    · obtain ⟨e1, e2, e3⟩ := pS_room hf hr (fun _ => .slice za zn zc)
      rw [e1, e2, e3]
      exact bput_room h hk hf hX (by omega) hr za zn zc
    · obtain ⟨e1, e2, e3⟩ := pS_full (mo := mo) hf (by omega) (fun _ => .slice za zn zc)
      rw [e1, e2, e3]
      exact bput_full h hk hf hX (by omega) (by omega) za zn zc
  | some p =>
    obtain ⟨e1, e2, e3⟩ := pS_has h.nodup hf hm (fun _ => .slice za zn zc)
    rw [e1, e2, e3]
    exact bput_has h hk hf za zn zc

end Go.Proofs.Ytdhdkbaalgdicaa
