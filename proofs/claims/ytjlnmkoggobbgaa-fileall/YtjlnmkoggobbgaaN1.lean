/- A list that is linked both ways. -/
import Derived.Test.YtjlnmkoggobbgaaM1
namespace Go.Proofs.Ytjlnmkoggobbgaa
open Go.RowKit

/-- Where the way down to element i stands, and the way up from it. -/
def dnA (c o : Nat) (B : Nat → Nat) (i : Nat) : Addr := if i = 0 then ⟨c, 2, none⟩ else ⟨B (i - 1), o + 1, none⟩
def upA (c o : Nat) (B : Nat → Nat) (n i : Nat) : Addr := if i < n then ⟨B i, o, none⟩ else ⟨c, 3, none⟩
def ptD (n : Nat) (B : Nat → Nat) (i : Nat) : Value := if i < n then pt (some (B i)) else pt none
def ptU (B : Nat → Nat) (i : Nat) : Value := if i = 0 then pt none else pt (some (B (i - 1)))

structure Dl (w : World) (c o n : Nat) (B : Nat → Nat) : Prop where
  dn : ∀ i, i ≤ n → w.cell? (dnA c o B i) = some (ptD n B i)
  up : ∀ i, i ≤ n → w.cell? (upA c o B n i) = some (ptU B i)
  zn : ∀ i, i ≤ n → w.frozen? (dnA c o B i) = false
  zp : ∀ i, i ≤ n → w.frozen? (upA c o B n i) = false
  inj : ∀ i j, i < n → j < n → B i = B j → i = j
  nc : ∀ i, i < n → B i ≠ c

def cutB (B : Nat → Nat) (j : Nat) : Nat → Nat := fun i => if i < j then B i else B (i + 1)
def putB (B : Nat → Nat) (b : Nat) : Nat → Nat := fun i => if i = 0 then b else B (i - 1)

theorem addr_ne {a b i j : Nat} (h : a = b → i ≠ j) : (⟨a, i, none⟩ : Addr) ≠ ⟨b, j, none⟩ := by
  intro e
  injection e with e1 e2
  exact h e1 e2

section
variable {w : World} {c o n : Nat} {B : Nat → Nat}
theorem Dl.dn_ne (h : Dl w c o n B) {i j : Nat} (hi : i ≤ n) (hj : j ≤ n) (hij : i ≠ j) : dnA c o B i ≠ dnA c o B j := by
  unfold dnA
  by_cases h1 : i = 0 <;> by_cases h2 : j = 0
  · omega
  · rw [if_pos h1, if_neg h2]; exact addr_ne (fun e => ((h.nc (j - 1) (by omega)) e.symm).elim)
  · rw [if_neg h1, if_pos h2]; exact addr_ne (fun e => ((h.nc (i - 1) (by omega)) e).elim)
  · rw [if_neg h1, if_neg h2]; exact addr_ne (fun e => by have := h.inj (i - 1) (j - 1) (by omega) (by omega) e; omega)
theorem Dl.up_ne (h : Dl w c o n B) {i j : Nat} (hi : i ≤ n) (hj : j ≤ n) (hij : i ≠ j) : upA c o B n i ≠ upA c o B n j := by
  unfold upA
  by_cases h1 : i < n <;> by_cases h2 : j < n
  · rw [if_pos h1, if_pos h2]; exact addr_ne (fun e => by have := h.inj i j h1 h2 e; omega)
  · rw [if_pos h1, if_neg h2]; exact addr_ne (fun e => ((h.nc i h1) e).elim)
  · rw [if_neg h1, if_pos h2]; exact addr_ne (fun e => ((h.nc j h2) e.symm).elim)
  · omega
theorem Dl.du_ne (h : Dl w c o n B) {i j : Nat} (hi : i ≤ n) (hj : j ≤ n) : dnA c o B i ≠ upA c o B n j := by
  unfold dnA upA
  by_cases h1 : i = 0 <;> by_cases h2 : j < n
  · rw [if_pos h1, if_pos h2]; exact addr_ne (fun e => ((h.nc j h2) e.symm).elim)
  · rw [if_pos h1, if_neg h2]; exact addr_ne (fun _ => by omega)
  · rw [if_neg h1, if_pos h2]; exact addr_ne (fun _ => by omega)
  · rw [if_neg h1, if_neg h2]; exact addr_ne (fun e => ((h.nc (i - 1) (by omega)) e).elim)
theorem dn_cut {j : Nat} (i : Nat) : dnA c o (cutB B j) i = if i ≤ j then dnA c o B i else dnA c o B (i + 1) := by
  unfold dnA cutB
  by_cases h1 : i = 0
  · rw [if_pos h1, if_pos (by omega), if_pos h1]
  · rw [if_neg h1]
    by_cases h2 : i ≤ j
    · rw [if_pos h2, if_neg h1, if_pos (by omega)]
    · rw [if_neg h2, if_neg (by omega), if_neg (by omega)]
      congr 2
      omega
theorem up_cut {j : Nat} (hj : j < n) (i : Nat) : upA c o (cutB B j) (n - 1) i = if i < j then upA c o B n i else upA c o B n (i + 1) := by
  unfold upA cutB
  by_cases h1 : i < n - 1
  · rw [if_pos h1]
    by_cases h2 : i < j
    · rw [if_pos h2, if_pos h2, if_pos (by omega)]
    · rw [if_neg h2, if_neg h2, if_pos (by omega)]
  · rw [if_neg h1, if_neg (by omega), if_neg (by omega)]
theorem pd_cut {j : Nat} (hj : j < n) (i : Nat) : ptD (n - 1) (cutB B j) i = if i < j then ptD n B i else ptD n B (i + 1) := by
  unfold ptD cutB
  by_cases h1 : i < n - 1
  · rw [if_pos h1]
    by_cases h2 : i < j
    · rw [if_pos h2, if_pos h2, if_pos (by omega)]
    · rw [if_neg h2, if_neg h2, if_pos (by omega)]
  · rw [if_neg h1, if_neg (by omega), if_neg (by omega)]
theorem pu_cut {j : Nat} (i : Nat) : ptU (cutB B j) i = if i ≤ j then ptU B i else ptU B (i + 1) := by
  unfold ptU cutB
  by_cases h1 : i = 0
  · rw [if_pos h1, if_pos (by omega), if_pos h1]
  · rw [if_neg h1]
    by_cases h2 : i ≤ j
    · rw [if_pos h2, if_neg h1, if_pos (by omega)]
    · rw [if_neg h2, if_neg (by omega), if_neg (by omega)]
      congr 3
      omega
/-- Element j is taken out. -/
theorem Dl.cut (h : Dl w c o n B) {j : Nat} (hj : j < n) : Dl ((w.setCell (dnA c o B j) (ptD n B (j + 1))).setCell (upA c o B n (j + 1)) (ptU B j)) c o (n - 1) (cutB B j) := by
  have hd := h.dn j (by omega)
  have hu := h.up (j + 1) (by omega)
  refine ⟨?_, ?_, ?_, ?_, ?_, ?_⟩
  · intro i hi
    rw [dn_cut, pd_cut hj]
    by_cases h1 : i < j
    · rw [if_pos (by omega), if_pos h1, World.cell?_setCell_other _ _ _ _ (Ne.symm (h.du_ne (by omega) (by omega))), World.cell?_setCell_other _ _ _ _ (h.dn_ne (by omega) (by omega) (by omega))]
      exact h.dn i (by omega)
    · rw [if_neg h1]
      by_cases h2 : i = j
      · subst h2
        rw [if_pos (by omega), World.cell?_setCell_other _ _ _ _ (Ne.symm (h.du_ne (by omega) (by omega)))]
        exact World.cell?_setCell_same _ _ _ hd
      · rw [if_neg (by omega), World.cell?_setCell_other _ _ _ _ (Ne.symm (h.du_ne (by omega) (by omega))), World.cell?_setCell_other _ _ _ _ (h.dn_ne (by omega) (by omega) (by omega))]
        exact h.dn (i + 1) (by omega)
  · intro i hi
    rw [up_cut hj, pu_cut]
    by_cases h1 : i < j
    · rw [if_pos h1, if_pos (by omega), World.cell?_setCell_other _ _ _ _ (h.up_ne (by omega) (by omega) (by omega)), World.cell?_setCell_other _ _ _ _ (h.du_ne (by omega) (by omega))]
      exact h.up i (by omega)
    · rw [if_neg h1]
      by_cases h2 : i = j
      · subst h2
        rw [if_pos (by omega)]
        refine World.cell?_setCell_same _ _ _ (u := ptU B (i + 1)) ?_
        rw [World.cell?_setCell_other _ _ _ _ (h.du_ne (by omega) (by omega))]
        exact hu
      · rw [if_neg (by omega), World.cell?_setCell_other _ _ _ _ (h.up_ne (by omega) (by omega) (by omega)), World.cell?_setCell_other _ _ _ _ (h.du_ne (by omega) (by omega))]
        exact h.up (i + 1) (by omega)
  · intro i hi
    rw [World.frozen?_setCell, World.frozen?_setCell, dn_cut]
    split
    · exact h.zn i (by omega)
    · exact h.zn (i + 1) (by omega)
  · intro i hi
    rw [World.frozen?_setCell, World.frozen?_setCell, up_cut hj]
    split
    · exact h.zp i (by omega)
    · exact h.zp (i + 1) (by omega)
  · intro i i' hi hi' e
    unfold cutB at e
    by_cases h1 : i < j <;> by_cases h2 : i' < j
    · rw [if_pos h1, if_pos h2] at e; exact h.inj _ _ (by omega) (by omega) e
    · rw [if_pos h1, if_neg h2] at e; have := h.inj _ _ (by omega) (by omega) e; omega
    · rw [if_neg h1, if_pos h2] at e; have := h.inj _ _ (by omega) (by omega) e; omega
    · rw [if_neg h1, if_neg h2] at e; have := h.inj _ _ (by omega) (by omega) e; omega
  · intro i hi
    unfold cutB
    split
    · exact h.nc _ (by omega)
    · exact h.nc _ (by omega)
theorem Dl.mv {S : Nat → Prop} {w' : World} (h : Dl w c o n B) (hm : Mv S w w') (hc : ¬ S c) (hB : ∀ i, i < n → ¬ S (B i)) : Dl w' c o n B := by
  have b1 : ∀ i, i ≤ n → ¬ S (dnA c o B i).block := by
    intro i hi
    unfold dnA
    split
    · exact hc
    · exact hB _ (by omega)
  have b2 : ∀ i, i ≤ n → ¬ S (upA c o B n i).block := by
    intro i hi
    unfold upA
    split
    · exact hB _ (by omega)
    · exact hc
  refine ⟨fun i hi => hm.cell (h.dn i hi) (b1 i hi), fun i hi => hm.cell (h.up i hi) (b2 i hi), ?_, ?_, h.inj, h.nc⟩
  · intro i hi
    rw [hm.frozen (World.block_lt_of_cell? _ _ (h.dn i hi)) (b1 i hi)]; exact h.zn i hi
  · intro i hi
    rw [hm.frozen (World.block_lt_of_cell? _ _ (h.up i hi)) (b2 i hi)]; exact h.zp i hi
/-- A node is laid at the head. -/
theorem Dl.push (h : Dl w c o n B) {b : Nat} (hb : ∀ i, i < n → B i ≠ b) (hbc : b ≠ c) {v2 v3 : Value} (u2 : w.cell? ⟨b, o, none⟩ = some v2) (z2 : w.frozen? ⟨b, o, none⟩ = false) (u3 : w.cell? ⟨b, o + 1, none⟩ = some v3) (z3 : w.frozen? ⟨b, o + 1, none⟩ = false) :
    Dl ((((w.setCell ⟨b, o, none⟩ (pt none)).setCell ⟨b, o + 1, none⟩ (ptD n B 0)).setCell (upA c o B n 0) (pt (some b))).setCell ⟨c, 2, none⟩ (pt (some b))) c o (n + 1) (putB B b) := by
  have hD0 : dnA c o B 0 = ⟨c, 2, none⟩ := by unfold dnA; rw [if_pos rfl]
  have e1 : ∀ i, dnA c o (putB B b) i = if i = 0 then ⟨c, 2, none⟩ else if i = 1 then ⟨b, o + 1, none⟩ else dnA c o B (i - 1) := by
    intro i
    unfold dnA putB
    by_cases h0 : i = 0
    · rw [if_pos h0, if_pos h0]
    · rw [if_neg h0, if_neg h0]
      by_cases h1 : i = 1
      · subst h1; rfl
      · rw [if_neg h1, if_neg (by omega), if_neg (by omega)]
  have e2 : ∀ i, upA c o (putB B b) (n + 1) i = if i = 0 then ⟨b, o, none⟩ else upA c o B n (i - 1) := by
    intro i
    unfold upA putB
    by_cases h0 : i = 0
    · subst h0; rw [if_pos (by omega), if_pos rfl, if_pos rfl]
    · by_cases h1 : i < n + 1
      · rw [if_pos h1, if_neg h0, if_neg h0, if_pos (by omega)]
      · rw [if_neg h1, if_neg h0, if_neg (by omega)]
  have e3 : ∀ i, ptD (n + 1) (putB B b) i = if i = 0 then pt (some b) else ptD n B (i - 1) := by
    intro i
    unfold ptD putB
    by_cases h0 : i = 0
    · subst h0; rw [if_pos (by omega), if_pos rfl, if_pos rfl]
    · by_cases h1 : i < n + 1
      · rw [if_pos h1, if_neg h0, if_neg h0, if_pos (by omega)]
      · rw [if_neg h1, if_neg h0, if_neg (by omega)]
  have e4 : ∀ i, ptU (putB B b) i = if i = 0 then pt none else if i = 1 then pt (some b) else ptU B (i - 1) := by
    intro i
    unfold ptU putB
    by_cases h0 : i = 0
    · rw [if_pos h0, if_pos h0]
    · rw [if_neg h0, if_neg h0]
      by_cases h1 : i = 1
      · subst h1; rfl
      · rw [if_neg h1, if_neg (by omega), if_neg (by omega)]
  have blk : ∀ i x, i ≤ n → dnA c o B i ≠ ⟨b, x, none⟩ := by
    intro i x hi
    unfold dnA
    split
    · exact addr_ne (fun e => (hbc e.symm).elim)
    · exact addr_ne (fun e => (hb _ (by omega) e).elim)
  have blu : ∀ i x, i ≤ n → upA c o B n i ≠ ⟨b, x, none⟩ := by
    intro i x hi
    unfold upA
    split
    · exact addr_ne (fun e => (hb _ (by omega) e).elim)
    · exact addr_ne (fun e => (hbc e.symm).elim)
  have bc : ∀ x, (⟨b, x, none⟩ : Addr) ≠ ⟨c, 2, none⟩ := fun x => addr_ne (fun e => (hbc e).elim)
  have uc : ∀ i, i ≤ n → upA c o B n i ≠ ⟨c, 2, none⟩ := by
    intro i hi
    rw [← hD0]; exact Ne.symm (h.du_ne (by omega) hi)
  have dc : ∀ i, 0 < i → i ≤ n → dnA c o B i ≠ ⟨c, 2, none⟩ := by
    intro i h0 hi
    rw [← hD0]; exact h.dn_ne hi (by omega) (by omega)
  refine ⟨?_, ?_, ?_, ?_, ?_, ?_⟩
  · intro i hi
    rw [e1, e3]
    by_cases h0 : i = 0
    · rw [if_pos h0, if_pos h0]
      refine World.cell?_setCell_same _ _ _ (u := ptD n B 0) ?_
      rw [World.cell?_setCell_other _ _ _ _ (uc 0 (by omega)), World.cell?_setCell_other _ _ _ _ (bc _), World.cell?_setCell_other _ _ _ _ (bc _), ← hD0]
      exact h.dn 0 (by omega)
    · rw [if_neg h0, if_neg h0]
      by_cases h1 : i = 1
      · subst h1
        rw [if_pos rfl, World.cell?_setCell_other _ _ _ _ (Ne.symm (bc _)), World.cell?_setCell_other _ _ _ _ (blu 0 _ (by omega))]
        refine World.cell?_setCell_same _ _ _ (u := v3) ?_
        rw [World.cell?_setCell_other _ _ _ _ (addr_ne (fun _ => by omega))]
        exact u3
      · rw [if_neg h1, World.cell?_setCell_other _ _ _ _ (Ne.symm (dc _ (by omega) (by omega))), World.cell?_setCell_other _ _ _ _ (Ne.symm (h.du_ne (by omega) (by omega))), World.cell?_setCell_other _ _ _ _ (Ne.symm (blk _ _ (by omega))), World.cell?_setCell_other _ _ _ _ (Ne.symm (blk _ _ (by omega)))]
        exact h.dn (i - 1) (by omega)
  · intro i hi
    rw [e2, e4]
    by_cases h0 : i = 0
    · rw [if_pos h0, if_pos h0, World.cell?_setCell_other _ _ _ _ (Ne.symm (bc _)), World.cell?_setCell_other _ _ _ _ (blu 0 _ (by omega)), World.cell?_setCell_other _ _ _ _ (addr_ne (fun _ => by omega))]
      exact World.cell?_setCell_same _ _ _ u2
    · rw [if_neg h0, if_neg h0, World.cell?_setCell_other _ _ _ _ (Ne.symm (uc _ (by omega)))]
      by_cases h1 : i = 1
      · subst h1
        rw [if_pos rfl]
        refine World.cell?_setCell_same _ _ _ (u := ptU B 0) ?_
        rw [World.cell?_setCell_other _ _ _ _ (Ne.symm (blu _ _ (by omega))), World.cell?_setCell_other _ _ _ _ (Ne.symm (blu _ _ (by omega)))]
        exact h.up 0 (by omega)
      · rw [if_neg h1, World.cell?_setCell_other _ _ _ _ (h.up_ne (by omega) (by omega) (by omega)), World.cell?_setCell_other _ _ _ _ (Ne.symm (blu _ _ (by omega))), World.cell?_setCell_other _ _ _ _ (Ne.symm (blu _ _ (by omega)))]
        exact h.up (i - 1) (by omega)
  · intro i hi
    rw [World.frozen?_setCell, World.frozen?_setCell, World.frozen?_setCell, World.frozen?_setCell, e1]
    split
    · rw [← hD0]; exact h.zn 0 (by omega)
    · split
      · exact z3
      · exact h.zn _ (by omega)
  · intro i hi
    rw [World.frozen?_setCell, World.frozen?_setCell, World.frozen?_setCell, World.frozen?_setCell, e2]
    split
    · exact z2
    · exact h.zp _ (by omega)
  · intro i j hi hj e
    unfold putB at e
    by_cases h1 : i = 0 <;> by_cases h2 : j = 0
    · omega
    · rw [if_pos h1, if_neg h2] at e; exact (hb _ (by omega) e.symm).elim
    · rw [if_neg h1, if_pos h2] at e; exact (hb _ (by omega) e).elim
    · rw [if_neg h1, if_neg h2] at e; have := h.inj _ _ (by omega) (by omega) e; omega
  · intro i hi
    unfold putB
    split
    · exact hbc
    · exact h.nc _ (by omega)
end

end Go.Proofs.Ytjlnmkoggobbgaa
