/- The nodes of a cache, and what is in them. -/
import Derived.Test.YtjlnmkoggobbgaaN1
namespace Go.Proofs.Ytjlnmkoggobbgaa
open Go.RowKit

structure Nd where
  b : Nat
  k : Int
  v : Nat → Value
def nd0 : Nd := ⟨0, 0, fun _ => .pointer none⟩
def bl (L : List Nd) (i : Nat) : Nat := (L.getD i nd0).b

theorem bl_mem {L : List Nd} {i : Nat} (h : i < L.length) : ∃ x, L[i]? = some x ∧ bl L i = x.b ∧ x ∈ L := by
  refine ⟨L[i], List.getElem?_eq_getElem h, ?_, List.getElem_mem h⟩
  simp [bl, List.getD_eq_getElem?_getD, List.getElem?_eq_getElem h]
theorem bl_of {L : List Nd} {i : Nat} {x : Nd} (h : L[i]? = some x) : bl L i = x.b := by
  simp [bl, List.getD_eq_getElem?_getD, h]
theorem bl_cut (L : List Nd) (j : Nat) : bl (L.eraseIdx j) = cutB (bl L) j := by
  funext i
  unfold bl cutB
  rw [List.getD_eq_getElem?_getD, List.getElem?_eraseIdx]
  split
  · simp [List.getD_eq_getElem?_getD]
  · simp [List.getD_eq_getElem?_getD]
theorem bl_put (L : List Nd) (x : Nd) : bl (x :: L) = putB (bl L) x.b := by
  funext i
  unfold bl putB
  cases i with
  | zero => simp
  | succ i => simp

/-- What a node holds. -/
structure Kv (w : World) (o : Nat) (x : Nd) : Prop where
  key : w.cell? ⟨x.b, 0, none⟩ = some (.int .i64 x.k)
  val : ∀ j, j < o - 1 → w.cell? ⟨x.b, 1 + j, none⟩ = some (x.v j)
  zv : ∀ j, j < o - 1 → w.frozen? ⟨x.b, 1 + j, none⟩ = false

/-- .. with its two ways, wherever they lead. -/
structure Nc (w : World) (o : Nat) (x : Nd) : Prop where
  kv : Kv w o x
  n2 : ∃ v, w.cell? ⟨x.b, o, none⟩ = some v
  n3 : ∃ v, w.cell? ⟨x.b, o + 1, none⟩ = some v
  z2 : w.frozen? ⟨x.b, o, none⟩ = false
  z3 : w.frozen? ⟨x.b, o + 1, none⟩ = false

theorem Kv.mv {S : Nat → Prop} {w w' : World} {o : Nat} {x : Nd} (h : Kv w o x) (hm : Mv S w w') (hx : ¬ S x.b) : Kv w' o x :=
  ⟨hm.cell h.key hx, fun j hj => hm.cell (h.val j hj) hx, fun j hj => (hm.frozen (p := ⟨x.b, 1 + j, none⟩) (World.block_lt_of_cell? _ _ (h.val j hj)) hx).trans (h.zv j hj)⟩
theorem Kv.set {w : World} {o : Nat} {x : Nd} (h : Kv w o x) (p : Addr) (u : Value) (hp : p.block = x.b → o ≤ p.off) (ho : 2 ≤ o) : Kv (w.setCell p u) o x := by
  have hne : ∀ j, j < o → p ≠ ⟨x.b, j, none⟩ := by
    intro j hj e
    have := hp (by rw [e])
    rw [e] at this
    simp at this
    omega
  refine ⟨?_, fun j hj => ?_, fun j hj => ?_⟩
  · rw [World.cell?_setCell_other _ _ _ _ (hne 0 (by omega))]; exact h.key
  · rw [World.cell?_setCell_other _ _ _ _ (hne (1 + j) (by omega))]; exact h.val j hj
  · rw [World.frozen?_setCell]; exact h.zv j hj
theorem set_some {w : World} {p q : Addr} {u : Value} (h : ∃ v, w.cell? q = some v) : ∃ v, (w.setCell p u).cell? q = some v := by
  obtain ⟨v, hv⟩ := h
  by_cases e : p = q
  · subst e; exact ⟨u, World.cell?_setCell_same _ _ _ hv⟩
  · exact ⟨v, by rw [World.cell?_setCell_other _ _ _ _ e]; exact hv⟩
theorem Nc.set {w : World} {o : Nat} {x : Nd} (h : Nc w o x) (p : Addr) (u : Value) (hp : p.block = x.b → o ≤ p.off) (ho : 2 ≤ o) : Nc (w.setCell p u) o x :=
  ⟨h.kv.set p u hp ho, set_some h.n2, set_some h.n3, by rw [World.frozen?_setCell]; exact h.z2, by rw [World.frozen?_setCell]; exact h.z3⟩
theorem Nc.mv {S : Nat → Prop} {w w' : World} {o : Nat} {x : Nd} (h : Nc w o x) (hm : Mv S w w') (hx : ¬ S x.b) : Nc w' o x := by
  obtain ⟨v2, h2⟩ := h.n2
  obtain ⟨v3, h3⟩ := h.n3
  exact ⟨h.kv.mv hm hx, ⟨v2, hm.cell h2 hx⟩, ⟨v3, hm.cell h3 hx⟩, (hm.frozen (p := ⟨x.b, o, none⟩) (World.block_lt_of_cell? _ _ h2) hx).trans h.z2, (hm.frozen (p := ⟨x.b, o + 1, none⟩) (World.block_lt_of_cell? _ _ h3) hx).trans h.z3⟩

/-- A cache's own block and its nodes. -/
structure Li (w : World) (c o : Nat) (mo : Int) (M : Option Nat) (L : List Nd) : Prop where
  cm : w.cell? ⟨c, 0, none⟩ = some (.int .i64 mo)
  ck : w.cell? ⟨c, 1, none⟩ = some (.map M)
  z1 : w.frozen? ⟨c, 1, none⟩ = false
  dl : Dl w c o L.length (bl L)
  kv : ∀ x, x ∈ L → Kv w o x
  o2 : 2 ≤ o

section
variable {w : World} {c o : Nat} {mo : Int} {M : Option Nat} {L : List Nd}
theorem Li.mv {S : Nat → Prop} {w' : World} (h : Li w c o mo M L) (hm : Mv S w w') (hc : ¬ S c) (hB : ∀ x, x ∈ L → ¬ S x.b) : Li w' c o mo M L := by
  refine ⟨hm.cell h.cm hc, hm.cell h.ck hc, (hm.frozen (p := ⟨c, 1, none⟩) (World.block_lt_of_cell? _ _ h.ck) hc).trans h.z1, h.dl.mv hm hc ?_, fun x hx => (h.kv x hx).mv hm (hB x hx), h.o2⟩
  intro i hi
  obtain ⟨x, _, e, hx⟩ := bl_mem hi
  rw [e]; exact hB x hx
theorem Li.ne_c (h : Li w c o mo M L) {x : Nd} (hx : x ∈ L) : x.b ≠ c := by
  obtain ⟨i, hi, e⟩ := List.getElem_of_mem hx
  have := h.dl.nc i hi
  rw [bl_of (x := x) (by rw [List.getElem?_eq_getElem hi, e])] at this
  exact this
theorem Li.nc (h : Li w c o mo M L) {j : Nat} {x : Nd} (hx : L[j]? = some x) : Nc w o x := by
  obtain ⟨hj, e⟩ := List.getElem?_eq_some_iff.1 hx
  have hm : x ∈ L := e ▸ List.getElem_mem hj
  have hb := bl_of hx
  have e2 : upA c o (bl L) L.length j = ⟨x.b, o, none⟩ := by unfold upA; rw [if_pos hj, hb]
  have e3 : dnA c o (bl L) (j + 1) = ⟨x.b, o + 1, none⟩ := by unfold dnA; rw [if_neg (by omega), Nat.add_sub_cancel, hb]
  refine ⟨h.kv x hm, ⟨_, e2 ▸ h.dl.up j (by omega)⟩, ⟨_, e3 ▸ h.dl.dn (j + 1) (by omega)⟩, e2 ▸ h.dl.zp j (by omega), e3 ▸ h.dl.zn (j + 1) (by omega)⟩
theorem upA_off {c o : Nat} {B : Nat → Nat} {n i b : Nat} (hn : b ≠ c) : (upA c o B n i).block = b → o ≤ (upA c o B n i).off := by
  unfold upA
  split
  · exact fun _ => Nat.le_refl _
  · exact fun h => (hn h.symm).elim
theorem dnA_off {c o : Nat} {B : Nat → Nat} {i b : Nat} (hn : b ≠ c) : (dnA c o B i).block = b → o ≤ (dnA c o B i).off := by
  unfold dnA
  split
  · exact fun h => (hn h.symm).elim
  · exact fun _ => Nat.le_succ _
theorem upA_c {c o : Nat} {B : Nat → Nat} {n i k : Nat} (hB : ∀ i, i < n → B i ≠ c) (hk : k < 2) : upA c o B n i ≠ ⟨c, k, none⟩ := by
  unfold upA
  split
  · exact addr_ne (fun e => (hB i (by assumption) e).elim)
  · exact addr_ne (fun _ => by omega)
theorem dnA_c {c o : Nat} {B : Nat → Nat} {n i k : Nat} (hB : ∀ i, i < n → B i ≠ c) (hi : i ≤ n) (hk : k < 2) : dnA c o B i ≠ ⟨c, k, none⟩ := by
  unfold dnA
  split
  · exact addr_ne (fun _ => by omega)
  · exact addr_ne (fun e => (hB (i - 1) (by omega) e).elim)
theorem upA_blk {c o : Nat} {i : Nat} : (upA c o (bl L) L.length i).block = c ∨ ∃ x, x ∈ L ∧ (upA c o (bl L) L.length i).block = x.b := by
  unfold upA
  split
  · obtain ⟨x, _, e, hx⟩ := bl_mem (L := L) (i := i) (by assumption)
    exact .inr ⟨x, hx, e⟩
  · exact .inl rfl
theorem dnA_blk {c o : Nat} {i : Nat} (hi : i ≤ L.length) : (dnA c o (bl L) i).block = c ∨ ∃ x, x ∈ L ∧ (dnA c o (bl L) i).block = x.b := by
  unfold dnA
  split
  · exact .inl rfl
  · obtain ⟨x, _, e, hx⟩ := bl_mem (L := L) (i := i - 1) (by omega)
    exact .inr ⟨x, hx, e⟩
/-- The blocks of a cache that may turn when a node comes or goes. -/
def Mine (c : Nat) (L : List Nd) (k : Nat) : Prop := k = c ∨ ∃ x, x ∈ L ∧ k = x.b
theorem Li.cut (h : Li w c o mo M L) {j : Nat} {x : Nd} (hx : L[j]? = some x) :
    Li ((w.setCell (dnA c o (bl L) j) (ptD L.length (bl L) (j + 1))).setCell (upA c o (bl L) L.length (j + 1)) (ptU (bl L) j)) c o mo M (L.eraseIdx j) ∧
    Nc ((w.setCell (dnA c o (bl L) j) (ptD L.length (bl L) (j + 1))).setCell (upA c o (bl L) L.length (j + 1)) (ptU (bl L) j)) o x ∧
    Mv (Mine c L) w ((w.setCell (dnA c o (bl L) j) (ptD L.length (bl L) (j + 1))).setCell (upA c o (bl L) L.length (j + 1)) (ptU (bl L) j)) := by
  obtain ⟨hj, e⟩ := List.getElem?_eq_some_iff.1 hx
  have hm : x ∈ L := e ▸ List.getElem_mem hj
  have hk : ∀ y, y ∈ L → Kv ((w.setCell (dnA c o (bl L) j) (ptD L.length (bl L) (j + 1))).setCell (upA c o (bl L) L.length (j + 1)) (ptU (bl L) j)) o y := fun y hy =>
    ((h.kv y hy).set _ _ (dnA_off (h.ne_c hy)) h.o2).set _ _ (upA_off (h.ne_c hy)) h.o2
  refine ⟨⟨?_, ?_, ?_, ?_, fun y hy => hk y (List.mem_of_mem_eraseIdx hy), h.o2⟩, ((h.nc hx).set _ _ (dnA_off (h.ne_c hm)) h.o2).set _ _ (upA_off (h.ne_c hm)) h.o2, ?_⟩
  · rw [World.cell?_setCell_other _ _ _ _ (upA_c h.dl.nc (by omega)), World.cell?_setCell_other _ _ _ _ (dnA_c h.dl.nc (by omega) (by omega))]; exact h.cm
  · rw [World.cell?_setCell_other _ _ _ _ (upA_c h.dl.nc (by omega)), World.cell?_setCell_other _ _ _ _ (dnA_c h.dl.nc (by omega) (by omega))]; exact h.ck
  · rw [World.frozen?_setCell, World.frozen?_setCell]; exact h.z1
  · rw [bl_cut, List.length_eraseIdx_of_lt hj]
    exact h.dl.cut hj
  · refine ((Mv.setCell w _ _).mono (T := Mine c L) ?_).trans ((Mv.setCell _ _ _).mono (T := Mine c L) ?_) (fun _ _ h => h)
    · rintro k _ rfl; exact dnA_blk (by omega)
    · rintro k _ rfl; exact upA_blk
theorem Li.push (h : Li w c o mo M L) {x : Nd} (hn : Nc w o x) (hx : ∀ y, y ∈ L → y.b ≠ x.b) (hc : x.b ≠ c) :
    Li ((((w.setCell ⟨x.b, o, none⟩ (pt none)).setCell ⟨x.b, o + 1, none⟩ (ptD L.length (bl L) 0)).setCell (upA c o (bl L) L.length 0) (pt (some x.b))).setCell ⟨c, 2, none⟩ (pt (some x.b))) c o mo M (x :: L) ∧
    Mv (Mine c (x :: L)) w ((((w.setCell ⟨x.b, o, none⟩ (pt none)).setCell ⟨x.b, o + 1, none⟩ (ptD L.length (bl L) 0)).setCell (upA c o (bl L) L.length 0) (pt (some x.b))).setCell ⟨c, 2, none⟩ (pt (some x.b))) := by
  have hB : ∀ i, i < L.length → bl L i ≠ x.b := by
    intro i hi
    obtain ⟨y, _, e, hy⟩ := bl_mem hi
    rw [e]; exact hx y hy
  obtain ⟨v2, h2⟩ := hn.n2
  obtain ⟨v3, h3⟩ := hn.n3
  have hne : ∀ k i, (⟨x.b, i, none⟩ : Addr) ≠ ⟨c, k, none⟩ := fun k i => addr_ne (fun e => (hc e).elim)
  refine ⟨⟨?_, ?_, ?_, ?_, ?_, h.o2⟩, ?_⟩
  · rw [World.cell?_setCell_other _ _ _ _ (addr_ne (fun _ => by omega)), World.cell?_setCell_other _ _ _ _ (upA_c h.dl.nc (by omega)), World.cell?_setCell_other _ _ _ _ (hne _ _), World.cell?_setCell_other _ _ _ _ (hne _ _)]; exact h.cm
  · rw [World.cell?_setCell_other _ _ _ _ (addr_ne (fun _ => by omega)), World.cell?_setCell_other _ _ _ _ (upA_c h.dl.nc (by omega)), World.cell?_setCell_other _ _ _ _ (hne _ _), World.cell?_setCell_other _ _ _ _ (hne _ _)]; exact h.ck
  · rw [World.frozen?_setCell, World.frozen?_setCell, World.frozen?_setCell, World.frozen?_setCell]; exact h.z1
  · rw [bl_put]
    exact h.dl.push hB hc h2 hn.z2 h3 hn.z3
  · intro y hy
    have hyc : y.b ≠ c := by
      rcases List.mem_cons.1 hy with rfl | hy
      · exact hc
      · exact h.ne_c hy
    have hk : Kv w o y := by
      rcases List.mem_cons.1 hy with rfl | hy
      · exact hn.kv
      · exact h.kv y hy
    exact (((hk.set _ _ (fun _ => Nat.le_refl _) h.o2).set _ _ (fun _ => Nat.le_succ _) h.o2).set _ _ (upA_off hyc) h.o2).set _ _ (fun e => (hyc e.symm).elim) h.o2
  · refine ((((Mv.setCell w _ _).mono (T := Mine c (x :: L)) ?_).trans ((Mv.setCell _ _ _).mono (T := Mine c (x :: L)) ?_) (fun _ _ h => h)).trans ((Mv.setCell _ _ _).mono (T := Mine c (x :: L)) ?_) (fun _ _ h => h)).trans ((Mv.setCell _ _ _).mono (T := Mine c (x :: L)) ?_) (fun _ _ h => h)
    · rintro k _ rfl; exact .inr ⟨x, List.mem_cons_self, rfl⟩
    · rintro k _ rfl; exact .inr ⟨x, List.mem_cons_self, rfl⟩
    · rintro k _ rfl
      rcases upA_blk (L := L) (c := c) (o := o) (i := 0) with h | ⟨y, hy, h⟩
      · exact .inl h
      · exact .inr ⟨y, List.mem_cons_of_mem _ hy, h⟩
    · rintro k _ rfl; exact .inl rfl
end

end Go.Proofs.Ytjlnmkoggobbgaa
