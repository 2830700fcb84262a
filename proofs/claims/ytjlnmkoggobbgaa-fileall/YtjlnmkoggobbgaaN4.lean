/- A cache by what it holds. -/
import Derived.Test.YtjlnmkoggobbgaaN3
namespace Go.Proofs.Ytjlnmkoggobbgaa
open Go.RowKit

abbrev Kw := Int × (Nat → Value)
def sfnd (S : List Kw) (k : Int) : Option Kw := S.find? (fun p => decide (p.1 = k))
def sdel (S : List Kw) (k : Int) : List Kw := S.filter (fun p => decide (p.1 ≠ k))
def kw (x : Nd) : Kw := (x.k, x.v)

theorem sfnd_map (L : List Nd) (k : Int) : sfnd (L.map kw) k = (fnd L k).map kw := by
  unfold sfnd fnd
  rw [List.find?_map]
  rfl
theorem sdel_map (L : List Nd) (k : Int) : sdel (L.map kw) k = (del L k).map kw := by
  unfold sdel del
  rw [List.filter_map]
  rfl

/-- One value is another. -/
def setv (L : List Nd) (k : Int) (v : Nat → Value) : List Nd := L.map (fun y => if y.k = k then ⟨y.b, y.k, v⟩ else y)
theorem setv_b (k : Int) (v : Nat → Value) (y : Nd) : (if y.k = k then (⟨y.b, y.k, v⟩ : Nd) else y).b = y.b := by split <;> rfl
theorem setv_k (k : Int) (v : Nat → Value) (y : Nd) : (if y.k = k then (⟨y.b, y.k, v⟩ : Nd) else y).k = y.k := by split <;> rfl
theorem setv_length (L : List Nd) (k : Int) (v : Nat → Value) : (setv L k v).length = L.length := by simp [setv]
theorem setv_keys (L : List Nd) (k : Int) (v : Nat → Value) : (setv L k v).map Nd.k = L.map Nd.k := by
  unfold setv
  rw [List.map_map]
  apply List.map_congr_left
  intro y _
  exact setv_k k v y
theorem setv_bl (L : List Nd) (k : Int) (v : Nat → Value) : bl (setv L k v) = bl L := by
  funext i
  unfold bl setv
  rw [List.getD_eq_getElem?_getD, List.getD_eq_getElem?_getD, List.getElem?_map]
  cases h : L[i]? with
  | none => rfl
  | some y => exact setv_b k v y
theorem setv_mem {L : List Nd} {k : Int} {v : Nat → Value} {z : Nd} (h : z ∈ setv L k v) : ∃ y, y ∈ L ∧ z = if y.k = k then ⟨y.b, y.k, v⟩ else y := by
  obtain ⟨y, hy, e⟩ := List.mem_map.1 h
  exact ⟨y, hy, e.symm⟩
theorem setv_fnd (L : List Nd) (k : Int) (v : Nat → Value) (i : Int) : (fnd (setv L k v) i).map Nd.b = (fnd L i).map Nd.b := by
  induction L with
  | nil => rfl
  | cons y r ih =>
    show (fnd ((if y.k = k then (⟨y.b, y.k, v⟩ : Nd) else y) :: setv r k v) i).map Nd.b = _
    rw [fnd_cons, fnd_cons, setv_k]
    split
    · exact congrArg some (setv_b k v y)
    · exact ih
theorem setv_del (L : List Nd) (k : Int) (v : Nat → Value) : del (setv L k v) k = del L k := by
  induction L with
  | nil => rfl
  | cons y r ih =>
    show del ((if y.k = k then (⟨y.b, y.k, v⟩ : Nd) else y) :: setv r k v) k = _
    rw [del_cons, del_cons, setv_k, ih]
    by_cases h : y.k = k
    · rw [if_pos h, if_pos h]
    · rw [if_neg h, if_neg h, if_neg h]
theorem setv_at {L : List Nd} {x : Nd} (hx : x ∈ L) (v : Nat → Value) : (⟨x.b, x.k, v⟩ : Nd) ∈ setv L x.k v := by
  have := List.mem_map_of_mem (f := fun y : Nd => if y.k = x.k then (⟨y.b, y.k, v⟩ : Nd) else y) hx
  simpa [setv] using this
theorem setv_twice (L : List Nd) (k : Int) (v u : Nat → Value) : setv (setv L k v) k u = setv L k u := by
  unfold setv
  rw [List.map_map]
  apply List.map_congr_left
  intro y _
  show (if (if y.k = k then (⟨y.b, y.k, v⟩ : Nd) else y).k = k then _ else _) = _
  rw [setv_k, setv_b]
  by_cases h : y.k = k
  · rw [if_pos h, if_pos h]
  · rw [if_neg h, if_neg h, if_neg h]

theorem nodup_eq {L : List Nd} (hn : (L.map Nd.k).Nodup) {x y : Nd} (hx : x ∈ L) (hy : y ∈ L) (e : x.k = y.k) : x = y := by
  have h1 := fnd_mem hn hx
  have h2 := fnd_mem hn hy
  rw [e, h2] at h1
  exact (Option.some.inj h1).symm
section
variable {w : World} {c o : Nat} {mo : Int} {M : Option Nat} {L : List Nd} {X : Nat → Prop}
theorem Ca.blk_ne (h : Ca w c o mo M L X) {x y : Nd} (hx : x ∈ L) (hy : y ∈ L) (e : x.b = y.b) : x = y := by
  obtain ⟨i, hi⟩ := List.getElem?_of_mem hx
  obtain ⟨j, hj⟩ := List.getElem?_of_mem hy
  have e3 := h.li.dl.inj i j (List.getElem?_eq_some_iff.1 hi).1 (List.getElem?_eq_some_iff.1 hj).1 (by rw [bl_of hi, bl_of hj]; exact e)
  subst e3
  rw [hi] at hj
  exact Option.some.inj hj
/-- One cell of a value is set. -/
theorem Ca.setv (h : Ca w c o mo M L X) {x : Nd} (hx : x ∈ L) {j : Nat} (hj : j < o - 1) (u : Value) :
    Ca (w.setCell ⟨x.b, 1 + j, none⟩ u) c o mo M (setv L x.k (fun i => if i = j then u else x.v i)) X ∧ Mv (fun k => ¬ X k) w (w.setCell ⟨x.b, 1 + j, none⟩ u) := by
  have hm := Mv.setCell w ⟨x.b, 1 + j, none⟩ u
  have hc := h.li.ne_c hx
  have ho := h.li.o2
  have cc : ∀ i, (⟨x.b, 1 + j, none⟩ : Addr) ≠ ⟨c, i, none⟩ := fun i => addr_ne (fun e => (hc e).elim)
  refine ⟨⟨⟨?_, ?_, ?_, ?_, ?_, ho⟩, ?_, ?_, ?_, ?_, h.ac, ?_, h.am⟩, hm.mono (fun k _ e => ?_)⟩
  · rw [World.cell?_setCell_other _ _ _ _ (cc _)]; exact h.li.cm
  · rw [World.cell?_setCell_other _ _ _ _ (cc _)]; exact h.li.ck
  · rw [World.frozen?_setCell]; exact h.li.z1
  · rw [setv_length, setv_bl]
    have a1 : ∀ i, (⟨x.b, 1 + j, none⟩ : Addr) ≠ dnA c o (bl L) i := by
      intro i
      unfold dnA
      split
      · exact cc _
      · exact addr_ne (fun _ => by omega)
    have a2 : ∀ i, (⟨x.b, 1 + j, none⟩ : Addr) ≠ upA c o (bl L) L.length i := by
      intro i
      unfold upA
      split
      · exact addr_ne (fun _ => by omega)
      · exact cc _
    refine ⟨fun i hi => ?_, fun i hi => ?_, fun i hi => ?_, fun i hi => ?_, h.li.dl.inj, h.li.dl.nc⟩
    · rw [World.cell?_setCell_other _ _ _ _ (a1 i)]; exact h.li.dl.dn i hi
    · rw [World.cell?_setCell_other _ _ _ _ (a2 i)]; exact h.li.dl.up i hi
    · rw [World.frozen?_setCell]; exact h.li.dl.zn i hi
    · rw [World.frozen?_setCell]; exact h.li.dl.zp i hi
  · intro z hz
    obtain ⟨y, hy, rfl⟩ := setv_mem hz
    by_cases e : y.k = x.k
    · rw [if_pos e]
      obtain rfl := nodup_eq h.ks hy hx e
      have hk := h.li.kv y hy
      refine ⟨?_, ?_, ?_⟩
      · rw [World.cell?_setCell_other _ _ _ _ (addr_ne (fun _ => by omega))]; exact hk.key
      · intro i hi
        dsimp only
        by_cases hij : i = j
        · subst hij
          rw [if_pos rfl]
          exact World.cell?_setCell_same _ _ _ (hk.val i hi)
        · rw [if_neg hij, World.cell?_setCell_other _ _ _ _ (addr_ne (fun _ => by omega))]
          exact hk.val i hi
      · intro i hi
        rw [World.frozen?_setCell]; exact hk.zv i hi
    · rw [if_neg e]
      exact (h.li.kv y hy).mv hm (fun hb => e (by rw [h.blk_ne hy hx hb]))
  · rw [setv_keys]; exact h.ks
  · intro z hz
    obtain ⟨y, hy, rfl⟩ := setv_mem hz
    rw [setv_k]; exact h.fit y hy
  · intro e; rw [h.mp0 e]; rfl
  · intro m e
    rw [setv_length]
    have hxm := (h.mp1 m e).noCell (h.li.kv x hx).key
    refine ((h.mp1 m e).mv hm (fun e => hxm e.symm)).congr ?_
    intro k
    rw [setv_fnd]
  · intro z hz
    obtain ⟨y, hy, rfl⟩ := setv_mem hz
    rw [setv_b]; exact h.an y hy
  · have e' : k = x.b := e
    rw [e']; exact h.an x hx
end

/-- A cache at c: what it holds, who was used last first. -/
def Ch (w : World) (c o : Nat) (mo : Int) (S : List Kw) (X : Nat → Prop) : Prop := ∃ M L, Ca w c o mo M L X ∧ S = L.map kw

section
variable {w : World} {c o : Nat} {mo : Int} {S : List Kw} {X : Nat → Prop}
theorem Ch.mv {T : Nat → Prop} {w' : World} (h : Ch w c o mo S X) (hm : Mv T w w') (hs : ∀ j, T j → X j) : Ch w' c o mo S (fun j => X j ∨ w.heap.size ≤ j) := by
  obtain ⟨M, L, h, e⟩ := h
  exact ⟨M, L, h.mv hm hs, e⟩
theorem Ch.mono (h : Ch w c o mo S X) {Y : Nat → Prop} (hy : ∀ j, Y j → X j) : Ch w c o mo S Y := by
  obtain ⟨M, L, h, e⟩ := h
  exact ⟨M, L, h.mono hy, e⟩
theorem Ch.nodup (h : Ch w c o mo S X) : (S.map Prod.fst).Nodup := by
  obtain ⟨M, L, h, rfl⟩ := h
  have := h.ks
  rw [List.map_map]
  exact this
theorem Ch.lt (h : Ch w c o mo S X) : c < w.heap.size ∧ ¬ X c := by
  obtain ⟨M, L, h, rfl⟩ := h
  exact ⟨h.lt_c, h.ac⟩
end

theorem drop_last {L : List Nd} (hn : (L.map Nd.k).Nodup) {y : Nd} (hy : L.getLast? = some y) : del L y.k = L.dropLast := by
  have e1 : L[L.length - 1]? = some y := by rw [← hy, List.getLast?_eq_getElem?]
  rw [← erase_del hn e1]
  exact List.eraseIdx_length_sub_one

/-- What Put tells, and what it leaves. -/
def pOk (mo : Int) (S : List Kw) (k : Int) : Bool := decide (((sdel S k).length : Int) + 1 ≤ max mo 1)
def pS (mo : Int) (S : List Kw) (k : Int) (v : Nat → Value) : List Kw := if pOk mo S k then (k, v) :: sdel S k else ((k, v) :: sdel S k).dropLast
def pG (mo : Int) (S : List Kw) (k : Int) (v : Nat → Value) : Int := if pOk mo S k then 0 else ((((k, v) :: sdel S k).getLast?).map Prod.fst).getD 0

theorem len_zero_row {w : World} {base g n : Nat} {e : TypeId} {V U : Nat → Value} (h : Own w base e (.slice (some ⟨g, 0, none⟩) n n) n V) : Own w base e (.slice (some ⟨g, 0, none⟩) 0 n) 0 U := by
  unfold Own at *
  refine ⟨rfl, .inr ?_⟩
  rcases h.2 with ⟨e, _⟩ | ⟨g', cap, cur, e, hb, hg, hnc, hcm, hcs, htake⟩
  · cases e
  · cases e
    exact ⟨g, n, cur, rfl, hb, hg, by omega, hcm, hcs, by simp [row]⟩

end Go.Proofs.Ytjlnmkoggobbgaa
