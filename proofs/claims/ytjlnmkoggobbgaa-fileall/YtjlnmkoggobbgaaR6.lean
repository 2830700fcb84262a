/- The cache that is a list: what Put tells. -/
import Derived.Test.YtjlnmkoggobbgaaR4
namespace Go.Proofs.Ytjlnmkoggobbgaa
open Go.RowKit

def tOk (mo : Int) (T : List Pr) (k : Int) : Bool := decide (((tdel T k).length : Int) + 1 ≤ max mo 1)
def tS (mo : Int) (T : List Pr) (k z : Int) : List Pr := if tOk mo T k then (k, z) :: tdel T k else ((k, z) :: tdel T k).dropLast
def tG (mo : Int) (T : List Pr) (k z : Int) : Int := if tOk mo T k then 0 else kT ((k, z) :: tdel T k) (tdel T k).length

theorem kT_drop {T : List Pr} {j : Nat} (hj : j < T.length - 1) : kT T.dropLast j = kT T j := by
  unfold kT
  rw [List.getElem?_dropLast, if_pos hj]
theorem vT_drop {T : List Pr} {j : Nat} (hj : j < T.length - 1) : vT T.dropLast j = vT T j := by
  unfold vT
  rw [List.getElem?_dropLast, if_pos hj]

/-- The last one goes. -/
theorem Rf.short {w : World} {r : Nat} {mo : Int} {T : List Pr} {ka : Option Addr} {kc : Nat} {va : Option Addr} {vc : Nat} (h : Rf w r mo T ka kc va vc) (hT : 0 < T.length) :
    Rf ((w.setCell ⟨r, 1, none⟩ (.slice ka (T.length - 1) kc)).setCell ⟨r, 2, none⟩ (.slice va (T.length - 1) vc)) r mo T.dropLast ka kc va vc ∧ Mv (fun j => j = r) w ((w.setCell ⟨r, 1, none⟩ (.slice ka (T.length - 1) kc)).setCell ⟨r, 2, none⟩ (.slice va (T.length - 1) vc)) := by
  have MS : Mv (fun j => j = r) w ((w.setCell ⟨r, 1, none⟩ (.slice ka (T.length - 1) kc)).setCell ⟨r, 2, none⟩ (.slice va (T.length - 1) vc)) := (Mv.setCell w ⟨r, 1, none⟩ _).trans (Mv.setCell _ ⟨r, 2, none⟩ _) (fun _ _ h => h)
  have len : T.dropLast.length = T.length - 1 := List.length_dropLast
  have ne1 : ∀ j, bk ka = some j → ¬ j = r := fun j hj e => h.dk (by rw [hj, e])
  have ne2 : ∀ j, bk va = some j → ¬ j = r := fun j hj e => h.dv (by rw [hj, e])
  refine ⟨⟨?_, ?_, ?_, ?_, ?_, ?_, ?_, ?_, ?_, ?_, ?_, h.dk, h.dv, fun j hj => Nat.lt_of_lt_of_le (h.bl.1 j hj) MS.size, fun j hj => Nat.lt_of_lt_of_le (h.bl.2 j hj) MS.size⟩, MS⟩
  · rw [World.cell?_setCell_other _ _ _ _ (addr_ne (fun _ => by omega)), World.cell?_setCell_other _ _ _ _ (addr_ne (fun _ => by omega))]; exact h.c0
  · rw [World.cell?_setCell_other _ _ _ _ (addr_ne (fun _ => by omega)), len]; exact World.cell?_setCell_same _ _ _ h.c1
  · rw [len]
    refine World.cell?_setCell_same _ _ _ (u := .slice va T.length vc) ?_
    rw [World.cell?_setCell_other _ _ _ _ (addr_ne (fun _ => by omega))]; exact h.c2
  · rw [World.frozen?_setCell, World.frozen?_setCell]; exact h.z1
  · rw [World.frozen?_setCell, World.frozen?_setCell]; exact h.z2
  · rw [len]
    have h1 : Sl w ka (T.length - 1) (In (kT T.dropLast)) := fun j hj => by
      obtain ⟨b, o, e, hb, hc⟩ := h.sk j (by omega)
      exact ⟨b, o, e, hb, by rw [hc]; unfold In; rw [kT_drop hj]⟩
    exact h1.mvb MS ne1
  · rw [len]
    have h1 : Sl w va (T.length - 1) (In (vT T.dropLast)) := fun j hj => by
      obtain ⟨b, o, e, hb, hc⟩ := h.sv j (by omega)
      exact ⟨b, o, e, hb, by rw [hc]; unfold In; rw [vT_drop hj]⟩
    exact h1.mvb MS ne2
  · intro e; have := (h.nk e).1; omega
  · intro e; have := (h.nv e).1; omega
  · rw [len]; have := h.lk; omega
  · rw [len]; have := h.lv; omega

theorem Left.comp {w w1 w2 : World} {r : Nat} {mo : Int} {T1 T2 : List Pr} {ka va ka1 va1 ka2 va2 : Option Addr} {kc1 vc1 kc2 vc2 : Nat} (h1 : Left w w1 r mo T1 ka va ka1 kc1 va1 vc1) (h2 : Left w1 w2 r mo T2 ka1 va1 ka2 kc2 va2 vc2) : Left w w2 r mo T2 ka va ka2 kc2 va2 vc2 := by
  obtain ⟨r1, m1, x1, y1⟩ := h1
  obtain ⟨r2, m2, x2, y2⟩ := h2
  refine ⟨r2, m1.trans m2 (fun _ _ h => h), fun j hj => ?_, fun j hj => ?_⟩
  · rcases x2 j hj with h | h
    · exact x1 j h
    · exact .inr (Nat.le_trans m1.size h)
  · rcases y2 j hj with h | h
    · exact y1 j h
    · exact .inr (Nat.le_trans m1.size h)
theorem Left.mv {w w1 w2 : World} {r : Nat} {mo : Int} {T1 : List Pr} {ka va ka1 va1 : Option Addr} {kc1 vc1 : Nat} (h1 : Left w w1 r mo T1 ka va ka1 kc1 va1 vc1) (hm : Mv (fun _ => False) w1 w2) : Left w w2 r mo T1 ka va ka1 kc1 va1 vc1 :=
  ⟨h1.1.mv hm (fun h => h) (fun _ _ h => h) (fun _ _ h => h), h1.2.1.trans hm (fun _ _ h => h.elim), h1.2.2.1, h1.2.2.2⟩

end Go.Proofs.Ytjlnmkoggobbgaa
