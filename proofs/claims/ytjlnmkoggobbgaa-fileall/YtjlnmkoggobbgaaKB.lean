/- The list's functions, by what a list is. -/
import Derived.Test.YtjlnmkoggobbgaaN2
import Derived.Test.YtjlnmkoggobbgaaLB
namespace Go.Proofs.Ytjlnmkoggobbgaa
open Go.RowKit

theorem blrem {w : World} {c : Nat} {mo : Int} {M : Option Nat} {L : List Nd} (h : Li w c 2 mo M L) {j : Nat} {x : Nd} (hx : L[j]? = some x) :
    Calls Try.prog 58 #[.pointer (some ⟨c, 2, none⟩), .pointer (some ⟨x.b, 0, none⟩)] w fun e w' => e = .returned (.tuple #[]) ∧ Hid (Li w' c 2 mo M (L.eraseIdx j) ∧ Nc w' 2 x ∧ Mv (Mine c L) w w') := by
  obtain ⟨hj, e⟩ := List.getElem?_eq_some_iff.1 hx
  have hm : x ∈ L := e ▸ List.getElem_mem hj
  have hb := bl_of hx
  have hnc := h.ne_c hm
  have H := h.cut hx
  have h2 := h.dl.up j (by omega)
  have h3 := h.dl.dn (j + 1) (by omega)
  have u2 := h.dl.dn j (by omega)
  have z2 := h.dl.zn j (by omega)
  have u3 := h.dl.up (j + 1) (by omega)
  have z3 := h.dl.zp (j + 1) (by omega)
  have e2 : upA c 2 (bl L) L.length j = ⟨x.b, 2, none⟩ := by unfold upA; rw [if_pos hj, hb]
  have e3 : dnA c 2 (bl L) (j + 1) = ⟨x.b, 3, none⟩ := by unfold dnA; rw [if_neg (by omega), Nat.add_sub_cancel, hb]
  rw [e2] at h2
  rw [e3] at h3
  have fin : ∀ w', Mv (fun _ => False) ((w.setCell (dnA c 2 (bl L) j) (ptD L.length (bl L) (j + 1))).setCell (upA c 2 (bl L) L.length (j + 1)) (ptU (bl L) j)) w' → Hid (Li w' c 2 mo M (L.eraseIdx j) ∧ Nc w' 2 x ∧ Mv (Mine c L) w w') := fun w' hw =>
    ⟨H.1.mv hw (fun h => h) (fun _ _ h => h), H.2.1.mv hw (fun h => h), H.2.2.trans hw (fun _ _ h => h.elim)⟩
  clear H
  by_cases j0 : j = 0
  · have d0 : dnA c 2 (bl L) j = ⟨c, 2, none⟩ := by unfold dnA; rw [if_pos j0]
    have p0 : ptU (bl L) j = .pointer none := by unfold ptU; rw [if_pos j0]; rfl
    rw [d0] at u2 z2 fin
    rw [p0] at h2 fin
    by_cases jn : j + 1 < L.length
    · have d1 : upA c 2 (bl L) L.length (j + 1) = ⟨bl L (j + 1), 2, none⟩ := by unfold upA; rw [if_pos jn]
      have p1 : ptD L.length (bl L) (j + 1) = .pointer (some ⟨bl L (j + 1), 0, none⟩) := by unfold ptD; rw [if_pos jn]; rfl
      rw [d1] at u3 z3 fin
      rw [p1] at h3 fin
      refine (bremove01 c x.b (bl L (j + 1)) w _ _ h2 h3 u2 z2 u3 z3 hnc ?_ ?_).mono ?_
      · intro e; rw [← hb] at e; have := h.dl.inj _ _ hj jn e; omega
      · exact Ne.symm (h.dl.nc _ jn)
      · rintro e w' ⟨rfl, hw⟩
        exact ⟨rfl, fin w' hw⟩
    · have d1 : upA c 2 (bl L) L.length (j + 1) = ⟨c, 3, none⟩ := by unfold upA; rw [if_neg jn]
      have p1 : ptD L.length (bl L) (j + 1) = .pointer none := by unfold ptD; rw [if_neg jn]; rfl
      rw [d1] at u3 z3 fin
      rw [p1] at h3 fin
      refine (bremove00 c x.b w _ _ h2 h3 u2 z2 u3 z3 hnc).mono ?_
      rintro e w' ⟨rfl, hw⟩
      exact ⟨rfl, fin w' hw⟩
  · have d0 : dnA c 2 (bl L) j = ⟨bl L (j - 1), 3, none⟩ := by unfold dnA; rw [if_neg j0]
    have p0 : ptU (bl L) j = .pointer (some ⟨bl L (j - 1), 0, none⟩) := by unfold ptU; rw [if_neg j0]; rfl
    rw [d0] at u2 z2 fin
    rw [p0] at h2 fin
    have k1 : x.b ≠ bl L (j - 1) := by
      intro e; rw [← hb] at e; have := h.dl.inj _ _ hj (by omega) e; omega
    have k2 : c ≠ bl L (j - 1) := Ne.symm (h.dl.nc _ (by omega))
    by_cases jn : j + 1 < L.length
    · have d1 : upA c 2 (bl L) L.length (j + 1) = ⟨bl L (j + 1), 2, none⟩ := by unfold upA; rw [if_pos jn]
      have p1 : ptD L.length (bl L) (j + 1) = .pointer (some ⟨bl L (j + 1), 0, none⟩) := by unfold ptD; rw [if_pos jn]; rfl
      rw [d1] at u3 z3 fin
      rw [p1] at h3 fin
      refine (bremove11 c x.b (bl L (j - 1)) (bl L (j + 1)) w _ _ h2 h3 u2 z2 u3 z3 k1 k2 ?_ ?_).mono ?_
      · intro e; rw [← hb] at e; have := h.dl.inj _ _ hj jn e; omega
      · exact Ne.symm (h.dl.nc _ jn)
      · rintro e w' ⟨rfl, hw⟩
        exact ⟨rfl, fin w' hw⟩
    · have d1 : upA c 2 (bl L) L.length (j + 1) = ⟨c, 3, none⟩ := by unfold upA; rw [if_neg jn]
      have p1 : ptD L.length (bl L) (j + 1) = .pointer none := by unfold ptD; rw [if_neg jn]; rfl
      rw [d1] at u3 z3 fin
      rw [p1] at h3 fin
      refine (bremove10 c x.b (bl L (j - 1)) w _ _ h2 h3 u2 z2 u3 z3 k1 k2).mono ?_
      rintro e w' ⟨rfl, hw⟩
      exact ⟨rfl, fin w' hw⟩

theorem bladd {w : World} {c : Nat} {mo : Int} {M : Option Nat} {L : List Nd} (h : Li w c 2 mo M L) {x : Nd} (hn : Nc w 2 x) (hx : ∀ y, y ∈ L → y.b ≠ x.b) (hc : x.b ≠ c) :
    Calls Try.prog 59 #[.pointer (some ⟨c, 2, none⟩), .pointer (some ⟨x.b, 0, none⟩)] w fun e w' => e = .returned (.tuple #[]) ∧ Hid (Li w' c 2 mo M (x :: L) ∧ Mv (Mine c (x :: L)) w w') := by
  have H := h.push hn hx hc
  obtain ⟨v2, h2⟩ := hn.n2
  obtain ⟨v3, h3⟩ := hn.n3
  have u2 := h.dl.dn 0 (by omega)
  have z2 := h.dl.zn 0 (by omega)
  have u3 := h.dl.up 0 (by omega)
  have z3 := h.dl.zp 0 (by omega)
  have d0 : dnA c 2 (bl L) 0 = ⟨c, 2, none⟩ := by unfold dnA; rw [if_pos rfl]
  rw [d0] at u2 z2
  have fin : ∀ w', Mv (fun _ => False) ((((w.setCell ⟨x.b, 2, none⟩ (pt none)).setCell ⟨x.b, 3, none⟩ (ptD L.length (bl L) 0)).setCell (upA c 2 (bl L) L.length 0) (pt (some x.b))).setCell ⟨c, 2, none⟩ (pt (some x.b))) w' → Hid (Li w' c 2 mo M (x :: L) ∧ Mv (Mine c (x :: L)) w w') := fun w' hw =>
    ⟨H.1.mv hw (fun h => h) (fun _ _ h => h), H.2.trans hw (fun _ _ h => h.elim)⟩
  clear H
  by_cases jn : 0 < L.length
  · have d1 : upA c 2 (bl L) L.length 0 = ⟨bl L 0, 2, none⟩ := by unfold upA; rw [if_pos jn]
    have p1 : ptD L.length (bl L) 0 = .pointer (some ⟨bl L 0, 0, none⟩) := by unfold ptD; rw [if_pos jn]; rfl
    rw [d1] at u3 z3 fin
    rw [p1] at u2 fin
    obtain ⟨y, _, ey, hy⟩ := bl_mem jn
    refine (badd1 c x.b (bl L 0) w _ _ _ u2 z2 h2 hn.z2 h3 hn.z3 u3 z3 hc (by rw [ey]; exact Ne.symm (hx y hy)) (Ne.symm (h.dl.nc _ jn))).mono ?_
    rintro e w' ⟨rfl, hw⟩
    exact ⟨rfl, fin w' hw⟩
  · have d1 : upA c 2 (bl L) L.length 0 = ⟨c, 3, none⟩ := by unfold upA; rw [if_neg jn]
    have p1 : ptD L.length (bl L) 0 = .pointer none := by unfold ptD; rw [if_neg jn]; rfl
    rw [d1] at u3 z3 fin
    rw [p1] at u2 fin
    refine (badd0 c x.b w _ _ _ u2 z2 h2 hn.z2 h3 hn.z3 u3 z3 hc).mono ?_
    rintro e w' ⟨rfl, hw⟩
    exact ⟨rfl, fin w' hw⟩

end Go.Proofs.Ytjlnmkoggobbgaa
