/- The cache that is a list: Drop, and the first half of Put. -/
import Derived.Test.YtjlnmkoggobbgaaR3
namespace Go.Proofs.Ytjlnmkoggobbgaa
open Go.RowKit

def tdel (T : List Pr) (k : Int) : List Pr := T.filter (fun p => decide (p.1 ≠ k))
theorem tdel_none {T : List Pr} {k : Int} (h : ∀ j, j < T.length → kT T j ≠ k) : tdel T k = T := by
  unfold tdel
  rw [List.filter_eq_self]
  intro p hp
  obtain ⟨j, hj, e⟩ := List.getElem_of_mem hp
  have := h j hj
  rw [kT_of (List.getElem?_eq_getElem hj), e] at this
  simpa using this
theorem tdel_erase {T : List Pr} (hn : nodupT T) {i : Nat} (hi : i < T.length) : T.eraseIdx i = tdel T (kT T i) := by
  induction T generalizing i with
  | nil => simp at hi
  | cons p r ih =>
    have hn2 := hn
    unfold nodupT at hn2
    rw [List.map_cons, List.nodup_cons] at hn2
    have hr : ∀ q, q ∈ r → q.1 ≠ p.1 := fun q hq e => hn2.1 (e ▸ List.mem_map_of_mem hq)
    cases i with
    | zero =>
      show r = tdel (p :: r) p.1
      unfold tdel
      rw [List.filter_cons_of_neg (by simp), List.filter_eq_self.2]
      intro q hq
      have := hr q hq
      simpa using this
    | succ i =>
      have hi' : i < r.length := by simpa using hi
      show p :: r.eraseIdx i = tdel (p :: r) (kT r i)
      have hne : p.1 ≠ kT r i := by
        rw [kT_of (List.getElem?_eq_getElem hi')]
        exact Ne.symm (hr _ (List.getElem_mem _))
      unfold tdel
      rw [List.filter_cons_of_pos (by simpa using hne), ih hn2.2 hi']
      rfl
theorem nodup_tdel {T : List Pr} (h : nodupT T) (k : Int) : nodupT (tdel T k) := (List.filter_sublist.map Prod.fst).nodup h
theorem mem_keys {T : List Pr} {k : Int} : k ∈ T.map Prod.fst ↔ ∃ i, i < T.length ∧ kT T i = k := by
  constructor
  · intro h
    obtain ⟨p, hp, e⟩ := List.mem_map.1 h
    obtain ⟨i, hi, e2⟩ := List.getElem_of_mem hp
    exact ⟨i, hi, by rw [kT_of (List.getElem?_eq_getElem hi), e2, e]⟩
  · rintro ⟨i, hi, rfl⟩
    rw [kT_of (List.getElem?_eq_getElem hi)]
    exact List.mem_map_of_mem (List.getElem_mem _)

/-- What a call of the list's leaves. -/
def Left (w w' : World) (r : Nat) (mo : Int) (T : List Pr) (ka va : Option Addr) (ka' : Option Addr) (kc' : Nat) (va' : Option Addr) (vc' : Nat) : Prop :=
  Rf w' r mo T ka' kc' va' vc' ∧ Mv (fun j => j = r) w w' ∧ (∀ j, bk ka' = some j → bk ka = some j ∨ w.heap.size ≤ j) ∧ ∀ j, bk va' = some j → bk va = some j ∨ w.heap.size ≤ j

theorem rdrop (w : World) (r : Nat) (mo : Int) (T : List Pr) (ka : Option Addr) (kc : Nat) (va : Option Addr) (vc : Nat) (h : Rf w r mo T ka kc va vc) (hl : T.length < 30000) (hn : nodupT T) (k : Int) :
    Calls Try.prog 48 #[.pointer (some ⟨r, 0, none⟩), .int .i64 k] w fun e w' => e = .returned (.bool (decide (k ∈ T.map Prod.fst))) ∧ ∃ ka' kc' va' vc', Hid (Left w w' r mo (tdel T k) ka va ka' kc' va' vc') := by
  by_cases hk : k ∈ T.map Prod.fst
  · obtain ⟨i, hi, rfl⟩ := mem_keys.1 hk
    refine (rdrop_some w r mo T ka kc va vc h hl hn i hi).mono ?_
    rintro e w' ⟨rfl, ka', kc', va', vc', H⟩
    have h2 := H.out
    rw [tdel_erase hn hi] at h2
    exact ⟨by rw [decide_eq_true hk], ka', kc', va', vc', h2.1, h2.2.1, fun j hj => .inr (h2.2.2.1 j hj), fun j hj => .inr (h2.2.2.2 j hj)⟩
  · have hk' : ∀ j, j < T.length → kT T j ≠ k := fun j hj e => hk (mem_keys.2 ⟨j, hj, e⟩)
    refine (rdrop_none w r mo T ka kc va vc h hl k hk').mono ?_
    rintro e w' ⟨rfl, hw⟩
    subst hw
    rw [tdel_none hk']
    exact ⟨by rw [decide_eq_false hk], ka, kc, va, vc, h, Mv.refl _ _, fun j hj => .inl hj, fun j hj => .inl hj⟩

end Go.Proofs.Ytjlnmkoggobbgaa
