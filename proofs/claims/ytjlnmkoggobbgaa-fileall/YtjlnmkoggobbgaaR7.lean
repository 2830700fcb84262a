/- The cache that is a list: Get. -/
import Derived.Test.YtjlnmkoggobbgaaR5
import Derived.Test.YtjlnmkoggobbgaaRD
namespace Go.Proofs.Ytjlnmkoggobbgaa
open Go.RowKit

theorem rget_none (w : World) (r : Nat) (mo : Int) (T : List Pr) (ka : Option Addr) (kc : Nat) (va : Option Addr) (vc : Nat) (h : Rf w r mo T ka kc va vc) (hl : T.length < 20000) (k : Int) (hk : k ∉ T.map Prod.fst) :
    Calls Try.prog 40 #[.pointer (some ⟨r, 0, none⟩), .int .i64 k] w fun e w' => e = .returned (.tuple #[.int .i64 0, .bool false]) ∧ w' = w := by
  have A := at_none w r ka T.length kc (kT T) k h.c1 h.sk (by omega) (fun j hj e => hk (mem_keys.2 ⟨j, hj, e⟩))
  clear h hk
  go_enter Try.func40, Try.ntmps40
  go_wp2_with fail
  refine A.mono ?_
  rintro e w1 ⟨rfl, hw⟩
  obtain rfl := hw.symm
  clear hw A
  go_wp2_with fail
  go_ret2
  exact ⟨rfl, rfl⟩

theorem tdel_length {T : List Pr} (hn : nodupT T) {i : Nat} (hi : i < T.length) : (tdel T (kT T i)).length + 1 = T.length := by
  rw [← tdel_erase hn hi, List.length_eraseIdx_of_lt hi]; omega

set_option maxHeartbeats 1000000 in
theorem rget_some (w : World) (r : Nat) (mo : Int) (T : List Pr) (ka : Option Addr) (kc : Nat) (va : Option Addr) (vc : Nat) (h : Rf w r mo T ka kc va vc) (hl : T.length < 20000) (hn : nodupT T) (hm : (T.length : Int) ≤ max mo 1) (i : Nat) (hi : i < T.length) :
    Calls Try.prog 40 #[.pointer (some ⟨r, 0, none⟩), .int .i64 (kT T i)] w fun e w' => e = .returned (.tuple #[.int .i64 (vT T i), .bool true]) ∧ ∃ ka' kc' va' vc', Hid (Left w w' r mo ((kT T i, vT T i) :: tdel T (kT T i)) ka va ka' kc' va' vc') := by
  have A := at_some w r ka T.length kc (kT T) i h.c1 h.sk (by omega) hi (fun j hj => kT_ne hn hi hj)
  have P := rput w r mo T ka kc va vc h hl hn (kT T i) (vT T i)
  have ok : tOk mo T (kT T i) = true := by
    unfold tOk
    rw [decide_eq_true_iff]
    have := tdel_length hn hi
    omega
  have eS : tS mo T (kT T i) (vT T i) = (kT T i, vT T i) :: tdel T (kT T i) := by unfold tS; rw [if_pos ok]
  rw [eS] at P
  clear eS ok
  obtain ⟨b, off, rfl, _, hv0⟩ := h.sv i hi
  have hv : w.cell? ⟨b, off + i, none⟩ = some (.int .i64 (vT T i)) := hv0
  clear hv0
  have hc2 := h.c2
  have hiz : (i : Int) < T.length := by omega
  generalize kT T i = k at A P ⊢
  generalize vT T i = v at P hv ⊢
  clear h hn
  go_enter Try.func40, Try.ntmps40
  go_wp2_with fail
  refine A.mono ?_
  rintro e w1 ⟨rfl, hw⟩
  obtain rfl := hw.symm
  clear hw A
  go_wp2_with fail
  refine P.mono ?_
  rintro e w2 ⟨rfl, ka', kc', va', vc', L⟩
  clear P
  go_wp2_with fail
  go_ret2
  exact ⟨rfl, ka', kc', va', vc', L⟩

/-- None is left. -/
theorem Rf.empty {w : World} {r : Nat} {mo : Int} {T : List Pr} {ka : Option Addr} {kc : Nat} {va : Option Addr} {vc : Nat} (h : Rf w r mo T ka kc va vc) :
    Left w ((w.setCell ⟨r, 1, none⟩ (.slice none 0 0)).setCell ⟨r, 2, none⟩ (.slice none 0 0)) r mo [] ka va none 0 none 0 := by
  refine ⟨⟨?_, ?_, ?_, ?_, ?_, fun i hi => (by simp at hi), fun i hi => (by simp at hi), fun _ => ⟨rfl, rfl⟩, fun _ => ⟨rfl, rfl⟩, Nat.le_refl _, Nat.le_refl _, fun e => (by cases e), fun e => (by cases e), fun j e => (by cases e), fun j e => (by cases e)⟩, (Mv.setCell w ⟨r, 1, none⟩ _).trans (Mv.setCell _ ⟨r, 2, none⟩ _) (fun _ _ h => h), fun j e => (by cases e), fun j e => (by cases e)⟩
  · rw [World.cell?_setCell_other _ _ _ _ (addr_ne (fun _ => by omega)), World.cell?_setCell_other _ _ _ _ (addr_ne (fun _ => by omega))]; exact h.c0
  · rw [World.cell?_setCell_other _ _ _ _ (addr_ne (fun _ => by omega))]; exact World.cell?_setCell_same _ _ _ h.c1
  · refine World.cell?_setCell_same _ _ _ (u := .slice va T.length vc) ?_
    rw [World.cell?_setCell_other _ _ _ _ (addr_ne (fun _ => by omega))]; exact h.c2
  · rw [World.frozen?_setCell, World.frozen?_setCell]; exact h.z1
  · rw [World.frozen?_setCell, World.frozen?_setCell]; exact h.z2

end Go.Proofs.Ytjlnmkoggobbgaa
