/- show, Show. -/
import Derived.Test.YtkclkhfcmjhogaaDoorV2
namespace Go.Proofs.YtkclkhfcmjhogaaDoor
open Go.RowKit
set_option linter.unusedVariables false

theorem showc_of {p : Nat → Bool} {g : (Nat → Bool) → List Nat} (hg : Gd g) (w : World) (hT : Hid (Tab w)) : Calls Tryd.prog 57 #[sv p] w fun e w' => e = .returned (.string (str (g p))) ∧ Hid (Qt w w') := by
  obtain ⟨R, h, h'⟩ := hg p
  rw [h']
  refine (show_set p w hT).mono ?_
  rintro e w' ⟨R', h1, h2, h3⟩
  rw [Runs.one h1 h] at h2
  exact ⟨h2, h3⟩
theorem inter_map (f : Nat → UInt8) (s : List Nat) (U : List (List Nat)) : (s.map f).intercalate (U.map (fun t => t.map f)) = (s.intercalate U).map f := by
  unfold List.intercalate
  rw [List.map_flatten]
  congr 1
  induction U with
  | nil => rfl
  | cons t U ih =>
    cases U with
    | nil => rfl
    | cons u U =>
      rw [List.map_cons, List.map_cons, List.intersperse_cons_cons, List.intersperse_cons_cons, List.map_cons, List.map_cons]
      rw [List.map_cons] at ih
      rw [ih]
theorem inter_nil (U : List (List Nat)) : ([] : List Nat).intercalate U = U.flatten := by
  unfold List.intercalate
  induction U with
  | nil => rfl
  | cons t U ih =>
    cases U with
    | nil => rfl
    | cons u U => rw [List.intersperse_cons_cons, List.flatten_cons, List.flatten_cons, ih]; rfl
theorem join_str (s : List Nat) (U : List (List Nat)) : (⟨(Lib.join ((U.map str).map (fun x => x.data.toList)) (str s).data.toList).toArray⟩ : ByteArray) = str (s.intercalate U) := by
  unfold Lib.join
  have e1 : (U.map str).map (fun x => x.data.toList) = U.map (fun t => t.map UInt8.ofNat) := by
    rw [List.map_map]
    apply List.map_congr_left
    intro t _
    simp [str]
  have e2 : (str s).data.toList = s.map UInt8.ofNat := by simp [str]
  rw [e1, e2, inter_map]
  rfl
theorem qt_of_below {w w' : World} (h : Below w.heap.size w w') : Qt w w' := ⟨h.os, h.tape, h.output, h.size, fun k hk _ => h.block k hk⟩
/-- A row of texts, joined. -/
theorem joins {base : Nat} {w : World} {v : Value} {U : List (List Nat)} (h : Rt9 base w v U) (hU : U ≠ []) (s : List Nat) (hs : (s.intercalate U).length ≤ 1000000) (hn : U.length ≤ 1000) : Calls Tryd.prog 58 #[v, .string (str s)] w fun e w' => e = .returned (.string (str (s.intercalate U))) ∧ Hid (Qt w w') := by
  obtain ⟨a, c, hv, hls, hc, _, _⟩ := ow_ls h
  subst hv
  obtain ⟨t, U', rfl⟩ : ∃ t U', U = t :: U' := by cases U with | nil => exact absurd rfl hU | cons t U' => exact ⟨t, U', rfl⟩
  obtain ⟨b, o, rfl, hb, _⟩ := hls 0 _ rfl
  have hj := join_any b o c ((t :: U').map str) (str s) w (fun j x hx => by
      rw [List.getElem?_map] at hx
      obtain ⟨u, hu, rfl⟩ := Option.map_eq_some_iff.1 hx
      obtain ⟨b2, o2, e, _, hcell⟩ := hls j (.string (str u)) (by rw [List.getElem?_map, hu]; rfl)
      cases e
      exact hcell) hb (by rw [List.length_map]; omega) (by rw [List.length_map]; exact hc) (by
      have := congrArg ByteArray.size (join_str s (t :: U'))
      rw [str_size] at this
      have h2 : (Lib.join (((t :: U').map str).map (fun x => x.data.toList)) (str s).data.toList).length = (s.intercalate (t :: U')).length := by
        rw [← this]; simp [ByteArray.size]
      rw [h2]; omega)
  rw [List.length_map, join_str] at hj
  refine hj.mono ?_
  rintro e w' ⟨h1, h2⟩
  exact ⟨h1, qt_of_below h2⟩

end Go.Proofs.YtkclkhfcmjhogaaDoor
