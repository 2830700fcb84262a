/- Equal trees may be alike; the whole text of a tree. -/
import Derived.Test.YtkclkhfcmjhogaaDoorRB
import Derived.Test.YtkclkhfcmjhogaaDoorCM
namespace Go.Proofs.YtkclkhfcmjhogaaDoor
open Go.RowKit
set_option linter.unusedVariables false

theorem any_like {p q : Nat → Bool} (h : Like p q) : any p = any q := by
  apply bool_iff
  rw [any_true, any_true]
  constructor
  · rintro ⟨b, hb, e⟩; exact ⟨b, hb, by rw [← h b hb]; exact e⟩
  · rintro ⟨b, hb, e⟩; exact ⟨b, hb, by rw [h b hb]; exact e⟩
theorem like_lists {l m : List RX} (hl : l.length = m.length) (h : ∀ (i : Nat) (a b : RX), l[i]? = some a → m[i]? = some b → sameX a b = true) : ∀ {β : Type} (f : RX → β), (∀ a ∈ l, ∀ b, sameX a b = true → f a = f b) → l.map f = m.map f := by
  intro β f hf
  apply List.ext_getElem?
  intro i
  rw [List.getElem?_map, List.getElem?_map]
  by_cases hi : i < l.length
  · have e1 := List.getElem?_eq_getElem hi
    have e2 := List.getElem?_eq_getElem (show i < m.length by omega)
    rw [e1, e2]
    show some (f l[i]) = some (f m[i])
    rw [hf l[i] (List.getElem_mem hi) _ (h i _ _ e1 e2)]
  · rw [List.getElem?_eq_none (by omega), List.getElem?_eq_none (by omega)]
theorem same_nodes : ∀ x y : RX, sameX x y = true → x.nodes = y.nodes := by
  refine RX.ind ?_
  intro k p l ih y h
  obtain ⟨h1, h2, h3, h4⟩ := sameX_iff.1 h
  rw [nodes_at, nodes_at]
  show 1 + (l.map RX.nodes).sum = _
  rw [like_lists h3 h4 RX.nodes (fun a ha b hb => ih a ha b hb)]
theorem same_depth : ∀ x y : RX, sameX x y = true → x.depth = y.depth := by
  refine RX.ind ?_
  intro k p l ih y h
  obtain ⟨h1, h2, h3, h4⟩ := sameX_iff.1 h
  rw [depth_at, depth_at]
  show maxl (l.map RX.depth) + 1 = _
  rw [like_lists h3 h4 RX.depth (fun a ha b hb => ih a ha b hb)]
theorem same_formed : ∀ x y : RX, sameX x y = true → x.formed = y.formed := by
  refine RX.ind ?_
  intro k p l ih y h
  obtain ⟨h1, h2, h3, h4⟩ := sameX_iff.1 h
  rw [formed_at, formed_at]
  have e1 := like_lists h3 h4 RX.formed (fun a ha b hb => ih a ha b hb)
  have e2 := like_lists h3 h4 RX.kind (fun a ha b hb => (sameX_iff.1 hb).1)
  have e3 : l.all RX.formed = y.args.all RX.formed := by
    have : (l.map RX.formed).all id = (y.args.map RX.formed).all id := by rw [show l.map RX.formed = y.args.map RX.formed from e1]
    rw [List.all_map, List.all_map] at this
    exact this
  have e4 : l.all (fun a => decide (lvl a.kind ≠ lvl k)) = y.args.all (fun a => decide (lvl a.kind ≠ lvl y.kind)) := by
    rw [← h1]
    have : (l.map RX.kind).all (fun a => decide (lvl a ≠ lvl k)) = (y.args.map RX.kind).all (fun a => decide (lvl a ≠ lvl k)) := by rw [show l.map RX.kind = y.args.map RX.kind from e2]
    rw [List.all_map, List.all_map] at this
    exact this
  have e5 : RX.node ⟨k, p, l⟩ = y.node := by
    show node k p l.length = node y.kind y.set y.args.length
    have h1' : k = y.kind := h1
    have h3' : l.length = y.args.length := h3
    rw [h1', h3']
    unfold node
    rw [any_like h2]
  rw [e5]
  show (y.node && (l.all (fun a => decide (lvl a.kind ≠ lvl k)) && l.all RX.formed)) = _
  rw [e3, e4]
theorem same_may {x y : RX} (h : sameX x y = true) : may x = may y := by
  unfold may
  rw [same_formed x y h, same_nodes x y h, same_depth x y h]
/-- The text of what may be, read. -/
theorem prsX_sh {g : (Nat → Bool) → List Nat} (hg : Gd g) {x : RX} (h : may x = 0) : ∃ x', sameX x' x = true ∧ prsX (x.sh g) = .ok x' := by
  obtain ⟨h1, h2, h3⟩ := may_small h
  obtain ⟨x', hs, hr⟩ := ((bk_all hg x h1).2 13 (by omega)).alt [] (.inl rfl)
  refine ⟨x', hs, ?_⟩
  rw [List.append_nil] at hr
  have hw : wholeS (x.sh g) = .ok x' := by
    unfold wholeS
    rw [altN_inn, hr]
  unfold prsX
  rw [hw]
  show (if may x' = 0 then Except.ok x' else .error (may x')) = _
  rw [same_may hs, if_pos h]

theorem sh_lt {g : (Nat → Bool) → List Nat} (hg : Gd g) : ∀ x : RX, ∀ c ∈ x.sh g, c < 256 := by
  refine RX.ind ?_
  intro k p l ih c hc
  rw [sh_eq] at hc
  split at hc
  · exact (hg.small p).2 c hc
  · have ht : ∀ T ∈ texts g k l, ∀ c ∈ T, c < 256 := by
      intro T hT c hc
      obtain ⟨a, ha, rfl⟩ := List.mem_map.1 hT
      unfold brk1 at hc
      split at hc
      · rcases List.mem_cons.1 hc with e | hc
        · omega
        · rcases List.mem_append.1 hc with hc | hc
          · exact ih a ha c hc
          · simp at hc; omega
      · exact ih a ha c hc
    unfold joinK at hc
    split at hc
    · obtain ⟨T, hT, hc⟩ := List.mem_flatten.1 hc
      exact ht T hT c hc
    · split at hc
      · generalize texts g k l = U at hc ht
        cases U with
        | nil => simp [List.intercalate] at hc
        | cons T U =>
          rw [inter_flat] at hc
          rcases List.mem_append.1 hc with hc | hc
          · exact ht T (by simp) c hc
          · obtain ⟨T2, hT2, hc⟩ := List.mem_flatMap.1 hc
            rcases List.mem_cons.1 hc with e | hc
            · omega
            · exact ht T2 (by simp [hT2]) c hc
      · generalize texts g k l = U at hc ht
        cases U with
        | nil => simp at hc
        | cons T U =>
          have hc2 : c ∈ T ++ [signC k] := hc
          rcases List.mem_append.1 hc2 with hc | hc
          · exact ht T (by simp) c hc
          · have : c = signC k := by simpa using hc
            unfold signC at this
            split at this
            · omega
            · split at this <;> omega

end Go.Proofs.YtkclkhfcmjhogaaDoor
