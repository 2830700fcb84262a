/- Of a value only its cells count. -/
import Derived.Test.YtjlnmkoggobbgaaN5
namespace Go.Proofs.Ytjlnmkoggobbgaa
open Go.RowKit

theorem Ca.head_v {w : World} {c o : Nat} {mo : Int} {M : Option Nat} {L : List Nd} {X : Nat → Prop} {x : Nd} (h : Ca w c o mo M (x :: L) X) (v : Nat → Value) (e : ∀ j, j < o - 1 → x.v j = v j) : Ca w c o mo M (⟨x.b, x.k, v⟩ :: L) X := by
  have eb : bl (⟨x.b, x.k, v⟩ :: L) = bl (x :: L) := by rw [bl_put, bl_put]
  refine ⟨⟨h.li.cm, h.li.ck, h.li.z1, ?_, ?_, h.li.o2⟩, h.ks, ?_, fun e => ?_, fun m e => ?_, h.ac, ?_, h.am⟩
  · rw [eb]; exact h.li.dl
  · intro y hy
    rcases List.mem_cons.1 hy with rfl | hy
    · have hk := h.li.kv x List.mem_cons_self
      exact ⟨hk.key, fun j hj => by rw [hk.val j hj, e j hj], hk.zv⟩
    · exact h.li.kv y (List.mem_cons_of_mem _ hy)
  · intro y hy
    rcases List.mem_cons.1 hy with rfl | hy
    · exact h.fit x List.mem_cons_self
    · exact h.fit y (List.mem_cons_of_mem _ hy)
  · exact absurd (h.mp0 e) (by simp)
  · refine (h.mp1 m e).congr ?_
    intro k
    rw [fnd_cons, fnd_cons]
    split <;> rfl
  · intro y hy
    rcases List.mem_cons.1 hy with rfl | hy
    · exact h.an x List.mem_cons_self
    · exact h.an y (List.mem_cons_of_mem _ hy)

/-- What Put leaves and tells, by who is there. -/
theorem sdel_none {S : List Kw} {k : Int} (h : sfnd S k = none) : sdel S k = S := by
  unfold sdel
  rw [List.filter_eq_self]
  intro p hp
  have := List.find?_eq_none.1 h p hp
  simpa using this
theorem sdel_length {S : List Kw} (hn : (S.map Prod.fst).Nodup) {k : Int} {p : Kw} (h : sfnd S k = some p) : (sdel S k).length + 1 = S.length := by
  induction S with
  | nil => cases h
  | cons q r ih =>
    rw [List.map_cons, List.nodup_cons] at hn
    unfold sfnd at h
    unfold sdel
    rw [List.find?_cons] at h
    rw [List.filter_cons]
    by_cases hq : q.1 = k
    · simp only [hq, ne_eq, not_true_eq_false, decide_false, Bool.false_eq_true, if_false]
      have : r.filter (fun p => decide (p.1 ≠ k)) = r := by
        rw [List.filter_eq_self]
        intro p hp
        have : p.1 ≠ k := fun e => hn.1 (by rw [hq, ← e]; exact List.mem_map_of_mem hp)
        simpa using this
      rw [this, List.length_cons]
    · simp only [hq, decide_false, ne_eq, not_false_eq_true, decide_true, if_true, List.length_cons] at h ⊢
      have := ih hn.2 h
      unfold sdel at this
      simp only [ne_eq] at this
      omega

end Go.Proofs.Ytjlnmkoggobbgaa
