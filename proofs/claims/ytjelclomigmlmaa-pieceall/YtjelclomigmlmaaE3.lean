/- Two texts side by side; what an edit spells. -/
import Derived.Test.YtjelclomigmlmaaE2
namespace Go.Proofs.Ytjelclomigmlmaa
open Go.RowKit

theorem bt_ins {n m : Nat} {L : List Bt} (h : Wf n m L) (G A f : Nat → Int) (a b k : Nat) : (ins L a b m k).map (bt G (catI A m f)) = (L.map (bt G A)).take a ++ (List.range k).map f ++ (L.map (bt G A)).drop b := by
  have old : ∀ x ∈ L, bt G (catI A m f) x = bt G A x := by
    intro x hx
    unfold bt
    cases e : x.1
    · rfl
    · have := (h x hx).2 e
      simp only [if_true]
      unfold catI
      rw [if_pos this]
  unfold ins
  rw [List.map_append, List.map_append, ← List.map_take, ← List.map_drop]
  congr 1
  · congr 1
    · exact List.map_congr_left (fun x hx => old x (List.mem_of_mem_take hx))
    · unfold sp1
      rw [List.map_map]
      apply List.ext_getElem
      · simp
      · intro i h1 h2
        simp [bt, catI]
        intro hlt
        omega
  · exact List.map_congr_left (fun x hx => old x (List.mem_of_mem_drop hx))

/-- Two texts, and what was there ahead of both. -/
def Two (w wr : World) (p n : Nat) (L : List Bt) (m : Nat) (A : Nat → Int) (q n' : Nat) (L' : List Bt) (m' : Nat) (A' : Nat → Int) : Prop :=
  ∃ Y Y', Tx wr p n L m A Y ∧ Tx wr q n' L' m' A' Y' ∧ (∀ k, k < wr.heap.size → Y k ∨ Y' k) ∧ (∀ k, k < w.heap.size → Y k ∧ Y' k) ∧ Below w.heap.size w wr
section
variable {w wr w' : World} {p n : Nat} {L : List Bt} {m : Nat} {A : Nat → Int} {q n' : Nat} {L' : List Bt} {m' : Nat} {A' : Nat → Int}
theorem Two.swap (h : Two w wr p n L m A q n' L' m' A') : Two w wr q n' L' m' A' p n L m A := by
  obtain ⟨Y, Y', t, t', c, d, b⟩ := h
  exact ⟨Y', Y, t', t, fun k hk => (c k hk).symm, fun k hk => (d k hk).symm, b⟩
theorem Two.qt (h : Two w wr p n L m A q n' L' m' A') (k : Qt wr w') : Two w w' p n L m A q n' L' m' A' := by
  obtain ⟨Y, Y', t, t', c, d, b⟩ := h
  refine ⟨_, _, t.qt k, t'.qt k, fun j hj => ?_, fun j hj => ⟨.inl (d j hj).1, .inl (d j hj).2⟩, b.trans (k.below _ b.size)⟩
  by_cases hl : j < wr.heap.size
  · exact (c j hl).imp .inl .inl
  · exact .inl (.inr ⟨by omega, hj⟩)
theorem Two.left (h : Two w wr p n L m A q n' L' m' A') : ∃ Y, Tx wr p n L m A Y := by
  obtain ⟨Y, Y', t, _⟩ := h
  exact ⟨Y, t⟩
theorem Two.right (h : Two w wr p n L m A q n' L' m' A') : ∃ Y, Tx wr q n' L' m' A' Y := by
  obtain ⟨Y, Y', _, t, _⟩ := h
  exact ⟨Y', t⟩
theorem Two.below (h : Two w wr p n L m A q n' L' m' A') : Below w.heap.size w wr := by
  obtain ⟨_, _, _, _, _, _, b⟩ := h
  exact b
theorem Two.wf (h : Two w wr p n L m A q n' L' m' A') : Wf n m L := by
  obtain ⟨Y, Y', ⟨_, _, t⟩, _⟩ := h
  exact t.wf
theorem Two.small (h : Two w wr p n L m A q n' L' m' A') : n ≤ 20000 ∧ m ≤ 20000 ∧ L.length ≤ 20000 := by
  obtain ⟨Y, Y', ⟨_, _, t⟩, _⟩ := h
  exact t.small

/-- An edit of the first. -/
theorem Two.edit (h : Two w wr p n L m A q n' L' m' A') (a b : Nat) (x y : Int) (hx : x = a) (hy : y = b) (sa : Option Addr) (k sc : Nat) (f : Nat → Int) (hab : a ≤ b) (hb : b ≤ L.length) (hk : k ≤ 300) (hs : Sl wr sa k (By f)) (hn : sa = none → k = 0 ∧ sc = 0) (hm : m + k ≤ 20000) (hl : L.length + k ≤ 20000) :
    Calls Try.prog 13 #[.pointer (some ⟨p, 0, none⟩), .int .i64 x, .int .i64 y, .slice sa k sc] wr fun e w' => e = .returned (.int .i64 0) ∧ Hid (Two w w' p n (ins L a b m k) (m + k) (catI A m f) q n' L' m' A') := by
  obtain ⟨Y, Y', t, t', c, d, bl⟩ := h
  subst hx hy
  refine (edit_ok t a b sa k sc f hab hb hk hs hn hm hl).mono ?_
  rintro e w' ⟨rfl, F⟩
  refine ⟨rfl, ?_⟩
  have M := F.out.2
  have M2 : Mv Y' wr w' := M.mono (fun j hj hn => (c j hj).resolve_left hn)
  refine ⟨Y, _, F.out.1, t'.mv M2, fun j hj => ?_, fun j hj => ⟨(d j hj).1, .inl (d j hj).2⟩, Tx.edit bl M (Nat.le_refl _) (fun j hj => (d j hj).1)⟩
  by_cases hl : j < wr.heap.size
  · exact (c j hl).imp id .inl
  · exact .inr (.inr ⟨by omega, hj⟩)
end
end Go.Proofs.Ytjelclomigmlmaa
