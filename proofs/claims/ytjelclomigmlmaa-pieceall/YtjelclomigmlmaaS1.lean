/- The program's text and the document's, side by side. -/
import Derived.Test.YtjelclomigmlmaaR3
import Derived.Test.YtjelclomigmlmaaR4
import Derived.Test.YtjelclomigmlmaaR6
namespace Go.Proofs.Ytjelclomigmlmaa
open Go.RowKit

structure Al (w wr : World) (p n : Nat) (L : List Bt) (m : Nat) (A : Nat → Int) (r : Nat) (vl va : Value) (Y : Nat → Prop) : Prop where
  tx : Tx wr p n L m A Y
  rx : RxAt wr r L m A vl va
  yr : Y r
  yl : ∀ j, vl.ownBlock = some j → Y j
  ya : ∀ j, va.ownBlock = some j → Y j
  low : ∀ k, k < w.heap.size → Y k
  bel : Below w.heap.size w wr

section
variable {w wr w' : World} {p n : Nat} {L : List Bt} {m : Nat} {A : Nat → Int} {r : Nat} {vl va : Value} {Y : Nat → Prop}
theorem Al.qt (h : Al w wr p n L m A r vl va Y) (k : Qt wr w') : Al w w' p n L m A r vl va (fun j => Y j ∨ wr.heap.size ≤ j ∧ j < w'.heap.size) :=
  ⟨h.tx.qt k, h.rx.qt k, .inl h.yr, fun j e => .inl (h.yl j e), fun j e => .inl (h.ya j e), fun j e => .inl (h.low j e), h.bel.trans (k.below _ h.bel.size)⟩
theorem Al.small (h : Al w wr p n L m A r vl va Y) : n ≤ 20000 ∧ m ≤ 20000 ∧ L.length ≤ 20000 := by
  obtain ⟨_, _, t⟩ := h.tx
  exact t.small
theorem Al.wf (h : Al w wr p n L m A r vl va Y) : Wf n m L := by
  obtain ⟨_, _, t⟩ := h.tx
  exact t.wf
theorem Al.places (h : Al w wr p n L m A r vl va Y) : ∀ x ∈ L, x.2 < 100000 := fun x hx => by
  have h1 := h.wf.lt hx
  have h2 := h.small
  omega
theorem Al.old (h : Al w wr p n L m A r vl va Y) : r < wr.heap.size ∧ (∀ j, vl.ownBlock = some j → j < wr.heap.size) ∧ ∀ j, va.ownBlock = some j → j < wr.heap.size := ⟨h.rx.lt, fun j e => (ow_blk h.rx.ll j e).2, fun j e => (h.rx.ad.blk j e).2⟩
/-- A block that is none of theirs is written over. -/
theorem Al.spoil (h : Al w wr p n L m A r vl va Y) {g : Nat} (k : Mv (fun j => j = g) wr w') (hY : Y g) (hr : g ≠ r) (hl : vl.ownBlock ≠ some g) (ha : va.ownBlock ≠ some g) (hg : w.heap.size ≤ g) : Al w w' p n L m A r vl va (fun j => Y j ∨ wr.heap.size ≤ j ∧ j < w'.heap.size) :=
  ⟨h.tx.mv (k.mono (fun j _ e => by rw [e]; exact hY)), h.rx.mv k (fun e => hr e.symm) (fun j e e' => hl (by rw [← e']; exact e)) (fun j e e' => ha (by rw [← e']; exact e)), .inl h.yr, fun j e => .inl (h.yl j e), fun j e => .inl (h.ya j e), fun j e => .inl (h.low j e), h.bel.trans (k.below h.bel.size (fun j hj e => by omega))⟩
end

/-- What both make of an edit. -/
theorem both {p n : Nat} {L : List Bt} {m : Nat} {A : Nat → Int} {r : Nat} {vl va : Value} (a b : Int) (k : Nat) (f : Nat → Int) (hm : m + k ≤ 20000) (hl : L.length + k ≤ 20000) :
    ∃ (z : Int) (L' : List Bt) (m' : Nat) (A' : Nat → Int), L'.length ≤ L.length + k ∧ m' ≤ m + k ∧ (k ≤ 300 ∨ (L' = L ∧ m' = m)) ∧
      (∀ W sa sc Y, Tx W p n L m A Y → Sl W sa k (By f) → (sa = none → k = 0 ∧ sc = 0) → Calls Try.prog 13 #[.pointer (some ⟨p, 0, none⟩), .int .i64 a, .int .i64 b, .slice sa k sc] W fun e w' => e = .returned (.int .i64 z) ∧ Hid (Tx w' p n L' m' A' Y ∧ Mv (fun j => ¬ Y j) W w')) ∧
      (∀ W sa sc, RxAt W r L m A vl va → Sl W sa k (By f) → (sa = none → k = 0 ∧ sc = 0) → Calls Try.prog 14 #[.pointer (some ⟨r, 0, none⟩), .int .i64 a, .int .i64 b, .slice sa k sc] W fun e w' => e = .returned (.int .i64 z) ∧ ∃ vl' va', Hid (RxAt w' r L' m' A' vl' va' ∧ Mv (fun j => j = r) W w' ∧ (∀ j, vl'.ownBlock = some j → vl.ownBlock = some j ∨ W.heap.size ≤ j) ∧ ∀ j, va'.ownBlock = some j → va.ownBlock = some j ∨ W.heap.size ≤ j)) := by
  by_cases hab : 0 ≤ a ∧ a ≤ b ∧ b ≤ L.length
  · by_cases hk : k ≤ 300
    · obtain ⟨x, rfl⟩ : ∃ x : Nat, a = x := ⟨a.toNat, by omega⟩
      obtain ⟨y, rfl⟩ : ∃ x : Nat, b = x := ⟨b.toNat, by omega⟩
      refine ⟨0, ins L x y m k, m + k, catI A m f, by rw [ins_length _ _ _ _ _ (by omega) (by omega)]; omega, Nat.le_refl _, .inl hk, ?_, ?_⟩
      · intro W sa sc Y t s e
        exact edit_ok t x y sa k sc f (by omega) (by omega) hk s e hm hl
      · intro W sa sc t s e
        refine (redit_ok t x y sa k sc f (by omega) (by omega) hk s e hm hl).mono ?_
        rintro e w' ⟨rfl, vl', va', F⟩
        exact ⟨rfl, vl', va', F.out.1, F.out.2.1, fun j e => .inr (F.out.2.2.1 j e), fun j e => .inr (F.out.2.2.2 j e)⟩
    · refine ⟨10, L, m, A, by omega, by omega, .inr ⟨rfl, rfl⟩, ?_, ?_⟩
      · intro W sa sc Y t s e
        refine (edit_big t a b sa k sc hab (by omega)).mono ?_
        rintro e w' ⟨rfl, Q⟩
        exact ⟨rfl, (t.qt Q.out).mono (fun k hk => .inl hk), Q.out.mono (fun _ _ h => h.elim)⟩
      · intro W sa sc t s e
        refine (redit_big t a b sa k sc hab (by omega)).mono ?_
        rintro e w' ⟨rfl, Q⟩
        exact ⟨rfl, vl, va, t.qt Q.out, Q.out.mono (fun _ _ h => h.elim), fun j e => .inl e, fun j e => .inl e⟩
  · refine ⟨1, L, m, A, by omega, by omega, .inr ⟨rfl, rfl⟩, ?_, ?_⟩
    · intro W sa sc Y t s e
      refine (edit_arg t a b sa k sc hab).mono ?_
      rintro e w' ⟨rfl, Q⟩
      exact ⟨rfl, (t.qt Q.out).mono (fun k hk => .inl hk), Q.out.mono (fun _ _ h => h.elim)⟩
    · intro W sa sc t s e
      refine (redit_arg t a b sa k sc hab).mono ?_
      rintro e w' ⟨rfl, Q⟩
      exact ⟨rfl, vl, va, t.qt Q.out, Q.out.mono (fun _ _ h => h.elim), fun j e => .inl e, fun j e => .inl e⟩

/-- Both have gone through it. -/
theorem Al.edited {w wr w3 w4 : World} {p n : Nat} {L : List Bt} {m : Nat} {A : Nat → Int} {r : Nat} {vl va : Value} {Y : Nat → Prop} {L' : List Bt} {m' : Nat} {A' : Nat → Int} {vl' va' : Value} (h : Al w wr p n L m A r vl va Y)
    (t : Tx w3 p n L' m' A' Y) (k : Mv (fun j => ¬ Y j) wr w3) (x : RxAt w4 r L' m' A' vl' va') (k' : Mv (fun j => j = r) w3 w4) (hl : ∀ j, vl'.ownBlock = some j → vl.ownBlock = some j ∨ w3.heap.size ≤ j) (ha : ∀ j, va'.ownBlock = some j → va.ownBlock = some j ∨ w3.heap.size ≤ j) (hr : w.heap.size ≤ r) :
    Al w w4 p n L' m' A' r vl' va' (fun j => Y j ∨ w3.heap.size ≤ j ∧ j < w4.heap.size) := by
  have b3 : Below w.heap.size w w3 := Tx.edit h.bel k (Nat.le_refl _) h.low
  refine ⟨t.mv (k'.mono (fun j _ e => by rw [e]; exact h.yr)), x, .inl h.yr, fun j e => ?_, fun j e => ?_, fun j e => .inl (h.low j e), b3.trans (k'.below b3.size (fun j hj e => by omega))⟩
  · rcases hl j e with h1 | h1
    · exact .inl (h.yl j h1)
    · exact .inr ⟨h1, (ow_blk x.ll j e).2⟩
  · rcases ha j e with h1 | h1
    · exact .inl (h.ya j h1)
    · exact .inr ⟨h1, (x.ad.blk j e).2⟩

/-- What both find. -/
theorem bothFind {p n : Nat} {L : List Bt} {m : Nat} {A : Nat → Int} {r : Nat} {vl va : Value} (z : Int) (hl : L.length ≤ 20000) (hb : ∀ x ∈ L, x.2 < 100000) :
    ∃ x y e : Int, (∀ W Y, Tx W p n L m A Y → Calls Try.prog 19 #[.pointer (some ⟨p, 0, none⟩), .int .i64 z] W fun e' w' => e' = .returned (.tuple #[.int .i64 x, .int .i64 y, .int .i64 e]) ∧ Hid (Qt W w')) ∧
      (∀ W, RxAt W r L m A vl va → Calls Try.prog 20 #[.pointer (some ⟨r, 0, none⟩), .int .i64 z] W fun e' w' => e' = .returned (.tuple #[.int .i64 x, .int .i64 y, .int .i64 e]) ∧ Hid (Qt W w')) := by
  by_cases hz : z < 0 ∨ (L.length : Int) ≤ z
  · exact ⟨0, 0, 1, fun W Y t => find_bad t z hz, fun W t => rfind_bad t z hz⟩
  · obtain ⟨k, rfl⟩ : ∃ k : Nat, z = k := ⟨z.toNat, by omega⟩
    exact ⟨_, _, 0, fun W Y t => find_ok t k (by omega), fun W t => rfind_ok t hl hb k (by omega)⟩

/-- The copy goes on, what it was copied from is spoilt. -/
theorem Al.copied {w w6 w7 w8 w9 : World} {p n : Nat} {L : List Bt} {m : Nat} {A : Nat → Int} {r : Nat} {vl va : Value} {Y : Nat → Prop} {c : Nat} {L' : List Bt} {m' : Nat} {A' : Nat → Int} (h : Al w w6 p n L m A r vl va Y)
    (t : Tx w7 c n L m A (fun k => k < w6.heap.size)) (q7 : Qt w6 w7) (q8 : Qt w7 w8) {Z : Nat → Prop} (hZ : Z = fun j => (Y j ∨ w6.heap.size ≤ j ∧ j < w7.heap.size) ∨ w7.heap.size ≤ j ∧ j < w8.heap.size) (_t9 : Tx w9 p n L' m' A' Z) (k9 : Mv (fun j => ¬ Z j) w8 w9) :
    ∃ Y', Al w w9 c n L m A r vl va Y' := by
  have q68 : Qt w6 w8 := q7.comp q8
  have x8 := h.rx.qt q68
  have nz : ∀ j, Y j → ¬ ¬ Z j := fun j hj hn => hn (by rw [hZ]; exact .inl (.inl hj))
  have x9 : RxAt w9 r L m A vl va := x8.mv k9 (nz r h.yr) (fun j e => nz j (h.yl j e)) (fun j e => nz j (h.ya j e))
  have t8 : Tx w8 c n L m A (fun j => j < w6.heap.size ∨ w7.heap.size ≤ j ∧ j < w8.heap.size) := t.qt q8
  have s6 := q7.size
  have s7 := q8.size
  have k9' : Mv (fun j => j < w6.heap.size ∨ w7.heap.size ≤ j ∧ j < w8.heap.size) w8 w9 := by
    refine k9.mono (fun j hj hn => ?_)
    by_cases h1 : j < w6.heap.size
    · exact .inl h1
    · exfalso
      apply hn
      rw [hZ]
      by_cases h2 : j < w7.heap.size
      · exact .inl (.inr ⟨by omega, h2⟩)
      · exact .inr ⟨by omega, hj⟩
  have b8 : Below w.heap.size w w8 := h.bel.trans (q68.below _ h.bel.size)
  have o := h.old
  have s0 := h.bel.size
  refine ⟨_, t8.mv k9', x9, .inl (.inl o.1), fun j e => .inl (.inl (o.2.1 j e)), fun j e => .inl (.inl (o.2.2 j e)), fun j hj => .inl (.inl (by omega)), Tx.edit b8 k9 (Nat.le_refl _) (fun j hj => by rw [hZ]; exact .inl (.inl (h.low j hj)))⟩
end Go.Proofs.Ytjelclomigmlmaa
