/- Two files side by side. -/
import Derived.Test.YtjlnmkoggobbgaaH4
namespace Go.Proofs.Ytjlnmkoggobbgaa
open Go.RowKit

section
variable {w : World} {q : Nat} {d : Pd} {mo : Int} {l : List Int} {R : List Int} {Y : Nat → Prop}
theorem bytes_few (h : Fs w q d mo l (fun _ => false) R Y) (a b : Nat) (hab : a ≤ b) (hb : b ≤ d.n) (hR : R.length < 20000) :
    Calls Try.prog 29 #[.pointer (some ⟨q, 0, none⟩), .int .i64 a, .int .i64 b] w fun e w' => ∃ xa xc, e = .returned (.tuple #[.slice xa (b - a) xc, .int .i64 0]) ∧ Hid (∃ l' R', R'.length ≤ R.length + (b + 1) ∧ ToldB w w' q d mo l' (fun _ => false) R' Y a (b - a) xa xc) := by
  refine (bytes_ok h a b hab hb hR (fun s _ => none_fails _ _ _ s)).mono ?_
  rintro e w' ⟨xa, xc, rfl, T⟩
  exact ⟨xa, xc, rfl, _, _, by rw [List.length_append]; have := rr_le (cap mo) l (a / d.sz) (cntp d.sz a b); have := cntp_le d.sz a b; omega, T.out⟩
end

/-- Two files, each of which keeps away from the other. -/
structure Pair (w wr : World) (qa : Nat) (da : Pd) (ma : Int) (qb : Nat) (db : Pd) (mb : Int) (la Ra lb Rb : List Int) (Ya Yb : Nat → Prop) : Prop where
  A : Fs wr qa da ma la (fun _ => false) Ra Ya
  B : Fs wr qb db mb lb (fun _ => false) Rb Yb
  all : ∀ j, j < wr.heap.size → Ya j ∨ Yb j
  old : ∀ j, j < w.heap.size → Ya j ∧ Yb j
  pb : ∀ j, db.base ≤ j → j < db.top → Ya j
  pa : ∀ j, da.base ≤ j → j < da.top → Yb j
  bel : Below w.heap.size w wr

section
variable {w wr w1 : World} {qa qb : Nat} {da db : Pd} {ma mb : Int} {la Ra lb Rb : List Int} {Ya Yb : Nat → Prop}
/-- The first has gone on. -/
theorem Pair.goA {la' Ra' : List Int} (h : Pair w wr qa da ma qb db mb la Ra lb Rb Ya Yb) (A : Fs w1 qa da ma la' (fun _ => false) Ra' Ya) (M : Mv (fun j => ¬ Ya j) wr w1) : Pair w w1 qa da ma qb db mb la' Ra' lb Rb Ya (fun j => Yb j ∨ (wr.heap.size ≤ j ∧ j < w1.heap.size)) := by
  have M' : Mv (fun j => ¬ Ya j ∧ j < wr.heap.size) wr w1 := M.mono (fun j hj e => ⟨e, hj⟩)
  refine ⟨A, h.B.mv M' (fun j hj => ⟨(h.all j hj.2).resolve_left hj.1, ?_⟩), fun j hj => ?_, fun j hj => ⟨(h.old j hj).1, .inl (h.old j hj).2⟩, h.pb, fun j h1 h2 => .inl (h.pa j h1 h2), below_mv h.bel M (Nat.le_refl _) (fun j hj e => e (h.old j hj).1)⟩
  · rcases Nat.lt_or_ge j db.base with e | e
    · exact .inr e
    · rcases Nat.lt_or_ge j db.top with e2 | e2
      · exact (hj.1 (h.pb j e e2)).elim
      · exact .inl e2
  · rcases Nat.lt_or_ge j wr.heap.size with e | e
    · rcases h.all j e with h1 | h1
      · exact .inl h1
      · exact .inr (.inl h1)
    · exact .inr (.inr ⟨e, hj⟩)
/-- .. the second. -/
theorem Pair.goB {lb' Rb' : List Int} (h : Pair w wr qa da ma qb db mb la Ra lb Rb Ya Yb) (B : Fs w1 qb db mb lb' (fun _ => false) Rb' Yb) (M : Mv (fun j => ¬ Yb j) wr w1) : Pair w w1 qa da ma qb db mb la Ra lb' Rb' (fun j => Ya j ∨ (wr.heap.size ≤ j ∧ j < w1.heap.size)) Yb := by
  have M' : Mv (fun j => ¬ Yb j ∧ j < wr.heap.size) wr w1 := M.mono (fun j hj e => ⟨e, hj⟩)
  refine ⟨h.A.mv M' (fun j hj => ⟨(h.all j hj.2).resolve_right hj.1, ?_⟩), B, fun j hj => ?_, fun j hj => ⟨.inl (h.old j hj).1, (h.old j hj).2⟩, fun j h1 h2 => .inl (h.pb j h1 h2), h.pa, below_mv h.bel M (Nat.le_refl _) (fun j hj e => e (h.old j hj).2)⟩
  · rcases Nat.lt_or_ge j da.base with e | e
    · exact .inr e
    · rcases Nat.lt_or_ge j da.top with e2 | e2
      · exact (hj.1 (h.pa j e e2)).elim
      · exact .inl e2
  · rcases Nat.lt_or_ge j wr.heap.size with e | e
    · rcases h.all j e with h1 | h1
      · exact .inl (.inl h1)
      · exact .inr h1
    · exact .inl (.inr ⟨e, hj⟩)
/-- Others have made memory. -/
theorem Pair.past (h : Pair w wr qa da ma qb db mb la Ra lb Rb Ya Yb) (B : Below wr.heap.size wr w1) : Pair w w1 qa da ma qb db mb la Ra lb Rb (fun j => Ya j ∨ (wr.heap.size ≤ j ∧ j < w1.heap.size)) (fun j => Yb j ∨ (wr.heap.size ≤ j ∧ j < w1.heap.size)) := by
  refine ⟨h.A.below B, h.B.below B, fun j hj => ?_, fun j hj => ⟨.inl (h.old j hj).1, .inl (h.old j hj).2⟩, fun j h1 h2 => .inl (h.pb j h1 h2), fun j h1 h2 => .inl (h.pa j h1 h2), h.bel.trans (B.mono h.bel.size)⟩
  rcases Nat.lt_or_ge j wr.heap.size with e | e
  · rcases h.all j e with h1 | h1
    · exact .inl (.inl h1)
    · exact .inr (.inl h1)
  · exact .inl (.inr ⟨e, hj⟩)
end
/-- Two new files. -/
theorem Pair.start {w W1 W2 W3 W4 : World} {qa qb : Nat} {da db : Pd} {ma mb : Int} (b1 : Below w.heap.size w W1) (t1 : da.top = W1.heap.size) (a2 : db.base = W1.heap.size)
    (B2 : Below W1.heap.size W1 W2) (B3 : Below W2.heap.size W2 W3) (B4 : Below W3.heap.size W3 W4)
    (A : Fs W3 qa da ma [] (fun _ => false) [] (fun j => j < w.heap.size ∨ (db.base ≤ j ∧ j < db.top))) (B : Fs W4 qb db mb [] (fun _ => false) [] (fun j => j < W3.heap.size ∧ (j < db.base ∨ db.top ≤ j))) :
    Pair w W4 qa da ma qb db mb [] [] [] [] (fun j => (j < w.heap.size ∨ (db.base ≤ j ∧ j < db.top)) ∨ (W3.heap.size ≤ j ∧ j < W4.heap.size)) (fun j => j < W3.heap.size ∧ (j < db.base ∨ db.top ≤ j)) := by
  have s1 := b1.size
  have s2 := B2.size
  have s3 := B3.size
  have s4 := B4.size
  refine ⟨A.below B4, B, fun j hj => ?_, fun j hj => ⟨.inl (.inl hj), by omega, .inl (by omega)⟩, fun j h1 h2 => .inl (.inr ⟨h1, h2⟩), fun j h1 h2 => ⟨by omega, .inl (by omega)⟩, ((b1.trans (B2.mono s1)).trans (B3.mono (by omega))).trans (B4.mono (by omega))⟩
  rcases Nat.lt_or_ge j W3.heap.size with e | e
  · rcases Nat.lt_or_ge j db.base with e1 | e1
    · exact .inr ⟨e, .inl e1⟩
    · rcases Nat.lt_or_ge j db.top with e2 | e2
      · exact .inl (.inl (.inr ⟨e1, e2⟩))
      · exact .inr ⟨e, .inr e2⟩
  · exact .inl (.inr ⟨e, hj⟩)
end Go.Proofs.Ytjlnmkoggobbgaa
