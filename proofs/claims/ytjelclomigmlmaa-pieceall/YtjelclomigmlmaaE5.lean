/- Edits whose end is left open. -/
import Derived.Test.YtjelclomigmlmaaE4
import Derived.Test.YtjelclomigmlmaaA8
namespace Go.Proofs.Ytjelclomigmlmaa
open Go.RowKit

/-- A text of at most N bytes, of which at most K were added; what lies below H is none of its own. -/
def Tu (w wr : World) (q H n N K : Nat) : Prop := (∃ L m A, Tx wr q n L m A (fun k => k < H) ∧ L.length ≤ N ∧ m ≤ K) ∧ Below w.heap.size w wr ∧ w.heap.size ≤ H
section
variable {w wr w' : World} {q H n N K : Nat}
theorem Tu.qt (h : Tu w wr q H n N K) (k : Qt wr w') : Tu w w' q H n N K := by
  obtain ⟨⟨L, m, A, t, h1, h2⟩, b, l⟩ := h
  exact ⟨⟨L, m, A, (t.qt k).mono (fun k hk => .inl hk), h1, h2⟩, b.trans (k.below _ b.size), l⟩

/-- Any edit of at most 50 bytes. -/
theorem Tu.edit (h : Hid (Tu w wr q H n N K)) (x y : Int) (sa : Option Addr) (k sc : Nat) (f : Nat → Int) (d : Nat) (hk : k ≤ d) (hd : d ≤ 300) (hs : Hid (Sl wr sa k (By f))) (hn : Hid (sa = none → k = 0 ∧ sc = 0)) (hm : K + d ≤ 20000) (hl : N + d ≤ 20000) :
    Calls Try.prog 13 #[.pointer (some ⟨q, 0, none⟩), .int .i64 x, .int .i64 y, .slice sa k sc] wr fun e w' => ∃ z : Int, e = .returned (.int .i64 z) ∧ Hid (Tu w w' q H n (N + d) (K + d)) := by
  obtain ⟨⟨L, m, A, t, h1, h2⟩, b, l⟩ := h.out
  by_cases hab : 0 ≤ x ∧ x ≤ y ∧ y ≤ L.length
  · obtain ⟨a, rfl⟩ : ∃ a : Nat, x = a := ⟨x.toNat, by omega⟩
    obtain ⟨c, rfl⟩ : ∃ a : Nat, y = a := ⟨y.toNat, by omega⟩
    refine (edit_ok t a c sa k sc f (by omega) (by omega) (by omega) hs hn (by omega) (by omega)).mono ?_
    rintro e w' ⟨rfl, F⟩
    refine ⟨0, rfl, ⟨_, _, _, F.out.1, ?_, by omega⟩, Tx.edit b F.out.2 (Nat.le_refl _) (fun j hj => Nat.lt_of_lt_of_le hj l), l⟩
    rw [ins_length _ _ _ _ _ (by omega) (by omega)]; omega
  · refine (edit_arg t x y sa k sc hab).mono ?_
    rintro e w' ⟨rfl, Q⟩
    obtain ⟨⟨L, m, A, t, h1, h2⟩, b, l⟩ := h.out.qt Q.out
    exact ⟨1, rfl, ⟨L, m, A, t, by omega, by omega⟩, b, l⟩
end
theorem qt_of_below {w w' : World} (h : Below w.heap.size w w') : Qt w w' := (Mv.of_below h).mono (fun j hj hh => by omega)
theorem new_tu {w w1 w2 : World} {q n : Nat} (b : Below w.heap.size w w1) (T : Tx w2 q n (sp1 ⟨false, 0, n⟩) 0 (fun _ => 0) (fun k => k < w1.heap.size)) (Q : Qt w1 w2) : Tu w w2 q w1.heap.size n n 0 :=
  ⟨⟨_, _, _, T, by rw [sp1_length]; exact Nat.sub_le _ _, Nat.le_refl _⟩, b.trans (Q.below _ b.size), b.size⟩
end Go.Proofs.Ytjelclomigmlmaa
