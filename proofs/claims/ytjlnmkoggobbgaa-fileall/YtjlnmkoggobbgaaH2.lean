/- Windows where no page fails; texts. -/
import Derived.Test.YtjlnmkoggobbgaaH1
namespace Go.Proofs.Ytjlnmkoggobbgaa
open Go.RowKit

theorem txt_append (f : Nat → Int) (m n : Nat) : txt f m ++ txt (fun j => f (m + j)) n = txt f (m + n) := by
  unfold txt strOfNums
  apply ByteArray.ext
  rw [ByteArray.data_append]
  simp [List.range_add]

theorem txt_size (f : Nat → Int) (n : Nat) : (txt f n).size = n := by
  unfold txt
  rw [strOfNums_size]
  simp

section
variable {w : World} {q : Nat} {d : Pd} {mo : Int} {l : List Int} {R : List Int} {Y : Nat → Prop}
/-- Bytes of pages none of which fails, with what was read left open. -/
theorem bytes_well (h : Fs w q d mo l (fun _ => false) R Y) (a b : Nat) (hab : a ≤ b) (hb : b ≤ d.n) (hR : R.length < 20000) :
    Calls Try.prog 29 #[.pointer (some ⟨q, 0, none⟩), .int .i64 a, .int .i64 b] w fun e w' => ∃ xa xc, e = .returned (.tuple #[.slice xa (b - a) xc, .int .i64 0]) ∧ Hid (∃ l' R', R'.length ≤ R.length + 5001 ∧ ToldB w w' q d mo l' (fun _ => false) R' Y a (b - a) xa xc) := by
  have hs := h.small
  refine (bytes_ok h a b hab hb hR (fun s _ => none_fails _ _ _ s)).mono ?_
  rintro e w' ⟨xa, xc, rfl, T⟩
  exact ⟨xa, xc, rfl, _, _, by rw [List.length_append]; have := rr_small (cap mo) l (a / d.sz) d.sz a b (by omega); omega, T.out⟩
theorem at_well (h : Fs w q d mo l (fun _ => false) R Y) (i : Nat) (hi : i < d.n) (hR : R.length < 20000) :
    Calls Try.prog 27 #[.pointer (some ⟨q, 0, none⟩), .int .i64 i] w fun e w' => e = .returned (.tuple #[.int .u8 (d.f i), .int .i64 0]) ∧ Hid (∃ l' R', R'.length ≤ R.length + 1 ∧ LeftB w w' q d mo l' (fun _ => false) R' Y) := by
  refine (at_ok h i hi hR (none_fails _ _ _ _)).mono ?_
  rintro e w' ⟨rfl, T⟩
  exact ⟨rfl, _, _, by rw [List.length_append]; have := rr_le (cap mo) l (i / d.sz) 1; omega, T.out⟩
/-- A row that was told stands while others are. -/
theorem keepB {w' : World} {base n c : Nat} {a : Option Addr} {V : Nat → Value} (h : Hid (Own w base 5 (.slice a n c) n V)) (hm : Mv (fun j => ¬ Y j) w w') (hy : ∀ j, bk a = some j → Y j) : Hid (Own w' base 5 (.slice a n c) n V) :=
  h.out.mv hm (fun k hk e => e (hy k (by rw [own_blk] at hk; exact hk)))
end

end Go.Proofs.Ytjlnmkoggobbgaa
