/- Windows of pages that are kept, or of which the first fails. -/
import Derived.Test.YtjlnmkoggobbgaaH3
namespace Go.Proofs.Ytjlnmkoggobbgaa
open Go.RowKit

section
variable {w : World} {q : Nat} {d : Pd} {mo : Int} {l : List Int} {bad : Nat → Bool} {R : List Int} {Y : Nat → Prop}
theorem Fs.room (h : Fs w q d mo l bad R Y) : l.length ≤ cap mo := by
  have h1 := h.nodup.2.2.1
  have h2 := cap_eq mo
  omega
theorem bytes_hit (h : Fs w q d mo l bad R Y) (a b : Nat) (hab : a ≤ b) (hb : b ≤ d.n) (hR : R.length < 20000) (hl : ∀ s, s < cntp d.sz a b → ((a / d.sz + s : Nat) : Int) ∈ l) :
    Calls Try.prog 29 #[.pointer (some ⟨q, 0, none⟩), .int .i64 a, .int .i64 b] w fun e w' => ∃ xa xc, e = .returned (.tuple #[.slice xa (b - a) xc, .int .i64 0]) ∧ Hid (∃ l', (∀ s, s < cntp d.sz a b → ((a / d.sz + s : Nat) : Int) ∈ l') ∧ ToldB w w' q d mo l' bad R Y a (b - a) xa xc) := by
  refine (bytes_ok h a b hab hb hR (rk_well h.room hl bad)).mono ?_
  rintro e w' ⟨xa, xc, rfl, T⟩
  obtain ⟨h1, h2, h3⟩ := rk_hits h.room hl _ (Nat.le_refl _)
  have T' := T.out
  rw [h3, List.append_nil] at T'
  exact ⟨xa, xc, rfl, _, h2, T'⟩
theorem at_hit (h : Fs w q d mo l bad R Y) (i : Nat) (hi : i < d.n) (hR : R.length < 20000) (hl : ((i / d.sz : Nat) : Int) ∈ l) :
    Calls Try.prog 27 #[.pointer (some ⟨q, 0, none⟩), .int .i64 i] w fun e w' => e = .returned (.tuple #[.int .u8 (d.f i), .int .i64 0]) ∧ Hid (∃ l', LeftB w w' q d mo l' bad R Y) := by
  have hl' : ∀ s, s < 1 → ((i / d.sz + s : Nat) : Int) ∈ l := fun s hs => by
    obtain rfl : s = 0 := by omega
    exact hl
  refine (at_ok h i hi hR (rk_well h.room hl' bad 0 (by omega))).mono ?_
  rintro e w' ⟨rfl, T⟩
  obtain ⟨h1, h2, h3⟩ := rk_hits h.room hl' _ (Nat.le_refl _)
  have T' := T.out
  rw [h3, List.append_nil] at T'
  exact ⟨rfl, _, T'⟩
theorem bytes_fail (h : Fs w q d mo l bad R Y) (a b : Nat) (hab : a < b) (hb : b ≤ d.n) (hR : R.length < 20000) (hl : ((a / d.sz : Nat) : Int) ∉ l) (hbd : bad (a / d.sz) = true) :
    Calls Try.prog 29 #[.pointer (some ⟨q, 0, none⟩), .int .i64 a, .int .i64 b] w fun e w' => e = .returned (.tuple #[.slice none 0 0, .int .i64 11]) ∧ Hid (LeftB w w' q d mo l bad (R ++ [((a / d.sz : Nat) : Int)]) Y) := by
  refine (bytes_bad h a b (by omega) hb hR 0 (cntp_pos hab) ⟨hl, hbd⟩ (fun s hs => by omega)).mono ?_
  rintro e w' ⟨rfl, T⟩
  have e1 : rr (cap mo) l (a / d.sz) 1 = [((a / d.sz : Nat) : Int)] := rk_miss (t := 0) hl
  have T' := T.out
  rw [e1] at T'
  exact ⟨rfl, T'⟩
theorem bytes_empty (h : Fs w q d mo l bad R Y) (a : Nat) (hb : a ≤ d.n) (hR : R.length < 20000) :
    Calls Try.prog 29 #[.pointer (some ⟨q, 0, none⟩), .int .i64 a, .int .i64 a] w fun e w' => ∃ xa xc, e = .returned (.tuple #[.slice xa 0 xc, .int .i64 0]) ∧ Hid (LeftB w w' q d mo l bad R Y) := by
  have e0 : cntp d.sz a a = 0 := by unfold cntp; rw [if_neg (by omega)]
  refine (bytes_ok h a a (Nat.le_refl _) hb hR (by rw [e0]; intro s hs; omega)).mono ?_
  rintro e w' ⟨xa, xc, rfl, T⟩
  have T' := T.out
  rw [e0] at T'
  rw [Nat.sub_self]
  refine ⟨xa, xc, rfl, ?_, T'.2.2⟩
  have h1 := T'.1
  rw [show R ++ rr (cap mo) l (a / d.sz) 0 = R from List.append_nil R] at h1
  exact h1.mono (fun j hj => .inl hj)
/-- One more of a list of the caller's. -/
theorem Fs.more {W : World} {aa aa' : Option Addr} {base : Nat} (h : Fs w q d mo l bad R (fun j => Y j ∨ bk aa = some j)) (M : Mv (fun j => bk aa = some j) w W) (K : bk aa' = bk aa ∨ ∃ g, bk aa' = some g ∧ w.heap.size ≤ g) (hb : ∀ j, bk aa = some j → base ≤ j) (hw : ∀ j, bk aa' = some j → j < W.heap.size) (ht : d.top ≤ base) : Fs W q d mo l bad R (fun j => Y j ∨ bk aa' = some j) := by
  refine (h.mv M (fun j hj => ⟨.inr hj, .inl (by have := hb j hj; omega)⟩)).mono (fun j hj => ?_)
  rcases hj with hj | hj
  · exact .inl (.inl hj)
  · rcases K with K | ⟨g, k1, k2⟩
    · exact .inl (.inr (K ▸ hj))
    · have e := Option.some.inj (k1 ▸ hj)
      exact .inr ⟨by omega, hw j hj⟩
end
end Go.Proofs.Ytjlnmkoggobbgaa
