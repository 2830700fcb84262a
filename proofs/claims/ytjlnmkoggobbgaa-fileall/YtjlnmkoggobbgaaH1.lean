/- Small facts for the statements' walks. -/
import Derived.Test.YtjlnmkoggobbgaaG3
namespace Go.Proofs.Ytjlnmkoggobbgaa
open Go.RowKit

theorem b8 {x : Int} (h : (Lit.int .u8 x).wf = true) : 0 ≤ x ∧ x ≤ 255 := by
  simpa [Lit.wf, IntKind.min, IntKind.max, IntKind.signed, IntKind.bits] using h
theorem b16 {x : Int} (h : (Lit.int .u16 x).wf = true) : 0 ≤ x ∧ x ≤ 65535 := by
  simpa [Lit.wf, IntKind.min, IntKind.max, IntKind.signed, IntKind.bits] using h
theorem b64 {x : Int} (h : (Lit.int .i64 x).wf = true) : -9223372036854775808 ≤ x ∧ x ≤ 9223372036854775807 := by
  simpa [Lit.wf, IntKind.min, IntKind.max, IntKind.signed, IntKind.bits] using h

theorem cntp_le (sz a b : Nat) : cntp sz a b ≤ b + 1 := by
  unfold cntp
  split
  · have h1 := Nat.div_le_self (b - 1) sz
    have h2 := Nat.sub_le ((b - 1) / sz) (a / sz)
    omega
  · omega
theorem rr_small (N : Nat) (l : List Int) (i0 sz a b : Nat) (hb : b ≤ 5000) : (rr N l i0 (cntp sz a b)).length ≤ 5001 := Nat.le_trans (rr_le N l i0 _) (Nat.le_trans (cntp_le sz a b) (by omega))

theorem own_sl' {w : World} {base n c : Nat} {a : Option Addr} {e : TypeId} {V : Nat → Value} (h : Own w base e (.slice a n c) n V) : Sl w a n V ∧ n ≤ c := by
  obtain ⟨a', c', e', s', l', n'⟩ := h.sl
  cases e'
  exact ⟨s', l'⟩

section
variable {w W : World} {q : Nat} {d : Pd} {mo : Int} {l : List Int} {bad : Nat → Bool} {R : List Int} {Y : Nat → Prop}
/-- Somebody writes into what was told. -/
theorem Fs.poke {xa : Option Addr} (h : Fs W q d mo l bad R (fun j => Y j ∨ bk xa = some j)) (p : Addr) (v : Value) (hp : bk xa = some p.block) (ht : d.top ≤ p.block) : Fs (W.setCell p v) q d mo l bad R (fun j => Y j ∨ bk xa = some j) :=
  (h.mv (Mv.setCell W p v) (fun j e => by have e' : j = p.block := e; rw [e']; exact ⟨.inr hp, .inl ht⟩)).mono (fun j hj => .inl hj)
end
theorem Own.setB {w : World} {base g n c : Nat} {f : Nat → Int} (h : Own w base 5 (.slice (some ⟨g, 0, none⟩) n c) n (By f)) (i : Nat) (x : Int) : Own (w.setCell ⟨g, i, none⟩ (.int .u8 x)) base 5 (.slice (some ⟨g, 0, none⟩) n c) n (By fun j => if j = i then x else f j) :=
  (h.set i (.int .u8 x)).congr (fun j _ => by unfold By; dsimp only; split <;> rfl)
end Go.Proofs.Ytjlnmkoggobbgaa
