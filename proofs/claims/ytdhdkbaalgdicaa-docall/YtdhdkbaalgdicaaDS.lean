/- A text over a file: what it is. -/
import Derived.Test.YtdhdkbaalgdicaaFO
import Derived.Test.YtdhdkbaalgdicaaDW
namespace Go.Proofs.Ytdhdkbaalgdicaa
open Go.RowKit
set_option linter.unusedVariables false

/-- A text over a file at dp: its file at fq, its text at tp; what the file keeps away from (Y), what the text does (Z). -/
structure Ds (w : World) (dp fq tp : Nat) (d : Pd) (mo : Int) (l : List Int) (bad : Nat → Bool) (R : List Int) (L : List Bt) (m : Nat) (A : Nat → Int) (Y Z : Nat → Prop) : Prop where
  c0 : w.cell? ⟨dp, 0, none⟩ = some (.pointer (some ⟨fq, 0, none⟩))
  c1 : w.cell? ⟨dp, 1, none⟩ = some (.pointer (some ⟨tp, 0, none⟩))
  F : Fs w fq d mo l bad R Y
  T : Tx w tp d.n L m A Z
  cl : Cl bad l
  cov : ∀ k, k < w.heap.size → Y k ∨ Z k
  yd : Y dp
  zd : Z dp

section
variable {w w' : World} {dp fq tp : Nat} {d : Pd} {mo : Int} {l l' : List Int} {bad bad' : Nat → Bool} {R R' : List Int} {L : List Bt} {m : Nat} {A : Nat → Int} {Y Y' Z : Nat → Prop}
/-- The file has gone on by itself. -/
theorem Ds.file (h : Ds w dp fq tp d mo l bad R L m A Y Z) (F : Fs w' fq d mo l' bad' R' Y') (M : Mv (fun j => ¬ Y j) w w') (cl : Cl bad' l') (hy : ∀ k, Y k → Y' k) : Ds w' dp fq tp d mo l' bad' R' L m A Y' (fun j => Z j ∨ w.heap.size ≤ j ∧ j < w'.heap.size) := by
  refine ⟨M.cell h.c0 (fun e => e h.yd), M.cell h.c1 (fun e => e h.yd), F, h.T.mv (M.mono (fun k hk e => (h.cov k hk).resolve_left e)), cl, fun k hk => ?_, hy _ h.yd, .inl h.zd⟩
  by_cases hl : k < w.heap.size
  · exact (h.cov k hl).imp (hy k) .inl
  · exact .inr (.inr ⟨by omega, hk⟩)
/-- Others turn what both keep away from. -/
theorem Ds.mv (h : Ds w dp fq tp d mo l bad R L m A Y Z) {S : Nat → Prop} (M : Mv S w w') (hS : ∀ j, S j → Y j ∧ Z j ∧ j ≠ dp ∧ (d.top ≤ j ∨ j < d.base)) : Ds w' dp fq tp d mo l bad R L m A (fun j => Y j ∨ (w.heap.size ≤ j ∧ j < w'.heap.size)) (fun j => Z j ∨ w.heap.size ≤ j ∧ j < w'.heap.size) := by
  refine ⟨M.cell h.c0 (fun e => (hS _ e).2.2.1 rfl), M.cell h.c1 (fun e => (hS _ e).2.2.1 rfl), h.F.mv M (fun j hj => ⟨(hS j hj).1, (hS j hj).2.2.2⟩), h.T.mv (M.mono (fun k _ e => (hS k e).2.1)), h.cl, fun k hk => ?_, .inl h.yd, .inl h.zd⟩
  by_cases hl : k < w.heap.size
  · exact (h.cov k hl).imp .inl .inl
  · exact .inr (.inr ⟨by omega, hk⟩)
theorem Ds.qt (h : Ds w dp fq tp d mo l bad R L m A Y Z) (M : Qt w w') : Ds w' dp fq tp d mo l bad R L m A (fun j => Y j ∨ (w.heap.size ≤ j ∧ j < w'.heap.size)) (fun j => Z j ∨ w.heap.size ≤ j ∧ j < w'.heap.size) := h.mv M (fun j e => e.elim)
theorem Ds.lt (h : Ds w dp fq tp d mo l bad R L m A Y Z) : dp < w.heap.size := World.block_lt_of_cell? _ _ h.c0
theorem Ds.small (h : Ds w dp fq tp d mo l bad R L m A Y Z) : d.n ≤ 20000 ∧ m ≤ 20000 ∧ L.length ≤ 20000 := by
  obtain ⟨_, _, t⟩ := h.T
  exact t.small
theorem Ds.wf (h : Ds w dp fq tp d mo l bad R L m A Y Z) : Wf d.n m L := by
  obtain ⟨_, _, t⟩ := h.T
  exact t.wf
theorem Ds.top (h : Ds w dp fq tp d mo l bad R L m A Y Z) : d.top ≤ w.heap.size := h.F.top
theorem Ds.lown (h : Ds w dp fq tp d mo l bad R L m A Y Z) : (∀ k, Y k → k < w.heap.size) ∧ (∀ k, Z k → k < w.heap.size) := ⟨h.F.yw, h.T.old⟩

/-- Bytes of the file, for the text. -/
def Rok (w w' : World) (dp fq tp : Nat) (d : Pd) (mo : Int) (bad : Nat → Bool) (R : List Int) (L : List Bt) (m : Nat) (A : Nat → Int) (Y Z : Nat → Prop) (a b : Nat) (v : Value) : Prop :=
  ∃ l' R' Y' Z', Ds w' dp fq tp d mo l' bad R' L m A Y' Z' ∧ (∀ k, Y k → Y' k) ∧ (∀ k, Z k → Z' k) ∧ (∀ k, w.heap.size ≤ k → k < w'.heap.size → Z' k) ∧ (∀ k, v.ownBlock = some k → Y' k) ∧ Own w' w.heap.size 5 v (b - a) (By fun j => d.f (a + j)) ∧ Mv (fun j => ¬ Y j) w w' ∧ Rd d R R' (fun x => a ≤ x ∧ x < b) (b - a)
def Rno (w w' : World) (dp fq tp : Nat) (d : Pd) (mo : Int) (bad : Nat → Bool) (R : List Int) (L : List Bt) (m : Nat) (A : Nat → Int) (Y Z : Nat → Prop) (G : Nat → Prop) (n : Nat) : Prop :=
  ∃ l' R' Z', Ds w' dp fq tp d mo l' bad R' L m A Y Z' ∧ (∀ k, Z k → Z' k) ∧ Mv (fun j => ¬ Y j) w w' ∧ Rd d R R' G n

set_option maxHeartbeats 1000000 in
theorem dread_ok (h : Hid (Ds w dp fq tp d mo l bad R L m A Y Z)) (a b : Nat) (hab : a ≤ b) (hb : b ≤ d.n) (hR : R.length < 20000) (hg : ∀ x, a ≤ x → x < b → bad (x / d.sz) = false) :
    Calls Try.prog 44 #[.pointer (some ⟨dp, 0, none⟩), .int .i64 a, .int .i64 b] w fun e w' => ∃ xa xc, e = .returned (.slice xa (b - a) xc) ∧ Hid (Rok w w' dp fq tp d mo bad R L m A Y Z a b (.slice xa (b - a) xc)) := by
  have c0 := h.out.c0
  have B := fok h.out.F h.out.cl a b hab hb hR hg
  clear hg hR
  generalize hn : b - a = n at *
  have HN : Hid _ := hn
  clear hn hab hb
  go_enter Try.func44, Try.ntmps44
  go_wp2_with fail
  refine B.mono ?_
  rintro e w1 ⟨xa, xc, rfl, T⟩
  clear B c0
  go_wp2_with fail
  go_ret
  refine ⟨xa, xc, rfl, ?_⟩
  obtain ⟨l', R', ⟨F, O, M⟩, cl, rd⟩ := T.out
  refine ⟨l', R', _, _, h.out.file F M cl (fun k hk => .inl hk), fun k hk => .inl hk, fun k hk => .inl hk, fun k h1 h2 => .inr ⟨h1, h2⟩, fun k hk => .inr (by rw [own_blk] at hk; exact hk), ?_, M, ?_⟩
  · rw [HN.out]; exact O
  · rw [HN.out]; exact rd
set_option maxHeartbeats 1000000 in
theorem dread_bad (h : Hid (Ds w dp fq tp d mo l bad R L m A Y Z)) (a b : Nat) (hab : a ≤ b) (hb : b ≤ d.n) (hR : R.length < 20000) (x : Nat) (h1 : a ≤ x) (h2 : x < b) (hx : bad (x / d.sz) = true) :
    Calls Try.prog 44 #[.pointer (some ⟨dp, 0, none⟩), .int .i64 a, .int .i64 b] w fun e w' => e = .panicked fchain ∧ Hid (Rno w w' dp fq tp d mo bad R L m A Y Z (fun x => a ≤ x ∧ x < b) (b - a)) := by
  have c0 := h.out.c0
  have B := fbad h.out.F h.out.cl a b hab hb hR x h1 h2 hx
  clear hab hb hR h1 h2 hx
  go_enter Try.func44, Try.ntmps44
  go_wp2_with fail
  refine B.mono ?_
  rintro e w1 ⟨rfl, T⟩
  clear B c0
  go_wp2_with fail
  obtain ⟨l', R', ⟨F, M⟩, cl, rd⟩ := T.out
  exact ⟨rfl, rfl, l', R', _, h.out.file F M cl (fun k hk => hk), fun k hk => .inl hk, M, rd⟩

set_option maxHeartbeats 1000000 in
theorem hasParts_yes (h : Hid (Ds w dp fq tp d mo l bad R L m A Y Z)) : Calls Try.prog 31 #[.pointer (some ⟨dp, 0, none⟩)] w fun e w' => e = .returned (.bool true) ∧ w' = w := by
  have c0 := h.out.c0
  have c1 := h.out.c1
  go_enter Try.func31, Try.ntmps31
  go_wp2_with fail
  go_ret
  exact ⟨rfl, rfl⟩
theorem hasParts_nil (w : World) : Calls Try.prog 31 #[.pointer none] w fun e w' => e = .returned (.bool false) ∧ w' = w := by
  go_enter Try.func31, Try.ntmps31
  go_wp2_with fail
  go_ret
  exact ⟨rfl, rfl⟩
theorem hasParts_nof (dp : Nat) (w : World) (c0 : w.cell? ⟨dp, 0, none⟩ = some (.pointer none)) : Calls Try.prog 31 #[.pointer (some ⟨dp, 0, none⟩)] w fun e w' => e = .returned (.bool false) ∧ w' = w := by
  go_enter Try.func31, Try.ntmps31
  go_wp2_with fail
  go_ret
  exact ⟨rfl, rfl⟩
set_option maxHeartbeats 1000000 in
theorem dlen_any (h : Hid (Ds w dp fq tp d mo l bad R L m A Y Z)) : Calls Try.prog 17 #[.pointer (some ⟨dp, 0, none⟩)] w fun e w' => e = .returned (.int .i64 L.length) ∧ Hid (Qt w w') := by
  have c1 := h.out.c1
  have H := hasParts_yes h
  have N := zlen_any (h := (h.out.T : Hid _))
  go_enter Try.func17, Try.ntmps17
  go_wp2_with fail
  refine H.mono ?_
  rintro e w1 ⟨rfl, hw⟩
  subst hw
  clear H
  go_wp2_with fail
  refine N.mono ?_
  rintro e w1 ⟨rfl, q⟩
  clear N c1
  go_wp2_with fail
  go_ret
  exact ⟨rfl, q⟩
theorem dlen_nil (w : World) : Calls Try.prog 17 #[.pointer none] w fun e w' => e = .returned (.int .i64 0) ∧ w' = w := by
  go_enter Try.func17, Try.ntmps17
  go_wp2_with fail
  refine (hasParts_nil w).mono ?_
  rintro e w1 ⟨rfl, hw⟩
  subst hw
  go_wp2_with fail
  go_ret
  exact ⟨rfl, rfl⟩
end
end Go.Proofs.Ytdhdkbaalgdicaa
