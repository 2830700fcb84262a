/- At, New; a text over a file that is made. -/
import Derived.Test.YtdhdkbaalgdicaaDY
namespace Go.Proofs.Ytdhdkbaalgdicaa
open Go.RowKit
set_option linter.unusedVariables false

theorem wrap64_in {x : Int} (h1 : -9223372036854775808 ≤ x) (h2 : x ≤ 9223372036854775807) : wrap64 x = x := by
  simp [wrap64]
  omega
theorem dat_nil (w : World) : Calls Try.prog 19 #[.pointer none, .int .i64 0] w fun e w' => e = .returned (.tuple #[.int .u8 0, .int .i64 1]) ∧ Below w.heap.size w w' := by
  go_enter Try.func19, Try.ntmps19
  go_wp2_with fail
  refine (dbytes_nil _ _ w).mono ?_
  rintro e w1 ⟨rfl, B⟩
  have HB : Hid _ := B
  clear B
  go_wp2_with fail
  go_ret2
  exact ⟨rfl, HB.out⟩

section
variable {W : World} {dp fq tp : Nat} {d : Pd} {mo : Int} {l : List Int} {bad : Nat → Bool} {R : List Int} {L : List Bt} {m : Nat} {A : Nat → Int} {Y Z : Nat → Prop}
set_option maxHeartbeats 1000000 in
theorem dat_arg (h : Hid (Ds W dp fq tp d mo l bad R L m A Y Z)) (i : Int) (hr : i < 0 ∨ (L.length : Int) ≤ i) (h1 : i ≤ 9223372036854775807) : Calls Try.prog 19 #[.pointer (some ⟨dp, 0, none⟩), .int .i64 i] W fun e w' => e = .returned (.tuple #[.int .u8 0, .int .i64 1]) ∧ Qt W w' := by
  have H : Hid (∀ b : Int, (i < 0 ∨ b < i ∨ (L.length : Int) < b) → Calls Try.prog 18 #[.pointer (some ⟨dp, 0, none⟩), .int .i64 i, .int .i64 b] W fun e w' => e = .returned (.tuple #[.slice none 0 0, .int .i64 1]) ∧ Qt W w') := fun b hb => dbytes_arg h i b hb
  clear h
  go_enter Try.func19, Try.ntmps19
  go_wp2_with fail
  refine (H.out (wrap64 (i + 1)) ?_).mono ?_
  · by_cases e : i = 9223372036854775807
    · subst e
      exact .inr (.inl (by simp [wrap64]))
    · rcases hr with hr | hr
      · exact .inl hr
      · rw [wrap64_in (by omega) (by omega)]
        omega
  rintro e w1 ⟨rfl, B⟩
  have HB : Hid _ := B
  clear B H
  go_wp2_with fail
  go_ret2
  exact ⟨rfl, HB.out⟩
theorem take_one {α : Type} (L : List α) (i : Nat) (x : α) (h : L[i]? = some x) : (L.take (i + 1)).drop i = [x] := by
  obtain ⟨hi, e⟩ := List.getElem?_eq_some_iff.1 h
  apply List.ext_getElem?
  intro j
  rw [List.getElem?_drop, List.getElem?_take]
  cases j with
  | zero => rw [if_pos (by omega), Nat.add_zero, h]; rfl
  | succ j => rw [if_neg (by omega)]; rfl
set_option maxHeartbeats 1000000 in
theorem dat_ok (h : Hid (Ds W dp fq tp d mo l bad R L m A Y Z)) (i : Nat) (x : Bt) (hx : L[i]? = some x) (hR : R.length + 1 < 20000) (hg : Gd d bad [x]) :
    Calls Try.prog 19 #[.pointer (some ⟨dp, 0, none⟩), .int .i64 i] W fun e w' => e = .returned (.tuple #[.int .u8 (bt d.f A x), .int .i64 0]) ∧ Wno W w' dp fq tp d mo bad R L m A Y Z [x] := by
  have hi : i < L.length := (List.getElem?_eq_some_iff.1 hx).1
  have B := dbytes_ok h i (i + 1) (by omega) (by omega) (by omega) (by rw [take_one L i x hx]; exact hg)
  rw [take_one L i x hx, show i + 1 - i = 1 by omega, show ((i + 1 : Nat) : Int) = (i : Int) + 1 by omega] at B
  have hn : (i : Int) < 20000 := by have := h.out.small; omega
  obtain ⟨z, hz⟩ : ∃ z, z = bt d.f A x := ⟨_, rfl⟩
  rw [← hz]
  have HZ : Hid _ := hz
  clear h hR hg hz hi hx
  go_enter Try.func19, Try.ntmps19
  go_wp2_with fail
  refine B.mono ?_
  rintro e w1 ⟨xa, xc, rfl, K⟩
  clear B
  have HK : Hid (Wok W w1 dp fq tp d mo bad R L m A Y Z [x] (.slice xa 1 xc)) := K
  obtain ⟨b1, o1, rfl, hc⟩ : ∃ b1 o1, xa = some ⟨b1, o1, none⟩ ∧ w1.cell? ⟨b1, o1, none⟩ = some (.int .u8 z) := by
    obtain ⟨_, _, _, _, _, _, _, _, O, _⟩ := K
    obtain ⟨a2, c2, e2, s2, _⟩ := ow_ls O
    cases e2
    obtain ⟨b1, o1, e3, _, hc⟩ := s2 0 (.int .u8 (bt d.f A x)) rfl
    exact ⟨b1, o1, e3, by rw [HZ.out]; exact hc⟩
  clear K
  go_wp2_with fail
  go_ret2
  obtain ⟨l', R', Y', Z', D, hy, hz, _, _, M, rd⟩ := HK.out
  exact ⟨rfl, l', R', Y', Z', D, hy, hz, M, rd⟩
end

theorem dnew_any (x y : Option Addr) (w : World) : Calls Try.prog 14 #[.pointer x, .pointer y] w fun e w' => e = .returned (.pointer (some ⟨w.heap.size, 0, none⟩)) ∧ w' = w.alloc (.cells #[.pointer x, .pointer y] 74) := by
  go_enter Try.func14, Try.ntmps14
  go_wp2_with fail
  go_ret
  exact ⟨rfl, rfl⟩
section
variable {w : World} {fq tp : Nat} {d : Pd} {mo : Int} {l : List Int} {bad : Nat → Bool} {R : List Int} {L : List Bt} {m : Nat} {A : Nat → Int} {Y Z : Nat → Prop}
theorem ds_of (F : Fs w fq d mo l bad R Y) (T : Tx w tp d.n L m A Z) (cl : Cl bad l) (cov : ∀ k, k < w.heap.size → Y k ∨ Z k) : Ds (w.alloc (.cells #[.pointer (some ⟨fq, 0, none⟩), .pointer (some ⟨tp, 0, none⟩)] 74)) w.heap.size fq tp d mo l bad R L m A (fun j => Y j ∨ (w.heap.size ≤ j ∧ j < w.heap.size + 1)) (fun j => Z j ∨ (w.heap.size ≤ j ∧ j < w.heap.size + 1)) := by
  have q : Qt w (w.alloc (.cells #[.pointer (some ⟨fq, 0, none⟩), .pointer (some ⟨tp, 0, none⟩)] 74)) := (Qt.refl w).alloc _
  have hs : (w.alloc (.cells #[.pointer (some ⟨fq, 0, none⟩), .pointer (some ⟨tp, 0, none⟩)] 74)).heap.size = w.heap.size + 1 := by simp
  refine ⟨(alloc_new w _ 74 0 _ rfl).1, (alloc_new w _ 74 1 _ rfl).1, ?_, ?_, cl, ?_, .inr ⟨Nat.le_refl _, by omega⟩, .inr ⟨Nat.le_refl _, by omega⟩⟩
  · have := F.mv q (fun _ e => e.elim)
    rw [hs] at this
    exact this
  · have := T.qt q
    rw [hs] at this
    exact this
  · intro k hk
    rw [hs] at hk
    by_cases h1 : k < w.heap.size
    · exact (cov k h1).imp .inl .inl
    · exact .inl (.inr ⟨by omega, by omega⟩)
/-- A file of new pages, beside a text. -/
theorem side_of {w' : World} {rd : Nat → Int} (T : Tx w tp d.n L m A Z) (hZ : ∀ k, d.base ≤ k → k < d.top → Z k) (F : Fs w' fq d mo [] bad [] (fun j => j < w.heap.size ∧ (j < d.base ∨ d.top ≤ j))) (B : Below w.heap.size w w') :
    Tx w' tp d.n L m A (fun j => Z j ∨ (w.heap.size ≤ j ∧ j < w'.heap.size)) ∧ ∀ k, k < w'.heap.size → (k < w.heap.size ∧ (k < d.base ∨ d.top ≤ k)) ∨ (Z k ∨ (w.heap.size ≤ k ∧ k < w'.heap.size)) := by
  have q : Qt w w' := (Mv.of_below B).mono (fun k hk e => by omega)
  refine ⟨T.qt q, fun k hk => ?_⟩
  by_cases h1 : k < w.heap.size
  · by_cases h2 : k < d.base ∨ d.top ≤ k
    · exact .inl ⟨h1, h2⟩
    · exact .inr (.inl (hZ k (by omega) (by omega)))
  · exact .inr (.inr ⟨by omega, hk⟩)
end
end Go.Proofs.Ytdhdkbaalgdicaa
