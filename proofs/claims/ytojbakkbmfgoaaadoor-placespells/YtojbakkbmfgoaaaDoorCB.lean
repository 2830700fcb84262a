/- rises. -/
import Derived.Test.YtojbakkbmfgoaaaDoorMg28
namespace Go.Proofs.YtojbakkbmfgoaaaDoor
open Go.RowKit
set_option linter.unusedVariables false
set_option linter.unusedSimpArgs false

/-- Rising numbers below n. -/
def Rs (n : Nat) (L : List Nat) : Prop := L.Pairwise (· < ·) ∧ ∀ c ∈ L, c < n
theorem asc_rs {n m : Nat} {p : Nat → Bool} (h : ∀ c, p c = true → c < m) : Rs m (asc n p) := by
  refine ⟨?_, fun c hc => h c (asc_mem.1 hc).2⟩
  unfold asc
  exact List.Pairwise.filter _ List.pairwise_lt_range
theorem Rs.step {n : Nat} {L : List Nat} (h : Rs n L) {i c d : Nat} (hc : L[i]? = some c) (hd : L[i + 1]? = some d) : c < d := by
  obtain ⟨hi, ec⟩ := List.getElem?_eq_some_iff.1 hc
  obtain ⟨hj, ed⟩ := List.getElem?_eq_some_iff.1 hd
  have := List.pairwise_iff_getElem.1 h.1 i (i + 1) hi hj (by omega)
  rw [ec, ed] at this
  exact this

set_option maxRecDepth 20000 in
set_option maxHeartbeats 4000000 in
theorem rises_any (L : List Nat) (n : Nat) (hl : L.length < 90000) (hr : Rs n L) (s : Value) (w : World) (hs : Hid (Is w s L)) : Calls Tryd.prog 17 #[s, .int .i64 (n : Int)] w fun e w' => e = .returned (.bool true) ∧ Hid (Qt w w') := by
  obtain ⟨sa, sc, rfl⟩ := hs.out.form
  have HR : Hid (Rs n L) := hr
  clear hr
  go_enter Tryd.func17, Tryd.ntmps17
  go_wp2_with fail
  go_loopw [5] (fun s5 wr => ∃ i : Nat, i ≤ L.length ∧ s5 = .int .i64 i ∧ Hid (Qt w wr)) (fun s5 _ => L.length - (intOf s5).toNat)
  case atStart => exact ⟨0, by omega, rfl, Qt.refl w⟩
  case round =>
    obtain ⟨i, hi, rfl, Q⟩ := hrel
    by_cases hlt : i < L.length
    · obtain ⟨c, hc⟩ : ∃ c, L[i]? = some c := ⟨_, List.getElem?_eq_getElem hlt⟩
      have hcn := HR.out.2 c (List.mem_of_getElem? hc)
      have IQ : Hid (Is wr (.slice sa L.length sc) L) := hs.out.qt Q.out
      obtain ⟨b, o, p, e, _, k1⟩ := IQ.out.at hc
      obtain ⟨rfl, _, rfl⟩ := Value.slice.inj e
      have hli : (i : Int) < (L.length : Int) := by omega
      have t1 : decide ((c : Int) < 0) = false := by simp
      have t2 : decide (n ≤ c) = false := by simp; omega
      cases i with
      | zero =>
        simp only [Nat.add_zero] at k1
        have t3 : decide ((0 : Int) < (0 : Int)) = false := by simp
        clear e hc hcn
        go_wp2_with fail
        go_quiet (fail)
        go_wp2_with fail
        exact ⟨⟨0 + 1, by omega, by go_num, Q.out.comp (Mv.drewN (fun _ => False) _ _)⟩, by simp [intOf]; omega⟩
      | succ j =>
        obtain ⟨d, hd⟩ : ∃ d, L[j]? = some d := ⟨_, List.getElem?_eq_getElem (by omega)⟩
        have hdc := HR.out.step hd hc
        obtain ⟨b', o', p', e', _, k2⟩ := IQ.out.at hd
        obtain ⟨e1, _, rfl⟩ := Value.slice.inj e'
        obtain ⟨rfl, rfl⟩ : b = b' ∧ o = o' := by
          injection e1 with e1; injection e1 with e1 e2; exact ⟨e1, e2⟩
        have t3 : decide ((0 : Int) < ((j + 1 : Nat) : Int)) = true := by apply decide_eq_true; omega
        have t4 : decide (c ≤ d) = false := by simp; omega
        have hsub : IntKind.i64.wrap (((j + 1 : Nat) : Int) - 1) = (j : Int) := by rw [IntKind.wrap_i64]; omega
        have hj2 : (j : Int) < (L.length : Int) := by omega
        clear e e' e1 hc hcn hd hdc
        go_wp2_with fail
        go_quiet (fail)
        go_wp2_with fail
        exact ⟨⟨j + 1 + 1, by omega, by go_num, Q.out.comp (Mv.drewN (fun _ => False) _ _)⟩, by simp [intOf]; omega⟩
    · obtain rfl : i = L.length := by omega
      go_wp2_with fail
      go_ret
      exact ⟨rfl, Q.out⟩

end Go.Proofs.YtojbakkbmfgoaaaDoor
