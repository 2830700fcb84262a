/- The document's text: Find. -/
import Derived.Test.YtjelclomigmlmaaR2
namespace Go.Proofs.Ytjelclomigmlmaa
open Go.RowKit

section
variable {w : World} {r : Nat} {L : List Bt} {m : Nat} {A : Nat → Int} {vl va : Value}
set_option maxHeartbeats 1000000 in
theorem rfind_bad (h : Hid (RxAt w r L m A vl va)) (z : Int) (hz : z < 0 ∨ (L.length : Int) ≤ z) :
    Calls Try.prog 20 #[.pointer (some ⟨r, 0, none⟩), .int .i64 z] w fun e w' => e = .returned (.tuple #[.int .i64 0, .int .i64 0, .int .i64 1]) ∧ Hid (Qt w w') := by
  obtain ⟨la, lc, rfl, -⟩ := ow_ls h.out.ll
  have c0 := h.out.c0
  by_cases h0 : z < 0
  · clear hz
    generalize L.length = N at *
    go_enter Try.func20, Try.ntmps20
    go_wp2_with fail
    go_ret3
    exact ⟨rfl, Qt.refl w⟩
  · have hz : (L.length : Int) ≤ z := by omega
    generalize L.length = N at *
    go_enter Try.func20, Try.ntmps20
    go_wp2_with fail
    go_ret3
    exact ⟨rfl, Qt.refl w⟩

set_option maxHeartbeats 2000000 in
theorem rfind_ok (h : Hid (RxAt w r L m A vl va)) (hl : L.length ≤ 20000) (hb : Hid (∀ x ∈ L, x.2 < 100000)) (z : Nat) (hz : z < L.length) :
    Calls Try.prog 20 #[.pointer (some ⟨r, 0, none⟩), .int .i64 z] w fun e w' => e = .returned (.tuple #[.int .i64 (plc (nf L) z).1, .int .i64 (plc (nf L) z).2, .int .i64 0]) ∧ Hid (Qt w w') := by
  have PC := rpieces_any h hl hb
  obtain ⟨la, lc, rfl, -⟩ := ow_ls h.out.ll
  have c0 := h.out.c0
  have hzz : (z : Int) < L.length := by omega
  have FT : Hid (Fit (nf L)) := fun p hp => ⟨Nat.le_of_lt (nf_pos L p hp), by have := nf_bound (M := 100000) hb.out p hp; omega⟩
  have IN : Hid ((plc (nf L) z).1 < (nf L).length) := plc_in _ _ (by rw [spl_nf]; exact hz)
  have NL : (nf L).length ≤ 20000 := Nat.le_trans (nf_length L) hl
  clear h
  obtain ⟨N, hN⟩ : ∃ N, N = (nf L).length := ⟨_, rfl⟩
  have HN : Hid (N = (nf L).length) := hN
  rw [← hN] at NL
  obtain ⟨io, hio⟩ : ∃ io, io = plc (nf L) z := ⟨_, rfl⟩
  have HIO : Hid (io = plc (nf L) z) := hio
  rw [← hio] at IN ⊢
  clear hio
  generalize L.length = K at *
  go_enter Try.func20, Try.ntmps20
  go_wp2_with fail
  refine PC.mono ?_
  rintro e w1 ⟨v1, rfl, F1⟩
  obtain ⟨pa, pc, rfl, l1, -⟩ := ow_ls F1.out.1
  have L1 : Hid (Ls w1 pa (cellsP (nf L))) := l1
  have Q1 : Hid (Qt w w1) := F1.out.2
  rw [← hN]
  clear l1 F1 PC hN
  generalize nf L = ps at *
  go_wp2_with fail
  go_loopw [1, 8] (fun va vi wr => ∃ i k : Nat, i ≤ N ∧ k ≤ 20000 ∧ vi = .int .i64 i ∧ va = .int .i64 k ∧ Hid (io = (i + (plc (ps.drop i) k).1, (plc (ps.drop i) k).2)) ∧ Hid (Qt w1 wr)) (fun _ vi _ => N - (intOf vi).toNat)
  case atStart => exact ⟨0, z, by omega, by omega, rfl, rfl, by rw [HIO.out]; simp only [Nat.zero_add, List.drop_zero]; trivial, Qt.refl _⟩
  case round =>
    obtain ⟨i, k, hi, hk, rfl, rfl, E, Q⟩ := hrel
    by_cases hlt : i < N
    · have hltz : (i : Int) < (N : Int) := by omega
      obtain ⟨p, hp⟩ : ∃ p, ps[i]? = some p := ⟨ps[i]'(by have := HN.out; omega), List.getElem?_eq_getElem _⟩
      obtain ⟨b, off, rfl, hbb, c0', c1, c2⟩ := ls_get (L1.out.qt Q.out) hp
      have ft := FT.out p (List.mem_of_getElem? hp)
      have D : Hid (ps.drop i = p :: ps.drop (i + 1)) := drop_get hp
      obtain ⟨a, f, t⟩ := p
      simp only at c0' c1 c2 ft
      obtain ⟨ft1, ft2⟩ := ft
      obtain ⟨y, hy⟩ : ∃ y, y = t - f := ⟨_, rfl⟩
      have HY : Hid (y = t - f) := hy
      have hty : (t : Int) - f = (y : Int) := by omega
      have hwy : IntKind.i64.wrap ((t : Int) - f) = (y : Int) := by rw [hty]; exact wrap_small (by omega) (by omega)
      clear hp hbb hy
      go_wp2_with fail
      go_quiet (fail)
      have Q2 : Hid (Qt w1 (wr.drewN nq)) := Q.out.comp (Mv.drewN _ wr nq)
      clear c0' c1 c2 Q
      generalize wr.drewN nq = wq at *
      by_cases hc : k < y
      · have hcz : (k : Int) < (y : Int) := by omega
        have EE : Hid (io = (i, k)) := by
          show _ = _
          rw [E.out, D.out, plc_here _ _ _ (by have := HY.out; show k < t - f; omega)]; rfl
        go_wp2_with fail
        go_ret3
        exact ⟨by rw [EE.out]; rfl, Q1.out.comp Q2.out⟩
      · have hcz : (y : Int) ≤ (k : Int) := by omega
        obtain ⟨k', hk'⟩ : ∃ k' : Nat, (k : Int) - y = (k' : Int) := ⟨k - y, by omega⟩
        have hk2 : k' ≤ 20000 := by omega
        have EE : Hid (io = (i + 1 + (plc (ps.drop (i + 1)) k').1, (plc (ps.drop (i + 1)) k').2)) := by
          show _ = _
          rw [E.out, D.out, plc_on _ _ _ (by have := HY.out; show ¬ k < t - f; omega), show t - f = y from HY.out.symm, show k - y = k' by omega]
          simp only [Prod.mk.injEq, and_true]
          omega
        clear E D
        go_wp2_with fail
        exact ⟨⟨i + 1, k', by omega, hk2, by go_num, rfl, EE, Q2⟩, by simp [intOf]; omega⟩
    · obtain rfl : i = N := by omega
      have : False := by
        have h1 := IN.out
        have h2 := HN.out
        have h3 := E.out
        rw [List.drop_eq_nil_of_le (by omega)] at h3
        rw [h3] at h1
        simp [plc] at h1
        omega
      exact this.elim
end
end Go.Proofs.Ytjelclomigmlmaa
