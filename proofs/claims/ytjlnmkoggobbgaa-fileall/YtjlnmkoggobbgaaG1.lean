/- Bytes: all its ways. -/
import Derived.Test.YtjlnmkoggobbgaaF9
namespace Go.Proofs.Ytjlnmkoggobbgaa
open Go.RowKit

section
variable {w : World} {q : Nat} {d : Pd} {mo : Int} {l : List Int} {bad : Nat → Bool} {R : List Int} {Y : Nat → Prop}

/-- The world behind: the call's own two cells are written. -/
def w2f (w V : World) (x : Value) (e : Int) : World := (V.setCell ⟨w.heap.size, 0, none⟩ x).setCell ⟨w.heap.size + 1, 0, none⟩ (.int .i64 e)
theorem w2f_mv (w V : World) (x : Value) (e : Int) : Mv (fun j => w.heap.size ≤ j ∧ j < w.heap.size + 2) V (w2f w V x e) :=
  ((Mv.setCell V ⟨w.heap.size, 0, none⟩ x).mono (T := fun j => w.heap.size ≤ j ∧ j < w.heap.size + 2) (fun j _ h => by have h' : j = w.heap.size := h; omega)).trans (Mv.setCell _ ⟨w.heap.size + 1, 0, none⟩ _) (fun j _ h => by have h' : j = w.heap.size + 1 := h; omega)
theorem w2f_at {w V : World} (x : Value) (e : Int) {u v : Value} (n0 : V.cell? ⟨w.heap.size, 0, none⟩ = some u) (n1 : V.cell? ⟨w.heap.size + 1, 0, none⟩ = some v) :
    (w2f w V x e).cell? ⟨w.heap.size, 0, none⟩ = some x ∧ (w2f w V x e).cell? ⟨w.heap.size + 1, 0, none⟩ = some (.int .i64 e) := by
  refine ⟨?_, ?_⟩
  · unfold w2f
    rw [World.cell?_setCell_other _ _ _ _ (by simp)]
    exact World.cell?_setCell_same _ _ _ n0
  · refine World.cell?_setCell_same _ _ _ (u := v) ?_
    rw [World.cell?_setCell_other _ _ _ _ (by simp)]; exact n1
/-- What the two cells are in a world in which they were kept. -/
theorem w2_kept {w V : World} {Z : Nat → Prop} (hm : Mv (fun j => ¬ Z j) (w2 w) V) (h0 : Z w.heap.size) (h1 : Z (w.heap.size + 1)) :
    V.cell? ⟨w.heap.size, 0, none⟩ = some (.slice none 0 0) ∧ V.frozen? ⟨w.heap.size, 0, none⟩ = false ∧ V.cell? ⟨w.heap.size + 1, 0, none⟩ = some (.int .i64 0) ∧ V.frozen? ⟨w.heap.size + 1, 0, none⟩ = false := by
  obtain ⟨n0, f0, n1, f1⟩ := w2_new w
  have hs := w2_size w
  exact ⟨hm.cell n0 (fun e => e h0), (hm.frozen (p := ⟨w.heap.size, 0, none⟩) (by show w.heap.size < _; omega) (fun e => e h0)).trans f0, hm.cell n1 (fun e => e h1), (hm.frozen (p := ⟨w.heap.size + 1, 0, none⟩) (by show w.heap.size + 1 < _; omega) (fun e => e h1)).trans f1⟩

theorem told_of {V : World} {l' R' : List Int} {a n : Nat} {xa : Option Addr} {xc : Nat} (h : Fs V q d mo l' bad R' (fun j => (Y j ∨ (w.heap.size ≤ j ∧ j < w.heap.size + 2)) ∨ bk xa = some j)) (O : Own V (w2 w).heap.size 5 (.slice xa n xc) n (By fun j => d.f (a + j))) (M : Mv (fun j => ¬ (Y j ∨ (w.heap.size ≤ j ∧ j < w.heap.size + 2))) (w2 w) V) (tp : d.top ≤ w.heap.size) :
    ToldB w (w2f w V (.slice xa n xc) 0) q d mo l' bad R' Y a n xa xc := by
  have hM := w2f_mv w V (.slice xa n xc) 0
  have hs := w2_size w
  refine ⟨(h.mv hM (fun j hj => ⟨.inl (.inr hj), .inl (by omega)⟩)).mono (fun j hj => ?_), ?_, ?_⟩
  · rcases hj with hj | hj
    · exact .inl (.inl (.inl hj))
    · exact .inl (.inr hj)
  · refine (O.mv hM (fun k hk e => ?_)).base (by omega)
    have := (O.blk k hk).1
    omega
  · have h1 : Mv (fun j => ¬ Y j) w (w2 w) := (Mv.of_below (w2_below w)).mono (fun j hj e => by omega)
    exact (h1.trans M (fun j _ e hy => e (.inl hy))).trans hM (fun j hj e => by omega)
theorem left_of {V : World} {l' R' : List Int} (x : Value) (e : Int) (h : Fs V q d mo l' bad R' (fun j => Y j ∨ (w.heap.size ≤ j ∧ j < w.heap.size + 2))) (M : Mv (fun j => ¬ (Y j ∨ (w.heap.size ≤ j ∧ j < w.heap.size + 2))) (w2 w) V) (tp : d.top ≤ w.heap.size) :
    LeftB w (w2f w V x e) q d mo l' bad R' Y := by
  have hM := w2f_mv w V x e
  refine ⟨(h.mv hM (fun j hj => ⟨.inr hj, .inl (by omega)⟩)).mono (fun j hj => .inl (.inl hj)), ?_⟩
  have h1 : Mv (fun j => ¬ Y j) w (w2 w) := (Mv.of_below (w2_below w)).mono (fun j hj e => by omega)
  exact (h1.trans M (fun j _ e hy => e (.inl hy))).trans hM (fun j hj e => by omega)

set_option maxHeartbeats 1000000 in
/-- A window that is told. -/
theorem bytes_told (h : Fs w q d mo l bad R Y) (a b : Nat) (hab : a ≤ b) (hb : b ≤ d.n) (l' R' : List Int)
    (WN : Calls Try.prog 45 #[.pointer (some ⟨q, 0, none⟩), .int .i64 a, .int .i64 b] (w2 w) fun e V => ∃ xa xc, e = .returned (.slice xa (b - a) xc) ∧ Hid (Fs V q d mo l' bad R' (fun j => (Y j ∨ (w.heap.size ≤ j ∧ j < w.heap.size + 2)) ∨ bk xa = some j) ∧ Own V (w2 w).heap.size 5 (.slice xa (b - a) xc) (b - a) (By fun j => d.f (a + j)) ∧ Mv (fun j => ¬ (Y j ∨ (w.heap.size ≤ j ∧ j < w.heap.size + 2))) (w2 w) V)) :
    Calls Try.prog 29 #[.pointer (some ⟨q, 0, none⟩), .int .i64 a, .int .i64 b] w fun e w' => ∃ xa xc, e = .returned (.tuple #[.slice xa (b - a) xc, .int .i64 0]) ∧ ToldB w w' q d mo l' bad R' Y a (b - a) xa xc := by
  have hmf := make_fn
  have h2 := h.two
  have tp : Hid _ := h.top
  have HA := has_some q d.bp (w2 w) (by obtain ⟨c, ra, rc, S, X, h, e⟩ := h2; exact h.fp)
  have HL := flen_any h2
  have z1 : (a : Int) ≤ b := by omega
  have z2 : (b : Int) ≤ d.n := by omega
  clear h h2
  go_enter_defers Try.func29, Try.ntmps29
  go_wp2_with fail
  refine HA.mono ?_
  rintro e w1 ⟨rfl, hw⟩
  subst hw
  go_wp2_with fail
  refine HL.mono ?_
  rintro e w1 ⟨rfl, hw⟩
  subst hw
  clear HA HL
  go_wp2_with fail
  refine WN.mono ?_
  rintro e V ⟨xa, xc, rfl, H⟩
  clear WN
  obtain ⟨n0, f0, n1, f1⟩ := w2_kept H.out.2.2 (.inr ⟨Nat.le_refl _, by omega⟩) (.inr ⟨by omega, by omega⟩)
  obtain ⟨v0, v1⟩ := w2f_at (.slice xa (b - a) xc) 0 n0 n1
  have FIN := told_of H.out.1 H.out.2.1 H.out.2.2 tp.out
  generalize hn : b - a = n at *
  have HN : Hid _ := hn
  clear hn
  go_wp2_with fail
  refine leaves_cons (f := 43) (args := #[.pointer (some ⟨w.heap.size, 0, none⟩), .pointer (some ⟨w.heap.size + 1, 0, none⟩)]) (by simp) (by simp [go_sem]) ?_
  refine (catchB_idle ⟨w.heap.size, 0, none⟩ ⟨w.heap.size + 1, 0, none⟩ _).mono ?_
  rintro e u' w'' ⟨rfl, rfl, rfl⟩
  rw [show ((V.setCell ⟨w.heap.size, 0, none⟩ (.slice xa n xc)).setCell ⟨w.heap.size + 1, 0, none⟩ (.int .i64 0)) = w2f w V (.slice xa n xc) 0 from rfl]
  clear n0 f0 n1 f1 H
  generalize w2f w V (.slice xa n xc) 0 = Z at *
  simp [Leaves, settle, results, Try.results29, go_sem, v0, v1]
  exact ⟨xa, xc, ⟨rfl, HN.out.symm, rfl⟩, by rw [HN.out]; exact FIN⟩

set_option maxHeartbeats 1000000 in
/-- A window that is not. -/
theorem bytes_left (h : Fs w q d mo l bad R Y) (a b : Nat) (hab : a ≤ b) (hb : b ≤ d.n) (l' R' : List Int)
    (WN : Calls Try.prog 45 #[.pointer (some ⟨q, 0, none⟩), .int .i64 a, .int .i64 b] (w2 w) fun e V => e = .panicked fchain ∧ Hid (Fs V q d mo l' bad R' (fun j => Y j ∨ (w.heap.size ≤ j ∧ j < w.heap.size + 2)) ∧ Mv (fun j => ¬ (Y j ∨ (w.heap.size ≤ j ∧ j < w.heap.size + 2))) (w2 w) V)) :
    Calls Try.prog 29 #[.pointer (some ⟨q, 0, none⟩), .int .i64 a, .int .i64 b] w fun e w' => e = .returned (.tuple #[.slice none 0 0, .int .i64 11]) ∧ LeftB w w' q d mo l' bad R' Y := by
  have hmf := make_fn
  have h2 := h.two
  have tp : Hid _ := h.top
  have HA := has_some q d.bp (w2 w) (by obtain ⟨c, ra, rc, S, X, h, e⟩ := h2; exact h.fp)
  have HL := flen_any h2
  have z1 : (a : Int) ≤ b := by omega
  have z2 : (b : Int) ≤ d.n := by omega
  clear h h2
  go_enter_defers Try.func29, Try.ntmps29
  go_wp2_with fail
  refine HA.mono ?_
  rintro e w1 ⟨rfl, hw⟩
  subst hw
  go_wp2_with fail
  refine HL.mono ?_
  rintro e w1 ⟨rfl, hw⟩
  subst hw
  clear HA HL
  go_wp2_with fail
  refine WN.mono ?_
  rintro e V ⟨rfl, H⟩
  clear WN
  obtain ⟨n0, f0, n1, f1⟩ := w2_kept H.out.2 (.inr ⟨Nat.le_refl _, by omega⟩) (.inr ⟨by omega, by omega⟩)
  obtain ⟨v0, v1⟩ := w2f_at (.slice none 0 0) 11 n0 n1
  have FIN := left_of (.slice none 0 0) 11 H.out.1 H.out.2 tp.out
  refine leaves_cons (f := 43) (args := #[.pointer (some ⟨w.heap.size, 0, none⟩), .pointer (some ⟨w.heap.size + 1, 0, none⟩)]) (by simp) (by simp [go_sem]) ?_
  refine (catchB_panicking ⟨w.heap.size, 0, none⟩ ⟨w.heap.size + 1, 0, none⟩ _ _ _ n0 f0 n1 f1 (by simp)).mono ?_
  rintro e u' w'' ⟨rfl, rfl, rfl⟩
  rw [show ((V.setCell ⟨w.heap.size, 0, none⟩ (.slice none 0 0)).setCell ⟨w.heap.size + 1, 0, none⟩ (.int .i64 11)) = w2f w V (.slice none 0 0) 11 from rfl]
  clear n0 f0 n1 f1 H
  generalize w2f w V (.slice none 0 0) 11 = Z at *
  simp [Leaves, settle, results, Try.results29, go_sem, v0, v1]
  exact FIN

/-- Bytes, where no page fails. -/
theorem bytes_ok (h : Fs w q d mo l bad R Y) (a b : Nat) (hab : a ≤ b) (hb : b ≤ d.n) (hR : R.length < 20000) (hf : ∀ s, s < cntp d.sz a b → ¬ fails (cap mo) l (a / d.sz) bad s) :
    Calls Try.prog 29 #[.pointer (some ⟨q, 0, none⟩), .int .i64 a, .int .i64 b] w fun e w' => ∃ xa xc, e = .returned (.tuple #[.slice xa (b - a) xc, .int .i64 0]) ∧ Hid (ToldB w w' q d mo (rk (cap mo) l (a / d.sz) (cntp d.sz a b)) bad (R ++ rr (cap mo) l (a / d.sz) (cntp d.sz a b)) Y a (b - a) xa xc) := by
  have h2 := h.two
  have hz := h.small.2.1
  by_cases e : a = b
  · subst e
    have e0 : cntp d.sz a a = 0 := by unfold cntp; rw [if_neg (by omega)]
    rw [e0]
    refine bytes_told h a a hab hb l (R ++ []) ?_
    rw [Nat.sub_self, List.append_nil]
    refine (window_none a (w2 w) q).mono ?_
    rintro e V ⟨rfl, rfl⟩
    refine ⟨none, 0, rfl, h2.mono (fun j hj => ?_), own_nil _ _ _ _, Mv.refl _ _⟩
    rcases hj with hj | hj
    · exact hj
    · cases hj
  · have hlt : a < b := by omega
    obtain ⟨c1, c2⟩ := cntp_spec hz hlt
    refine bytes_told h a b hab hb _ _ ?_
    refine (window_ok h2 a b (a / d.sz) (cntp d.sz a b) hlt hb rfl ⟨c1, c2⟩ hR hf).mono ?_
    rintro e V ⟨xa, xc, rfl, H⟩
    exact ⟨xa, xc, rfl, H.out.F, H.out.O, H.out.M⟩
/-- .. and where one does. -/
theorem bytes_bad (h : Fs w q d mo l bad R Y) (a b : Nat) (hab : a ≤ b) (hb : b ≤ d.n) (hR : R.length < 20000) (t : Nat) (ht : t < cntp d.sz a b) (hft : fails (cap mo) l (a / d.sz) bad t) (hf : ∀ s, s < t → ¬ fails (cap mo) l (a / d.sz) bad s) :
    Calls Try.prog 29 #[.pointer (some ⟨q, 0, none⟩), .int .i64 a, .int .i64 b] w fun e w' => e = .returned (.tuple #[.slice none 0 0, .int .i64 11]) ∧ Hid (LeftB w w' q d mo (rk (cap mo) l (a / d.sz) t) bad (R ++ rr (cap mo) l (a / d.sz) (t + 1)) Y) := by
  have h2 := h.two
  have hz := h.small.2.1
  have hlt : a < b := by
    unfold cntp at ht
    split at ht
    · assumption
    · omega
  obtain ⟨c1, c2⟩ := cntp_spec hz hlt
  refine bytes_left h a b hab hb _ _ ?_
  exact window_bad h2 a b (a / d.sz) t hlt hb rfl ⟨fun s hs => c1 s (by omega), hft⟩ hR hf
end
end Go.Proofs.Ytjlnmkoggobbgaa
