/- A file none of whose kept pages fails: windows by their bytes. -/
import Derived.Test.YtdhdkbaalgdicaaFI
namespace Go.Proofs.Ytdhdkbaalgdicaa
open Go.RowKit
set_option linter.unusedVariables false

/-- None of the pages that are kept is one that fails. -/
def Cl (bad : Nat → Bool) (l : List Int) : Prop := ∀ i : Nat, (i : Int) ∈ l → bad i = false
theorem Cl.nil (bad : Nat → Bool) : Cl bad [] := fun i h => by cases h
theorem step_mem {N : Nat} {l : List Int} {k x : Int} (h : x ∈ step N l k) : x = k ∨ x ∈ l := by
  unfold step at h
  rcases List.mem_cons.1 (List.mem_of_mem_take h) with h | h
  · exact .inl h
  · exact .inr (mem_wo.1 h).1
theorem rk_cl {bad : Nat → Bool} {N : Nat} {l : List Int} {i0 : Nat} (h : Cl bad l) : ∀ t, (∀ s, s < t → bad (i0 + s) = false) → Cl bad (rk N l i0 t)
  | 0, _ => h
  | t + 1, hb => by
    intro i hi
    rcases step_mem (show (i : Int) ∈ step N (rk N l i0 t) ((i0 + t : Nat) : Int) from hi) with e | e
    · have e' : i = i0 + t := by omega
      rw [e']
      exact hb t (by omega)
    · exact rk_cl h t (fun s hs => hb s (by omega)) i e
theorem rr_mem {N : Nat} {l : List Int} {i0 : Nat} {x : Int} : ∀ t, x ∈ rr N l i0 t → ∃ s, s < t ∧ x = ((i0 + s : Nat) : Int)
  | 0, h => by cases h
  | t + 1, h => by
    have h : x ∈ (if ((i0 + t : Nat) : Int) ∈ rk N l i0 t then rr N l i0 t else rr N l i0 t ++ [((i0 + t : Nat) : Int)]) := h
    split at h
    · obtain ⟨s, h1, h2⟩ := rr_mem t h
      exact ⟨s, by omega, h2⟩
    · rcases List.mem_append.1 h with h | h
      · obtain ⟨s, h1, h2⟩ := rr_mem t h
        exact ⟨s, by omega, h2⟩
      · exact ⟨t, by omega, List.mem_singleton.1 h⟩
theorem cl_fails {bad : Nat → Bool} {N : Nat} {l : List Int} {i0 t : Nat} (h : Cl bad l) (hb : ∀ s, s < t → bad (i0 + s) = false) (ht : bad (i0 + t) = true) : fails N l i0 bad t := by
  refine ⟨fun hm => ?_, ht⟩
  have := rk_cl h t hb _ hm
  rw [ht] at this
  cases this

theorem cntp_at {sz a b : Nat} (hz : 0 < sz) {s : Nat} (hs : s < cntp sz a b) : ∃ x, a ≤ x ∧ x < b ∧ x / sz = a / sz + s := by
  have hab : a < b := by
    unfold cntp at hs
    split at hs
    · assumption
    · omega
  have h1 := (cntp_spec hz hab).1 s hs
  cases s with
  | zero => exact ⟨a, Nat.le_refl _, hab, rfl⟩
  | succ s =>
    refine ⟨(a / sz + (s + 1)) * sz, ?_, h1, Nat.mul_div_cancel _ hz⟩
    have h2 := Nat.div_add_mod a sz
    have h3 := Nat.mod_lt a hz
    rw [Nat.mul_comm] at h2
    rw [show a / sz + (s + 1) = a / sz + s + 1 by omega, Nat.add_mul, Nat.add_mul]
    have := Nat.zero_le (s * sz)
    omega
theorem cntp_has {sz a b x : Nat} (h1 : a ≤ x) (h2 : x < b) : ∃ s, s < cntp sz a b ∧ x / sz = a / sz + s := by
  have e : cntp sz a b = (b - 1) / sz - a / sz + 1 := by unfold cntp; rw [if_pos (by omega)]
  have h3 : a / sz ≤ x / sz := Nat.div_le_div_right h1
  have h4 : x / sz ≤ (b - 1) / sz := Nat.div_le_div_right (by omega)
  exact ⟨x / sz - a / sz, by omega, by omega⟩
theorem div_slow {sz : Nat} (hz : 0 < sz) (a k : Nat) : (a + k) / sz ≤ a / sz + k := by
  refine Nat.le_of_lt_succ ((Nat.div_lt_iff_lt_mul hz).2 ?_)
  have h2 := Nat.div_add_mod a sz
  have h3 := Nat.mod_lt a hz
  rw [Nat.mul_comm] at h2
  have h4 : k ≤ k * sz := Nat.le_mul_of_pos_right k hz
  rw [Nat.succ_eq_add_one, show a / sz + k + 1 = a / sz + 1 + k by omega, Nat.add_mul, Nat.add_mul]
  omega
theorem cntp_short {sz a b : Nat} (hz : 0 < sz) : cntp sz a b ≤ b - a := by
  unfold cntp
  split
  · have h := div_slow hz a (b - 1 - a)
    rw [show a + (b - 1 - a) = b - 1 by omega] at h
    omega
  · omega

/-- What was read since: pages that hold some of these bytes. -/
def Rd (d : Pd) (R R' : List Int) (G : Nat → Prop) (n : Nat) : Prop := (∀ y, y ∈ R' → y ∈ R ∨ ∃ x, G x ∧ y = ((x / d.sz : Nat) : Int)) ∧ R'.length ≤ R.length + n
theorem Rd.refl (d : Pd) (R : List Int) (G : Nat → Prop) : Rd d R R G 0 := ⟨fun y h => .inl h, Nat.le_refl _⟩
theorem Rd.trans {d : Pd} {R R1 R2 : List Int} {G H K : Nat → Prop} {n m : Nat} (h : Rd d R R1 G n) (k : Rd d R1 R2 H m) (hg : ∀ x, G x → K x) (hh : ∀ x, H x → K x) : Rd d R R2 K (n + m) := by
  refine ⟨fun y hy => ?_, by have := h.2; have := k.2; omega⟩
  rcases k.1 y hy with h1 | ⟨x, h1, h2⟩
  · rcases h.1 y h1 with h3 | ⟨x, h3, h4⟩
    · exact .inl h3
    · exact .inr ⟨x, hg x h3, h4⟩
  · exact .inr ⟨x, hh x h1, h2⟩
theorem Rd.mono {d : Pd} {R R1 : List Int} {G K : Nat → Prop} {n m : Nat} (h : Rd d R R1 G n) (hg : ∀ x, G x → K x) (hn : n ≤ m) : Rd d R R1 K m := by
  refine ⟨fun y hy => ?_, by have := h.2; omega⟩
  rcases h.1 y hy with h3 | ⟨x, h3, h4⟩
  · exact .inl h3
  · exact .inr ⟨x, hg x h3, h4⟩

section
variable {w : World} {q : Nat} {d : Pd} {mo : Int} {l : List Int} {bad : Nat → Bool} {R : List Int} {Y : Nat → Prop}
theorem rd_rr (hz : 0 < d.sz) (N : Nat) (a b t : Nat) (ht : t ≤ cntp d.sz a b) : Rd d R (R ++ rr N l (a / d.sz) t) (fun x => a ≤ x ∧ x < b) (b - a) := by
  refine ⟨fun y hy => ?_, ?_⟩
  · rcases List.mem_append.1 hy with h | h
    · exact .inl h
    · obtain ⟨s, h1, h2⟩ := rr_mem t h
      obtain ⟨x, x1, x2, x3⟩ := cntp_at hz (show s < cntp d.sz a b by omega)
      exact .inr ⟨x, ⟨x1, x2⟩, by rw [h2, x3]⟩
  · rw [List.length_append]
    have := rr_le N l (a / d.sz) t
    have := cntp_short (a := a) (b := b) hz
    omega
theorem fok (h : Fs w q d mo l bad R Y) (cl : Cl bad l) (a b : Nat) (hab : a ≤ b) (hb : b ≤ d.n) (hR : R.length < 20000) (hg : ∀ x, a ≤ x → x < b → bad (x / d.sz) = false) :
    Calls Try.prog 48 #[.pointer (some ⟨q, 0, none⟩), .int .i64 a, .int .i64 b] w fun e w' => ∃ xa xc, e = .returned (.tuple #[.slice xa (b - a) xc, .int .i64 0]) ∧ Hid (∃ l' R', ToldB w w' q d mo l' bad R' Y a (b - a) xa xc ∧ Cl bad l' ∧ Rd d R R' (fun x => a ≤ x ∧ x < b) (b - a)) := by
  have hz := h.small.2.1
  have good : ∀ s, s < cntp d.sz a b → bad (a / d.sz + s) = false := by
    intro s hs
    obtain ⟨x, x1, x2, x3⟩ := cntp_at hz hs
    rw [← x3]
    exact hg x x1 x2
  refine (bytes_ok h a b hab hb hR (fun s hs hf => by have := good s hs; rw [hf.2] at this; cases this)).mono ?_
  rintro e w' ⟨xa, xc, rfl, T⟩
  exact ⟨xa, xc, rfl, _, _, T.out, rk_cl cl _ good, rd_rr hz _ a b _ (Nat.le_refl _)⟩
theorem fbad (h : Fs w q d mo l bad R Y) (cl : Cl bad l) (a b : Nat) (hab : a ≤ b) (hb : b ≤ d.n) (hR : R.length < 20000) (x : Nat) (h1 : a ≤ x) (h2 : x < b) (hx : bad (x / d.sz) = true) :
    Calls Try.prog 48 #[.pointer (some ⟨q, 0, none⟩), .int .i64 a, .int .i64 b] w fun e w' => e = .returned (.tuple #[.slice none 0 0, .int .i64 11]) ∧ Hid (∃ l' R', LeftB w w' q d mo l' bad R' Y ∧ Cl bad l' ∧ Rd d R R' (fun x => a ≤ x ∧ x < b) (b - a)) := by
  have hz := h.small.2.1
  obtain ⟨s, s1, s2⟩ := cntp_has (sz := d.sz) h1 h2
  rw [s2] at hx
  have first : ∀ n, (∀ s, s < n → bad (a / d.sz + s) = false) ∨ ∃ t, t < n ∧ bad (a / d.sz + t) = true ∧ ∀ s, s < t → bad (a / d.sz + s) = false := by
    intro n
    induction n with
    | zero => exact .inl (fun s hs => by omega)
    | succ n ih =>
      rcases ih with ih | ⟨t, t1, t2, t3⟩
      · cases e : bad (a / d.sz + n) with
        | true => exact .inr ⟨n, by omega, e, ih⟩
        | false =>
          refine .inl (fun s hs => ?_)
          by_cases e' : s = n
          · rw [e']; exact e
          · exact ih s (by omega)
      · exact .inr ⟨t, by omega, t2, t3⟩
  rcases first (cntp d.sz a b) with hn | ⟨t, t1, t2, t3⟩
  · have := hn s s1
    rw [hx] at this
    cases this
  · refine (bytes_bad h a b hab hb hR t t1 (cl_fails cl t3 t2) (fun s hs hf => by have := t3 s hs; rw [hf.2] at this; cases this)).mono ?_
    rintro e w' ⟨rfl, T⟩
    exact ⟨rfl, _, _, T.out, rk_cl cl _ t3, rd_rr hz _ a b _ (by omega)⟩
end
end Go.Proofs.Ytdhdkbaalgdicaa
