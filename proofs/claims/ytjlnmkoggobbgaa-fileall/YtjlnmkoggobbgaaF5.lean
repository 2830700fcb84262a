/- A window, page by page. -/
import Derived.Test.YtjlnmkoggobbgaaF4
namespace Go.Proofs.Ytjlnmkoggobbgaa
open Go.RowKit

/-- Which pages are kept behind t of them, from i0 on; which were read. -/
def rk (N : Nat) (l : List Int) (i0 : Nat) : Nat → List Int
  | 0 => l
  | t + 1 => step N (rk N l i0 t) ((i0 + t : Nat) : Int)
def rr (N : Nat) (l : List Int) (i0 : Nat) : Nat → List Int
  | 0 => []
  | t + 1 => if ((i0 + t : Nat) : Int) ∈ rk N l i0 t then rr N l i0 t else rr N l i0 t ++ [((i0 + t : Nat) : Int)]
def fails (N : Nat) (l : List Int) (i0 : Nat) (bad : Nat → Bool) (t : Nat) : Prop := ((i0 + t : Nat) : Int) ∉ rk N l i0 t ∧ bad (i0 + t) = true
theorem rr_le (N : Nat) (l : List Int) (i0 : Nat) : ∀ t, (rr N l i0 t).length ≤ t
  | 0 => Nat.le_refl _
  | t + 1 => by
    have := rr_le N l i0 t
    unfold rr
    split
    · omega
    · rw [List.length_append, List.length_singleton]; omega
theorem first_fail (N : Nat) (l : List Int) (i0 : Nat) (bad : Nat → Bool) : ∀ n, (∀ s, s < n → ¬ fails N l i0 bad s) ∨ ∃ t, t < n ∧ fails N l i0 bad t ∧ ∀ s, s < t → ¬ fails N l i0 bad s
  | 0 => .inl (fun s h => by omega)
  | n + 1 => by
    rcases first_fail N l i0 bad n with h | ⟨t, h1, h2, h3⟩
    · by_cases hf : fails N l i0 bad n
      · exact .inr ⟨n, by omega, hf, h⟩
      · refine .inl (fun s hs => ?_)
        by_cases e : s = n
        · rw [e]; exact hf
        · exact h s (by omega)
    · exact .inr ⟨t, by omega, h2, h3⟩

/-- How many bytes there are behind so many pages. -/
def wl (a b sz i : Nat) : Nat := min b (i * sz) - a

/-- What the window is behind t pages. -/
structure Wi (w0 wr : World) (q : Nat) (d : Pd) (mo : Int) (l : List Int) (bad : Nat → Bool) (R : List Int) (Y : Nat → Prop) (a b i0 t : Nat) (xa : Option Addr) (xn xc : Nat) : Prop where
  F : Fs wr q d mo (rk (cap mo) l i0 t) bad (R ++ rr (cap mo) l i0 t) (fun j => Y j ∨ bk xa = some j)
  O : Own wr w0.heap.size 5 (.slice xa xn xc) xn (By fun j => d.f (a + j))
  n : xn = wl a b d.sz (i0 + t)
  M : Mv (fun j => ¬ Y j) w0 wr
  top : d.top ≤ w0.heap.size

theorem made0b (w : World) (n : Nat) (hn : n < 90000) (f : Nat → Int) : ∃ W, (Instr.makeSlice 22 (.int .i64 0) (.int .i64 n)).run Try.prog w = .ok (.slice (some ⟨w.heap.size, 0, none⟩) 0 n) W ∧
    Own W w.heap.size 5 (.slice (some ⟨w.heap.size, 0, none⟩) 0 n) 0 (By f) ∧ Below w.heap.size w W := by
  obtain ⟨W, hr, ho, hg⟩ := run_make_own (P := Try.prog) w w.heap.size 22 5 Try.t5 (.int .u8 0) 1 Try.underlying22 info5 (by kernel_rfl) (by kernel_rfl) .i64 .i64 n (by show 1 * n ≤ _; omega) (by simp only [maxLen]; omega) (Nat.le_refl _)
  exact ⟨W, hr, ho, (Mv.of_grown hg).below (Nat.le_refl _) (fun _ _ e => by cases e)⟩

section
variable {w0 wr : World} {q : Nat} {d : Pd} {mo : Int} {l : List Int} {bad : Nat → Bool} {R : List Int} {Y : Nat → Prop} {a b i0 t : Nat} {xa : Option Addr} {xn xc : Nat}

/-- One page more. -/
theorem Wi.app (h : Wi w0 wr q d mo l bad R Y a b i0 t xa xn xc) {w2 : World} {g lo m : Nat} (G : Got wr w2 q d mo (rk (cap mo) l i0 (t + 1)) bad (R ++ rr (cap mo) l i0 (t + 1)) (fun j => Y j ∨ bk xa = some j) (i0 + t) g)
    (hm : lo + m ≤ plen d (i0 + t)) (hn : xn + m = wl a b d.sz (i0 + t + 1)) (hc : ∀ j, j < m → a + (xn + j) = (i0 + t) * d.sz + (lo + j)) (hs : xn + m < 50000) (cp : Nat) :
    ∃ xa' xc' W, (Builtin.append_ #[22, 22] 22 #[.slice xa xn xc, .slice (some ⟨g, lo, none⟩) m cp]).run Try.prog w2 = .ok (.slice xa' (xn + m) xc') W ∧ Wi w0 W q d mo l bad R Y a b i0 (t + 1) xa' (xn + m) xc' := by
  obtain ⟨F, MY, cells, hYg, hgl⟩ := G
  have O2 := h.O.mv MY (fun k hk e => e (.inr (by rw [own_blk] at hk; exact hk)))
  have S2 : Sl w2 (some ⟨g, lo, none⟩) m (By fun j => d.f ((i0 + t) * d.sz + (lo + j))) := by
    intro j hj
    exact ⟨g, lo, rfl, hgl, cells (lo + j) (by omega)⟩
  have hsz := h.M.size
  obtain ⟨v', W, hr, ho, hg, hf⟩ := append_own 22 22 5 Try.t5 (.int .u8 0) 1 Try.underlying22 info5 (by kernel_rfl) (by kernel_rfl) (by kernel_rfl) rfl (by omega) w2 w0.heap.size _ xn m cp _ _ (some ⟨g, lo, none⟩) O2 S2 (fun _ => rfl) (by omega) (fun h => by cases h) (Nat.le_trans hsz MY.size)
  obtain ⟨xa', xc', rfl, _⟩ := ho.sl
  rw [own_blk, own_blk] at hf
  have hM := Mv.of_grown hg
  rw [own_blk] at hM
  have hx : ∀ j, bk xa = some j → w0.heap.size ≤ j ∧ j < wr.heap.size := fun j hj => h.O.blk j (by rw [own_blk]; exact hj)
  have hx' : ∀ j, bk xa' = some j → w0.heap.size ≤ j ∧ j < W.heap.size := fun j hj => ho.blk j (by rw [own_blk]; exact hj)
  have tp := h.top
  refine ⟨xa', xc', W, hr, ⟨(F.mv hM (fun j hj => ⟨.inr hj, .inl (by have := hx j hj; omega)⟩)).mono (fun j hj => ?_), ho.congr (fun j hj => ?_), hn, ?_, tp⟩⟩
  · rcases hj with hj | hj
    · exact .inl (.inl hj)
    · rcases hf with hf | ⟨k, h1, h2⟩
      · exact .inl (.inr (hf ▸ hj))
      · rw [h1] at hj
        have e := Option.some.inj hj
        exact .inr ⟨by omega, (hx' j (by rw [h1, e])).2⟩
  · unfold cat By
    split
    · rfl
    · have := hc (j - xn) (by omega)
      dsimp only
      rw [← this]
      congr 2
      omega
  · refine (h.M.trans MY (fun j _ e hy => e (.inl hy))).trans hM (fun j hj e => ?_)
    have := hx j e
    omega

theorem rk_hit (h : ((i0 + t : Nat) : Int) ∈ rk (cap mo) l i0 t) : rr (cap mo) l i0 (t + 1) = rr (cap mo) l i0 t := by
  show (if _ then _ else _) = _
  rw [if_pos h]
theorem rk_miss (h : ((i0 + t : Nat) : Int) ∉ rk (cap mo) l i0 t) : rr (cap mo) l i0 (t + 1) = rr (cap mo) l i0 t ++ [((i0 + t : Nat) : Int)] := by
  show (if _ then _ else _) = _
  rw [if_neg h]

/-- A page of the window, whichever way. -/
theorem Wi.page (h : Wi w0 wr q d mo l bad R Y a b i0 t xa xn xc) (hf : ¬ fails (cap mo) l i0 bad t) (him : i0 + t < d.m) (hR : R.length + t < 50000) :
    Calls Try.prog 50 #[.pointer (some ⟨q, 0, none⟩), .int .i64 ((i0 + t : Nat) : Int)] wr fun e w' => ∃ g, e = .returned (.slice (some ⟨g, 0, none⟩) (plen d (i0 + t)) (plen d (i0 + t))) ∧
      Hid (Got wr w' q d mo (rk (cap mo) l i0 (t + 1)) bad (R ++ rr (cap mo) l i0 (t + 1)) (fun j => Y j ∨ bk xa = some j) (i0 + t) g) := by
  by_cases hi : ((i0 + t : Nat) : Int) ∈ rk (cap mo) l i0 t
  · rw [rk_hit hi]
    exact fpage_hit h.F hi
  · rw [rk_miss hi, ← List.append_assoc]
    have hb : bad (i0 + t) = false := by
      cases e : bad (i0 + t) with
      | false => rfl
      | true => exact (hf ⟨hi, e⟩).elim
    exact fpage_miss h.F hi him hb (by rw [List.length_append]; have := rr_le (cap mo) l i0 t; omega)
theorem Wi.page_bad (h : Wi w0 wr q d mo l bad R Y a b i0 t xa xn xc) (hf : fails (cap mo) l i0 bad t) (him : i0 + t < d.m) (hR : R.length + t < 50000) :
    Calls Try.prog 50 #[.pointer (some ⟨q, 0, none⟩), .int .i64 ((i0 + t : Nat) : Int)] wr fun e w' => e = .panicked fchain ∧ Hid (Fs w' q d mo (rk (cap mo) l i0 t) bad (R ++ rr (cap mo) l i0 (t + 1)) Y ∧ Mv (fun j => ¬ Y j) w0 w') := by
  rw [rk_miss hf.1, ← List.append_assoc]
  refine (fpage_bad h.F hf.1 him hf.2 (by rw [List.length_append]; have := rr_le (cap mo) l i0 t; omega)).mono ?_
  rintro e w' ⟨rfl, H⟩
  exact ⟨rfl, H.out.1.mono (fun j hj => .inl hj), h.M.trans H.out.2 (fun j _ e hy => e (.inl hy))⟩

theorem Wi.start {W : World} {c : Nat} (h : Fs w0 q d mo l bad R Y) (O : Own W w0.heap.size 5 (.slice (some ⟨w0.heap.size, 0, none⟩) 0 c) 0 (By fun j => d.f (a + j))) (B : Below w0.heap.size w0 W) (hi : i0 * d.sz ≤ a) : Wi w0 W q d mo l bad R Y a b i0 0 (some ⟨w0.heap.size, 0, none⟩) 0 c := by
  have hl := (O.blk _ rfl).2
  have tp : d.top ≤ w0.heap.size := by
    obtain ⟨c, ra, rc, S, X, h, e⟩ := h
    exact h.P.tp
  refine ⟨?_, O, ?_, (Mv.of_below B).mono (fun j hj e => by omega), tp⟩
  · show Fs W q d mo l bad (R ++ []) _
    rw [List.append_nil]
    refine (h.below B).mono (fun j hj => ?_)
    rcases hj with hj | hj
    · exact .inl hj
    · have e : w0.heap.size = j := Option.some.inj hj
      have hl' : w0.heap.size < W.heap.size := hl
      exact .inr (by omega)
  · unfold wl
    rw [Nat.add_zero]
    omega
end
end Go.Proofs.Ytjlnmkoggobbgaa
