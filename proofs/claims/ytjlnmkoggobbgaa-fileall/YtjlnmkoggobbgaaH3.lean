/- Which pages are kept, where there is room for all. -/
import Derived.Test.YtjlnmkoggobbgaaH2
namespace Go.Proofs.Ytjlnmkoggobbgaa
open Go.RowKit

theorem rv_mem (q : Nat → Int) : ∀ (n j : Nat), j < n → q j ∈ rv q n
  | 0, j, h => by omega
  | n + 1, j, h => by
    show q j ∈ q n :: rv q n
    by_cases e : j = n
    · rw [e]; exact List.mem_cons_self
    · exact List.mem_cons_of_mem _ (rv_mem q n j (by omega))
theorem mem_rv (q : Nat → Int) : ∀ (n : Nat) (x : Int), x ∈ rv q n → ∃ j, j < n ∧ x = q j
  | 0, x, h => by cases h
  | n + 1, x, h => by
    rcases List.mem_cons.1 h with h | h
    · exact ⟨n, by omega, h⟩
    · obtain ⟨j, h1, h2⟩ := mem_rv q n x h
      exact ⟨j, by omega, h2⟩
/-- From none on: those that were asked for. -/
theorem rk_new (N i0 : Nat) : ∀ t, t ≤ N → rk N [] i0 t = rv (fun j => ((i0 + j : Nat) : Int)) t
  | 0, _ => rfl
  | t + 1, h => by
    show step N (rk N [] i0 t) _ = _
    rw [rk_new N i0 t (by omega)]
    unfold step
    rw [wo_none, List.take_of_length_le]
    · rfl
    · rw [List.length_cons, rv_length]; exact h
    · intro hm
      obtain ⟨j, h1, h2⟩ := mem_rv _ _ _ hm
      have h3 : ((i0 + t : Nat) : Int) = ((i0 + j : Nat) : Int) := h2
      omega
theorem wo_shorter {l : List Int} {k : Int} (h : k ∈ l) : (wo l k).length < l.length := by
  unfold wo
  rw [List.length_filter_lt_length_iff_exists]
  exact ⟨k, h, by simp⟩
theorem step_hit {N : Nat} {l : List Int} {k : Int} (hl : l.length ≤ N) (h : k ∈ l) : (step N l k).length ≤ N ∧ ∀ x, x ∈ l → x ∈ step N l k := by
  have h1 := wo_shorter h
  have e : step N l k = k :: wo l k := by unfold step; rw [List.take_of_length_le (by rw [List.length_cons]; omega)]
  rw [e]
  refine ⟨by rw [List.length_cons]; omega, fun x hx => ?_⟩
  by_cases e : x = k
  · rw [e]; exact List.mem_cons_self
  · exact List.mem_cons_of_mem _ (mem_wo.2 ⟨hx, e⟩)
/-- All are there: none is read. -/
theorem rk_hits {N : Nat} {l : List Int} {i0 T : Nat} (hl : l.length ≤ N) (h : ∀ s, s < T → ((i0 + s : Nat) : Int) ∈ l) : ∀ t, t ≤ T → (rk N l i0 t).length ≤ N ∧ (∀ s, s < T → ((i0 + s : Nat) : Int) ∈ rk N l i0 t) ∧ rr N l i0 t = []
  | 0, _ => ⟨hl, h, rfl⟩
  | t + 1, ht => by
    obtain ⟨h1, h2, h3⟩ := rk_hits hl h t (by omega)
    have hm := h2 t (by omega)
    have hs := step_hit h1 hm
    refine ⟨hs.1, fun s hs' => hs.2 _ (h2 s hs'), ?_⟩
    show (if _ then _ else _) = _
    rw [if_pos hm, h3]
theorem rk_well {N : Nat} {l : List Int} {i0 T : Nat} (hl : l.length ≤ N) (h : ∀ s, s < T → ((i0 + s : Nat) : Int) ∈ l) (bad : Nat → Bool) : ∀ s, s < T → ¬ fails N l i0 bad s := fun s hs hf => hf.1 ((rk_hits hl h s (by omega)).2.1 s hs)

theorem among_all (m j : Nat) : among (fun i => (i : Int)) m j = decide (j < m) := by
  induction m with
  | zero => rw [among_zero]; simp
  | succ m ih =>
    rw [among_succ, ih, Bool.eq_iff_iff]
    simp
    omega

theorem cntp_pages {sz a b n m : Nat} (hz : 0 < sz) (hab : a < b) (hbn : b ≤ n) (hc : ∀ i, i * sz < n ↔ i < m) : ∀ s, s < cntp sz a b → a / sz + s < m := by
  intro s hs
  have := (cntp_spec hz hab).1 s hs
  exact (hc _).1 (by omega)
theorem cntp_pos {sz a b : Nat} (hab : a < b) : 0 < cntp sz a b := by unfold cntp; rw [if_pos hab]; omega
/-- Few pages, if they are great. -/
theorem cntp_few {sz a b : Nat} (hz : 5 ≤ sz) (hb : b ≤ 300) : cntp sz a b ≤ 61 := by
  unfold cntp
  split
  · have h1 : (b - 1) / sz ≤ (b - 1) / 5 := Nat.div_le_div_left hz (by omega)
    have h2 : (b - 1) / 5 ≤ 60 := by omega
    have h3 := Nat.sub_le ((b - 1) / sz) (a / sz)
    omega
  · omega
end Go.Proofs.Ytjlnmkoggobbgaa
