/- Lists of keys: who was used last. -/
import Derived.Test.YtjlnmkoggobbgaaN8
namespace Go.Proofs.Ytjlnmkoggobbgaa
open Go.RowKit

def lof (l : List Int) (i : Nat) : Int := l[i]?.getD 0
def ks (S : List Kw) : List Int := S.map Prod.fst
theorem kof_lof (S : List Kw) : kof S = lof (ks S) := by
  funext i
  unfold kof lof ks
  rw [List.getElem?_map]
theorem ks_length (S : List Kw) : (ks S).length = S.length := by simp [ks]
/-- A list without one. -/
def wo (l : List Int) (k : Int) : List Int := l.filter (fun x => decide (x ≠ k))
theorem ks_sdel (S : List Kw) (k : Int) : ks (sdel S k) = wo (ks S) k := by
  unfold ks sdel wo
  rw [List.filter_map]
  rfl
theorem wo_cons (x : Int) (l : List Int) (k : Int) : wo (x :: l) k = if x = k then wo l k else x :: wo l k := by
  unfold wo
  rw [List.filter_cons]
  by_cases h : x = k <;> simp [h]
theorem wo_none {l : List Int} {k : Int} (h : k ∉ l) : wo l k = l := by
  unfold wo
  rw [List.filter_eq_self]
  intro x hx
  have : x ≠ k := fun e => h (e ▸ hx)
  simpa using this
theorem mem_wo {l : List Int} {k x : Int} : x ∈ wo l k ↔ x ∈ l ∧ x ≠ k := by
  unfold wo; rw [List.mem_filter]; simp
theorem sfnd_none_iff {S : List Kw} {k : Int} : sfnd S k = none ↔ k ∉ ks S := by
  unfold sfnd ks
  rw [List.find?_eq_none]
  constructor
  · intro h e
    obtain ⟨p, hp, e⟩ := List.mem_map.1 e
    have := h p hp
    simp [e] at this
  · intro h p hp
    have : p.1 ≠ k := fun e => h (e ▸ List.mem_map_of_mem hp)
    simpa using this
/-- A key is used: at most N are kept. -/
def step (N : Nat) (l : List Int) (k : Int) : List Int := (k :: wo l k).take N
theorem ks_pS {S : List Kw} (hn : (S.map Prod.fst).Nodup) {mo : Int} {N : Nat} (hN : (N : Int) = max mo 1) (hm : S.length ≤ N) (k : Int) (v : Nat → Value) : ks (pS mo S k v) = step N (ks S) k := by
  unfold step
  cases hf : sfnd S k with
  | none =>
    have hk := sfnd_none_iff.1 hf
    rw [wo_none hk]
    by_cases hr : S.length + 1 ≤ N
    · rw [(pS_room hf (by omega) v).2.1]
      show k :: ks S = _
      rw [List.take_of_length_le (by rw [List.length_cons, ks_length]; omega)]
    · rw [(pS_full (mo := mo) hf (by omega) v).2.1]
      unfold ks
      rw [List.map_dropLast, List.dropLast_eq_take]
      have : (List.map Prod.fst ((k, v) :: S)).length - 1 = N := by simp; omega
      rw [this]; rfl
  | some p =>
    have h1 := sdel_length hn hf
    rw [(pS_has hn hf (by omega) v).2.1]
    show k :: ks (sdel S k) = _
    rw [ks_sdel, List.take_of_length_le]
    rw [List.length_cons, ← ks_sdel, ks_length]; omega
theorem ks_get {S : List Kw} (hn : (S.map Prod.fst).Nodup) {N : Nat} (hm : S.length ≤ N) {k : Int} {p : Kw} (hf : sfnd S k = some p) : ks (p :: sdel S k) = step N (ks S) k := by
  have h1 := sdel_length hn hf
  unfold step
  show p.1 :: ks (sdel S k) = _
  rw [(sfnd_key hf).2, ks_sdel, List.take_of_length_le]
  rw [List.length_cons, ← ks_sdel, ks_length]; omega

/-- Each but once, where it stands first. -/
def rcn : List Int → List Int
  | [] => []
  | y :: r => y :: wo (rcn r) y
theorem nodup_wo {l : List Int} (h : l.Nodup) (k : Int) : (wo l k).Nodup := List.filter_sublist.nodup h
theorem nodup_rcn : ∀ l, (rcn l).Nodup
  | [] => List.nodup_nil
  | y :: r => by
    unfold rcn
    rw [List.nodup_cons]
    exact ⟨fun h => (mem_wo.1 h).2 rfl, nodup_wo (nodup_rcn r) y⟩
theorem rcn_snoc : ∀ (l : List Int) (y : Int), rcn (l ++ [y]) = if y ∈ rcn l then rcn l else rcn l ++ [y]
  | [], y => by simp [rcn, wo]
  | a :: r, y => by
    show a :: wo (rcn (r ++ [y])) a = _
    rw [rcn_snoc r y]
    show _ = if y ∈ a :: wo (rcn r) a then a :: wo (rcn r) a else (a :: wo (rcn r) a) ++ [y]
    by_cases h : y ∈ rcn r
    · rw [if_pos h, if_pos]
      by_cases e : y = a
      · rw [e]; exact List.mem_cons_self
      · exact List.mem_cons_of_mem _ (mem_wo.2 ⟨h, e⟩)
    · rw [if_neg h]
      have e1 : wo (rcn r ++ [y]) a = wo (rcn r) a ++ wo [y] a := by unfold wo; rw [List.filter_append]
      rw [e1]
      by_cases e : y = a
      · subst e
        rw [if_pos List.mem_cons_self, wo_cons, if_pos rfl]
        simp [wo]
      · rw [wo_cons, if_neg e, if_neg]
        · rfl
        · intro h'
          rcases List.mem_cons.1 h' with h' | h'
          · exact e h'
          · exact h (mem_wo.1 h').1
theorem rcn_pre (l m : List Int) : ∃ r, rcn (l ++ m) = rcn l ++ r := by
  induction m generalizing l with
  | nil => exact ⟨[], by simp⟩
  | cons y m ih =>
    obtain ⟨r, hr⟩ := ih (l ++ [y])
    have e : l ++ y :: m = (l ++ [y]) ++ m := by simp
    rw [e, hr, rcn_snoc]
    split
    · exact ⟨r, rfl⟩
    · exact ⟨[y] ++ r, by simp⟩
theorem take_wo {l : List Int} (hn : l.Nodup) (k : Int) (N : Nat) : (wo (l.take (N + 1)) k).take N = (wo l k).take N := by
  induction l generalizing N with
  | nil => simp
  | cons x r ih =>
    rw [List.nodup_cons] at hn
    rw [List.take_succ_cons, wo_cons, wo_cons]
    by_cases e : x = k
    · subst e
      rw [if_pos rfl, if_pos rfl, wo_none hn.1, wo_none (fun h => hn.1 (List.mem_of_mem_take h)), List.take_take, Nat.min_self]
    · rw [if_neg e, if_neg e]
      cases N with
      | zero => rfl
      | succ N => rw [List.take_succ_cons, List.take_succ_cons, ih hn.2]
theorem step_take {l : List Int} (hn : l.Nodup) (k : Int) (N : Nat) (hN : 0 < N) : step N (l.take N) k = (k :: wo l k).take N := by
  unfold step
  obtain ⟨M, rfl⟩ : ∃ M, N = M + 1 := ⟨N - 1, by omega⟩
  rw [List.take_succ_cons, List.take_succ_cons, take_wo hn]

/-- The first n of a row, the last first. -/
def rv (q : Nat → Int) : Nat → List Int
  | 0 => []
  | n + 1 => q n :: rv q n
theorem rv_length (q : Nat → Int) : ∀ n, (rv q n).length = n
  | 0 => rfl
  | n + 1 => by show (rv q n).length + 1 = n + 1; rw [rv_length q n]
theorem rv_get (q : Nat → Int) : ∀ (n j : Nat), j < n → (rv q n)[j]? = some (q (n - 1 - j))
  | 0, j, h => by omega
  | n + 1, 0, _ => by show some (q n) = _; congr 2
  | n + 1, j + 1, h => by
    show (rv q n)[j]? = _
    rw [rv_get q n j (by omega)]
    congr 2
    omega
theorem rv_take (q : Nat → Int) (n j : Nat) (h : j < n) : (rv q n).take (j + 1) = (rv q n).take j ++ [q (n - 1 - j)] := by
  rw [List.take_add_one, rv_get q n j h]; rfl

end Go.Proofs.Ytjlnmkoggobbgaa
