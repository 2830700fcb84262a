/- The cache that is a list, of noughts: by its keys alone. -/
import Derived.Test.YtjlnmkoggobbgaaR7
import Derived.Test.YtjlnmkoggobbgaaH4
namespace Go.Proofs.Ytjlnmkoggobbgaa
open Go.RowKit

def zt (l : List Int) : List Pr := l.map (fun k => (k, 0))
theorem zt_length (l : List Int) : (zt l).length = l.length := by simp [zt]
theorem zt_keys (l : List Int) : (zt l).map Prod.fst = l := by
  unfold zt
  rw [List.map_map]
  exact List.map_id l
theorem zt_nodup {l : List Int} (h : l.Nodup) : nodupT (zt l) := by
  unfold nodupT
  rw [zt_keys]; exact h
theorem zt_kT (l : List Int) (i : Nat) : kT (zt l) i = lof l i := by
  unfold kT lof zt
  rw [List.getElem?_map]
  cases l[i]? <;> rfl
theorem zt_vT (l : List Int) (i : Nat) : vT (zt l) i = 0 := by
  unfold vT zt
  rw [List.getElem?_map]
  cases l[i]? <;> rfl
theorem zt_tdel (l : List Int) (k : Int) : tdel (zt l) k = zt (wo l k) := by
  unfold tdel zt wo
  rw [List.filter_map]
  rfl
theorem wo_le (l : List Int) (k : Int) : (wo l k).length ≤ l.length := List.length_filter_le _ _
theorem zt_tS {l : List Int} {mo : Int} (hl : l.length ≤ cap mo) (k : Int) : tS mo (zt l) k 0 = zt (step (cap mo) l k) := by
  have e := cap_eq mo
  have h1 := wo_le l k
  unfold tS step
  rw [zt_tdel]
  by_cases h : (wo l k).length + 1 ≤ cap mo
  · have ok : tOk mo (zt l) k = true := by
      unfold tOk
      rw [decide_eq_true_iff, zt_tdel, zt_length]
      omega
    rw [if_pos ok, List.take_of_length_le (by rw [List.length_cons]; exact h)]
    rfl
  · have ok : tOk mo (zt l) k = false := by
      unfold tOk
      rw [decide_eq_false_iff_not, zt_tdel, zt_length]
      omega
    rw [ok, if_neg (by simp), List.dropLast_eq_take]
    have e2 : ((k, 0) :: zt (wo l k)).length - 1 = cap mo := by rw [List.length_cons, zt_length]; omega
    rw [e2]
    unfold zt
    rw [List.map_take]
    rfl
theorem step_hit_eq {N : Nat} {l : List Int} {k : Int} (hl : l.length ≤ N) (h : k ∈ l) : step N l k = k :: wo l k := by
  have h1 := wo_shorter h
  unfold step
  rw [List.take_of_length_le (by rw [List.length_cons]; omega)]
theorem step_keep {N : Nat} {l : List Int} (hn : l.Nodup) (k : Int) : (step N l k).Nodup ∧ (step N l k).length ≤ N ∧ (step N l k).length ≤ l.length + 1 := by
  unfold step
  refine ⟨(List.take_sublist _ _).nodup ?_, List.length_take_le _ _, Nat.le_trans (List.length_take_le' _ _) ?_⟩
  · rw [List.nodup_cons]
    exact ⟨fun h => (mem_wo.1 h).2 rfl, nodup_wo hn k⟩
  · rw [List.length_cons]
    have := wo_le l k
    omega
theorem rk_keep {N : Nat} {l : List Int} (hn : l.Nodup) (hl : l.length ≤ N) (i0 : Nat) : ∀ t, (rk N l i0 t).Nodup ∧ (rk N l i0 t).length ≤ N ∧ (rk N l i0 t).length ≤ l.length + t
  | 0 => ⟨hn, hl, Nat.le_refl _⟩
  | t + 1 => by
    obtain ⟨h1, h2, h3⟩ := rk_keep hn hl i0 t
    have := step_keep (N := N) h1 ((i0 + t : Nat) : Int)
    exact ⟨this.1, this.2.1, Nat.le_trans this.2.2 (by omega)⟩

section
variable {w : World} {r : Nat} {mo : Int} {l : List Int} {ka : Option Addr} {kc : Nat} {va : Option Addr} {vc : Nat}
theorem zget_miss (h : Rf w r mo (zt l) ka kc va vc) (hs : l.length < 20000) {k : Int} (hk : k ∉ l) :
    Calls Try.prog 40 #[.pointer (some ⟨r, 0, none⟩), .int .i64 k] w fun e w' => e = .returned (.tuple #[.int .i64 0, .bool false]) ∧ w' = w :=
  rget_none w r mo (zt l) ka kc va vc h (by rw [zt_length]; exact hs) k (by rw [zt_keys]; exact hk)
theorem zget_hit (h : Rf w r mo (zt l) ka kc va vc) (hn : l.Nodup) (hl : l.length ≤ cap mo) (hs : l.length < 20000) {k : Int} (hk : k ∈ l) :
    Calls Try.prog 40 #[.pointer (some ⟨r, 0, none⟩), .int .i64 k] w fun e w' => e = .returned (.tuple #[.int .i64 0, .bool true]) ∧ ∃ ka' kc' va' vc', Hid (Left w w' r mo (zt (step (cap mo) l k)) ka va ka' kc' va' vc') := by
  obtain ⟨i, hi, e⟩ := mem_keys.1 (show k ∈ (zt l).map Prod.fst by rw [zt_keys]; exact hk)
  have P := rget_some w r mo (zt l) ka kc va vc h (by rw [zt_length]; exact hs) (zt_nodup hn) (by rw [zt_length]; have := cap_eq mo; omega) i hi
  rw [e, zt_vT, zt_tdel] at P
  rw [step_hit_eq hl hk]
  exact P
theorem zput (h : Rf w r mo (zt l) ka kc va vc) (hn : l.Nodup) (hl : l.length ≤ cap mo) (hs : l.length < 20000) (k : Int) :
    Calls Try.prog 41 #[.pointer (some ⟨r, 0, none⟩), .int .i64 k, .int .i64 0] w fun e w' => ∃ g o, e = .returned (.tuple #[.int .i64 g, .bool o]) ∧ ∃ ka' kc' va' vc', Hid (Left w w' r mo (zt (step (cap mo) l k)) ka va ka' kc' va' vc') := by
  refine (rput w r mo (zt l) ka kc va vc h (by rw [zt_length]; exact hs) (zt_nodup hn) k 0).mono ?_
  rintro e w' ⟨rfl, ka', kc', va', vc', L⟩
  rw [zt_tS hl] at L
  exact ⟨_, _, rfl, ka', kc', va', vc', L⟩
end
end Go.Proofs.Ytjlnmkoggobbgaa
