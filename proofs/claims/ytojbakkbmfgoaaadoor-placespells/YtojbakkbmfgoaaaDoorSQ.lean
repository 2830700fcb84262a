/- A text spelt step by step, over lists. -/
import Derived.Test.YtojbakkbmfgoaaaDoorCA
import Derived.Test.YtojbakkbmfgoaaaDoorJN
namespace Go.Proofs.YtojbakkbmfgoaaaDoor
open Go.RowKit
set_option linter.unusedVariables false
set_option linter.unusedSimpArgs false

/-- What several lists come to. -/
def jns (F : Nat → List Nat) (T : List Nat) : List Nat := T.foldl (fun o a => jn o (F a)) []
theorem jns_take {F : Nat → List Nat} {T : List Nat} {k c : Nat} (h : T[k]? = some c) : jns F (T.take (k + 1)) = jn (jns F (T.take k)) (F c) := by
  unfold jns
  rw [List.take_add_one, h, List.foldl_append]; rfl
theorem jns_gen (F : Nat → List Nat) : ∀ (T o : List Nat) (c : Nat), c ∈ T.foldl (fun o a => jn o (F a)) o ↔ c ∈ o ∨ ∃ a ∈ T, c ∈ F a
  | [], o, c => by simp
  | a :: T, o, c => by
    rw [List.foldl_cons, jns_gen F T, jn_mem, or_assoc]
    simp
theorem jns_mem {F : Nat → List Nat} {T : List Nat} {c : Nat} : c ∈ jns F T ↔ ∃ a ∈ T, c ∈ F a := by
  unfold jns; rw [jns_gen]; simp
theorem jns_nodup_gen (F : Nat → List Nat) : ∀ (T o : List Nat), o.Nodup → (T.foldl (fun o a => jn o (F a)) o).Nodup
  | [], o, h => h
  | a :: T, o, h => jns_nodup_gen F T _ (jn_nodup h)
theorem jns_nodup (F : Nat → List Nat) (T : List Nat) : (jns F T).Nodup := jns_nodup_gen F T [] (by simp)

/-- The places that may stand at byte i, each once. -/
structure Now (p : Pla) (b : Nat → Nat) (i : Nat) (N : List Nat) : Prop where
  mem : ∀ c, c ∈ N ↔ Rch p b i c
  once : N.Nodup
  lt : ∀ c ∈ N, c < p.cnt
def Pla.F (p : Pla) (a : Nat) : List Nat := asc 64 (p.fol 0 a)
def flt (p : Pla) (v : Nat) (N : List Nat) : List Nat := N.filter (fun c => p.has 0 c v)
theorem Now.first {p : Pla} (h : p.Fine) (hc : p.cnt ≤ 40) (b : Nat → Nat) : Now p b 0 (asc 64 (p.fst 0)) := by
  refine ⟨fun c => ?_, ?_, fun c hc => by have := h.fst 0 c (asc_mem.1 hc).2; omega⟩
  · rw [asc_mem]
    show _ ↔ p.fst 0 c = true
    constructor
    · exact fun e => e.2
    · intro e; have := h.fst 0 c e; exact ⟨by omega, e⟩
  · unfold asc
    exact (List.nodup_range).filter _
theorem Now.next {p : Pla} (h : p.Fine) (hc : p.cnt ≤ 40) {b : Nat → Nat} {i : Nat} {N : List Nat} (n : Now p b i N) : Now p b (i + 1) (jns p.F (flt p (b i) N)) := by
  have hm : ∀ c, c ∈ jns p.F (flt p (b i) N) ↔ Rch p b (i + 1) c := by
    intro c
    rw [jns_mem]
    show _ ↔ ∃ a, Rch p b i a ∧ p.has 0 a (b i) = true ∧ p.fol 0 a c = true
    constructor
    · rintro ⟨a, ha, hf⟩
      have h1 := List.mem_filter.1 ha
      exact ⟨a, (n.mem a).1 h1.1, h1.2, (asc_mem.1 hf).2⟩
    · rintro ⟨a, h1, h2, h3⟩
      have := h.fol 0 a c h3
      exact ⟨a, List.mem_filter.2 ⟨(n.mem a).2 h1, h2⟩, asc_mem.2 ⟨by omega, h3⟩⟩
  refine ⟨hm, jns_nodup _ _, fun c hcm => ?_⟩
  obtain ⟨a, _, _, e⟩ := (hm c).1 hcm
  have := h.fol 0 a c e
  omega
theorem Now.len {p : Pla} {b : Nat → Nat} {i : Nat} {N : List Nat} (n : Now p b i N) : N.length ≤ p.cnt := few_nodup n.once n.lt
theorem Now.part {p : Pla} {b : Nat → Nat} {i : Nat} {N : List Nat} (n : Now p b i N) (hf : p.Fine) (hc : p.cnt ≤ 40) (v k : Nat) : (jns p.F ((flt p v N).take k)).length ≤ 40 := by
  refine Nat.le_trans (few_nodup (n := p.cnt) (jns_nodup _ _) (fun c hcm => ?_)) hc
  obtain ⟨a, ha, e⟩ := jns_mem.1 hcm
  have := hf.fol 0 a c (asc_mem.1 e).2
  omega
theorem Now.ends {p : Pla} (h : p.Fine) (hc : p.cnt ≤ 40) {b : Nat → Nat} {i : Nat} {N : List Nat} (n : Now p b i N) : ((flt p (b i) N).any (fun c => (asc 64 (p.lst 0)).any (· == c))) = true ↔ Mch p 0 b 0 (i + 1) := by
  rw [mch_succ, List.any_eq_true]
  constructor
  · rintro ⟨a, ha, e⟩
    have h1 := List.mem_filter.1 ha
    obtain ⟨c, hcm, e2⟩ := List.any_eq_true.1 e
    obtain rfl : c = a := by simpa using e2
    exact ⟨c, (n.mem c).1 h1.1, h1.2, (asc_mem.1 hcm).2⟩
  · rintro ⟨a, h1, h2, h3⟩
    have := h.lst 0 a h3
    exact ⟨a, List.mem_filter.2 ⟨(n.mem a).2 h1, h2⟩, List.any_eq_true.2 ⟨a, asc_mem.2 ⟨by omega, h3⟩, by simp⟩⟩
theorem flt_take {p : Pla} {v k c : Nat} {N : List Nat} (h : N[k]? = some c) : flt p v (N.take (k + 1)) = flt p v (N.take k) ++ (if p.has 0 c v then [c] else []) := by
  unfold flt
  rw [List.take_add_one, h, List.filter_append]
  cases e : p.has 0 c v <;> simp [e]
theorem flt_len (p : Pla) (v : Nat) (N : List Nat) : (flt p v N).length ≤ N.length := List.length_filter_le _ _
theorem flt_sub {p : Pla} {v c : Nat} {N : List Nat} (h : c ∈ flt p v N) : c ∈ N := (List.mem_filter.1 h).1
theorem any_ends {T A2 : List Nat} {k c : Nat} (h : T[k]? = some c) : (T.take (k + 1)).any (fun c => A2.any (· == c)) = ((T.take k).any (fun c => A2.any (· == c)) || A2.any (· == c)) := by
  rw [List.take_add_one, h, List.any_append]; simp
theorem any_last {A2 : List Nat} {m u c : Nat} (h : A2[m]? = some u) : (A2.take (m + 1)).any (· == c) = ((A2.take m).any (· == c) || u == c) := any_take h
theorem has_set {p : Pla} {c v : Nat} {s : Nat → Bool} (h : p.sets[c]? = some s) : p.has 0 c v = s v := by
  unfold Pla.has
  simp [h]
theorem bool_iff {a b : Bool} {P : Prop} (h : a = true ↔ P) (g : b = true ↔ P) : a = b := by
  rw [Bool.eq_iff_iff, h, g]

end Go.Proofs.YtojbakkbmfgoaaaDoor
