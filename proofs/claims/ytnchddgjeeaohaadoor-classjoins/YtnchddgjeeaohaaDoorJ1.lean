/- Two lists' signs in one pair of brackets. -/
import Derived.Test.YtnchddgjeeaohaaDoorN3
namespace Go.Proofs.YtnchddgjeeaohaaDoor
open Go.RowKit
set_option linter.unusedVariables false

/-- Signs of two digits, one behind the other. -/
def hxl (l : List Nat) : List Nat := l.flatMap hxs
theorem hxl_append (l m : List Nat) : hxl (l ++ m) = hxl l ++ hxl m := by simp [hxl]
theorem hxl_one (c : Nat) : hxl [c] = hxs c := by simp [hxl]
theorem hxl_len (l : List Nat) : (hxl l).length = 4 * l.length := by
  induction l with
  | nil => rfl
  | cons a l ih => rw [hxl, List.flatMap_cons, List.length_append, List.length_cons]; rw [hxl] at ih; rw [ih]; simp [hxs]; omega
theorem hxl_lt {l : List Nat} (h : ∀ c ∈ l, c < 256) : ∀ c ∈ hxl l, c < 256 := by
  intro c hc
  rw [hxl, List.mem_flatMap] at hc
  obtain ⟨a, ha, hc⟩ := hc
  exact hxs_lt (h a ha) c hc
theorem hxl_opens (l : List Nat) : ∃ c t, hxl l ++ [93] = c :: t ∧ c ≠ 45 := by
  cases l with
  | nil => exact ⟨93, [], rfl, by decide⟩
  | cons a l => exact ⟨92, _, rfl, by decide⟩
theorem prt_hxs {a : Nat} (ha : a < 256) {l : List Nat} (h : Opens l) : prt (hxs a ++ l) = some ((a, a), l) := by
  obtain ⟨c, t, rfl, hc⟩ := h
  unfold prt
  rw [show hxs a = [92, 120, hexd (a / 16), hexd (a % 16)] from rfl, sgn_hex ha]
  simp [prt2, hc]
theorem prs_hxl : ∀ (l : List Nat) (f : Nat) (p : Nat → Bool), (∀ c ∈ l, c < 256) → (hxl l ++ [93]).length < f → ∃ q, prs f p (hxl l ++ [93]) = some (q, []) ∧ ∀ c, q c = (p c || l.contains c)
  | [], f, p, _, hf => by
    obtain ⟨f, rfl⟩ : ∃ g, f = g + 1 := ⟨f - 1, by simp at hf; omega⟩
    exact ⟨p, by simp [prs, hxl], fun c => by simp⟩
  | a :: l, f, p, hg, hf => by
    have e : hxl (a :: l) ++ [93] = hxs a ++ (hxl l ++ [93]) := by rw [hxl, List.flatMap_cons, List.append_assoc]; rfl
    rw [e] at hf ⊢
    obtain ⟨f, rfl⟩ : ∃ g, f = g + 1 := ⟨f - 1, by omega⟩
    rw [prs_step (l := hxs a ++ (hxl l ++ [93])) ⟨92, _, rfl, by decide⟩ (prt_hxs (hg a (List.mem_cons_self ..)) (hxl_opens l))]
    rw [List.length_append] at hf
    obtain ⟨q, hq, hc⟩ := prs_hxl l f (fun x => p x || btw a a x) (fun c hc => hg c (List.mem_cons_of_mem _ hc)) (by simp [hxs] at hf ⊢; omega)
    refine ⟨q, hq, fun c => ?_⟩
    rw [hc, Bool.or_assoc]
    congr 1
    rw [List.contains_cons, btw]
    congr 1
    rw [Bool.eq_iff_iff]; simp; omega
theorem brk_hxl {l : List Nat} (hl : l ≠ []) (hg : ∀ c ∈ l, c < 256) : ∃ q, brk (hxl l ++ [93]) = some (q, []) ∧ ∀ c, q c = l.contains c := by
  obtain ⟨q, hq, hc⟩ := prs_hxl l _ (fun _ => false) hg (Nat.lt_succ_self _)
  refine ⟨q, ?_, fun c => by rw [hc, Bool.false_or]⟩
  rw [← hq]
  refine brk_prs (Nat.lt_succ_self _) ?_
  cases l with
  | nil => exact absurd rfl hl
  | cons a l => exact ⟨92, _, rfl, by decide⟩
/-- Of few numbers there is one that is not among them. -/
theorem out_of : ∀ (n : Nat) (l : List Nat), l.length < n → ∃ b, b < n ∧ l.contains b = false
  | 0, l, h => by omega
  | n + 1, l, h => by
    by_cases g : n ∈ l
    · have hl := List.length_erase_of_mem g
      obtain ⟨b, hb, hc⟩ := out_of n (l.erase n) (by have := List.length_pos_of_mem g; omega)
      refine ⟨b, by omega, ?_⟩
      rw [List.contains_eq_mem] at hc ⊢
      rw [decide_eq_false_iff_not] at hc ⊢
      exact fun hm => hc ((List.mem_erase_of_ne (by omega)).2 hm)
    · exact ⟨n, by omega, by simpa using g⟩
theorem cls_J1 {l : List Nat} (hl : l ≠ []) (hg : ∀ c ∈ l, c < 256) : ∃ q, cls (91 :: (hxl l ++ [93])) = some (q, []) ∧ ∀ c, q c = l.contains c := by
  obtain ⟨q, hq, hc⟩ := brk_hxl hl hg
  have e : cls0 (91 :: (hxl l ++ [93])) = brk (hxl l ++ [93]) := by
    cases l with
    | nil => exact absurd rfl hl
    | cons a l => rfl
  refine ⟨q, ?_, hc⟩
  have hx : any q = true := by
    cases l with
    | nil => exact absurd rfl hl
    | cons a l => exact any_true.2 ⟨a, hg a (List.mem_cons_self ..), by rw [hc]; simp⟩
  unfold cls
  rw [e, hq]
  simp [hx]
theorem cls_J2 {l : List Nat} (hl : l ≠ []) (hg : ∀ c ∈ l, c < 256) (hn : l.length < 256) : ∃ q, cls (91 :: 94 :: (hxl l ++ [93])) = some (no q, []) ∧ ∀ c, q c = l.contains c := by
  obtain ⟨q, hq, hc⟩ := brk_hxl hl hg
  have e : cls0 (91 :: 94 :: (hxl l ++ [93])) = (match brk (hxl l ++ [93]) with | none => none | some (p, t) => some (no p, t)) := rfl
  refine ⟨q, ?_, hc⟩
  have hx : any (no q) = true := by
    obtain ⟨b, hb, h⟩ := out_of 256 l hn
    exact any_true.2 ⟨b, hb, by unfold no; rw [hc, h]; rfl⟩
  unfold cls
  rw [e, hq]
  simp [hx]
/-- The list of a row's first bytes. -/
def lsf (f : Nat → Nat) (n : Nat) : List Nat := (List.range n).map f
theorem lsf_succ (f : Nat → Nat) (n : Nat) : lsf f (n + 1) = lsf f n ++ [f n] := by simp [lsf, List.range_succ]
theorem lsf_len (f : Nat → Nat) (n : Nat) : (lsf f n).length = n := by simp [lsf]
theorem lsf_lt {f : Nat → Nat} {n : Nat} (h : ∀ i, i < n → f i < 256) : ∀ c ∈ lsf f n, c < 256 := by
  intro c hc
  simp [lsf] at hc
  obtain ⟨i, hi, rfl⟩ := hc
  exact h i hi
theorem lsf_has (f : Nat → Nat) (n c : Nat) : (lsf f n).contains c = ofl f n c := by
  rw [Bool.eq_iff_iff, ofl, List.any_eq_true]
  simp [lsf]
theorem both_has (f g : Nat → Nat) (n m c : Nat) : (lsf f n ++ lsf g m).contains c = ou (ofl f n) (ofl g m) c := by
  unfold ou
  rw [← lsf_has, ← lsf_has, Bool.eq_iff_iff]
  simp
/-- What Parse tells of both texts. -/
theorem parse_J (f g : Nat → Nat) (n m : Nat) (hf : ∀ i, i < n → f i < 256) (hg : ∀ i, i < m → g i < 256) (h0 : 1 ≤ n) (h1 : n ≤ 4) (h2 : m ≤ 4) (r : Nat → Bool) (hr : r = ou (ofl f n) (ofl g m)) (S : List Nat) (hS : S = hxl (lsf f n ++ lsf g m)) :
    (∀ W, Calls Tryd.prog 11 #[.string (str (91 :: (S ++ [93])))] W fun e w' => e = .returned (.tuple #[.agg #[.int .u64 (limb r 0), .int .u64 (limb r 1), .int .u64 (limb r 2), .int .u64 (limb r 3)], .int .i64 ((S.length + 2 : Nat) : Int), .int .i64 0]) ∧ Hid (Qt W w')) ∧
    (∀ W, Calls Tryd.prog 11 #[.string (str (91 :: 94 :: (S ++ [93])))] W fun e w' => e = .returned (.tuple #[.agg #[.int .u64 (limb (no r) 0), .int .u64 (limb (no r) 1), .int .u64 (limb (no r) 2), .int .u64 (limb (no r) 3)], .int .i64 ((S.length + 3 : Nat) : Int), .int .i64 0]) ∧ Hid (Qt W w')) ∧ S.length ≤ 32 := by
  have hlen : (lsf f n ++ lsf g m).length = n + m := by rw [List.length_append, lsf_len, lsf_len]
  have hne : lsf f n ++ lsf g m ≠ [] := by intro h; rw [h] at hlen; simp at hlen; omega
  have hlt : ∀ c ∈ lsf f n ++ lsf g m, c < 256 := by
    intro c hc
    rcases List.mem_append.1 hc with hc | hc
    · exact lsf_lt hf c hc
    · exact lsf_lt hg c hc
  have hsl : ∀ c ∈ S, c < 256 := by rw [hS]; exact hxl_lt hlt
  have hsn : S.length ≤ 32 := by rw [hS, hxl_len, hlen]; omega
  obtain ⟨q1, e1, c1⟩ := cls_J1 hne hlt
  obtain ⟨q2, e2, c2⟩ := cls_J2 hne hlt (by omega)
  rw [← hS] at e1 e2
  have l1 : sv q1 = sv r := sv_like (fun c _ => by rw [c1, both_has, hr])
  have l2 : sv (no q2) = sv (no r) := sv_like (fun c _ => by unfold no; rw [c2, both_has, hr])
  rw [sv_cells, sv_cells] at l1 l2
  refine ⟨fun W => ?_, fun W => ?_, hsn⟩
  · have h := parse_some e1 (by intro c hc; rcases List.mem_cons.1 hc with rfl | hc; omega; rcases List.mem_append.1 hc with hc | hc; exact hsl c hc; simp at hc; omega) (by simp; omega) W
    rw [l1] at h
    rw [show (91 :: (S ++ [93])).length - ([] : List Nat).length = S.length + 2 from by simp] at h
    exact h
  · have h := parse_some e2 (by intro c hc; rcases List.mem_cons.1 hc with rfl | hc; omega; rcases List.mem_cons.1 hc with rfl | hc; omega; rcases List.mem_append.1 hc with hc | hc; exact hsl c hc; simp at hc; omega) (by simp; omega) W
    rw [l2] at h
    rw [show (91 :: 94 :: (S ++ [93])).length - ([] : List Nat).length = S.length + 3 from by simp] at h
    exact h
end Go.Proofs.YtnchddgjeeaohaaDoor
