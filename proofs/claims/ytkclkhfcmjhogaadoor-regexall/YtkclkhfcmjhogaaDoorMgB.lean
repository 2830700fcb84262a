/- What is shown is read as it was. -/
import Derived.Test.YtkclkhfcmjhogaaDoorMgT2
import Derived.Test.YtkclkhfcmjhogaaDoorMgV
import Derived.Test.YtkclkhfcmjhogaaDoorMgE
import Derived.Test.YtkclkhfcmjhogaaDoorMgX
import Derived.Test.YtkclkhfcmjhogaaDoorMgF
namespace Go.Proofs.YtkclkhfcmjhogaaDoor
open Go.RowKit
set_option linter.unusedVariables false

/-- How a tree's text begins. -/
def opn (l : List Nat) : Prop := ∃ d t, l = d :: t ∧ d ≠ 41 ∧ d ≠ 42 ∧ d ≠ 43 ∧ d ≠ 63 ∧ d ≠ 124
/-- No sign follows. -/
def nosg (l : List Nat) : Prop := ∀ c t, l = c :: t → c ≠ 42 ∧ c ≠ 43 ∧ c ≠ 63
def shut (l : List Nat) : Prop := l = [] ∨ ∃ t, l = 41 :: t
theorem shut.ends {l : List Nat} (h : shut l) : endsC l = true := by
  rcases h with rfl | ⟨t, rfl⟩ <;> rfl
theorem ends_nosg {l : List Nat} (h : endsC l = true) : nosg l := by
  rintro c t rfl
  unfold endsC at h
  simp at h
  rcases h with rfl | rfl <;> decide
theorem opn.nosg {l : List Nat} (h : opn l) (m : List Nat) : nosg (l ++ m) := by
  obtain ⟨d, t, rfl, h1, h2, h3, h4, h5⟩ := h
  rintro c u e
  cases e
  exact ⟨h2, h3, h4⟩
theorem opn.noend {l : List Nat} (h : opn l) (m : List Nat) : endsC (l ++ m) = false := by
  obtain ⟨d, t, rfl, h1, h2, h3, h4, h5⟩ := h
  show (d == 124 || d == 41) = false
  rw [beq_false_of_ne h5, beq_false_of_ne h1]; rfl
theorem opn.app {l : List Nat} (h : opn l) (m : List Nat) : opn (l ++ m) := by
  obtain ⟨d, t, rfl, h⟩ := h
  exact ⟨d, t ++ m, rfl, h⟩
theorem signK_no {c : Nat} (h : c ≠ 42 ∧ c ≠ 43 ∧ c ≠ 63) : signK c = none := by
  unfold signK
  rw [if_neg h.1, if_neg h.2.1, if_neg h.2.2]
theorem sgS_no (x : RX) {l : List Nat} (h : nosg l) : signS x l = (x, l) := by
  cases l with
  | nil => rfl
  | cons c t => simp only [signS, signK_no (h c t rfl)]
theorem sgS_yes (x : RX) {k : Int} (hk : k = 4 ∨ k = 5 ∨ k = 6) (l : List Nat) : signS x (signC k :: l) = (⟨k, eset, [x]⟩, l) := by
  rcases hk with rfl | rfl | rfl <;> rfl
/-- How the text of a set begins. -/
theorem shn_opn {c : Nat} (l : List Nat) : ∃ d t, shn c ++ l = d :: t ∧ d ≠ 40 ∧ d ≠ 41 ∧ d ≠ 42 ∧ d ≠ 43 ∧ d ≠ 63 ∧ d ≠ 124 := by
  unfold shn
  by_cases h : mk c = true
  · rw [if_pos h]; exact ⟨92, c :: l, rfl, by decide, by decide, by decide, by decide, by decide, by decide⟩
  · rw [if_neg h]
    by_cases g : seen c = true
    · rw [if_pos g]
      refine ⟨c, l, rfl, ?_, ?_, ?_, ?_, ?_, ?_⟩ <;> (rintro rfl; exact absurd h (by decide))
    · rw [if_neg g]; exact ⟨92, _, rfl, by decide, by decide, by decide, by decide, by decide, by decide⟩
theorem shw_opn {R : List (Nat × Nat)} (h : R ≠ []) : ∃ d t, shw R = d :: t ∧ d ≠ 40 ∧ d ≠ 41 ∧ d ≠ 42 ∧ d ≠ 43 ∧ d ≠ 63 ∧ d ≠ 124 := by
  match R, h with
  | [(a, b)], _ =>
    show ∃ d t, (if a = b then shn a else if a = 0 ∧ b = 255 then [46] else 91 :: (rtx (a, b) ++ [93])) = d :: t ∧ _
    split
    · have := shn_opn (c := a) []
      rw [List.append_nil] at this
      exact this
    · split
      · exact ⟨46, [], rfl, by decide, by decide, by decide, by decide, by decide, by decide⟩
      · exact ⟨91, _, rfl, by decide, by decide, by decide, by decide, by decide, by decide⟩
  | r :: s :: R, _ => exact ⟨91, _, rfl, by decide, by decide, by decide, by decide, by decide, by decide⟩
theorem runs_ne {p : Nat → Bool} {R : List (Nat × Nat)} (h : Runs p 0 R) (ha : any p = true) : R ≠ [] := by
  rintro rfl
  obtain ⟨b, hb, hp⟩ := any_true.1 ha
  rw [h b (Nat.zero_le b) hb] at hp
  cases hp
/-- Equal, by its parts. -/
theorem sm_of {p q : Nat → Bool} (h : ∀ c, c < 256 → p c = q c) : same p q = true := same_like.2 h
theorem sm_set {p q : Nat → Bool} (h : ∀ c, c < 256 → q c = p c) : sameX ⟨1, q, []⟩ ⟨1, p, []⟩ = true := by
  rw [sameX_at]
  simp [sm_of h, sameX.sameL]
def SL (l' l : List RX) : Prop := l'.length = l.length ∧ sameX.sameL l' l = true
theorem SL.nil : SL [] [] := ⟨rfl, by simp [sameX.sameL]⟩
theorem SL.cons {x' x : RX} {l' l : List RX} (h : sameX x' x = true) (k : SL l' l) : SL (x' :: l') (x :: l) :=
  ⟨by simp [k.1], by rw [sameX.sameL, h, k.2]; rfl⟩
theorem sm_node {k : Int} {p : Nat → Bool} {l' l : List RX} (hp : any p = false) (h : SL l' l) : sameX ⟨k, eset, l'⟩ ⟨k, p, l⟩ = true := by
  rw [sameX_at]
  have : same eset p = true := sm_of (fun c hc => (any_false.1 hp c hc).symm)
  simp [this, h.1, h.2]

variable {g : (Nat → Bool) → List Nat}
/-- A text that is read as a tree, whatever follows. -/
def Rdd (f : List Nat → Res) (C : List Nat → Prop) (T : List Nat) (x : RX) : Prop := ∀ rest, C rest → ∃ x', sameX x' x = true ∧ f (T ++ rest) = .ok (x', rest)
structure Bkk (g : (Nat → Bool) → List Nat) (n : Nat) (x : RX) : Prop where
  atom : lvl x.kind = 4 → Rdd (atomS (inn n)) (fun _ => True) (x.sh g) x
  rep : 3 ≤ lvl x.kind → Rdd (repS (inn n)) nosg (x.sh g) x
  cat : 2 ≤ lvl x.kind → Rdd (catS (inn n)) (fun l => endsC l = true) (x.sh g) x
  alt : Rdd (altS (inn n)) shut (x.sh g) x
theorem up_rep {f : List Nat → Res} {T : List Nat} {x : RX} (h : Rdd (atomS f) (fun _ => True) T x) : Rdd (repS f) nosg T x := by
  intro rest hr
  obtain ⟨x', h1, h2⟩ := h rest trivial
  refine ⟨x', h1, ?_⟩
  unfold repS
  rw [h2]
  show Except.ok (signS x' rest) = _
  rw [sgS_no x' hr]
theorem up_cat {f : List Nat → Res} {T : List Nat} {x : RX} (h : Rdd (repS f) nosg T x) : Rdd (catS f) (fun l => endsC l = true) T x := by
  intro rest hr
  obtain ⟨x', h1, h2⟩ := h rest (ends_nosg hr)
  refine ⟨x', h1, ?_⟩
  unfold catS
  rw [h2]
  show oneR 2 (catR f [x'] rest) = _
  rw [catR_ends hr]
  rfl
theorem up_alt {f : List Nat → Res} {T : List Nat} {x : RX} (h : Rdd (catS f) (fun l => endsC l = true) T x) : Rdd (altS f) shut T x := by
  intro rest hr
  obtain ⟨x', h1, h2⟩ := h rest hr.ends
  refine ⟨x', h1, ?_⟩
  unfold altS
  rw [h2]
  show oneR 3 (altR f [x'] rest) = _
  rcases hr with rfl | ⟨t, rfl⟩
  · rw [altR_nil]; rfl
  · rw [altR_ends (by decide)]; rfl
/-- In brackets. -/
theorem in_brackets {n : Nat} {T : List Nat} {x : RX} (h : Rdd (altS (inn n)) shut T x) : Rdd (atomS (inn (n + 1))) (fun _ => True) (40 :: (T ++ [41])) x := by
  intro rest _
  obtain ⟨x', h1, h2⟩ := h (41 :: rest) (.inr ⟨rest, rfl⟩)
  refine ⟨x', h1, ?_⟩
  have e : 40 :: (T ++ [41]) ++ rest = 40 :: (T ++ 41 :: rest) := by simp
  have e2 : inn (n + 1) (T ++ 41 :: rest) = .ok (x', 41 :: rest) := by
    show altN n _ = _
    rw [altN_inn]; exact h2
  rw [e]
  simp [atomS, e2]

/-- The parts of a Cat. -/
theorem cat_loop {f : List Nat → Res} (hf : Goes f) : ∀ (l : List RX) (U : List (List Nat)), U.length = l.length → (∀ (i : Nat) (T : List Nat) (a : RX), U[i]? = some T → l[i]? = some a → opn T ∧ Rdd (repS f) nosg T a) → ∀ (acc : List RX) (rest : List Nat), endsC rest = true → ∃ l', SL l' l ∧ catR f acc (U.flatten ++ rest) = .ok (acc ++ l', rest)
  | [], [], _, _, acc, rest, hr => ⟨[], SL.nil, by rw [List.append_nil]; exact catR_ends hr⟩
  | a :: l, T :: U, hl, h, acc, rest, hr => by
    obtain ⟨ho, hrd⟩ := h 0 T a rfl rfl
    have hnext : nosg (U.flatten ++ rest) := by
      cases U with
      | nil => exact ends_nosg hr
      | cons T2 U =>
        cases l with
        | nil => simp at hl
        | cons b l =>
          have := (h 1 T2 b rfl rfl).1
          rw [List.flatten_cons, List.append_assoc]
          exact this.nosg _
    obtain ⟨a', h1, h2⟩ := hrd _ hnext
    obtain ⟨l', h3, h4⟩ := cat_loop hf l U (by simpa using hl) (fun i T' a' e1 e2 => h (i + 1) T' a' e1 e2) (acc ++ [a']) rest hr
    refine ⟨a' :: l', SL.cons h1 h3, ?_⟩
    rw [List.flatten_cons, List.append_assoc, catR_step hf (ho.noend _), h2]
    show catR f (acc ++ [a']) (U.flatten ++ rest) = _
    rw [h4, List.append_assoc]
    rfl
theorem alt_loop {f : List Nat → Res} (hf : Goes f) : ∀ (l : List RX) (U : List (List Nat)), U.length = l.length → (∀ (i : Nat) (T : List Nat) (a : RX), U[i]? = some T → l[i]? = some a → Rdd (catS f) (fun l => endsC l = true) T a) → ∀ (acc : List RX) (rest : List Nat), shut rest → ∃ l', SL l' l ∧ altR f acc (U.flatMap (fun T => 124 :: T) ++ rest) = .ok (acc ++ l', rest)
  | [], [], _, _, acc, rest, hr => ⟨[], SL.nil, by
      rw [List.append_nil]
      rcases hr with rfl | ⟨t, rfl⟩
      · exact altR_nil
      · exact altR_ends (by decide)⟩
  | a :: l, T :: U, hl, h, acc, rest, hr => by
    have hends : endsC (U.flatMap (fun T => 124 :: T) ++ rest) = true := by
      cases U with
      | nil => exact hr.ends
      | cons T2 U => rfl
    obtain ⟨a', h1, h2⟩ := h 0 T a rfl rfl _ hends
    obtain ⟨l', h3, h4⟩ := alt_loop hf l U (by simpa using hl) (fun i T' a' e1 e2 => h (i + 1) T' a' e1 e2) (acc ++ [a']) rest hr
    refine ⟨a' :: l', SL.cons h1 h3, ?_⟩
    rw [List.flatMap_cons, List.append_assoc, List.cons_append, altR_step hf, h2]
    show altR f (acc ++ [a']) (U.flatMap (fun T => 124 :: T) ++ rest) = _
    rw [h4, List.append_assoc]
    rfl
theorem inter_flat (T : List Nat) (U : List (List Nat)) : [124].intercalate (T :: U) = T ++ U.flatMap (fun T => 124 :: T) := by
  unfold List.intercalate
  induction U generalizing T with
  | nil => simp
  | cons T2 U ih =>
    rw [List.intersperse_cons_cons, List.flatten_cons, List.flatten_cons, ih T2, List.flatMap_cons]
    simp

theorem lvl_of {k : Int} (h : k = 1 ∨ k = 2 ∨ k = 3 ∨ k = 4 ∨ k = 5 ∨ k = 6) : (k = 1 ∧ lvl k = 4) ∨ (k = 2 ∧ lvl k = 2) ∨ (k = 3 ∧ lvl k = 1) ∨ ((k = 4 ∨ k = 5 ∨ k = 6) ∧ lvl k = 3) := by
  rcases h with rfl | rfl | rfl | rfl | rfl | rfl <;> simp [lvl]
theorem brk1_opn {k : Int} {a : RX} {T : List Nat} (h : opn T) : opn (brk1 k a T) := by
  unfold brk1
  split
  · exact ⟨40, _, rfl, by decide, by decide, by decide, by decide, by decide⟩
  · exact h
/-- A part in its brackets, or without. -/
theorem part_atom {n : Nat} {k : Int} {a : RX} (hk : lvl k = 3 ∨ lvl a.kind < lvl k) (h4 : ¬ lvl a.kind < lvl k → lvl a.kind = 4) (hd : a.depth ≤ n) (h : ∀ m, a.depth ≤ m + 1 → Bkk g m a) : Rdd (atomS (inn n)) (fun _ => True) (brk1 k a (a.sh g)) a := by
  unfold brk1
  have h1 : 1 ≤ a.depth := by rw [depth_at]; omega
  split
  · obtain ⟨m, rfl⟩ : ∃ m, n = m + 1 := ⟨n - 1, by omega⟩
    exact in_brackets (h m hd).alt
  · next hn => exact (h n (by omega)).atom (h4 hn)
theorem bk_all (hg : Gd g) : ∀ x : RX, x.formed = true → opn (x.sh g) ∧ ∀ n, x.depth ≤ n + 1 → Bkk g n x := by
  refine RX.ind ?_
  intro k p l ih hf
  have hkd := formed_kd hf
  have hpt := formed_pts hf
  have hk := lvl_of (k := k) hkd.1
  have hdep : ∀ a ∈ l, ∀ n, RX.depth ⟨k, p, l⟩ ≤ n + 1 → a.depth ≤ n := by
    intro a ha n hn
    rw [depth_eq] at hn
    have := le_maxl (List.mem_map.2 ⟨a, ha, rfl⟩ : a.depth ∈ l.map RX.depth)
    omega
  have hkid : ∀ a ∈ l, opn (a.sh g) ∧ (∀ m, a.depth ≤ m + 1 → Bkk g m a) ∧ lvl a.kind ≠ lvl k ∧ (lvl a.kind = 1 ∨ lvl a.kind = 2 ∨ lvl a.kind = 3 ∨ lvl a.kind = 4) := by
    intro a ha
    have h1 := hpt.2 a ha
    have h2 := ih a ha h1.1
    have h3 := lvl_of (formed_kd h1.1).1
    exact ⟨h2.1, h2.2, h1.2, by omega⟩
  rcases hk with ⟨rfl, hl⟩ | ⟨rfl, hl⟩ | ⟨rfl, hl⟩ | ⟨hk, hl⟩
  · obtain ⟨R, hR, hgR⟩ := hg p
    have hany := (hkd.2.1 rfl).1
    have hne := runs_ne hR hany
    obtain ⟨d, t, e, h40, h41, h42, h43, h63, h124⟩ := shw_opn hne
    have hsh : RX.sh g ⟨1, p, l⟩ = d :: t := by rw [sh_eq, if_pos rfl, hgR, e]
    have hl0 : l = [] := List.length_eq_zero_iff.1 (hkd.2.1 rfl).2
    subst hl0
    have hatom : ∀ n, Rdd (atomS (inn n)) (fun _ => True) (RX.sh g ⟨1, p, []⟩) ⟨1, p, []⟩ := by
      intro n rest _
      obtain ⟨q, h1, h2⟩ := cls_shw hR hne rest
      refine ⟨⟨1, q, []⟩, sm_set h2, ?_⟩
      rw [hsh]
      rw [e] at h1
      have h3 : cls (d :: (t ++ rest)) = some (q, rest) := h1
      show atomS (inn n) (d :: (t ++ rest)) = _
      simp [atomS, h40, h3]
    refine ⟨by rw [hsh]; exact ⟨d, t, rfl, h41, h42, h43, h63, h124⟩, fun n hn => ⟨fun _ => hatom n, fun _ => up_rep (hatom n), fun _ => up_cat (up_rep (hatom n)), up_alt (up_cat (up_rep (hatom n)))⟩⟩
  · -- a Cat
    have hl2 := hkd.2.2.2.1 (.inl rfl)
    have hsh : RX.sh g ⟨2, p, l⟩ = (texts g 2 l).flatten := by rw [sh_eq, if_neg (by decide)]; rfl
    obtain ⟨a0, a1, l, rfl⟩ : ∃ a0 a1 l2, l = a0 :: a1 :: l2 := by
      match l, hl2 with
      | a0 :: a1 :: l2, _ => exact ⟨a0, a1, l2, rfl⟩
    have hpart : ∀ n, RX.depth ⟨2, p, a0 :: a1 :: l⟩ ≤ n + 1 → ∀ a ∈ a0 :: a1 :: l, opn (brk1 2 a (a.sh g)) ∧ Rdd (repS (inn n)) nosg (brk1 2 a (a.sh g)) a := by
      intro n hn a ha
      obtain ⟨h1, h2, h3, h4⟩ := hkid a ha
      refine ⟨brk1_opn h1, ?_⟩
      by_cases hb : lvl a.kind < lvl 2
      · exact up_rep (part_atom (.inr hb) (fun h => absurd hb h) (hdep a ha n hn) h2)
      · unfold brk1
        rw [if_neg hb]
        exact (h2 n (by have := hdep a ha n hn; omega)).rep (by omega)
    have hcat : ∀ n, RX.depth ⟨2, p, a0 :: a1 :: l⟩ ≤ n + 1 → Rdd (catS (inn n)) (fun l => endsC l = true) (RX.sh g ⟨2, p, a0 :: a1 :: l⟩) ⟨2, p, a0 :: a1 :: l⟩ := by
      intro n hn rest hr
      have hp0 := hpart n hn a0 (by simp)
      have hp1 := hpart n hn a1 (by simp)
      obtain ⟨a0', s0, r0⟩ := hp0.2 ((texts g 2 (a1 :: l)).flatten ++ rest) (by
        rw [texts, List.map_cons, List.flatten_cons, List.append_assoc]
        exact hp1.1.nosg _)
      obtain ⟨l', s1, r1⟩ := cat_loop (inn_goes n) (a1 :: l) (texts g 2 (a1 :: l)) (by simp [texts]) (by
        intro i T a e1 e2
        unfold texts at e1
        rw [List.getElem?_map, e2] at e1
        cases e1
        exact hpart n hn a (List.mem_cons_of_mem _ (List.mem_of_getElem? e2))) [a0'] rest hr
      match l', s1 with
      | b1 :: l', s1 =>
        refine ⟨⟨2, eset, a0' :: b1 :: l'⟩, sm_node (hkd.2.2.1 (show (2 : Int) ≠ 1 by decide)) (SL.cons s0 s1), ?_⟩
        have e : RX.sh g ⟨2, p, a0 :: a1 :: l⟩ ++ rest = brk1 2 a0 (a0.sh g) ++ ((texts g 2 (a1 :: l)).flatten ++ rest) := by
          rw [hsh, texts, List.map_cons, List.flatten_cons, List.append_assoc]; rfl
        rw [e]
        unfold catS
        rw [r0]
        show oneR 2 (catR (inn n) [a0'] _) = _
        rw [r1]
        rfl
      | [], s1 => exact absurd s1.1 (by simp)
    refine ⟨?_, fun n hn => ⟨fun h => by rw [hl] at h; omega, fun h => by rw [hl] at h; omega, fun _ => hcat n hn, up_alt (hcat n hn)⟩⟩
    rw [hsh, texts, List.map_cons, List.flatten_cons]
    exact (brk1_opn (hkid a0 (by simp)).1).app _
  · -- an Alt
    have hl2 := hkd.2.2.2.1 (.inr rfl)
    have hsh : RX.sh g ⟨3, p, l⟩ = [124].intercalate (texts g 3 l) := by rw [sh_eq, if_neg (by decide)]; rfl
    obtain ⟨a0, a1, l, rfl⟩ : ∃ a0 a1 l2, l = a0 :: a1 :: l2 := by
      match l, hl2 with
      | a0 :: a1 :: l2, _ => exact ⟨a0, a1, l2, rfl⟩
    have hpart : ∀ n, RX.depth ⟨3, p, a0 :: a1 :: l⟩ ≤ n + 1 → ∀ a ∈ a0 :: a1 :: l, Rdd (catS (inn n)) (fun l => endsC l = true) (brk1 3 a (a.sh g)) a := by
      intro n hn a ha
      obtain ⟨h1, h2, h3, h4⟩ := hkid a ha
      unfold brk1
      rw [if_neg (by rw [hl]; omega)]
      exact (h2 n (by have := hdep a ha n hn; omega)).cat (by omega)
    have halt : ∀ n, RX.depth ⟨3, p, a0 :: a1 :: l⟩ ≤ n + 1 → Rdd (altS (inn n)) shut (RX.sh g ⟨3, p, a0 :: a1 :: l⟩) ⟨3, p, a0 :: a1 :: l⟩ := by
      intro n hn rest hr
      obtain ⟨a0', s0, r0⟩ := hpart n hn a0 (by simp) ((texts g 3 (a1 :: l)).flatMap (fun T => 124 :: T) ++ rest) rfl
      obtain ⟨l', s1, r1⟩ := alt_loop (inn_goes n) (a1 :: l) (texts g 3 (a1 :: l)) (by simp [texts]) (by
        intro i T a e1 e2
        unfold texts at e1
        rw [List.getElem?_map, e2] at e1
        cases e1
        exact hpart n hn a (List.mem_cons_of_mem _ (List.mem_of_getElem? e2))) [a0'] rest hr
      match l', s1 with
      | b1 :: l', s1 =>
        refine ⟨⟨3, eset, a0' :: b1 :: l'⟩, sm_node (hkd.2.2.1 (show (3 : Int) ≠ 1 by decide)) (SL.cons s0 s1), ?_⟩
        have e : RX.sh g ⟨3, p, a0 :: a1 :: l⟩ ++ rest = brk1 3 a0 (a0.sh g) ++ ((texts g 3 (a1 :: l)).flatMap (fun T => 124 :: T) ++ rest) := by
          rw [hsh]
          show [124].intercalate (brk1 3 a0 (a0.sh g) :: texts g 3 (a1 :: l)) ++ rest = _
          rw [inter_flat, List.append_assoc]
        rw [e]
        unfold altS
        rw [r0]
        show oneR 3 (altR (inn n) [a0'] _) = _
        rw [r1]
        rfl
      | [], s1 => exact absurd s1.1 (by simp)
    refine ⟨?_, fun n hn => ⟨fun h => by rw [hl] at h; omega, fun h => by rw [hl] at h; omega, fun h => by rw [hl] at h; omega, halt n hn⟩⟩
    rw [hsh]
    show opn ([124].intercalate (brk1 3 a0 (a0.sh g) :: texts g 3 (a1 :: l)))
    rw [inter_flat]
    exact (brk1_opn (hkid a0 (by simp)).1).app _
  · -- a sign
    have hl1 := hkd.2.2.2.2 (by show (4 : Int) ≤ k; omega)
    obtain ⟨a, rfl⟩ : ∃ a, l = [a] := by
      match l, hl1 with
      | [a], _ => exact ⟨a, rfl⟩
    obtain ⟨h1, h2, h3, h4⟩ := hkid a (by simp)
    have hsh : RX.sh g ⟨k, p, [a]⟩ = brk1 k a (a.sh g) ++ [signC k] := by
      rw [sh_eq, if_neg (by omega)]
      unfold joinK
      rw [if_neg (by omega), if_neg (by omega)]
      rfl
    have hrep : ∀ n, RX.depth ⟨k, p, [a]⟩ ≤ n + 1 → Rdd (repS (inn n)) nosg (RX.sh g ⟨k, p, [a]⟩) ⟨k, p, [a]⟩ := by
      intro n hn rest hr
      obtain ⟨a', s0, r0⟩ := part_atom (k := k) (.inl hl) (fun h => by omega) (hdep a (by simp) n hn) h2 (signC k :: rest) trivial
      refine ⟨⟨k, eset, [a']⟩, sm_node (hkd.2.2.1 (show k ≠ 1 by omega)) (SL.cons s0 SL.nil), ?_⟩
      rw [hsh, List.append_assoc]
      unfold repS
      show (match atomS (inn n) (brk1 k a (a.sh g) ++ (signC k :: rest)) with | .error e => (Except.error e : Res) | .ok (x, t) => .ok (signS x t)) = _
      rw [r0]
      show (Except.ok (signS a' (signC k :: rest)) : Res) = _
      rw [sgS_yes a' hk]
    refine ⟨?_, fun n hn => ⟨fun h => by rw [hl] at h; omega, fun _ => hrep n hn, fun _ => up_cat (hrep n hn), up_alt (up_cat (hrep n hn))⟩⟩
    rw [hsh]
    exact (brk1_opn h1).app _

end Go.Proofs.YtkclkhfcmjhogaaDoor

namespace Go.Proofs.YtkclkhfcmjhogaaDoor
open Go.RowKit
set_option linter.unusedVariables false

theorem any_like {p q : Nat → Bool} (h : Like p q) : any p = any q := by
  apply bool_iff
  rw [any_true, any_true]
  constructor
  · rintro ⟨b, hb, e⟩; exact ⟨b, hb, by rw [← h b hb]; exact e⟩
  · rintro ⟨b, hb, e⟩; exact ⟨b, hb, by rw [h b hb]; exact e⟩
theorem like_lists {l m : List RX} (hl : l.length = m.length) (h : ∀ (i : Nat) (a b : RX), l[i]? = some a → m[i]? = some b → sameX a b = true) : ∀ {β : Type} (f : RX → β), (∀ a ∈ l, ∀ b, sameX a b = true → f a = f b) → l.map f = m.map f := by
  intro β f hf
  apply List.ext_getElem?
  intro i
  rw [List.getElem?_map, List.getElem?_map]
  by_cases hi : i < l.length
  · have e1 := List.getElem?_eq_getElem hi
    have e2 := List.getElem?_eq_getElem (show i < m.length by omega)
    rw [e1, e2]
    show some (f l[i]) = some (f m[i])
    rw [hf l[i] (List.getElem_mem hi) _ (h i _ _ e1 e2)]
  · rw [List.getElem?_eq_none (by omega), List.getElem?_eq_none (by omega)]
theorem same_nodes : ∀ x y : RX, sameX x y = true → x.nodes = y.nodes := by
  refine RX.ind ?_
  intro k p l ih y h
  obtain ⟨h1, h2, h3, h4⟩ := sameX_iff.1 h
  rw [nodes_at, nodes_at]
  show 1 + (l.map RX.nodes).sum = _
  rw [like_lists h3 h4 RX.nodes (fun a ha b hb => ih a ha b hb)]
theorem same_depth : ∀ x y : RX, sameX x y = true → x.depth = y.depth := by
  refine RX.ind ?_
  intro k p l ih y h
  obtain ⟨h1, h2, h3, h4⟩ := sameX_iff.1 h
  rw [depth_at, depth_at]
  show maxl (l.map RX.depth) + 1 = _
  rw [like_lists h3 h4 RX.depth (fun a ha b hb => ih a ha b hb)]
theorem same_formed : ∀ x y : RX, sameX x y = true → x.formed = y.formed := by
  refine RX.ind ?_
  intro k p l ih y h
  obtain ⟨h1, h2, h3, h4⟩ := sameX_iff.1 h
  rw [formed_at, formed_at]
  have e1 := like_lists h3 h4 RX.formed (fun a ha b hb => ih a ha b hb)
  have e2 := like_lists h3 h4 RX.kind (fun a ha b hb => (sameX_iff.1 hb).1)
  have e3 : l.all RX.formed = y.args.all RX.formed := by
    have : (l.map RX.formed).all id = (y.args.map RX.formed).all id := by rw [show l.map RX.formed = y.args.map RX.formed from e1]
    rw [List.all_map, List.all_map] at this
    exact this
  have e4 : l.all (fun a => decide (lvl a.kind ≠ lvl k)) = y.args.all (fun a => decide (lvl a.kind ≠ lvl y.kind)) := by
    rw [← h1]
    have : (l.map RX.kind).all (fun a => decide (lvl a ≠ lvl k)) = (y.args.map RX.kind).all (fun a => decide (lvl a ≠ lvl k)) := by rw [show l.map RX.kind = y.args.map RX.kind from e2]
    rw [List.all_map, List.all_map] at this
    exact this
  have e5 : RX.node ⟨k, p, l⟩ = y.node := by
    show node k p l.length = node y.kind y.set y.args.length
    have h1' : k = y.kind := h1
    have h3' : l.length = y.args.length := h3
    rw [h1', h3']
    unfold node
    rw [any_like h2]
  rw [e5]
  show (y.node && (l.all (fun a => decide (lvl a.kind ≠ lvl k)) && l.all RX.formed)) = _
  rw [e3, e4]
theorem same_may {x y : RX} (h : sameX x y = true) : may x = may y := by
  unfold may
  rw [same_formed x y h, same_nodes x y h, same_depth x y h]
/-- The text of what may be, read. -/
theorem prsX_sh {g : (Nat → Bool) → List Nat} (hg : Gd g) {x : RX} (h : may x = 0) : ∃ x', sameX x' x = true ∧ prsX (x.sh g) = .ok x' := by
  obtain ⟨h1, h2, h3⟩ := may_small h
  obtain ⟨x', hs, hr⟩ := ((bk_all hg x h1).2 13 (by omega)).alt [] (.inl rfl)
  refine ⟨x', hs, ?_⟩
  rw [List.append_nil] at hr
  have hw : wholeS (x.sh g) = .ok x' := by
    unfold wholeS
    rw [altN_inn, hr]
  unfold prsX
  rw [hw]
  show (if may x' = 0 then Except.ok x' else .error (may x')) = _
  rw [same_may hs, if_pos h]

theorem sh_lt {g : (Nat → Bool) → List Nat} (hg : Gd g) : ∀ x : RX, ∀ c ∈ x.sh g, c < 256 := by
  refine RX.ind ?_
  intro k p l ih c hc
  rw [sh_eq] at hc
  split at hc
  · exact (hg.small p).2 c hc
  · have ht : ∀ T ∈ texts g k l, ∀ c ∈ T, c < 256 := by
      intro T hT c hc
      obtain ⟨a, ha, rfl⟩ := List.mem_map.1 hT
      unfold brk1 at hc
      split at hc
      · rcases List.mem_cons.1 hc with e | hc
        · omega
        · rcases List.mem_append.1 hc with hc | hc
          · exact ih a ha c hc
          · simp at hc; omega
      · exact ih a ha c hc
    unfold joinK at hc
    split at hc
    · obtain ⟨T, hT, hc⟩ := List.mem_flatten.1 hc
      exact ht T hT c hc
    · split at hc
      · generalize texts g k l = U at hc ht
        cases U with
        | nil => simp [List.intercalate] at hc
        | cons T U =>
          rw [inter_flat] at hc
          rcases List.mem_append.1 hc with hc | hc
          · exact ht T (by simp) c hc
          · obtain ⟨T2, hT2, hc⟩ := List.mem_flatMap.1 hc
            rcases List.mem_cons.1 hc with e | hc
            · omega
            · exact ht T2 (by simp [hT2]) c hc
      · generalize texts g k l = U at hc ht
        cases U with
        | nil => simp at hc
        | cons T U =>
          have hc2 : c ∈ T ++ [signC k] := hc
          rcases List.mem_append.1 hc2 with hc | hc
          · exact ht T (by simp) c hc
          · have : c = signC k := by simpa using hc
            unfold signC at this
            split at this
            · omega
            · split at this <;> omega

end Go.Proofs.YtkclkhfcmjhogaaDoor
