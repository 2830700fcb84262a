/- Texts of classes: what is read, what is shown. -/
namespace Go.Proofs.YtkclkhfcmjhogaaDoor

/-- The marks; what is seen; the digits. -/
def mk (c : Nat) : Bool := [92, 124, 42, 43, 63, 40, 41, 91, 93, 46, 94, 45].contains c
def seen (c : Nat) : Bool := decide (33 ≤ c) && decide (c ≤ 126)
def dig (c : Nat) : Option Nat := if 48 ≤ c ∧ c ≤ 57 then some (c - 48) else if 97 ≤ c ∧ c ≤ 102 then some (c - 87) else none
def hexd (x : Nat) : Nat := if x < 10 then 48 + x else 87 + x
theorem dig_hexd {x : Nat} (h : x < 16) : dig (hexd x) = some x := by
  unfold dig hexd
  by_cases h1 : x < 10
  · rw [if_pos h1, if_pos (by omega)]; congr 1; omega
  · rw [if_neg h1, if_neg (by omega), if_pos (by omega)]; congr 1; omega
theorem dig_lt {c x : Nat} (h : dig c = some x) : x < 16 := by
  unfold dig at h
  split at h
  · cases h; omega
  · split at h
    · cases h; omega
    · cases h

/-- Two digits. -/
def hx : List Nat → Option (Nat × List Nat)
  | a :: b :: l => match dig a, dig b with
    | some x, some y => some (16 * x + y, l)
    | _, _ => none
  | _ => none
/-- What stands behind a stroke. -/
def esc : List Nat → Option (Nat × List Nat)
  | [] => none
  | c :: l => if c = 120 then hx l else if mk c then some (c, l) else none
/-- A sign. -/
def sgn : List Nat → Option (Nat × List Nat)
  | [] => none
  | c :: l => if c = 92 then esc l else if seen c && !mk c then some (c, l) else none
/-- Behind a part's first sign. -/
def prt2 (a : Nat) : List Nat → Option ((Nat × Nat) × List Nat)
  | [] => some ((a, a), [])
  | c :: l => if c = 45 then (match sgn l with
    | none => none
    | some (b, t) => if a ≤ b then some ((a, b), t) else none) else some ((a, a), c :: l)
/-- A part. -/
def prt (l : List Nat) : Option ((Nat × Nat) × List Nat) :=
  match sgn l with
  | none => none
  | some (a, t) => prt2 a t
/-- The bytes from a to b. -/
def btw (a b : Nat) : Nat → Bool := fun c => decide (a ≤ c) && decide (c ≤ b)
/-- Parts to the end. -/
def prs : Nat → (Nat → Bool) → List Nat → Option ((Nat → Bool) × List Nat)
  | 0, _, _ => none
  | _ + 1, _, [] => none
  | f + 1, p, c :: l => if c = 93 then some (p, l) else match prt (c :: l) with
    | none => none
    | some ((a, b), t) => prs f (fun x => p x || btw a b x) t
/-- What stands in brackets: at least one part. -/
def brk (l : List Nat) : Option ((Nat → Bool) × List Nat) :=
  match prt l with
  | none => none
  | some ((a, b), t) => prs (t.length + 1) (btw a b) t
def no (p : Nat → Bool) : Nat → Bool := fun b => !p b
/-- Behind the first bracket. -/
def bks : List Nat → Option ((Nat → Bool) × List Nat)
  | [] => none
  | c :: l => if c = 94 then (match brk l with
    | none => none
    | some (p, t) => some (no p, t)) else brk (c :: l)
/-- Has it a byte? -/
def any (p : Nat → Bool) : Bool := (List.range 256).any p
def cls0 : List Nat → Option ((Nat → Bool) × List Nat)
  | [] => none
  | c :: l => if c = 46 then some (fun _ => true, l) else if c = 91 then bks l else match sgn (c :: l) with
    | none => none
    | some (a, t) => some (btw a a, t)
/-- A class. -/
def cls (l : List Nat) : Option ((Nat → Bool) × List Nat) :=
  match cls0 l with
  | none => none
  | some (p, t) => if any p then some (p, t) else none

theorem any_true {p : Nat → Bool} : any p = true ↔ ∃ b, b < 256 ∧ p b = true := by
  unfold any; rw [List.any_eq_true]; simp
theorem any_false {p : Nat → Bool} : any p = false ↔ ∀ b, b < 256 → p b = false := by
  unfold any; rw [List.any_eq_false]; simp

theorem hx_len {l t : List Nat} {c : Nat} (h : hx l = some (c, t)) : t.length < l.length ∧ c < 256 := by
  unfold hx at h
  split at h
  · rename_i a b l
    split at h
    · rename_i x y hx hy
      cases h
      have := dig_lt hx; have := dig_lt hy
      constructor
      · simp; omega
      · omega
    · cases h
  · cases h
theorem esc_len {l t : List Nat} {c : Nat} (h : esc l = some (c, t)) : t.length < l.length ∧ c < 256 := by
  unfold esc at h
  split at h
  · cases h
  · split at h
    · have := hx_len h
      simp; omega
    · split at h
      · cases h
        rename_i g
        refine ⟨by simp, ?_⟩
        unfold mk at g
        simp at g
        omega
      · cases h
theorem sgn_len {l t : List Nat} {c : Nat} (h : sgn l = some (c, t)) : t.length < l.length ∧ c < 256 := by
  unfold sgn at h
  split at h
  · cases h
  · split at h
    · have := esc_len h
      simp; omega
    · split at h
      · cases h
        rename_i g
        refine ⟨by simp, ?_⟩
        unfold seen at g
        simp at g
        omega
      · cases h
theorem prt_len {l t : List Nat} {a b : Nat} (h : prt l = some ((a, b), t)) : t.length < l.length ∧ a ≤ b ∧ b < 256 := by
  unfold prt at h
  split at h
  · cases h
  · rename_i a' t' hs
    have h1 := sgn_len hs
    unfold prt2 at h
    split at h
    · cases h; simp at *; omega
    · rename_i c l'
      split at h
      · split at h
        · cases h
        · rename_i b' t'' hs2
          have h2 := sgn_len hs2
          split at h
          · cases h; simp at *; omega
          · cases h
      · cases h; simp at *; omega

/-- More fuel tells the same. -/
theorem prs_more : ∀ (f g : Nat) (p : Nat → Bool) (l : List Nat), l.length < f → l.length < g → prs f p l = prs g p l
  | 0, _, _, _, h, _ => by omega
  | _, 0, _, _, _, h => by omega
  | f + 1, g + 1, p, [], _, _ => rfl
  | f + 1, g + 1, p, c :: l, h1, h2 => by
    unfold prs
    by_cases hc : c = 93
    · rw [if_pos hc, if_pos hc]
    · rw [if_neg hc, if_neg hc]
      cases hp : prt (c :: l) with
      | none => rfl
      | some r =>
        obtain ⟨⟨a, b⟩, t⟩ := r
        have := (prt_len hp).1
        exact prs_more f g _ t (by omega) (by omega)

/-- How a byte is shown. -/
def shn (c : Nat) : List Nat := if mk c then [92, c] else if seen c then [c] else [92, 120, hexd (c / 16), hexd (c % 16)]
theorem sgn_shn {c : Nat} (hc : c < 256) (l : List Nat) : sgn (shn c ++ l) = some (c, l) := by
  unfold shn
  by_cases h : mk c = true
  · rw [if_pos h]
    have h2 : ¬ c = 120 := by rintro rfl; exact absurd h (by decide)
    simp [sgn, esc, h2, h]
  · rw [if_neg h]
    by_cases g : seen c = true
    · rw [if_pos g]
      have h2 : ¬ c = 92 := by rintro rfl; exact absurd h (by decide)
      simp [sgn, h2, h, g]
    · rw [if_neg g]
      simp [sgn, esc, hx, dig_hexd (show c / 16 < 16 by omega), dig_hexd (show c % 16 < 16 by omega)]
      omega
theorem sgn_hex {c : Nat} (hc : c < 256) (l : List Nat) : sgn ([92, 120, hexd (c / 16), hexd (c % 16)] ++ l) = some (c, l) := by
  simp [sgn, esc, hx, dig_hexd (show c / 16 < 16 by omega), dig_hexd (show c % 16 < 16 by omega)]
  omega
/-- A text that opens with none of these signs. -/
def Opens (l : List Nat) : Prop := ∃ c t, l = c :: t ∧ c ≠ 45
theorem shn_opens {c : Nat} (l : List Nat) : ∃ d t, shn c ++ l = d :: t ∧ d ≠ 45 ∧ d ≠ 46 ∧ d ≠ 91 ∧ d ≠ 93 ∧ d ≠ 94 := by
  unfold shn
  by_cases h : mk c = true
  · rw [if_pos h]; exact ⟨92, c :: l, rfl, by decide, by decide, by decide, by decide, by decide⟩
  · rw [if_neg h]
    by_cases g : seen c = true
    · rw [if_pos g]
      refine ⟨c, l, rfl, ?_, ?_, ?_, ?_, ?_⟩ <;> (rintro rfl; exact absurd h (by decide))
    · rw [if_neg g]; exact ⟨92, _, rfl, by decide, by decide, by decide, by decide, by decide⟩
/-- How a run is shown. -/
def rtx (r : Nat × Nat) : List Nat := if r.2 = r.1 then shn r.1 else if r.2 = r.1 + 1 then shn r.1 ++ shn r.2 else shn r.1 ++ 45 :: shn r.2
theorem rtx_opens (r : Nat × Nat) (l : List Nat) : ∃ d t, rtx r ++ l = d :: t ∧ d ≠ 45 ∧ d ≠ 46 ∧ d ≠ 91 ∧ d ≠ 93 ∧ d ≠ 94 := by
  unfold rtx
  split
  · exact shn_opens l
  · split
    · rw [List.append_assoc]; exact shn_opens _
    · rw [List.append_assoc]; exact shn_opens _
theorem prt_one {a : Nat} (ha : a < 256) {l : List Nat} (h : Opens l) : prt (shn a ++ l) = some ((a, a), l) := by
  obtain ⟨c, t, rfl, hc⟩ := h
  unfold prt
  rw [sgn_shn ha]
  simp [prt2, hc]
theorem prt_two {a b : Nat} (ha : a < 256) (hb : b < 256) (hab : a ≤ b) (l : List Nat) : prt (shn a ++ 45 :: (shn b ++ l)) = some ((a, b), l) := by
  unfold prt
  rw [sgn_shn ha]
  simp [prt2, sgn_shn hb, hab]
/-- The runs' bytes. -/
def inr (l : List (Nat × Nat)) : Nat → Bool := fun c => l.any (fun r => btw r.1 r.2 c)
def Goodr (l : List (Nat × Nat)) : Prop := ∀ r ∈ l, r.1 ≤ r.2 ∧ r.2 < 256
theorem tail_opens (l : List (Nat × Nat)) (more : List Nat) : Opens (l.flatMap rtx ++ 93 :: more) := by
  cases l with
  | nil => exact ⟨93, more, rfl, by decide⟩
  | cons r l =>
    rw [List.flatMap_cons, List.append_assoc]
    obtain ⟨d, t, e, h, _⟩ := rtx_opens r (l.flatMap rtx ++ 93 :: more)
    exact ⟨d, t, e, h⟩
theorem prs_step {f : Nat} {p : Nat → Bool} {l t : List Nat} {a b : Nat} (hl : ∃ d u, l = d :: u ∧ d ≠ 93) (h : prt l = some ((a, b), t)) : prs (f + 1) p l = prs f (fun x => p x || btw a b x) t := by
  obtain ⟨d, u, rfl, hd⟩ := hl
  rw [prs, if_neg hd, h]
theorem prs_runs (more : List Nat) : ∀ (l : List (Nat × Nat)) (f : Nat) (p : Nat → Bool), Goodr l → (l.flatMap rtx ++ 93 :: more).length < f → ∃ q, prs f p (l.flatMap rtx ++ 93 :: more) = some (q, more) ∧ ∀ c, q c = (p c || inr l c)
  | [], f, p, _, hf => by
    obtain ⟨f, rfl⟩ : ∃ g, f = g + 1 := ⟨f - 1, by simp at hf; omega⟩
    exact ⟨p, by simp [prs], fun c => by simp [inr]⟩
  | r :: l, f, p, hg, hf => by
    have hr := hg r (List.mem_cons_self ..)
    have hg2 : Goodr l := fun x hx => hg x (List.mem_cons_of_mem _ hx)
    obtain ⟨a, b⟩ := r
    simp only at hr
    have ho := tail_opens l more
    generalize hT : l.flatMap rtx ++ 93 :: more = T at ho
    have e : (((a, b) :: l).flatMap rtx ++ 93 :: more) = rtx (a, b) ++ T := by rw [List.flatMap_cons, List.append_assoc, hT]
    rw [e] at hf ⊢
    obtain ⟨f, rfl⟩ : ∃ g, f = g + 1 := ⟨f - 1, by omega⟩
    have hh : ∃ d u, rtx (a, b) ++ T = d :: u ∧ d ≠ 93 := by
      obtain ⟨d, t, e, _, _, _, h, _⟩ := rtx_opens (a, b) T
      exact ⟨d, t, e, h⟩
    unfold rtx at hf hh ⊢
    simp only at hf hh ⊢
    by_cases h1 : b = a
    · rw [if_pos h1] at hf hh ⊢
      have hp := prt_one (a := a) (by omega) ho
      have hl := (prt_len hp).1
      rw [prs_step hh hp, ← hT]
      rw [← hT] at hl hf
      obtain ⟨q, hq, hc⟩ := prs_runs more l f (fun x => p x || btw a a x) hg2 (by omega)
      refine ⟨q, hq, fun c => ?_⟩
      rw [hc, h1]; simp [inr, Bool.or_assoc]
    · rw [if_neg h1] at hf hh ⊢
      by_cases h2 : b = a + 1
      · rw [if_pos h2] at hf hh ⊢
        rw [List.append_assoc] at hf hh ⊢
        have ho2 : Opens (shn b ++ T) := by obtain ⟨d, t, e, h, _⟩ := shn_opens (c := b) T; exact ⟨d, t, e, h⟩
        have hh2 : ∃ d u, shn b ++ T = d :: u ∧ d ≠ 93 := by
          obtain ⟨d, t, e, _, _, _, h, _⟩ := shn_opens (c := b) T
          exact ⟨d, t, e, h⟩
        have hp := prt_one (a := a) (by omega) ho2
        have hl := (prt_len hp).1
        have hp2 := prt_one (a := b) (by omega) ho
        have hl2 := (prt_len hp2).1
        obtain ⟨f, rfl⟩ : ∃ g, f = g + 1 := ⟨f - 1, by omega⟩
        rw [prs_step hh hp, prs_step hh2 hp2, ← hT]
        rw [← hT] at hl hl2 hf
        obtain ⟨q, hq, hc⟩ := prs_runs more l f (fun x => (p x || btw a a x) || btw b b x) hg2 (by omega)
        refine ⟨q, hq, fun c => ?_⟩
        rw [hc]
        have : btw a b c = (btw a a c || btw b b c) := by
          unfold btw
          rw [Bool.eq_iff_iff]; simp; omega
        simp [inr, Bool.or_assoc, this]
      · rw [if_neg h2] at hf hh ⊢
        rw [List.append_assoc] at hf hh ⊢
        have hp := prt_two (a := a) (b := b) (by omega) (by omega) (by omega) T
        have hl := (prt_len hp).1
        rw [List.cons_append] at hf hh ⊢
        rw [prs_step hh hp, ← hT]
        rw [← hT] at hl hf
        obtain ⟨q, hq, hc⟩ := prs_runs more l f (fun x => p x || btw a b x) hg2 (by omega)
        refine ⟨q, hq, fun c => ?_⟩
        rw [hc]; simp [inr, Bool.or_assoc]
/-- Brackets, by the parts to the end. -/
theorem brk_prs {l : List Nat} {f : Nat} (hf : l.length < f) (hl : ∃ d u, l = d :: u ∧ d ≠ 93) : brk l = prs f (fun _ => false) l := by
  obtain ⟨f, rfl⟩ : ∃ g, f = g + 1 := ⟨f - 1, by omega⟩
  cases hp : prt l with
  | none =>
    obtain ⟨d, u, rfl, hd⟩ := hl
    rw [prs, if_neg hd, hp, brk, hp]
  | some r =>
    obtain ⟨⟨a, b⟩, t⟩ := r
    rw [prs_step hl hp, brk, hp]
    have := (prt_len hp).1
    simp only [Bool.false_or]
    exact prs_more _ _ _ _ (by omega) (by omega)
theorem brk_93 (t : List Nat) : brk (93 :: t) = none := rfl

/-- The runs of p from n on, in order. -/
def Runs (p : Nat → Bool) : Nat → List (Nat × Nat) → Prop
  | n, [] => ∀ b, n ≤ b → b < 256 → p b = false
  | n, (a, b) :: l => n ≤ a ∧ a ≤ b ∧ b < 256 ∧ (∀ c, n ≤ c → c < a → p c = false) ∧ (∀ c, a ≤ c → c ≤ b → p c = true) ∧ (b + 1 < 256 → p (b + 1) = false) ∧ Runs p (b + 1) l
theorem Runs.one {p : Nat → Bool} : ∀ {n : Nat} {l m : List (Nat × Nat)}, Runs p n l → Runs p n m → l = m
  | n, [], [], _, _ => rfl
  | n, [], (a, b) :: m, h, k => by
    have := k.2.2.2.2.1 a (Nat.le_refl _) k.2.1
    rw [h a k.1 (by have := k.2.1; have := k.2.2.1; omega)] at this
    cases this
  | n, (a, b) :: l, [], k, h => by
    have := k.2.2.2.2.1 a (Nat.le_refl _) k.2.1
    rw [h a k.1 (by have := k.2.1; have := k.2.2.1; omega)] at this
    cases this
  | n, (a, b) :: l, (a', b') :: m, h, k => by
    obtain ⟨h1, h2, h3, h4, h5, h6, h7⟩ := h
    obtain ⟨k1, k2, k3, k4, k5, k6, k7⟩ := k
    obtain rfl : a = a' := by
      rcases Nat.lt_trichotomy a a' with g | g | g
      · have := k4 a h1 g; rw [h5 a (Nat.le_refl _) h2] at this; cases this
      · exact g
      · have := h4 a' k1 g; rw [k5 a' (Nat.le_refl _) k2] at this; cases this
    obtain rfl : b = b' := by
      rcases Nat.lt_trichotomy b b' with g | g | g
      · have := h6 (by omega); rw [k5 (b + 1) (by omega) (by omega)] at this; cases this
      · exact g
      · have := k6 (by omega); rw [h5 (b' + 1) (by omega) (by omega)] at this; cases this
    rw [Runs.one h7 k7]
theorem Runs.good {p : Nat → Bool} : ∀ {n : Nat} {l : List (Nat × Nat)}, Runs p n l → Goodr l
  | n, [], _ => fun r hr => by cases hr
  | n, (a, b) :: l, h => by
    intro r hr
    rcases List.mem_cons.1 hr with rfl | hr
    · exact ⟨h.2.1, h.2.2.1⟩
    · exact Runs.good h.2.2.2.2.2.2 r hr
theorem Runs.inr {p : Nat → Bool} : ∀ {n : Nat} {l : List (Nat × Nat)}, Runs p n l → ∀ c, n ≤ c → c < 256 → inr l c = p c
  | n, [], h, c, hn, hc => by rw [h c hn hc]; simp [Go.Proofs.YtkclkhfcmjhogaaDoor.inr]
  | n, (a, b) :: l, h, c, hn, hc => by
    obtain ⟨h1, h2, h3, h4, h5, h6, h7⟩ := h
    have e : Go.Proofs.YtkclkhfcmjhogaaDoor.inr ((a, b) :: l) c = (btw a b c || Go.Proofs.YtkclkhfcmjhogaaDoor.inr l c) := by simp [Go.Proofs.YtkclkhfcmjhogaaDoor.inr]
    rw [e]
    by_cases g : b < c
    · rw [Runs.inr h7 c (by omega) hc]
      have : btw a b c = false := by unfold btw; simp; omega
      rw [this, Bool.false_or]
    · have lo : ∀ {n : Nat} {l : List (Nat × Nat)}, Runs p n l → c < n → Go.Proofs.YtkclkhfcmjhogaaDoor.inr l c = false := by
        intro n l
        induction l generalizing n with
        | nil => intro _ _; simp [Go.Proofs.YtkclkhfcmjhogaaDoor.inr]
        | cons r l ih =>
          obtain ⟨a, b⟩ := r
          intro h hn
          have e : Go.Proofs.YtkclkhfcmjhogaaDoor.inr ((a, b) :: l) c = (btw a b c || Go.Proofs.YtkclkhfcmjhogaaDoor.inr l c) := by simp [Go.Proofs.YtkclkhfcmjhogaaDoor.inr]
          have h1 := h.1; have h2 := h.2.1
          rw [e, ih h.2.2.2.2.2.2 (by omega)]
          unfold btw; simp; omega
      rw [lo h7 (by omega), Bool.or_false]
      by_cases k : a ≤ c
      · rw [h5 c k (by omega)]; unfold btw; simp; omega
      · rw [h4 c hn (by omega)]; unfold btw; simp; omega

/-- How a set is shown whose runs these are. -/
def shw (l : List (Nat × Nat)) : List Nat :=
  match l with
  | [] => []
  | [(a, b)] => if a = b then shn a else if a = 0 ∧ b = 255 then [46] else 91 :: (rtx (a, b) ++ [93])
  | l => 91 :: (l.flatMap rtx ++ [93])
theorem brk_runs {l : List (Nat × Nat)} (hl : l ≠ []) (hg : Goodr l) (more : List Nat) : ∃ q, bks (l.flatMap rtx ++ 93 :: more) = some (q, more) ∧ ∀ c, q c = inr l c := by
  have hh : ∃ d u, l.flatMap rtx ++ 93 :: more = d :: u ∧ d ≠ 93 ∧ d ≠ 94 := by
    cases l with
    | nil => exact absurd rfl hl
    | cons r l =>
      rw [List.flatMap_cons, List.append_assoc]
      obtain ⟨d, t, e, _, _, _, h, h2⟩ := rtx_opens r (l.flatMap rtx ++ 93 :: more)
      exact ⟨d, t, e, h, h2⟩
  obtain ⟨q, hq, hc⟩ := prs_runs more l _ (fun _ => false) hg (Nat.lt_succ_self _)
  refine ⟨q, ?_, fun c => by rw [hc, Bool.false_or]⟩
  rw [← hq, ← brk_prs (Nat.lt_succ_self _) (by obtain ⟨d, u, e, h, _⟩ := hh; exact ⟨d, u, e, h⟩)]
  obtain ⟨d, u, e, _, h⟩ := hh
  rw [e, bks, if_neg h]

/-- What is shown is parsed as it was. -/
theorem cls_shw {p : Nat → Bool} {l : List (Nat × Nat)} (hr : Runs p 0 l) (hl : l ≠ []) (more : List Nat) : ∃ q, cls (shw l ++ more) = some (q, more) ∧ ∀ c, c < 256 → q c = p c := by
  have hin := hr.inr
  have hgood := hr.good
  have hany : any p = true := by
    match l, hl, hr with
    | (a, b) :: l, _, h => exact any_true.2 ⟨a, by have := h.2.1; have := h.2.2.1; omega, h.2.2.2.2.1 a (Nat.le_refl _) h.2.1⟩
  have hcls : ∀ {T : List Nat} {q : Nat → Bool}, cls0 T = some (q, more) → (∀ c, c < 256 → q c = p c) → ∃ q, cls T = some (q, more) ∧ ∀ c, c < 256 → q c = p c := by
    intro T q h1 h2
    refine ⟨q, ?_, h2⟩
    unfold cls
    rw [h1]
    have : any q = true := by
      obtain ⟨b, hb, hp⟩ := any_true.1 hany
      exact any_true.2 ⟨b, hb, by rw [h2 b hb, hp]⟩
    simp [this]
  have hbr : ∃ q, cls0 (91 :: (l.flatMap rtx ++ 93 :: more)) = some (q, more) ∧ ∀ c, c < 256 → q c = p c := by
    obtain ⟨q, h1, h2⟩ := brk_runs hl hgood more
    refine ⟨q, ?_, fun c hc => by rw [h2, hin c (by omega) hc]⟩
    rw [cls0, if_neg (by decide), if_pos rfl, h1]
  match l, hl with
  | [(a, b)], _ =>
    unfold shw
    simp only
    have hab := hgood (a, b) (List.mem_cons_self ..)
    simp only at hab
    by_cases h1 : a = b
    · rw [if_pos h1]
      subst h1
      refine hcls (q := btw a a) ?_ (fun c hc => by rw [← hin c (by omega) hc]; simp [inr])
      obtain ⟨d, t, e, _, h46, h91, _, _⟩ := shn_opens (c := a) more
      have hs := sgn_shn (c := a) (by omega) more
      rw [e] at hs ⊢
      rw [cls0, if_neg h46, if_neg h91, hs]
    · rw [if_neg h1]
      by_cases h2 : a = 0 ∧ b = 255
      · rw [if_pos h2]
        refine hcls (q := fun _ => true) rfl (fun c hc => ?_)
        rw [← hin c (by omega) hc, h2.1, h2.2]
        simp [inr, btw]; omega
      · rw [if_neg h2]
        obtain ⟨q, h3, h4⟩ := hbr
        refine hcls (q := q) ?_ h4
        rw [← h3]
        simp
  | r :: s :: l, _ =>
    obtain ⟨q, h3, h4⟩ := hbr
    refine hcls (q := q) ?_ h4
    rw [← h3]
    simp [shw]

end Go.Proofs.YtkclkhfcmjhogaaDoor
