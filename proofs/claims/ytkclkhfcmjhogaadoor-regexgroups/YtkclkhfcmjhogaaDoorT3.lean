/- Texts of expressions, as lists of bytes: what is read. -/
import Derived.Test.YtkclkhfcmjhogaaDoorT2
namespace Go.Proofs.YtkclkhfcmjhogaaDoor
open Go.RowKit
set_option linter.unusedVariables false

/-- t is what is left of l, and less. -/
def Sx (t l : List Nat) : Prop := ∃ c u, l = c :: u ∧ t <:+ u
theorem Sx.len {t l : List Nat} (h : Sx t l) : t.length < l.length := by
  obtain ⟨c, u, rfl, h⟩ := h
  have := h.length_le
  simp; omega
theorem Sx.suf {t l : List Nat} (h : Sx t l) : t <:+ l := by
  obtain ⟨c, u, rfl, h⟩ := h
  exact h.trans (List.suffix_cons c u)
theorem Sx.more {s t l : List Nat} (h : Sx t l) (k : s <:+ t) : Sx s l := by
  obtain ⟨c, u, rfl, h⟩ := h
  exact ⟨c, u, rfl, k.trans h⟩
theorem Sx.cons (c : Nat) (l : List Nat) : Sx l (c :: l) := ⟨c, l, rfl, List.suffix_refl l⟩
theorem Sx.one {c : Nat} {t l : List Nat} (h : t <:+ l) : Sx t (c :: l) := ⟨c, l, rfl, h⟩
theorem hx_suf {l t : List Nat} {c : Nat} (h : hx l = some (c, t)) : Sx t l := by
  unfold hx at h
  split at h
  · rename_i a b l
    split at h
    · cases h
      exact .one (List.suffix_cons b _)
    · cases h
  · cases h
theorem esc_suf {l t : List Nat} {c : Nat} (h : esc l = some (c, t)) : Sx t l := by
  unfold esc at h
  split at h
  · cases h
  · split at h
    · exact .one (hx_suf h).suf
    · split at h
      · cases h; exact .cons _ _
      · cases h
theorem sgn_suf {l t : List Nat} {c : Nat} (h : sgn l = some (c, t)) : Sx t l := by
  unfold sgn at h
  split at h
  · cases h
  · split at h
    · exact .one (esc_suf h).suf
    · split at h
      · cases h; exact .cons _ _
      · cases h
theorem prt_suf {l t : List Nat} {r : Nat × Nat} (h : prt l = some (r, t)) : Sx t l := by
  unfold prt at h
  split at h
  · cases h
  · rename_i a' t' hs
    have h1 := sgn_suf hs
    unfold prt2 at h
    split at h
    · cases h; exact h1
    · rename_i c l'
      split at h
      · split at h
        · cases h
        · rename_i b' t'' hs2
          split at h
          · cases h; exact h1.more ((sgn_suf hs2).suf.trans (List.suffix_cons c _))
          · cases h
      · cases h; exact h1
theorem prs_suf : ∀ (f : Nat) (p q : Nat → Bool) (l t : List Nat), prs f p l = some (q, t) → Sx t l
  | 0, _, _, _, _, h => by cases h
  | _ + 1, _, _, [], _, h => by cases h
  | f + 1, p, q, c :: l, t, h => by
    unfold prs at h
    split at h
    · cases h; exact .cons _ _
    · split at h
      · cases h
      · rename_i a b u hp
        exact (prt_suf hp).more (prs_suf f _ q u t h).suf
theorem brk_suf {l t : List Nat} {p : Nat → Bool} (h : brk l = some (p, t)) : Sx t l := by
  unfold brk at h
  split at h
  · cases h
  · rename_i a b u hp
    exact (prt_suf hp).more (prs_suf _ _ _ _ _ h).suf
theorem bks_suf {l t : List Nat} {p : Nat → Bool} (h : bks l = some (p, t)) : Sx t l := by
  unfold bks at h
  split at h
  · cases h
  · split at h
    · split at h
      · cases h
      · rename_i q u hb
        cases h
        exact .one (brk_suf hb).suf
    · exact brk_suf h
theorem cls_suf {l t : List Nat} {p : Nat → Bool} (h : cls l = some (p, t)) : Sx t l ∧ any p = true := by
  unfold cls at h
  split at h
  · cases h
  · rename_i q u h0
    split at h
    · rename_i ha
      cases h
      refine ⟨?_, ha⟩
      unfold cls0 at h0
      split at h0
      · cases h0
      · split at h0
        · cases h0; exact .cons _ _
        · split at h0
          · exact .one (bks_suf h0).suf
          · split at h0
            · cases h0
            · rename_i a v hs
              cases h0
              exact sgn_suf hs
    · cases h

/-- What is read: an error, or an expression and what is left. -/
abbrev Res := Except Int (RX × List Nat)
def eset : Nat → Bool := fun _ => false
def atomS (inner : List Nat → Res) : List Nat → Res
  | [] => .error 2
  | c :: t => if c = 40 then (match inner t with
    | .error e => .error e
    | .ok (x, []) => .error 2
    | .ok (x, d :: v) => if d = 41 then .ok (x, v) else .error 2) else (match cls (c :: t) with
    | none => .error 2
    | some (p, u) => .ok (⟨1, p, []⟩, u))
def signK (c : Nat) : Option Int := if c = 42 then some 4 else if c = 43 then some 5 else if c = 63 then some 6 else none
def signS (x : RX) : List Nat → RX × List Nat
  | [] => (x, [])
  | c :: u => match signK c with
    | some k => (⟨k, eset, [x]⟩, u)
    | none => (x, c :: u)
def repS (inner : List Nat → Res) (l : List Nat) : Res := match atomS inner l with
  | .error e => .error e
  | .ok (x, t) => .ok (signS x t)
def endsC : List Nat → Bool
  | [] => true
  | c :: _ => c == 124 || c == 41
abbrev Resl := Except Int (List RX × List Nat)
def catL (inner : List Nat → Res) : Nat → List RX → List Nat → Resl
  | 0, acc, l => .ok (acc, l)
  | n + 1, acc, l => if endsC l then .ok (acc, l) else match repS inner l with
    | .error e => .error e
    | .ok (x, t) => catL inner n (acc ++ [x]) t
def one (k : Int) (l : List RX) : RX := match l with
  | [x] => x
  | _ => ⟨k, eset, l⟩
def oneR (k : Int) : Resl → Res
  | .error e => .error e
  | .ok (xs, u) => .ok (one k xs, u)
def catS (inner : List Nat → Res) (l : List Nat) : Res := match repS inner l with
  | .error e => .error e
  | .ok (x, t) => oneR 2 (catL inner (t.length + 1) [x] t)
def altL (inner : List Nat → Res) : Nat → List RX → List Nat → Resl
  | 0, acc, l => .ok (acc, l)
  | n + 1, acc, [] => .ok (acc, [])
  | n + 1, acc, c :: t => if c = 124 then (match catS inner t with
    | .error e => .error e
    | .ok (x, u) => altL inner n (acc ++ [x]) u) else .ok (acc, c :: t)
def altS (inner : List Nat → Res) (l : List Nat) : Res := match catS inner l with
  | .error e => .error e
  | .ok (x, t) => oneR 3 (altL inner (t.length + 1) [x] t)
/-- So many brackets more may be opened. -/
def altN : Nat → List Nat → Res
  | 0 => altS (fun _ => .error 6)
  | n + 1 => altS (altN n)
def inn : Nat → List Nat → Res
  | 0 => fun _ => .error 6
  | n + 1 => altN n
theorem altN_inn (n : Nat) : altN n = altS (inn n) := by cases n <;> rfl
def wholeS (l : List Nat) : Except Int RX := match altN 13 l with
  | .error e => .error e
  | .ok (x, []) => .ok x
  | .ok (x, _ :: _) => .error 2
def prsX (l : List Nat) : Except Int RX := match wholeS l with
  | .error e => .error e
  | .ok x => if may x = 0 then .ok x else .error (may x)

/-- What is read is left, and less. -/
def Goes (f : List Nat → Res) : Prop := ∀ l x t, f l = .ok (x, t) → Sx t l
theorem atomS_goes {f : List Nat → Res} (h : Goes f) : Goes (atomS f) := by
  intro l x t e
  unfold atomS at e
  split at e
  · cases e
  · split at e
    · split at e
      · cases e
      · cases e
      · rename_i x' d v hi
        split at e
        · cases e
          exact .one ((List.suffix_cons d _).trans (h _ _ _ hi).suf)
        · cases e
    · split at e
      · cases e
      · rename_i p u hc
        cases e
        exact (cls_suf hc).1
theorem signS_suf (x : RX) (l : List Nat) : (signS x l).2 <:+ l := by
  unfold signS
  split
  · exact List.suffix_refl _
  · split
    · exact List.suffix_cons _ _
    · exact List.suffix_refl _
theorem repS_goes {f : List Nat → Res} (h : Goes f) : Goes (repS f) := by
  intro l x t e
  unfold repS at e
  split at e
  · cases e
  · rename_i y u ha
    have e2 := Except.ok.inj e
    have e3 : t = (signS y u).2 := by rw [e2]
    rw [e3]
    exact (atomS_goes h _ _ _ ha).more (signS_suf y u)
theorem catL_suf {f : List Nat → Res} (h : Goes f) : ∀ (n : Nat) (acc xs : List RX) (l t : List Nat), catL f n acc l = .ok (xs, t) → t <:+ l
  | 0, acc, xs, l, t, e => by cases e; exact List.suffix_refl _
  | n + 1, acc, xs, l, t, e => by
    unfold catL at e
    split at e
    · cases e; exact List.suffix_refl _
    · split at e
      · cases e
      · rename_i y u hr
        exact (catL_suf h n _ _ _ _ e).trans (repS_goes h _ _ _ hr).suf
theorem oneR_ok {k : Int} {r : Resl} {x : RX} {t : List Nat} (h : oneR k r = .ok (x, t)) : ∃ xs, r = .ok (xs, t) ∧ x = one k xs := by
  unfold oneR at h
  split at h
  · cases h
  · cases h; exact ⟨_, rfl, rfl⟩
theorem catS_goes {f : List Nat → Res} (h : Goes f) : Goes (catS f) := by
  intro l x t e
  unfold catS at e
  split at e
  · cases e
  · rename_i y u hr
    obtain ⟨xs, hc, _⟩ := oneR_ok e
    exact (repS_goes h _ _ _ hr).more (catL_suf h _ _ _ _ _ hc)
theorem altL_suf {f : List Nat → Res} (h : Goes f) : ∀ (n : Nat) (acc xs : List RX) (l t : List Nat), altL f n acc l = .ok (xs, t) → t <:+ l
  | 0, acc, xs, l, t, e => by cases e; exact List.suffix_refl _
  | n + 1, acc, xs, [], t, e => by cases e; exact List.suffix_refl _
  | n + 1, acc, xs, c :: l, t, e => by
    unfold altL at e
    split at e
    · split at e
      · cases e
      · rename_i y u hr
        exact ((altL_suf h n _ _ _ _ e).trans (catS_goes h _ _ _ hr).suf).trans (List.suffix_cons _ _)
    · cases e; exact List.suffix_refl _
theorem altS_goes {f : List Nat → Res} (h : Goes f) : Goes (altS f) := by
  intro l x t e
  unfold altS at e
  split at e
  · cases e
  · rename_i y u hr
    obtain ⟨xs, hc, _⟩ := oneR_ok e
    exact (catS_goes h _ _ _ hr).more (altL_suf h _ _ _ _ _ hc)
theorem altN_goes : ∀ n, Goes (altN n)
  | 0 => altS_goes (fun _ _ _ h => by cases h)
  | n + 1 => altS_goes (altN_goes n)
theorem inn_goes : ∀ n, Goes (inn n)
  | 0 => fun _ _ _ h => by cases h
  | n + 1 => altN_goes n

/-- More fuel tells the same. -/
theorem catL_more {f : List Nat → Res} (hf : Goes f) : ∀ (n m : Nat) (acc : List RX) (l : List Nat), l.length < n → l.length < m → catL f n acc l = catL f m acc l
  | 0, _, _, _, h, _ => by omega
  | _, 0, _, _, _, h => by omega
  | n + 1, m + 1, acc, l, h1, h2 => by
    unfold catL
    split
    · rfl
    · cases hr : repS f l with
      | error e => rfl
      | ok r =>
        obtain ⟨x, t⟩ := r
        have := (repS_goes hf _ _ _ hr).len
        exact catL_more hf n m _ t (by omega) (by omega)
theorem altL_more {f : List Nat → Res} (hf : Goes f) : ∀ (n m : Nat) (acc : List RX) (l : List Nat), l.length < n → l.length < m → altL f n acc l = altL f m acc l
  | 0, _, _, _, h, _ => by omega
  | _, 0, _, _, _, h => by omega
  | n + 1, m + 1, acc, [], h1, h2 => rfl
  | n + 1, m + 1, acc, c :: l, h1, h2 => by
    unfold altL
    split
    · cases hr : catS f l with
      | error e => rfl
      | ok r =>
        obtain ⟨x, t⟩ := r
        have := (catS_goes hf _ _ _ hr).len
        simp only [List.length_cons] at h1 h2
        exact altL_more hf n m _ t (by omega) (by omega)
    · rfl
/-- One round of a cat. -/
def catR (f : List Nat → Res) (acc : List RX) (l : List Nat) : Resl := catL f (l.length + 1) acc l
def altR (f : List Nat → Res) (acc : List RX) (l : List Nat) : Resl := altL f (l.length + 1) acc l
theorem catR_ends {f : List Nat → Res} {acc : List RX} {l : List Nat} (h : endsC l = true) : catR f acc l = .ok (acc, l) := by
  unfold catR catL; rw [if_pos h]
theorem catR_step {f : List Nat → Res} (hf : Goes f) {acc : List RX} {l : List Nat} (h : endsC l = false) : catR f acc l = (match repS f l with | .error e => .error e | .ok (x, t) => catR f (acc ++ [x]) t) := by
  unfold catR
  conv => lhs; unfold catL
  rw [if_neg (by simp [h])]
  cases hr : repS f l with
  | error e => rfl
  | ok r =>
    obtain ⟨x, t⟩ := r
    have := (repS_goes hf _ _ _ hr).len
    exact catL_more hf _ _ _ t (by omega) (by omega)
theorem altR_nil {f : List Nat → Res} {acc : List RX} : altR f acc [] = .ok (acc, []) := rfl
theorem altR_ends {f : List Nat → Res} {acc : List RX} {c : Nat} {l : List Nat} (h : c ≠ 124) : altR f acc (c :: l) = .ok (acc, c :: l) := by
  unfold altR altL; rw [if_neg h]
theorem altR_step {f : List Nat → Res} (hf : Goes f) {acc : List RX} {l : List Nat} : altR f acc (124 :: l) = (match catS f l with | .error e => .error e | .ok (x, t) => altR f (acc ++ [x]) t) := by
  unfold altR
  conv => lhs; unfold altL
  rw [if_pos rfl]
  cases hr : catS f l with
  | error e => rfl
  | ok r =>
    obtain ⟨x, t⟩ := r
    have := (catS_goes hf _ _ _ hr).len
    exact altL_more hf _ _ _ t (by simp; omega) (by omega)

end Go.Proofs.YtkclkhfcmjhogaaDoor
