/- spansOf: what is asked of the parts; the matrices of an expression. -/
import Derived.Test.YtojbakkbmfgoaaaDoorMsZ3
import Derived.Test.YtojbakkbmfgoaaaDoorMg13
import Derived.Test.YtojbakkbmfgoaaaDoorMg16
import Derived.Deep.Onto
import Derived.Test.YtojbakkbmfgoaaaDoorMg10
import Derived.Test.YtojbakkbmfgoaaaDoorMg07
namespace Go.Proofs.YtojbakkbmfgoaaaDoor
open Go.RowKit
set_option linter.unusedVariables false

/-- Which places an expression leads to, out of those of its parts. -/
def mtK (N : Nat) (k : Int) : List Mat → Mat
  | [] => fun _ _ => false
  | m :: ms => if k = 2 then ms.foldl (thenM N) m else if k = 3 then ms.foldl orM m else if k = 4 then starM N m else if k = 5 then thenM N m (starM N m) else orM m idM
def RX.mt (bt : Nat → Nat) (n : Nat) : RX → Mat := RX.fold (fun k p l R => if k = 1 then setM p bt n else mtK (n + 1) k R)
theorem mt_eq (bt : Nat → Nat) (n : Nat) (k : Int) (p : Nat → Bool) (l : List RX) : RX.mt bt n ⟨k, p, l⟩ = if k = 1 then setM p bt n else mtK (n + 1) k (l.map (RX.mt bt n)) := by rw [RX.mt, RX.fold_eq]
theorem foldl_fwd {N : Nat} {g : Mat → Mat → Mat} (hg : ∀ a b, Fwd N a → Fwd N b → Fwd N (g a b)) : ∀ (ms : List Mat) (m : Mat), Fwd N m → (∀ x ∈ ms, Fwd N x) → Fwd N (ms.foldl g m)
  | [], m, h, _ => h
  | x :: ms, m, h, hx => foldl_fwd hg ms (g m x) (hg m x h (hx x (by simp))) (fun y hy => hx y (by simp [hy]))
theorem mt_fwd (bt : Nat → Nat) (n : Nat) : ∀ x : RX, Fwd (n + 1) (x.mt bt n) := by
  refine RX.ind ?_
  intro k p l ih
  rw [mt_eq]
  split
  · exact setM_fwd p bt n
  · cases l with
    | nil => intro i j h; simp [mtK] at h
    | cons x l =>
      have h0 := ih x (by simp)
      have hl : ∀ m ∈ l.map (RX.mt bt n), Fwd (n + 1) m := by
        intro m hm
        obtain ⟨y, hy, rfl⟩ := List.mem_map.1 hm
        exact ih y (by simp [hy])
      rw [List.map_cons, mtK]
      split
      · exact foldl_fwd (fun a b ha hb => thenM_fwd ha hb) _ _ h0 hl
      · split
        · exact foldl_fwd (fun a b ha hb => orM_fwd ha hb) _ _ h0 hl
        · split
          · exact starM_fwd h0
          · split
            · exact thenM_fwd h0 (starM_fwd h0)
            · exact orM_fwd h0 (idM_fwd _)
/-- The signs. -/
theorem Parts.first {x : RX} {l : List RX} {K : Nat → Prop} {w : World} {a : Option Addr} {c : Nat} (h : Parts (x :: l) K w a c) : ∃ b o a' c', a = some ⟨b, o, none⟩ ∧ Parts x.args K w a' c' ∧ w.cell? ⟨b, o, none⟩ = some (.int .i64 x.kind) ∧ w.cell? ⟨b, o + 1, none⟩ = some (.int .u64 (limb x.set 0)) ∧ w.cell? ⟨b, o + 2, none⟩ = some (.int .u64 (limb x.set 1)) ∧ w.cell? ⟨b, o + 3, none⟩ = some (.int .u64 (limb x.set 2)) ∧ w.cell? ⟨b, o + 4, none⟩ = some (.int .u64 (limb x.set 3)) ∧ w.cell? ⟨b, o + 5, none⟩ = some (.slice a' x.args.length c') := by
  obtain ⟨b, o, a', c', ha, hp, q0, q1, q2, q3, q4, q5⟩ := h.at (i := 0) (x := x) rfl
  simp only [Nat.zero_mul, Nat.add_zero] at q0 q1 q2 q3 q4 q5
  exact ⟨b, o, a', c', ha, hp, q0, q1, q2, q3, q4, q5⟩

end Go.Proofs.YtojbakkbmfgoaaaDoor

namespace Go.Proofs.YtojbakkbmfgoaaaDoor
open Go.RowKit
set_option linter.unusedVariables false

/-- One place is turned. -/
def updM (F : Mat) (i j : Nat) (b : Bool) : Mat := fun r c => if r = i ∧ c = j then b else F r c
/-- By way of the first so many places. -/
def toM (J : Nat) (a b : Mat) : Mat := fun r c => (List.range J).any (fun k => a r k && b k c)
theorem toM_thenM (N : Nat) (a b : Mat) : toM N a b = thenM N a b := rfl
theorem toM_succ (J : Nat) (a b : Mat) (r c : Nat) : toM (J + 1) a b r c = (toM J a b r c || (a r J && b J c)) := by
  unfold toM
  rw [List.range_succ, List.any_append]
  simp
theorem toM_low {N : Nat} {a : Mat} (ha : Fwd N a) (b : Mat) {J r c : Nat} (h : J ≤ r) : toM J a b r c = false := by
  cases e : toM J a b r c with
  | false => rfl
  | true =>
    obtain ⟨k, hk, h2⟩ := any_range.1 e
    have := (ha r k (by simp at h2; exact h2.1)).1
    omega
theorem fwd_no {N : Nat} {b : Mat} (hb : Fwd N b) {r c : Nat} (h : c < r) : b r c = false := by
  cases e : b r c with
  | false => rfl
  | true => have := (hb r c e).1; omega

/-- While one is set behind the other. -/
def pbM (N : Nat) (a b : Mat) (i j k : Nat) : Mat := fun r c => if r < i then toM N a b r c else if r = i then (toM j a b r c || ((a i j && b j c) && decide (c < k))) else false
theorem pbM_start (N : Nat) (a b : Mat) (r c : Nat) : pbM N a b 0 0 0 r c = false := by
  unfold pbM
  rw [if_neg (by omega)]
  split
  · simp [toM]
  · rfl
theorem pbM_put (N : Nat) (a b : Mat) (i j k r c : Nat) (h : a i j = true) : updM (pbM N a b i j k) i k (pbM N a b i j k i k || b j k) r c = pbM N a b i j (k + 1) r c := by
  unfold updM pbM
  by_cases hr : r = i
  · subst hr
    by_cases hc : c = k
    · subst hc
      simp [h]
    · have e : decide (c < k + 1) = decide (c < k) := decide_eq_decide.2 (by omega)
      simp [hc, e]
  · simp [hr]
theorem pbM_next {N : Nat} {a b : Mat} (hb : Fwd N b) {i j k : Nat} (h : N ≤ k ∨ a i j = false) {r c : Nat} (hc : c < N) : pbM N a b i j k r c = pbM N a b i (j + 1) (j + 1) r c := by
  unfold pbM
  split
  · rfl
  · split
    · rename_i hr
      subst hr
      rw [toM_succ]
      have h1 : ((a r (j + 1) && b (j + 1) c) && decide (c < j + 1)) = false := by
        by_cases h2 : c < j + 1
        · rw [fwd_no hb h2]; simp
        · simp [h2]
      rw [h1, Bool.or_false]
      rcases h with h | h
      · rw [decide_eq_true (show c < k by omega), Bool.and_true]
      · rw [h]; simp
    · rfl
theorem pbM_row {N : Nat} {a b : Mat} (ha : Fwd N a) (hb : Fwd N b) {i k r c : Nat} (hi : i < N) : pbM N a b i N N r c = pbM N a b (i + 1) (i + 1) (i + 1) r c := by
  unfold pbM
  by_cases h1 : r < i
  · rw [if_pos h1, if_pos (by omega)]
  · rw [if_neg h1]
    by_cases h2 : r = i
    · subst h2
      rw [if_pos rfl, if_pos (by omega)]
      cases e : a r N with
      | false => simp
      | true =>
        have := (ha r N e).2 hi
        omega
    · rw [if_neg h2]
      by_cases h3 : r = i + 1
      · subst h3
        rw [if_neg (by omega), if_pos rfl, toM_low ha b (by omega)]
        by_cases h4 : c < i + 1
        · rw [fwd_no hb h4]; simp
        · simp [h4]
      · rw [if_neg (by omega), if_neg h3]
theorem pbM_done {N : Nat} {a b : Mat} {j k r c : Nat} (hr : r < N) : pbM N a b N j k r c = thenM N a b r c := by
  unfold pbM
  rw [if_pos hr, toM_thenM]

/-- A star, one step more at its end. -/
theorem star_refl (N : Nat) (f : Mat) (i : Nat) : starM N f i i = true := by
  unfold starM
  cases N with
  | zero => simp [stM, idM]
  | succ N => rw [stM]; simp
theorem star_on {N : Nat} {f : Mat} (hf : Fwd N f) {i k c : Nat} (hi : i < N) (h : f i k = true) (hs : starM N f k c = true) : starM N f i c = true := by
  by_cases e : k = i
  · subst e; exact hs
  · rw [starM_step hf hi, Bool.or_eq_true, any_range]
    exact .inr ⟨k, (hf i k h).2 hi, by simp [h, e, hs]⟩
theorem star_cases {N : Nat} {f : Mat} (hf : Fwd N f) {i c : Nat} (hi : i < N) (h : starM N f i c = true) : c = i ∨ ∃ k, i < k ∧ k < N ∧ f i k = true ∧ starM N f k c = true := by
  rw [starM_step hf hi, Bool.or_eq_true, any_range] at h
  rcases h with h | ⟨k, hk, h⟩
  · exact .inl (by simpa using h)
  · simp only [Bool.and_eq_true, Bool.not_eq_true', beq_eq_false_iff_ne] at h
    have := (hf i k h.1.1).1
    exact .inr ⟨k, by omega, hk, h.1.1, h.2⟩
theorem star_end {N : Nat} {f : Mat} (hf : Fwd N f) : ∀ (d i j c : Nat), N ≤ i + d → i < N → starM N f i j = true → f j c = true → starM N f i c = true
  | 0, i, j, c, h, hi, _, _ => by omega
  | d + 1, i, j, c, h, hi, h1, h2 => by
    rcases star_cases hf hi h1 with rfl | ⟨k, hk, hkN, h3, h4⟩
    · exact star_on hf hi h2 (star_refl N f c)
    · exact star_on hf hi h3 (star_end hf d k j c (by omega) hkN h4 h2)
theorem star_last {N : Nat} {f : Mat} (hf : Fwd N f) : ∀ (d i c : Nat), N ≤ i + d → i < N → starM N f i c = true → c = i ∨ ∃ j, j < c ∧ starM N f i j = true ∧ f j c = true
  | 0, i, c, h, hi, _ => by omega
  | d + 1, i, c, h, hi, h1 => by
    rcases star_cases hf hi h1 with rfl | ⟨k, hk, hkN, h3, h4⟩
    · exact .inl rfl
    · rcases star_last hf d k c (by omega) hkN h4 with rfl | ⟨j, h5, h6, h7⟩
      · exact .inr ⟨i, hk, star_refl N f i, h3⟩
      · exact .inr ⟨j, h5, star_on hf hi h3 h6, h7⟩
/-- A row of a star, its steps out of the first so many places done. -/
def srow (N : Nat) (x : Mat) (J i c : Nat) : Bool := (c == i) || (List.range J).any (fun j => starM N x i j && (x j c && decide (j < c)))
theorem srow_succ (N : Nat) (x : Mat) (J i c : Nat) : srow N x (J + 1) i c = (srow N x J i c || (starM N x i J && (x J c && decide (J < c)))) := by
  unfold srow
  rw [List.range_succ, List.any_append, Bool.or_assoc]
  simp
theorem srow_star {N : Nat} {x : Mat} (hx : Fwd N x) {J i c : Nat} (hi : i < N) (h : c ≤ J) : srow N x J i c = starM N x i c := by
  rw [Bool.eq_iff_iff]
  unfold srow
  rw [Bool.or_eq_true, any_range]
  constructor
  · rintro (h1 | ⟨j, hj, h1⟩)
    · rw [show c = i from by simpa using h1]; exact star_refl N x i
    · simp only [Bool.and_eq_true, decide_eq_true_eq] at h1
      exact star_end hx N i j c (by omega) hi h1.1 h1.2.1
  · intro h1
    rcases star_last hx N i c (by omega) hi h1 with rfl | ⟨j, h2, h3, h4⟩
    · exact .inl (by simp)
    · exact .inr ⟨j, by omega, by simp [h2, h3, h4]⟩
theorem srow_low {N : Nat} {x : Mat} (hx : Fwd N x) {J i c : Nat} (h : J ≤ i) : srow N x J i c = (c == i) := by
  unfold srow
  cases e : (List.range J).any (fun j => starM N x i j && (x j c && decide (j < c))) with
  | false => simp
  | true =>
    obtain ⟨j, hj, h1⟩ := any_range.1 e
    simp only [Bool.and_eq_true] at h1
    have := (starM_fwd hx i j h1.1).1
    omega

/-- While one is set behind itself. -/
def psM (N : Nat) (x : Mat) (i j k : Nat) : Mat := fun r c => if r < i then starM N x r c else if r = i then (srow N x j i c || ((starM N x i j && (x j c && decide (j < c))) && decide (c < k))) else (c == r)
theorem psM_start (N : Nat) (x : Mat) (r c : Nat) : psM N x 0 0 1 r c = idM r c := by
  unfold psM idM
  rw [if_neg (by omega)]
  split
  · rename_i h
    subst h
    unfold srow
    by_cases h2 : 0 < c
    · have : ¬ c < 1 := by omega
      simp [this]
    · simp [h2]
  · rfl
theorem psM_at {N : Nat} {x : Mat} (hx : Fwd N x) {i j k : Nat} (hi : i < N) : psM N x i j k i j = starM N x i j := by
  unfold psM
  rw [if_neg (by omega), if_pos rfl, srow_star hx hi (Nat.le_refl j)]
  simp
theorem psM_put {N : Nat} {x : Mat} {i j k r c : Nat} (hk : j < k) (h : starM N x i j = true) : updM (psM N x i j k) i k (psM N x i j k i k || x j k) r c = psM N x i j (k + 1) r c := by
  unfold updM psM
  by_cases hr : r = i
  · subst hr
    by_cases hc : c = k
    · subst hc
      simp [h, hk]
    · have e : decide (c < k + 1) = decide (c < k) := decide_eq_decide.2 (by omega)
      simp [hc, e]
  · simp [hr]
theorem psM_next {N : Nat} {x : Mat} {i j k : Nat} (h : N ≤ k ∨ starM N x i j = false) {r c : Nat} (hc : c < N) : psM N x i j k r c = psM N x i (j + 1) (j + 1 + 1) r c := by
  unfold psM
  split
  · rfl
  · split
    · rw [srow_succ]
      have h1 : ((starM N x i (j + 1) && (x (j + 1) c && decide (j + 1 < c))) && decide (c < j + 1 + 1)) = false := by
        by_cases h2 : j + 1 < c
        · have : ¬ c < j + 1 + 1 := by omega
          simp [this]
        · simp [h2]
      rw [h1, Bool.or_false]
      rcases h with h | h
      · rw [decide_eq_true (show c < k by omega), Bool.and_true]
      · rw [h]; simp
    · rfl
theorem psM_row {N : Nat} {x : Mat} (hx : Fwd N x) {i k r c : Nat} (hi : i < N) (hc : c < N) : psM N x i N k r c = psM N x (i + 1) (i + 1) (i + 1 + 1) r c := by
  unfold psM
  by_cases h1 : r < i
  · rw [if_pos h1, if_pos (by omega)]
  · rw [if_neg h1]
    by_cases h2 : r = i
    · subst h2
      rw [if_pos rfl, if_pos (by omega), srow_star hx hi (by omega)]
      have : ¬ N < c := by omega
      simp [this]
    · rw [if_neg h2]
      by_cases h3 : r = i + 1
      · subst h3
        rw [if_neg (by omega), if_pos rfl, srow_low hx (by omega)]
        by_cases h2 : i + 1 < c
        · have : ¬ c < i + 1 + 1 := by omega
          simp [this]
        · simp [h2]
      · rw [if_neg (by omega), if_neg h3]
theorem psM_done {N : Nat} {x : Mat} {j k r c : Nat} (hr : r < N) : psM N x N j k r c = starM N x r c := by
  unfold psM
  rw [if_pos hr]

/-- While one or the other is put in. -/
def poM (t x : Mat) (i j : Nat) : Mat := fun r c => if r < i ∨ (r = i ∧ c < j) then (t r c || x r c) else t r c
theorem poM_start (t x : Mat) (r c : Nat) : poM t x 0 0 r c = t r c := by
  unfold poM
  rw [if_neg (by omega)]
theorem poM_put (t x : Mat) (i j r c : Nat) : updM (poM t x i j) i j (poM t x i j i j || x i j) r c = poM t x i (j + 1) r c := by
  unfold updM poM
  by_cases hr : r = i
  · subst hr
    by_cases hc : c = j
    · subst hc
      rw [if_pos ⟨rfl, rfl⟩, if_neg (by omega), if_pos (by omega)]
    · rw [if_neg (by omega)]
      by_cases h : c < j
      · rw [if_pos (by omega), if_pos (by omega)]
      · rw [if_neg (by omega), if_neg (by omega)]
  · rw [if_neg (by omega)]
    by_cases h : r < i
    · rw [if_pos (by omega), if_pos (by omega)]
    · rw [if_neg (by omega), if_neg (by omega)]
theorem poM_row {N : Nat} {t x : Mat} (hx : Fwd N x) {i r c : Nat} (hc : c < N) : poM t x i N r c = poM t x (i + 1) (i + 1) r c := by
  unfold poM
  by_cases h1 : r < i + 1
  · rw [if_pos (by omega), if_pos (by omega)]
  · rw [if_neg (by omega)]
    by_cases h2 : r = i + 1 ∧ c < i + 1
    · rw [if_pos (by omega), fwd_no hx (by omega)]; simp
    · rw [if_neg (by omega)]
theorem poM_done {N : Nat} {t x : Mat} {j r c : Nat} (hr : r < N) : poM t x N j r c = orM t x r c := by
  unfold poM orM
  rw [if_pos (.inl hr)]

/-- While the places themselves are put in. -/
def pdM (x : Mat) (i : Nat) : Mat := fun r c => x r c || (c == r && decide (r < i))
theorem pdM_start (x : Mat) (r c : Nat) : pdM x 0 r c = x r c := by simp [pdM]
theorem pdM_put (x : Mat) (i r c : Nat) : updM (pdM x i) i i true r c = pdM x (i + 1) r c := by
  unfold updM pdM
  by_cases h : r = i
  · subst h
    by_cases hc : c = r
    · subst hc; simp
    · simp [hc]
  · have e : decide (r < i + 1) = decide (r < i) := decide_eq_decide.2 (by omega)
    simp [h, e]
theorem pdM_done {N : Nat} {x : Mat} {r c : Nat} (hr : r < N) : pdM x N r c = orM x idM r c := by simp [pdM, orM, idM, hr]

/-- While the steps over one byte are put in. -/
def pcM (p : Nat → Bool) (bt : Nat → Nat) (i : Nat) : Mat := fun r c => decide (r < i) && (p (bt r) && (c == r + 1))
theorem pcM_start (p : Nat → Bool) (bt : Nat → Nat) (r c : Nat) : pcM p bt 0 r c = false := by simp [pcM]
theorem pcM_put (p : Nat → Bool) (bt : Nat → Nat) (i r c : Nat) : updM (pcM p bt i) i (i + 1) (p (bt i)) r c = pcM p bt (i + 1) r c := by
  unfold updM pcM
  by_cases h : r = i
  · subst h
    by_cases hc : c = r + 1
    · subst hc; simp
    · simp [hc]
  · have e : decide (r < i + 1) = decide (r < i) := decide_eq_decide.2 (by omega)
    simp [h, e]
/-- Nothing, and then one: that one. -/
theorem idM_then {N : Nat} {x : Mat} {r c : Nat} (hr : r < N) : thenM N idM x r c = x r c := by
  rw [Bool.eq_iff_iff, thenM_true]
  constructor
  · rintro ⟨k, hk, h1, h2⟩
    rw [show k = r from by simpa [idM] using h1] at h2
    exact h2
  · intro h
    exact ⟨r, hr, by simp [idM], h⟩
theorem thenM_congr {N : Nat} {f f' g g' : Mat} (hf : ∀ r c, r < N → c < N → f r c = f' r c) (hg : ∀ r c, r < N → c < N → g r c = g' r c) {r c : Nat} (hr : r < N) (hc : c < N) : thenM N f g r c = thenM N f' g' r c := by
  rw [Bool.eq_iff_iff, thenM_true, thenM_true]
  constructor
  · rintro ⟨k, hk, h1, h2⟩
    exact ⟨k, hk, by rw [← hf r k hr hk]; exact h1, by rw [← hg k c hk hc]; exact h2⟩
  · rintro ⟨k, hk, h1, h2⟩
    exact ⟨k, hk, by rw [hf r k hr hk]; exact h1, by rw [hg k c hk hc]; exact h2⟩
theorem foldl_then {N : Nat} : ∀ (l : List Mat) (f f' : Mat), (∀ r c, r < N → c < N → f r c = f' r c) → ∀ r c, r < N → c < N → l.foldl (thenM N) f r c = l.foldl (thenM N) f' r c
  | [], f, f', h, r, c, hr, hc => h r c hr hc
  | x :: l, f, f', h, r, c, hr, hc => foldl_then l _ _ (fun r c hr hc => thenM_congr h (fun _ _ _ _ => rfl) hr hc) r c hr hc
theorem foldl_or : ∀ (l : List Mat) (f f' : Mat), (∀ r c, f r c = f' r c) → ∀ r c, l.foldl orM f r c = l.foldl orM f' r c
  | [], f, f', h, r, c => h r c
  | x :: l, f, f', h, r, c => foldl_or l _ _ (fun r c => by unfold orM; rw [h]) r c

end Go.Proofs.YtojbakkbmfgoaaaDoor

namespace Go.Proofs.YtojbakkbmfgoaaaDoor
open Go.RowKit
set_option linter.unusedVariables false

theorem may_small {x : RX} (h : may x = 0) : x.formed = true ∧ x.nodes ≤ 40 ∧ x.depth ≤ 12 := by
  unfold may at h
  split at h
  · cases h
  · split at h
    · next h1 h2 => exact ⟨by simpa using h1, h2⟩
    · cases h

end Go.Proofs.YtojbakkbmfgoaaaDoor

namespace Go.Proofs.YtojbakkbmfgoaaaDoor
open Go.RowKit
set_option linter.unusedVariables false

/-- The numbers that are handed in, and how many have been taken. -/
structure Pk (w : World) (g : Nat) (a : Option Addr) (len cap : Nat) (f : Nat → Nat) (n : Nat) : Prop where
  at_ : w.heap[g]? = some (.cells #[.slice a len cap, .int .i64 n] 55 (0, 0))
  row : Sl w a len (Bn f)
  le : n ≤ len
  far : ∀ q, a = some q → q.block ≠ g
  byte : ∀ i, i < len → f i < 256
  room : len < 1000000
/-- What Num tells. -/
def numS (f : Nat → Nat) (len n m : Nat) : Nat := if n < len then f n % m else 0
def numN (len n : Nat) : Nat := if n < len then n + 1 else n
theorem Pk.cells {w : World} {g : Nat} {a : Option Addr} {len cap : Nat} {f : Nat → Nat} {n : Nat} (h : Hid (Pk w g a len cap f n)) : w.cell? ⟨g, 0, none⟩ = some (.slice a len cap) ∧ w.cell? ⟨g, 1, none⟩ = some (.int .i64 n) ∧ w.frozen? ⟨g, 1, none⟩ = false := by
  refine ⟨?_, ?_, ?_⟩ <;> simp only [World.cell?, World.frozen?, h.out.at_] <;> rfl
theorem made_any (a : Option Addr) (len cap : Nat) (f : Nat → Nat) (w : World) (hs : Hid (Sl w a len (Bn f))) (hl : len < 1000000) (hb : ∀ i, i < len → f i < 256) (ha : ∀ q, a = some q → q.block < w.heap.size) :
    Calls Tryd.prog 8 #[.slice a len cap] w fun e w' => e = .returned (.pointer (some ⟨w.heap.size, 0, none⟩)) ∧ Hid (Pk w' w.heap.size a len cap f 0) ∧ Hid (Qt w w') := by
  have HB : Hid _ := hb
  have HA : Hid _ := ha
  clear hb ha
  go_enter Tryd.func8, Tryd.ntmps8
  go_wp2_with fail
  go_ret
  refine ⟨rfl, ⟨heap_alloc_new w _, hs.out.mv (Mv.alloc (fun _ => False) w _) (fun _ _ h => h), by omega, fun q h => Nat.ne_of_lt (HA.out q h), HB.out, hl⟩, (Qt.refl w).alloc _⟩

theorem Pk.mv {w w' : World} {g : Nat} {a : Option Addr} {len cap : Nat} {f : Nat → Nat} {n : Nat} (h : Pk w g a len cap f n) (q : Qt w w') : Pk w' g a len cap f n :=
  ⟨by rw [q.block g (Array.getElem?_eq_some_iff.1 h.at_).1 (fun h => h)]; exact h.at_, h.row.mv q (fun _ _ h => h), h.le, h.far, h.byte, h.room⟩
theorem Pk.take {w : World} {g : Nat} {a : Option Addr} {len cap : Nat} {f : Nat → Nat} {n : Nat} (h : Pk w g a len cap f n) (hn : n < len) : Pk (w.setCell ⟨g, 1, none⟩ (.int .i64 ((n + 1 : Nat) : Int))) g a len cap f (n + 1) ∧ Mv (fun j => j = g) w (w.setCell ⟨g, 1, none⟩ (.int .i64 ((n + 1 : Nat) : Int))) := by
  have m := Mv.setCell w ⟨g, 1, none⟩ (.int .i64 ((n + 1 : Nat) : Int))
  have m2 : Mv (fun j => j = g) w (w.setCell ⟨g, 1, none⟩ (.int .i64 ((n + 1 : Nat) : Int))) := m.mono (fun j _ h => by simpa using h)
  refine ⟨⟨?_, h.row.mv m2 (fun q hq e => h.far q hq e), by omega, h.far, h.byte, h.room⟩, m2⟩
  rw [heap_setCell_same w g 1 _ 55 _ h.at_]
  rfl

set_option maxRecDepth 20000 in
set_option maxHeartbeats 2000000 in
theorem num_any (m : Nat) (hm : 0 < m) (hm2 : m < 1000) (g : Nat) (a : Option Addr) (len cap : Nat) (f : Nat → Nat) (n : Nat) (w : World) (h : Hid (Pk w g a len cap f n)) :
    Calls Tryd.prog 19 #[.pointer (some ⟨g, 0, none⟩), .int .i64 m] w fun e w' => e = .returned (.int .i64 (numS f len n m : Nat)) ∧ Hid (Pk w' g a len cap f (numN len n)) ∧ Hid (Mv (fun j => j = g) w w') := by
  obtain ⟨k0, k1, k2⟩ := Pk.cells h
  have hle := h.out.le
  have hroom := h.out.room
  unfold numS numN
  by_cases hn : n < len
  · rw [if_pos hn, if_pos hn]
    have hn1 : ¬ (len ≤ n) := by omega
    go_enter Tryd.func19, Tryd.ntmps19
    go_wp2_with fail
    go_quiet (fail)
    obtain ⟨W, hW⟩ : ∃ W, W = w.drewN nq := ⟨_, rfl⟩
    have QF : Hid (Qt w W) := by rw [hW]; exact Mv.drewN (fun _ => False) w nq
    rw [← hW]
    clear hW k0 k1 k2
    have P1 : Hid (Pk W g a len cap f n) := h.out.mv QF.out
    obtain ⟨k0, k1, k2⟩ := Pk.cells P1
    have HT := P1.out.take hn
    obtain ⟨W1, hW1⟩ : ∃ W1, W1 = W.setCell ⟨g, 1, none⟩ (.int .i64 ((n + 1 : Nat) : Int)) := ⟨_, rfl⟩
    rw [← hW1] at HT
    have H2 : Hid (Pk W1 g a len cap f (n + 1)) := HT.1
    have M2 : Hid (Mv (fun j => j = g) W W1) := HT.2
    rw [show ((n + 1 : Nat) : Int) = (n : Int) + 1 by omega] at hW1
    clear HT
    go_wp2_with fail
    rw [← hW1]
    clear hW1 k0 k1 k2
    obtain ⟨k0, k1, k2⟩ := Pk.cells H2
    obtain ⟨b, o, rfl, _, k3⟩ := H2.out.row n hn
    have hbyte : f n < 256 := H2.out.byte n hn
    have hmod : ((f n : Int) % (m : Int)) = ((f n % m : Nat) : Int) := by omega
    rw [show ((n + 1 : Nat) : Int) = (n : Int) + 1 by omega] at k1
    unfold Bn at k3
    have hw1 : IntKind.i64.wrap ((n : Int) + 1 - 1) = (n : Int) := by rw [IntKind.wrap_i64]; omega
    have hw2 : IntKind.i64.wrap (n : Int) = (n : Int) := by rw [IntKind.wrap_i64]; omega
    have hw3 : (n : Int) + 1 - 1 = (n : Int) := by omega
    have hmt : Int.tmod (f n : Int) (m : Int) = ((f n % m : Nat) : Int) := by rw [Int.tmod_eq_emod_of_nonneg (by omega)]; exact hmod
    have hm0 : ¬ ((m : Int) = 0) := by omega
    have hlr : ((f n % m : Nat) : Int) < 1000 := by have := Nat.mod_lt (f n) hm; omega
    clear hmod
    obtain ⟨y, hy⟩ : ∃ y, Hid (f n % m = y) := ⟨_, rfl⟩
    obtain ⟨z, hz⟩ : ∃ z, Hid (f n = z) := ⟨_, rfl⟩
    rw [hy.out] at hmt hlr
    rw [hz.out] at hmt k3 hbyte
    go_quiet (fail)
    go_wp2_with fail
    go_ret
    exact ⟨by rw [hy.out]; rfl, H2.out.mv (Mv.drewN (fun _ => False) W1 nq), Mv.trans (Mv.trans (QF.out.mono (fun _ _ h => h.elim)) M2.out (fun _ _ h => h)) (Mv.drewN (fun j => j = g) W1 nq) (fun _ _ h => h)⟩
  · rw [if_neg hn, if_neg hn]
    have hn1 : len ≤ n := by omega
    go_enter Tryd.func19, Tryd.ntmps19
    go_wp2_with fail
    go_quiet (fail)
    go_wp2_with fail
    go_ret
    exact ⟨rfl, h.out.mv (Mv.drewN (fun _ => False) w nq), Mv.drewN _ w nq⟩

end Go.Proofs.YtojbakkbmfgoaaaDoor

namespace Go.Proofs.YtojbakkbmfgoaaaDoor
open Go.RowKit
set_option linter.unusedVariables false

theorem sl_ab {w : World} : Sl (w.alloc (.cells #[.int .u8 97, .int .u8 98] 5)) (some ⟨w.heap.size, 0, none⟩) 2 (Bn (fun i => 97 + i)) := by
  intro i hi
  refine ⟨_, _, rfl, by simp, ?_⟩
  rcases (show i = 0 ∨ i = 1 from by omega) with rfl | rfl <;> simp [Bn]
end Go.Proofs.YtojbakkbmfgoaaaDoor

namespace Go.Proofs.YtojbakkbmfgoaaaDoor
open Go.RowKit
set_option linter.unusedVariables false

theorem numS_lt (f : Nat → Nat) (len n m : Nat) (hm : 0 < m) : numS f len n m < m := by
  unfold numS
  split
  · exact Nat.mod_lt _ hm
  · exact hm
theorem sl_bcd {w : World} : Sl (w.alloc (.cells #[.int .u8 98, .int .u8 99, .int .u8 100] 5)) (some ⟨w.heap.size, 0, none⟩) 3 (Bn (fun i => 98 + i)) := by
  intro i hi
  refine ⟨_, _, rfl, by simp, ?_⟩
  rcases (show i = 0 ∨ i = 1 ∨ i = 2 from by omega) with rfl | rfl | rfl <;> simp [Bn]
theorem sl_012 {w : World} : Sl (w.alloc (.cells #[.int .u8 48, .int .u8 49, .int .u8 50] 5)) (some ⟨w.heap.size, 0, none⟩) 3 (Bn (fun i => 48 + i)) := by
  intro i hi
  refine ⟨_, _, rfl, by simp, ?_⟩
  rcases (show i = 0 ∨ i = 1 ∨ i = 2 from by omega) with rfl | rfl | rfl <;> simp [Bn]
theorem sl_anl {w : World} : Sl (w.alloc (.cells #[.int .u8 97, .int .u8 10] 5)) (some ⟨w.heap.size, 0, none⟩) 2 (Bn (fun i => if i = 0 then 97 else 10)) := by
  intro i hi
  refine ⟨_, _, rfl, by simp, ?_⟩
  rcases (show i = 0 ∨ i = 1 from by omega) with rfl | rfl <;> simp [Bn]
theorem any_ofl {f : Nat → Nat} {n : Nat} (hn : 0 < n) (h0 : f 0 < 256) : any (ofl f n) = true := any_true.2 ⟨f 0, h0, by simp [ofl]; exact ⟨0, hn, rfl⟩⟩
theorem any_no_anl : any (no (ofl (fun i => if i = 0 then 97 else 10) 2)) = true := by decide +kernel
theorem play_sign (m : Nat) (hm : m < 6) : ∃ c, c < 256 ∧ ∀ w, (Instr.index 9 (.string ⟨#[97, 98, 49, 10, 32, 45]⟩) (.int .i64 m)).run Tryd.prog w = .ok (.int .u8 ((c : Nat) : Int)) w := by
  have hb : bs ⟨#[97, 98, 49, 10, 32, 45]⟩ = [97, 98, 49, 10, 32, 45] := by decide +kernel
  rcases (show m = 0 ∨ m = 1 ∨ m = 2 ∨ m = 3 ∨ m = 4 ∨ m = 5 from by omega) with rfl | rfl | rfl | rfl | rfl | rfl
  · exact ⟨97, by decide, fun w => index_run _ [] _ 97 hb w⟩
  · exact ⟨98, by decide, fun w => index_run _ [97] _ 98 hb w⟩
  · exact ⟨49, by decide, fun w => index_run _ [97, 98] _ 49 hb w⟩
  · exact ⟨10, by decide, fun w => index_run _ [97, 98, 49] _ 10 hb w⟩
  · exact ⟨32, by decide, fun w => index_run _ [97, 98, 49, 10] _ 32 hb w⟩
  · exact ⟨45, by decide, fun w => index_run _ [97, 98, 49, 10, 32] _ 45 hb w⟩
/-- A set of few runs. -/
def Few (p : Nat → Bool) : Prop := ∀ R, Runs p 0 R → R.length ≤ 3
theorem few_of {p : Nat → Bool} {R : List (Nat × Nat)} (h : Runs p 0 R) (hl : R.length ≤ 3) : Few p := fun R' h' => by rw [Runs.one h' h]; exact hl
theorem ofl_in {f : Nat → Nat} {n b : Nat} : ofl f n b = true ↔ ∃ i, i < n ∧ f i = b := by
  unfold ofl
  rw [List.any_eq_true]
  simp
theorem ofl_out {f : Nat → Nat} {n b : Nat} (h : ∀ i, i < n → f i ≠ b) : ofl f n b = false := by
  cases e : ofl f n b with
  | false => rfl
  | true => obtain ⟨i, hi, he⟩ := ofl_in.1 e; exact absurd he (h i hi)
theorem few_row (s n : Nat) (hn : 0 < n) (hs : s + n < 256) : Few (ofl (fun i => s + i) n) := by
  refine few_of (R := [(s, s + n - 1)]) ⟨Nat.zero_le _, by omega, by omega, fun c _ hc => ofl_out (fun i hi => by omega), fun c h1 h2 => ofl_in.2 ⟨c - s, by omega, by omega⟩, fun _ => ofl_out (fun i hi => by omega), fun b h1 h2 => ofl_out (fun i hi => by omega)⟩ (by simp)
theorem few_one {c : Nat} (hc : c < 256) : Few (btw c c) := by
  refine few_of (R := [(c, c)]) ⟨Nat.zero_le _, Nat.le_refl _, hc, fun d _ hd => ?_, fun d h1 h2 => ?_, fun _ => ?_, fun b h1 h2 => ?_⟩ (by simp)
  all_goals ((unfold btw; simp) <;> omega)
theorem few_anl : Few (no (ofl (fun i => if i = 0 then 97 else 10) 2)) := by
  have hi : ∀ c, ofl (fun i => if i = 0 then 97 else 10) 2 c = (c == 97 || c == 10) := by
    intro c
    rw [Bool.eq_iff_iff, ofl_in]
    simp only [Bool.or_eq_true, beq_iff_eq]
    constructor
    · rintro ⟨i, hi, e⟩
      rcases (show i = 0 ∨ i = 1 from by omega) with rfl | rfl
      · left; simpa using e.symm
      · right; simpa using e.symm
    · rintro (e | e)
      · exact ⟨0, by omega, by simp [e]⟩
      · exact ⟨1, by omega, by simp [e]⟩
  have ho : ∀ c, no (ofl (fun i => if i = 0 then 97 else 10) 2) c = !(c == 97 || c == 10) := fun c => by unfold no; rw [hi]
  refine few_of (R := [(0, 9), (11, 96), (98, 255)]) ⟨by omega, by omega, by omega, ?_, ?_, ?_, by omega, by omega, by omega, ?_, ?_, ?_, by omega, by omega, by omega, ?_, ?_, ?_, fun b h1 h2 => by omega⟩ (by simp)
  all_goals (intros; rw [ho]; simp; try omega)
/-- What the play's Set tells. -/
def SetP (w : World) (g : Nat) (a : Option Addr) (len cap : Nat) (f : Nat → Nat) (e : Ending) (w' : World) : Prop :=
  ∃ p n', e = .returned (sv p) ∧ (any p = true ∧ Few p) ∧ Hid (Pk w' g a len cap f n') ∧ Hid (Mv (fun j => j = g) w w')

theorem Pk.mv2 {w w2 w' : World} {S : Nat → Prop} {g : Nat} {a : Option Addr} {len cap : Nat} {f : Nat → Nat} {n : Nat} (hq : g < w.heap.size) (hs : Sl w a len (Bn f)) (h : Pk w2 g a len cap f n) (m : Mv S w2 w') (hz : w.heap.size ≤ w2.heap.size) (hS : ∀ j, j < w.heap.size → ¬ S j) : Pk w' g a len cap f n := by
  refine ⟨by rw [m.block g (Array.getElem?_eq_some_iff.1 h.at_).1 (hS g hq)]; exact h.at_, fun i hi => ?_, h.le, h.far, h.byte, h.room⟩
  obtain ⟨b, o, ea, hb, _⟩ := hs i hi
  obtain ⟨b2, o2, ea2, hb2, hc⟩ := h.row i hi
  rw [ea] at ea2
  cases ea2
  exact ⟨b, o, ea, Nat.lt_of_lt_of_le hb2 m.size, m.cell (p := ⟨b, o + i, none⟩) hc (hS b hb)⟩
theorem setP_tell {w w2 : World} {g : Nat} {a : Option Addr} {len cap : Nat} {f : Nat → Nat} {n1 : Nat} (hs : Hid (Sl w a len (Bn f))) (hq : g < w.heap.size) (m : Mv (fun j => j = g) w w2) (p2 : Pk w2 g a len cap f n1) (p : Nat → Bool) (ha : any p = true ∧ Few p) :
    SetP w g a len cap f (.returned (.agg #[.int .u64 (limb p 0), .int .u64 (limb p 1), .int .u64 (limb p 2), .int .u64 (limb p 3)])) (put4 w2 w.heap.size (.int .u64 (limb p 0)) (.int .u64 (limb p 1)) (.int .u64 (limb p 2)) (.int .u64 (limb p 3))) := by
  have mp := put4_mv w2 w.heap.size (.int .u64 (limb p 0)) (.int .u64 (limb p 1)) (.int .u64 (limb p 2)) (.int .u64 (limb p 3))
  exact ⟨p, n1, rfl, ha, Pk.mv2 hq hs.out p2 mp m.size (fun j hj e => by omega), Mv.trans m mp (fun j hj e => by omega)⟩

set_option maxRecDepth 20000 in
set_option maxHeartbeats 4000000 in
theorem pset_any (g : Nat) (a : Option Addr) (len cap : Nat) (f : Nat → Nat) (n : Nat) (w : World) (h : Hid (Pk w g a len cap f n)) :
    Calls Tryd.prog 20 #[.pointer (some ⟨g, 0, none⟩)] w fun e w' => SetP w g a len cap f e w' := by
  have HQ : Hid (g < w.heap.size) := (Array.getElem?_eq_some_iff.1 h.out.at_).1
  have h0 : Hid (Pk (w.alloc zeros) g a len cap f n) := h.out.mv (Mv.alloc (fun _ => False) w zeros)
  have HS : Hid (Hid (Sl w a len (Bn f))) := h.out.row
  have h7 := num_any 7 (by decide) (by decide) g a len cap f n (w.alloc zeros) h0
  have hm := numS_lt f len n 7 (by decide)
  have h6 := fun n' W (P : Hid (Pk W g a len cap f n')) => num_any 6 (by decide) (by decide) g a len cap f n' W P
  have hs6 : Hid (∀ n', ∃ c, c < 256 ∧ ∀ w, (Instr.index 9 (.string ⟨#[97, 98, 49, 10, 32, 45]⟩) (.int .i64 (numS f len n' 6 : Nat))).run Tryd.prog w = .ok (.int .u8 ((c : Nat) : Int)) w) := fun n' => play_sign _ (numS_lt f len n' 6 (by decide))
  generalize numS f len n 7 = m at h7 hm
  generalize numN len n = n1 at h7
  clear h h0
  rcases (show m = 0 ∨ m = 1 ∨ m = 2 ∨ m = 3 ∨ (4 ≤ m) from by omega) with rfl | rfl | rfl | rfl | h4
  · go_enter Tryd.func20, Tryd.ntmps20
    go_wp2_with fail
    refine h7.mono ?_
    rintro e w1 ⟨rfl, p1, m1⟩
    go_wp2_with fail
    refine (rof_f (some ⟨w1.heap.size, 0, none⟩) 2 2 (fun i => 97 + i) _ sl_ab (fun i hi => by omega) (by decide)).mono ?_
    rintro e w2 ⟨rfl, q2⟩
    rw [sv_cells]
    have Q2 : Hid (Qt w1 w2) := ((Qt.refl w1).alloc _).comp q2.out
    have M1 : Mv (fun j => j = g) w w1 := up1 m1
    have Z : Hid (Zr w.heap.size w2) := Zr.mv (Zr.mv (w := w.alloc zeros) (heap_alloc_new w zeros) m1.out (fun h => Nat.ne_of_lt HQ.out h.symm)) Q2.out (fun h => h)
    have MM : Hid (Mv (fun j => j = g) w w2) := Mv.trans M1 Q2.out (fun _ _ h => h.elim)
    have P2 : Hid (Pk w2 g a len cap f n1) := p1.out.mv Q2.out
    obtain ⟨k0, k1, k2, k3, l0, l1, l2, l3⟩ := Zr.facts Z
    clear h6 hs6
    go_wp2_with fail
    refine bodyPost_ret (results_cell_row (p := 2) (ty := 26) rfl _ _ w.heap.size 26 _ (0, 0) _ rfl (put4_heap Z.out _ _ _ _) Tryd.underlying26 rfl (by kernel_rfl)) rfl ?_
    exact setP_tell HS.out HQ.out MM.out P2.out _ ⟨any_ofl (by decide) (by decide), few_row 97 2 (by decide) (by decide)⟩
  · go_enter Tryd.func20, Tryd.ntmps20
    go_wp2_with fail
    refine h7.mono ?_
    rintro e w1 ⟨rfl, p1, m1⟩
    go_wp2_with fail
    refine (rof_f (some ⟨w1.heap.size, 0, none⟩) 3 3 (fun i => 98 + i) _ sl_bcd (fun i hi => by omega) (by decide)).mono ?_
    rintro e w2 ⟨rfl, q2⟩
    rw [sv_cells]
    have Q2 : Hid (Qt w1 w2) := ((Qt.refl w1).alloc _).comp q2.out
    have M1 : Mv (fun j => j = g) w w1 := up1 m1
    have Z : Hid (Zr w.heap.size w2) := Zr.mv (Zr.mv (w := w.alloc zeros) (heap_alloc_new w zeros) m1.out (fun h => Nat.ne_of_lt HQ.out h.symm)) Q2.out (fun h => h)
    have MM : Hid (Mv (fun j => j = g) w w2) := Mv.trans M1 Q2.out (fun _ _ h => h.elim)
    have P2 : Hid (Pk w2 g a len cap f n1) := p1.out.mv Q2.out
    obtain ⟨k0, k1, k2, k3, l0, l1, l2, l3⟩ := Zr.facts Z
    clear h6 hs6
    go_wp2_with fail
    refine bodyPost_ret (results_cell_row (p := 2) (ty := 26) rfl _ _ w.heap.size 26 _ (0, 0) _ rfl (put4_heap Z.out _ _ _ _) Tryd.underlying26 rfl (by kernel_rfl)) rfl ?_
    exact setP_tell HS.out HQ.out MM.out P2.out _ ⟨any_ofl (by decide) (by decide), few_row 98 3 (by decide) (by decide)⟩
  · go_enter Tryd.func20, Tryd.ntmps20
    go_wp2_with fail
    refine h7.mono ?_
    rintro e w1 ⟨rfl, p1, m1⟩
    go_wp2_with fail
    refine (rof_f (some ⟨w1.heap.size, 0, none⟩) 2 2 (fun i => if i = 0 then 97 else 10) _ sl_anl (fun i hi => by split <;> omega) (by decide)).mono ?_
    rintro e w3 ⟨rfl, q3⟩
    rw [sv_cells]
    go_wp2_with fail
    refine (rnot_any _ _).mono ?_
    rintro e w2 ⟨rfl, q2⟩
    rw [sv_cells]
    have Q2 : Hid (Qt w1 w2) := (((Qt.refl w1).alloc _).comp q3.out).comp q2.out
    have M1 : Mv (fun j => j = g) w w1 := up1 m1
    have Z : Hid (Zr w.heap.size w2) := Zr.mv (Zr.mv (w := w.alloc zeros) (heap_alloc_new w zeros) m1.out (fun h => Nat.ne_of_lt HQ.out h.symm)) Q2.out (fun h => h)
    have MM : Hid (Mv (fun j => j = g) w w2) := Mv.trans M1 Q2.out (fun _ _ h => h.elim)
    have P2 : Hid (Pk w2 g a len cap f n1) := p1.out.mv Q2.out
    obtain ⟨k0, k1, k2, k3, l0, l1, l2, l3⟩ := Zr.facts Z
    clear h6 hs6
    go_wp2_with fail
    refine bodyPost_ret (results_cell_row (p := 2) (ty := 26) rfl _ _ w.heap.size 26 _ (0, 0) _ rfl (put4_heap Z.out _ _ _ _) Tryd.underlying26 rfl (by kernel_rfl)) rfl ?_
    exact setP_tell HS.out HQ.out MM.out P2.out _ ⟨any_no_anl, few_anl⟩
  · go_enter Tryd.func20, Tryd.ntmps20
    go_wp2_with fail
    refine h7.mono ?_
    rintro e w1 ⟨rfl, p1, m1⟩
    go_wp2_with fail
    refine (rof_f (some ⟨w1.heap.size, 0, none⟩) 3 3 (fun i => 48 + i) _ sl_012 (fun i hi => by omega) (by decide)).mono ?_
    rintro e w2 ⟨rfl, q2⟩
    rw [sv_cells]
    have Q2 : Hid (Qt w1 w2) := ((Qt.refl w1).alloc _).comp q2.out
    have M1 : Mv (fun j => j = g) w w1 := up1 m1
    have Z : Hid (Zr w.heap.size w2) := Zr.mv (Zr.mv (w := w.alloc zeros) (heap_alloc_new w zeros) m1.out (fun h => Nat.ne_of_lt HQ.out h.symm)) Q2.out (fun h => h)
    have MM : Hid (Mv (fun j => j = g) w w2) := Mv.trans M1 Q2.out (fun _ _ h => h.elim)
    have P2 : Hid (Pk w2 g a len cap f n1) := p1.out.mv Q2.out
    obtain ⟨k0, k1, k2, k3, l0, l1, l2, l3⟩ := Zr.facts Z
    clear h6 hs6
    go_wp2_with fail
    refine bodyPost_ret (results_cell_row (p := 2) (ty := 26) rfl _ _ w.heap.size 26 _ (0, 0) _ rfl (put4_heap Z.out _ _ _ _) Tryd.underlying26 rfl (by kernel_rfl)) rfl ?_
    exact setP_tell HS.out HQ.out MM.out P2.out _ ⟨any_ofl (by decide) (by decide), few_row 48 3 (by decide) (by decide)⟩
  · have hi : (4 : Int) ≤ (m : Int) := by omega
    have b0 : ((m : Int) == 0) = false := beq_false_of_ne (by omega)
    have b1 : ((m : Int) == 1) = false := beq_false_of_ne (by omega)
    have b2 : ((m : Int) == 2) = false := beq_false_of_ne (by omega)
    have b3 : ((m : Int) == 3) = false := beq_false_of_ne (by omega)
    clear h4 hm
    go_enter Tryd.func20, Tryd.ntmps20
    go_wp2_with fail
    refine h7.mono ?_
    rintro e w1 ⟨rfl, p1, m1⟩
    go_wp2_with fail
    refine (h6 _ _ p1).mono ?_
    rintro e w3 ⟨rfl, p3, m3⟩
    obtain ⟨c, hc, hidx⟩ := hs6.out n1
    generalize numS f len n1 6 = m6 at *
    have hof := fun W => rof_one c hc W
    have hc2 : (c : Int) < 256 := by omega
    go_wp2_with fail
    refine (hof _).mono ?_
    rintro e w2 ⟨rfl, q2⟩
    rw [sv_cells]
    have Q2 : Hid (Qt w3 w2) := ((Qt.refl w3).alloc _).comp q2.out
    have M1 : Mv (fun j => j = g) w w1 := up1 m1
    have Z : Hid (Zr w.heap.size w2) := Zr.mv (Zr.mv (Zr.mv (w := w.alloc zeros) (heap_alloc_new w zeros) m1.out (fun h => Nat.ne_of_lt HQ.out h.symm)) m3.out (fun h => Nat.ne_of_lt HQ.out h.symm)) Q2.out (fun h => h)
    have MM : Hid (Mv (fun j => j = g) w w2) := Mv.trans (Mv.trans M1 m3.out (fun _ _ h => h)) Q2.out (fun _ _ h => h.elim)
    have P2 : Hid (Pk w2 g a len cap f (numN len n1)) := p3.out.mv Q2.out
    obtain ⟨k0, k1, k2, k3, l0, l1, l2, l3⟩ := Zr.facts Z
    clear h6 hs6 hof hidx
    go_wp2_with fail
    refine bodyPost_ret (results_cell_row (p := 2) (ty := 26) rfl _ _ w.heap.size 26 _ (0, 0) _ rfl (put4_heap Z.out _ _ _ _) Tryd.underlying26 rfl (by kernel_rfl)) rfl ?_
    exact setP_tell HS.out HQ.out MM.out P2.out _ ⟨any_true.2 ⟨c, hc, by unfold btw; simp⟩, few_one hc⟩

end Go.Proofs.YtojbakkbmfgoaaaDoor

namespace Go.Proofs.YtojbakkbmfgoaaaDoor
open Go.RowKit
set_option linter.unusedVariables false

theorem any_none : any (fun _ => false) = false := by
  unfold any; simp
end Go.Proofs.YtojbakkbmfgoaaaDoor
