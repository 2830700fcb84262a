/- PZ: r7_B2 r7_M1 r7_C1 r7_C2 r7_C3 r7_C4 r7_C5 r7_C6. -/
import Derived.Deep.QuietTactic
import Derived.BigQuiet
import Derived.Deep.RegionWith
import Derived.Deep.RegionHeld3
import Derived.Test.YtdhdkbaalgdicaaBY
/- Cells, as lists; rows of structs. -/
namespace Go.Proofs.Ytdhdkbaalgdicaa
open Go.RowKit

/-- These cells lie there, from a on. -/
def Ls (w : World) (a : Option Addr) (xs : List Value) : Prop := ∀ j u, xs[j]? = some u → ∃ b off, a = some ⟨b, off, none⟩ ∧ b < w.heap.size ∧ w.cell? ⟨b, off + j, none⟩ = some u
theorem Ls.mv {S : Nat → Prop} {w w' : World} {a : Option Addr} {xs : List Value} (h : Ls w a xs) (k : Mv S w w') (hs : ∀ p, a = some p → ¬ S p.block) : Ls w' a xs := by
  intro i u hi
  obtain ⟨b, off, e, hb, hc⟩ := h i u hi
  exact ⟨b, off, e, Nat.lt_of_lt_of_le hb k.size, k.cell (p := ⟨b, off + i, none⟩) hc (hs ⟨b, off, none⟩ e)⟩
theorem Ls.qt {w w' : World} {a : Option Addr} {xs : List Value} (h : Ls w a xs) (k : Mv (fun _ => False) w w') : Ls w' a xs := h.mv k (fun _ _ h => h)
theorem Ls.below {w w' : World} {a : Option Addr} {xs : List Value} (h : Ls w a xs) (k : Below w.heap.size w w') : Ls w' a xs := by
  intro i u hi
  obtain ⟨b, off, e, hb, hc⟩ := h i u hi
  exact ⟨b, off, e, Nat.lt_of_lt_of_le hb k.size, (k.cell hb).trans hc⟩
theorem Ls.nil (w : World) (a : Option Addr) : Ls w a [] := by intro j u h; simp at h
theorem Ls.cells {w : World} {a : Addr} {xs : List Value} (h : Ls w (some a) xs) : ∀ j u, xs[j]? = some u → w.cell? (a.add j) = some u := by
  intro j u hj
  obtain ⟨b, off, e, _, hc⟩ := h j u hj
  cases e
  rw [addr_add]; exact hc
theorem Ls.take {w : World} {a : Option Addr} {xs : List Value} (h : Ls w a xs) (n : Nat) : Ls w a (xs.take n) := by
  intro j u hj
  rw [List.getElem?_take] at hj
  split at hj
  · exact h j u hj
  · cases hj
theorem Ls.drop {w : World} {a : Option Addr} {xs : List Value} (h : Ls w a xs) (n : Nat) : Ls w (a.map (·.add n)) (xs.drop n) := by
  intro j u hj
  rw [List.getElem?_drop] at hj
  obtain ⟨b, off, e, hb, hc⟩ := h _ u hj
  refine ⟨b, off + n, ?_, hb, by rw [Nat.add_assoc]; exact hc⟩
  rw [e, Option.map_some, addr_add]
/-- What was just laid. -/
theorem Ls.new (w : World) (xs : Array Value) (t : TypeId) : Ls (w.alloc (.cells xs t)) (some ⟨w.heap.size, 0, none⟩) xs.toList := by
  intro j u hj
  refine ⟨_, _, rfl, by simp, ?_⟩
  rw [Nat.zero_add]
  exact (alloc_new w xs t j u (by rw [← Array.getElem?_toList]; exact hj)).1

/-- A row of structs of k cells. -/
theorem ow_ls {w : World} {base n k : Nat} {e : TypeId} {v : Value} {xs : List Value} (h : w.ownsRow base e k v n xs) : ∃ a cap, v = .slice a n cap ∧ Ls w a xs ∧ n ≤ cap ∧ (a = none → n = 0 ∧ cap = 0) ∧ ∀ p, a = some p → v.ownBlock = some p.block := by
  have h' := h
  rcases h.2 with ⟨rfl, rfl⟩ | ⟨g, cap, cur, rfl, _, hg, hnc, _⟩
  · have : xs = [] := List.length_eq_zero_iff.1 (by rw [h'.1, Nat.zero_mul])
    subst this
    exact ⟨none, 0, rfl, Ls.nil _ _, by omega, fun _ => ⟨rfl, rfl⟩, fun p e => by cases e⟩
  · refine ⟨_, cap, rfl, fun i u hi => ⟨g, 0, rfl, ?_, ?_⟩, hnc, fun h => (by cases h), fun p e => (by cases e; rfl)⟩
    · exact (Array.getElem?_eq_some_iff.1 hg).1
    · have hlt : i < xs.length := (List.getElem?_eq_some_iff.1 hi).1
      rw [Nat.zero_add, h'.cellAt i (by rw [← h'.1]; exact hlt), hi]
theorem ow_blk {w : World} {base n k : Nat} {e : TypeId} {v : Value} {xs : List Value} (h : w.ownsRow base e k v n xs) : ∀ j, v.ownBlock = some j → base ≤ j ∧ j < w.heap.size := World.ownsRow.lt h
theorem ow_nil (w : World) (base : Nat) (e : TypeId) (k : Nat) : w.ownsRow base e k (.slice none 0 0) 0 [] := World.ownsRow_nil _ _ _ _
theorem ow_new (w : World) (base k : Nat) (e : TypeId) (xs : Array Value) (n : Nat) (hb : base ≤ w.heap.size) (hn : n < 100000) (hl : xs.size = n * k) : (w.alloc (.cells xs e)).ownsRow base e k (.slice (some ⟨w.heap.size, 0, none⟩) n n) n xs.toList :=
  World.ownsRow_lit (e := e) (size := k) (base := base) w xs n hb (by simp only [maxLen]; omega) hl
theorem ow_mono {w : World} {base base' n k : Nat} {e : TypeId} {v : Value} {xs : List Value} (h : w.ownsRow base e k v n xs) (hb : ∀ j, v.ownBlock = some j → base' ≤ j) : w.ownsRow base' e k v n xs := by
  refine ⟨h.1, ?_⟩
  rcases h.2 with hn | ⟨g, cap, cur, rfl, _, rest⟩
  · exact .inl hn
  · exact .inr ⟨g, cap, cur, rfl, hb g rfl, rest⟩

/-- What append makes of a row of its own. -/
theorem append_ow (t ty e : TypeId) (i : TypeInfo) (z : Value) (k bytes : Nat) (ht : Try.prog.underlying t = some (.slice e)) (hi : Try.prog.info? e = some i) (hz : i.zero = some z) (hsize : i.size = k) (hby : i.bytes = bytes) (hzs : z.cells.size = k) (hk : 0 < k) (hb24 : bytes ≤ 24)
    (w : World) (base : Nat) (v : Value) (n m c : Nat) (xs ys : List Value) (s : Option Addr) (hown : w.ownsRow base e k v n xs) (hs : Ls w s ys) (hm : ys.length = m * k) (h1 : ∀ u ∈ ys, u.oneCell' = true) (hn : n + m < 100000) (hnone : s = none → m = 0 ∧ c = 0) (hb : base ≤ w.heap.size) :
    ∃ v' W, (Builtin.append_ #[t, t] ty #[v, .slice s m c]).run Try.prog w = .ok v' W ∧ W.ownsRow base e k v' (n + m) (xs ++ ys) ∧ w.grownBy W v.ownBlock ∧ (v'.ownBlock = v.ownBlock ∨ ∃ g, v'.ownBlock = some g ∧ w.heap.size ≤ g) := by
  cases s with
  | none =>
    obtain ⟨rfl, rfl⟩ := hnone rfl
    have : ys = [] := List.length_eq_zero_iff.1 (by rw [hm, Nat.zero_mul])
    subst this
    refine ⟨v, w, run_append_owned_none w base t ty e i k ht hi v n _ hown, ?_, ⟨rfl, rfl, rfl, Nat.le_refl _, fun _ _ _ => rfl⟩, .inl rfl⟩
    rw [List.append_nil]
    exact hown
  | some a =>
    have hc := hs.cells
    have hmul : (n + m) * bytes ≤ 140737488355328 := by
      have := Nat.mul_le_mul (Nat.le_of_lt hn) hb24
      omega
    obtain ⟨v', W, hr, h2, h3, h4⟩ := run_append_own w base t ty e i z k bytes ht hi hz hsize hby hzs hk v n _ hown a m c ys hm hc h1 (by simp only [maxLen]; omega) hmul hb
    refine ⟨v', W, hr, h2, h3, ?_⟩
    rcases hown.2 with ⟨rfl, rfl⟩ | ⟨g, cap, cur, rfl, hbg, hg, hnc, hcm, hcs, htake⟩
    · obtain ⟨v2, W2, hr2, k2, _, _⟩ := run_append_own w w.heap.size t ty e i z k bytes ht hi hz hsize hby hzs hk (.slice none 0 0) 0 [] (World.ownsRow_nil _ _ _ _) a m c ys hm hc h1 (by simp only [maxLen]; omega) (by simpa using hmul) (Nat.le_refl _)
      rw [hr] at hr2
      cases hr2
      cases hv : v'.ownBlock with
      | none => exact .inl rfl
      | some g => exact .inr ⟨g, rfl, (World.ownsRow.lt k2 g hv).1⟩
    · by_cases hroom : n + m ≤ cap
      · obtain ⟨W2, hr2, _⟩ := run_append_fits w base t ty e i k ht hi hsize g n cap _ hown a m c ys hm hc h1 hroom
        rw [hr] at hr2
        cases hr2
        exact .inl rfl
      · have hr2 := run_append_grow (P := Try.prog) w t ty e i z ht hi hz ⟨g, 0, none⟩ n cap xs (by rw [hown.1, hsize]) (World.ownsRow.cells hown rfl) a m c ys (by rw [hm, hsize]) hc (by omega) (by omega) (growslice_fits (by omega) (by rw [hby]; exact hmul))
        rw [hr] at hr2
        cases hr2
        exact .inr ⟨_, rfl, Nat.le_refl _⟩
end Go.Proofs.Ytdhdkbaalgdicaa

/- Pieces, and what they spell. -/
namespace Go.Proofs.Ytdhdkbaalgdicaa

/-- A byte of a text: of what was added, or not; where. -/
abbrev Bt := Bool × Nat
/-- A piece. -/
structure Pc where
  ad : Bool
  fr : Nat
  to : Nat
/-- What a piece spells, what pieces spell. -/
def sp1 (p : Pc) : List Bt := (List.range' p.fr (p.to - p.fr)).map (fun k => (p.ad, k))
def spl (ps : List Pc) : List Bt := ps.flatMap sp1
theorem sp1_length (p : Pc) : (sp1 p).length = p.to - p.fr := by simp [sp1]
theorem spl_nil : spl [] = [] := rfl
theorem spl_cons (p : Pc) (ps : List Pc) : spl (p :: ps) = sp1 p ++ spl ps := by simp [spl]
theorem spl_append (ps qs : List Pc) : spl (ps ++ qs) = spl ps ++ spl qs := by simp [spl]
theorem sp1_mem {p : Pc} {x : Bt} : x ∈ sp1 p ↔ x.1 = p.ad ∧ p.fr ≤ x.2 ∧ x.2 < p.to := by
  obtain ⟨a, k⟩ := x
  simp only [sp1, List.mem_map, List.mem_range'_1, Prod.mk.injEq]
  constructor
  · rintro ⟨j, h, rfl, rfl⟩
    exact ⟨rfl, h.1, by omega⟩
  · rintro ⟨rfl, h1, h2⟩
    exact ⟨k, ⟨h1, by omega⟩, rfl, rfl⟩
theorem sp1_get {p : Pc} {j : Nat} (h : j < p.to - p.fr) : (sp1 p)[j]? = some (p.ad, p.fr + j) := by
  simp [sp1, h]
theorem sp1_parts (a : Bool) (f m t : Nat) (h1 : f ≤ m) (h2 : m ≤ t) : sp1 ⟨a, f, t⟩ = sp1 ⟨a, f, m⟩ ++ sp1 ⟨a, m, t⟩ := by
  simp only [sp1, ← List.map_append]
  congr 1
  rw [show List.range' m (t - m) = List.range' (f + (m - f)) (t - m) from by rw [show f + (m - f) = m by omega], List.range'_append_1]
  congr 1; omega
theorem sp1_snoc (a : Bool) (f t : Nat) (h : f ≤ t) : sp1 ⟨a, f, t + 1⟩ = sp1 ⟨a, f, t⟩ ++ [(a, t)] := by
  rw [sp1_parts a f t (t + 1) h (by omega)]
  congr 1
  simp [sp1]
theorem sp1_none (a : Bool) (f t : Nat) (h : t ≤ f) : sp1 ⟨a, f, t⟩ = [] := by
  simp [sp1, show t - f = 0 by omega]

/-- One byte more; one piece more. -/
def zputB (l : List Pc) (x : Bt) : List Pc :=
  match l.getLast? with
  | some q => if q.ad = x.1 ∧ q.to = x.2 then l.dropLast ++ [⟨q.ad, q.fr, q.to + 1⟩] else l ++ [⟨x.1, x.2, x.2 + 1⟩]
  | none => [⟨x.1, x.2, x.2 + 1⟩]
def putP (l : List Pc) (p : Pc) : List Pc :=
  if p.to = p.fr then l else
  match l.getLast? with
  | some q => if q.ad = p.ad ∧ q.to = p.fr then l.dropLast ++ [⟨q.ad, q.fr, p.to⟩] else l ++ [p]
  | none => l ++ [p]
/-- The pieces that spell X. -/
def nf (X : List Bt) : List Pc := X.foldl zputB []

theorem putB_snoc (l : List Pc) (q : Pc) (x : Bt) : zputB (l ++ [q]) x = if q.ad = x.1 ∧ q.to = x.2 then l ++ [⟨q.ad, q.fr, q.to + 1⟩] else l ++ [q] ++ [⟨x.1, x.2, x.2 + 1⟩] := by
  simp [zputB]
theorem putB_nil (x : Bt) : zputB [] x = [⟨x.1, x.2, x.2 + 1⟩] := rfl
theorem putP_snoc (l : List Pc) (q p : Pc) (h : p.to ≠ p.fr) : putP (l ++ [q]) p = if q.ad = p.ad ∧ q.to = p.fr then l ++ [⟨q.ad, q.fr, p.to⟩] else l ++ [q] ++ [p] := by
  simp [putP, h]
theorem putP_nil (p : Pc) (h : p.to ≠ p.fr) : putP [] p = [p] := by simp [putP, h]
theorem putP_none (l : List Pc) (p : Pc) (h : p.to = p.fr) : putP l p = l := by simp [putP, h]

theorem run_ext (l : List Pc) (a : Bool) (f : Nat) : ∀ d t, ((List.range' t d).map (fun k => ((a, k) : Bt))).foldl zputB (l ++ [⟨a, f, t⟩]) = l ++ [⟨a, f, t + d⟩]
  | 0, t => rfl
  | d + 1, t => by
    rw [List.range'_succ, List.map_cons, List.foldl_cons, putB_snoc, if_pos ⟨rfl, rfl⟩, run_ext l a f d (t + 1)]
    rw [show t + 1 + d = t + (d + 1) by omega]
theorem last_cases (l : List Pc) : l = [] ∨ ∃ l' q, l = l' ++ [q] := by
  rcases List.eq_nil_or_concat l with h | ⟨l', q, h⟩
  · exact .inl h
  · exact .inr ⟨l', q, by rw [h, List.concat_eq_append]⟩
theorem putP_eq (l : List Pc) (p : Pc) (h : p.fr ≤ p.to) : putP l p = (sp1 p).foldl zputB l := by
  obtain ⟨a, f, t⟩ := p
  have h : f ≤ t := h
  by_cases e : t = f
  · subst e
    rw [putP_none _ _ rfl, sp1_none _ _ _ (Nat.le_refl _)]; rfl
  · obtain ⟨d, rfl⟩ : ∃ d, t = f + (d + 1) := ⟨t - f - 1, by omega⟩
    have e1 : sp1 ⟨a, f, f + (d + 1)⟩ = (a, f) :: (List.range' (f + 1) d).map (fun k => ((a, k) : Bt)) := by
      simp only [sp1, show f + (d + 1) - f = d + 1 by omega, List.range'_succ, List.map_cons]
    have e2 : f + 1 + d = f + (d + 1) := by omega
    rw [e1, List.foldl_cons]
    rcases last_cases l with rfl | ⟨l', q, rfl⟩
    · rw [putP_nil _ e, putB_nil]
      have := run_ext [] a f d (f + 1)
      rw [List.nil_append, e2] at this
      exact this.symm
    · rw [putP_snoc _ _ _ e, putB_snoc]
      by_cases c : q.ad = a ∧ q.to = f
      · rw [if_pos c, if_pos c]
        obtain ⟨rfl, rfl⟩ := c
        have := run_ext l' q.ad q.fr d (q.to + 1)
        rw [e2] at this
        exact this.symm
      · rw [if_neg c, if_neg c]
        have := run_ext (l' ++ [q]) a f d (f + 1)
        rw [e2] at this
        exact this.symm
theorem putP_fold : ∀ (ps l : List Pc), (∀ p ∈ ps, p.fr ≤ p.to) → ps.foldl putP l = (spl ps).foldl zputB l
  | [], _, _ => rfl
  | p :: ps, l, h => by
    rw [List.foldl_cons, spl_cons, List.foldl_append, putP_fold ps _ (fun q hq => h q (by simp [hq])), putP_eq l p (h p (by simp))]
theorem nf_append (X Y : List Bt) : nf (X ++ Y) = Y.foldl zputB (nf X) := by simp [nf]
theorem nf_snoc (X : List Bt) (x : Bt) : nf (X ++ [x]) = zputB (nf X) x := by rw [nf_append]; rfl
theorem nf_put (X : List Bt) (p : Pc) (h : p.fr ≤ p.to) : putP (nf X) p = nf (X ++ sp1 p) := by rw [nf_append, putP_eq _ _ h]

theorem putB_spl (l : List Pc) (x : Bt) (h : ∀ p ∈ l, p.fr < p.to) : spl (zputB l x) = spl l ++ [x] ∧ (∀ p ∈ zputB l x, p.fr < p.to) ∧ (zputB l x).length ≤ l.length + 1 := by
  rcases last_cases l with rfl | ⟨l', q, rfl⟩
  · rw [putB_nil]
    refine ⟨?_, ?_, by simp⟩
    · rw [spl_cons, sp1_snoc _ _ _ (Nat.le_refl _), sp1_none _ _ _ (Nat.le_refl _)]; rfl
    · intro p hp
      simp at hp
      subst hp
      exact Nat.lt_succ_self _
  · have hq := h q (by simp)
    rw [putB_snoc]
    by_cases c : q.ad = x.1 ∧ q.to = x.2
    · rw [if_pos c]
      refine ⟨?_, ?_, by simp⟩
      · rw [spl_append, spl_append, List.append_assoc]
        congr 1
        rw [spl_cons, spl_cons, spl_nil, List.append_nil, List.append_nil, sp1_snoc _ _ _ (Nat.le_of_lt hq)]
        obtain ⟨c1, c2⟩ := c
        rw [c1, c2]
        congr 1
        cases q
        simp only at c1 c2
        subst c1 c2
        rfl
      · intro p hp
        rcases List.mem_append.1 hp with h1 | h1
        · exact h p (by simp [h1])
        · simp at h1
          subst h1
          show q.fr < q.to + 1
          omega
    · rw [if_neg c]
      refine ⟨?_, ?_, by simp⟩
      · rw [spl_append, spl_append]
        congr 1
        rw [spl_cons, sp1_snoc _ _ _ (Nat.le_refl _), sp1_none _ _ _ (Nat.le_refl _)]; rfl
      · intro p hp
        rcases List.mem_append.1 hp with h1 | h1
        · exact h p h1
        · simp at h1
          subst h1
          exact Nat.lt_succ_self _
theorem fold_spl : ∀ (X : List Bt) (l : List Pc), (∀ p ∈ l, p.fr < p.to) → spl (X.foldl zputB l) = spl l ++ X ∧ (∀ p ∈ X.foldl zputB l, p.fr < p.to) ∧ (X.foldl zputB l).length ≤ l.length + X.length
  | [], l, h => ⟨by simp, h, by simp⟩
  | x :: X, l, h => by
    obtain ⟨h1, h2, h3⟩ := putB_spl l x h
    obtain ⟨k1, k2, k3⟩ := fold_spl X (zputB l x) h2
    refine ⟨by rw [List.foldl_cons, k1, h1]; simp, k2, ?_⟩
    rw [List.foldl_cons, List.length_cons]; omega
theorem spl_nf (X : List Bt) : spl (nf X) = X := by have := (fold_spl X [] (by simp)).1; rw [spl_nil, List.nil_append] at this; exact this
theorem nf_pos (X : List Bt) : ∀ p ∈ nf X, p.fr < p.to := (fold_spl X [] (by simp)).2.1
theorem nf_length (X : List Bt) : (nf X).length ≤ X.length := by have := (fold_spl X [] (by simp)).2.2; rw [List.length_nil, Nat.zero_add] at this; exact this
theorem mem_spl {ps : List Pc} {p : Pc} {x : Bt} (h : p ∈ ps) (hx : x ∈ sp1 p) : x ∈ spl ps := by
  simp only [spl, List.mem_flatMap]; exact ⟨p, h, hx⟩
theorem nf_bound {X : List Bt} {M : Nat} (h : ∀ x ∈ X, x.2 < M) : ∀ p ∈ nf X, p.to ≤ M := by
  intro p hp
  have hq := nf_pos X p hp
  have : ((p.ad, p.to - 1) : Bt) ∈ spl (nf X) := mem_spl hp (sp1_mem.2 ⟨rfl, by show p.fr ≤ p.to - 1; omega, by show p.to - 1 < p.to; omega⟩)
  rw [spl_nf] at this
  have := h _ this
  have : p.to - 1 < M := this
  omega
theorem nf_last {X : List Bt} {p : Pc} (hp : p ∈ nf X) : ((p.ad, p.to - 1) : Bt) ∈ X := by
  have hq := nf_pos X p hp
  have : ((p.ad, p.to - 1) : Bt) ∈ spl (nf X) := mem_spl hp (sp1_mem.2 ⟨rfl, by show p.fr ≤ p.to - 1; omega, by show p.to - 1 < p.to; omega⟩)
  rwa [spl_nf] at this

/-- Where a byte stands. -/
def plc : List Pc → Nat → Nat × Nat
  | [], _ => (0, 0)
  | p :: r, at' => if at' < p.to - p.fr then (0, at') else ((plc r (at' - (p.to - p.fr))).1 + 1, (plc r (at' - (p.to - p.fr))).2)
theorem plc_here (p : Pc) (r : List Pc) (at' : Nat) (h : at' < p.to - p.fr) : plc (p :: r) at' = (0, at') := by simp [plc, h]
theorem plc_on (p : Pc) (r : List Pc) (at' : Nat) (h : ¬ at' < p.to - p.fr) : plc (p :: r) at' = ((plc r (at' - (p.to - p.fr))).1 + 1, (plc r (at' - (p.to - p.fr))).2) := by simp [plc, h]
theorem plc_le : ∀ (ps : List Pc) (at' : Nat), (plc ps at').1 ≤ ps.length ∧ (plc ps at').2 ≤ at'
  | [], _ => ⟨Nat.le_refl _, Nat.zero_le _⟩
  | p :: r, a => by
    by_cases h : a < p.to - p.fr
    · rw [plc_here _ _ _ h]; exact ⟨by simp, Nat.le_refl _⟩
    · rw [plc_on _ _ _ h]
      have := plc_le r (a - (p.to - p.fr))
      exact ⟨by simp; omega, by simp; omega⟩
theorem plc_split : ∀ (ps : List Pc) (at' : Nat), (∀ p ∈ ps, p.fr ≤ p.to) → 
    ((plc ps at').2 = 0 → spl (ps.take (plc ps at').1) = (spl ps).take at' ∧ spl (ps.drop (plc ps at').1) = (spl ps).drop at') ∧
    ((plc ps at').2 ≠ 0 → ∃ p, ps[(plc ps at').1]? = some p ∧ (plc ps at').2 < p.to - p.fr ∧ spl (ps.take (plc ps at').1 ++ [⟨p.ad, p.fr, p.fr + (plc ps at').2⟩]) = (spl ps).take at' ∧ spl (⟨p.ad, p.fr + (plc ps at').2, p.to⟩ :: ps.drop ((plc ps at').1 + 1)) = (spl ps).drop at')
  | [], a, _ => ⟨fun _ => by simp [plc, spl], fun h => (h rfl).elim⟩
  | p :: r, a, hp => by
    by_cases h : a < p.to - p.fr
    · rw [plc_here _ _ _ h]
      constructor
      · intro h0
        have h0 : a = 0 := h0
        subst h0
        simp [spl]
      · intro h0
        refine ⟨p, rfl, h, ?_, ?_⟩
        · rw [List.take_zero, List.nil_append, spl_cons, spl_nil, List.append_nil, spl_cons, List.take_append_of_le_length (by rw [sp1_length]; omega)]
          conv => rhs; rw [show p = ⟨p.ad, p.fr, p.to⟩ from rfl, sp1_parts p.ad p.fr (p.fr + a) p.to (by omega) (by omega)]
          rw [List.take_left' (by rw [sp1_length]; show p.fr + a - p.fr = a; omega)]
        · rw [show (p :: r).drop (0 + 1) = r from rfl, spl_cons, spl_cons, List.drop_append_of_le_length (by rw [sp1_length]; omega)]
          congr 1
          conv => rhs; rw [show p = ⟨p.ad, p.fr, p.to⟩ from rfl, sp1_parts p.ad p.fr (p.fr + a) p.to (by omega) (by omega)]
          rw [List.drop_left' (by rw [sp1_length]; show p.fr + a - p.fr = a; omega)]
    · have ih := plc_split r (a - (p.to - p.fr)) (fun q hq => hp q (by simp [hq]))
      have e1 : (spl (p :: r)).take a = sp1 p ++ (spl r).take (a - (p.to - p.fr)) := by
        rw [spl_cons, List.take_append, sp1_length, List.take_of_length_le (by rw [sp1_length]; omega)]
      have e2 : (spl (p :: r)).drop a = (spl r).drop (a - (p.to - p.fr)) := by
        rw [spl_cons, List.drop_append, sp1_length, List.drop_eq_nil_of_le (by rw [sp1_length]; omega), List.nil_append]
      rw [plc_on _ _ _ h, e1, e2]
      generalize plc r (a - (p.to - p.fr)) = io at ih
      constructor
      · intro h0
        obtain ⟨i1, i2⟩ := ih.1 h0
        refine ⟨?_, ?_⟩
        · rw [List.take_succ_cons, spl_cons, i1]
        · rw [List.drop_succ_cons, i2]
      · intro h0
        obtain ⟨q, i1, i2, i3, i4⟩ := ih.2 h0
        refine ⟨q, by rw [List.getElem?_cons_succ]; exact i1, i2, ?_, ?_⟩
        · rw [List.take_succ_cons, List.cons_append, spl_cons, i3]
        · rw [List.drop_succ_cons]; exact i4
theorem plc_at : ∀ (ps : List Pc) (i j : Nat) (p : Pc), ps[i]? = some p → j < p.to - p.fr → (∀ p ∈ ps, p.fr ≤ p.to) → plc ps ((spl (ps.take i)).length + j) = (i, j)
  | [], i, j, p, h, _, _ => by simp at h
  | q :: r, 0, j, p, h, hj, _ => by
    simp at h
    subst h
    rw [List.take_zero, spl_nil, List.length_nil, Nat.zero_add, plc_here _ _ _ hj]
  | q :: r, i + 1, j, p, h, hj, hp => by
    rw [List.getElem?_cons_succ] at h
    rw [List.take_succ_cons, spl_cons, List.length_append, sp1_length, plc_on _ _ _ (by omega)]
    rw [show q.to - q.fr + (spl (List.take i r)).length + j - (q.to - q.fr) = (spl (List.take i r)).length + j by omega, plc_at r i j p h hj (fun p hp' => hp p (by simp [hp']))]
/-- A byte that there is, is in a piece. -/
theorem plc_in : ∀ (ps : List Pc) (at' : Nat), at' < (spl ps).length → (plc ps at').1 < ps.length
  | [], a, h => by simp [spl] at h
  | p :: r, a, h => by
    by_cases c : a < p.to - p.fr
    · rw [plc_here _ _ _ c]; simp
    · rw [plc_on _ _ _ c]
      rw [spl_cons, List.length_append, sp1_length] at h
      have := plc_in r (a - (p.to - p.fr)) (by omega)
      simp; omega
end Go.Proofs.Ytdhdkbaalgdicaa

/- Pieces as cells; size, touch. -/
namespace Go.Proofs.Ytdhdkbaalgdicaa
open Go.RowKit

/-- Nothing that was there has turned. -/
abbrev Qt (w w' : World) : Prop := Mv (fun _ => False) w w'
theorem Qt.comp {a b c : World} (h : Qt a b) (k : Qt b c) : Qt a c := Mv.trans h k (fun _ _ h => h)
theorem Qt.alloc {a b : World} (h : Qt a b) (o : Obj) : Qt a (b.alloc o) := h.comp (Mv.alloc _ b o)

def pcs (p : Pc) : List Value := [.bool p.ad, .int .i64 p.fr, .int .i64 p.to]
def cellsP (ps : List Pc) : List Value := ps.flatMap pcs
theorem cellsP_nil : cellsP [] = [] := rfl
theorem cellsP_cons (p : Pc) (ps : List Pc) : cellsP (p :: ps) = pcs p ++ cellsP ps := by simp [cellsP]
theorem cellsP_append (ps qs : List Pc) : cellsP (ps ++ qs) = cellsP ps ++ cellsP qs := by simp [cellsP]
theorem cellsP_length : ∀ ps : List Pc, (cellsP ps).length = ps.length * 3
  | [] => rfl
  | p :: ps => by rw [cellsP_cons, List.length_append, cellsP_length ps, List.length_cons]; simp [pcs]; omega
theorem cellsP_one (ps : List Pc) : ∀ u ∈ cellsP ps, u.oneCell' = true := by
  intro u hu
  simp only [cellsP, List.mem_flatMap] at hu
  obtain ⟨p, _, hu⟩ := hu
  simp [pcs] at hu
  rcases hu with rfl | rfl | rfl <;> rfl
theorem cellsP_get : ∀ (ps : List Pc) (i : Nat) (p : Pc), ps[i]? = some p → (cellsP ps)[i * 3]? = some (.bool p.ad) ∧ (cellsP ps)[i * 3 + 1]? = some (.int .i64 p.fr) ∧ (cellsP ps)[i * 3 + 2]? = some (.int .i64 p.to)
  | [], i, p, h => by simp at h
  | q :: r, 0, p, h => by
    simp at h
    subst h
    rw [cellsP_cons]
    exact ⟨rfl, rfl, rfl⟩
  | q :: r, i + 1, p, h => by
    rw [List.getElem?_cons_succ] at h
    have ih := cellsP_get r i p h
    have e : ∀ j, (cellsP (q :: r))[(i + 1) * 3 + j]? = (cellsP r)[i * 3 + j]? := by
      intro j
      rw [cellsP_cons, List.getElem?_append_right (by simp [pcs]; omega)]
      congr 1
      simp [pcs]; omega
    have e0 := e 0
    simp only [Nat.add_zero] at e0
    exact ⟨by rw [e0]; exact ih.1, by rw [e 1]; exact ih.2.1, by rw [e 2]; exact ih.2.2⟩
theorem cellsP_take (ps : List Pc) (i : Nat) : (cellsP ps).take (i * 3) = cellsP (ps.take i) := by
  by_cases h : i ≤ ps.length
  · conv => lhs; rw [← List.take_append_drop i ps, cellsP_append]
    rw [List.take_left' (by rw [cellsP_length, List.length_take]; omega)]
  · rw [List.take_of_length_le (by rw [cellsP_length]; omega), List.take_of_length_le (by omega)]
theorem cellsP_drop (ps : List Pc) (i : Nat) : (cellsP ps).drop (i * 3) = cellsP (ps.drop i) := by
  by_cases h : i ≤ ps.length
  · conv => lhs; rw [← List.take_append_drop i ps, cellsP_append]
    rw [List.drop_left' (by rw [cellsP_length, List.length_take]; omega)]
  · rw [List.drop_eq_nil_of_le (by rw [cellsP_length]; omega), List.drop_eq_nil_of_le (by omega)]; rfl

/-- The cells of a piece that lies in a slice. -/
theorem ls_get {w : World} {a : Option Addr} {ps : List Pc} {i : Nat} {p : Pc} (h : Ls w a (cellsP ps)) (hi : ps[i]? = some p) : ∃ b off, a = some ⟨b, off, none⟩ ∧ b < w.heap.size ∧ w.cell? ⟨b, off + i * 3, none⟩ = some (.bool p.ad) ∧ w.cell? ⟨b, off + i * 3 + 1, none⟩ = some (.int .i64 p.fr) ∧ w.cell? ⟨b, off + i * 3 + 2, none⟩ = some (.int .i64 p.to) := by
  obtain ⟨h0, h1, h2⟩ := cellsP_get ps i p hi
  obtain ⟨b, off, e, hb, c0⟩ := h _ _ h0
  obtain ⟨b1, off1, e1, _, c1⟩ := h _ _ h1
  obtain ⟨b2, off2, e2, _, c2⟩ := h _ _ h2
  rw [e] at e1 e2
  cases e1; cases e2
  exact ⟨b, off, e, hb, c0, by rw [Nat.add_assoc]; exact c1, by rw [Nat.add_assoc]; exact c2⟩

theorem Qt.refl (w : World) : Qt w w := Mv.refl _ w
theorem Qt.two (w : World) (o u : Obj) : Qt w ((w.alloc o).alloc u) := ((Qt.refl w).alloc o).alloc u
set_option maxHeartbeats 1000000 in
theorem zsize_any (a : Bool) (f t : Nat) (w : World) (h : f ≤ t) (hb : t < 1000000) :
    Calls Try.prog 38 #[.agg #[.bool a, .int .i64 f, .int .i64 t]] w fun e w' => e = .returned (.int .i64 ((t - f : Nat) : Int)) ∧ Hid (Qt w w') := by
  have hz : (t : Int) - f = ((t - f : Nat) : Int) := by omega
  go_enter Try.func38, Try.ntmps38
  go_wp2_with fail
  go_ret
  exact ⟨by simp, (Qt.refl w).alloc _⟩

set_option maxHeartbeats 1000000 in
theorem touch_yes (a : Bool) (f t u : Nat) (w : World) :
    Calls Try.prog 45 #[.agg #[.bool a, .int .i64 f, .int .i64 t], .agg #[.bool a, .int .i64 t, .int .i64 u]] w fun e w' => e = .returned (.bool true) ∧ Hid (Qt w w') := by
  go_enter Try.func45, Try.ntmps45
  go_wp2_with fail
  go_ret
  exact ⟨by simp, Qt.two w _ _⟩
set_option maxHeartbeats 1000000 in
theorem touch_no (a b : Bool) (f t g u : Nat) (w : World) (h : ¬ (a = b ∧ t = g)) :
    Calls Try.prog 45 #[.agg #[.bool a, .int .i64 f, .int .i64 t], .agg #[.bool b, .int .i64 g, .int .i64 u]] w fun e w' => e = .returned (.bool false) ∧ Hid (Qt w w') := by
  by_cases hab : a = b
  · subst hab
    have ht : ¬ t = g := fun e => h ⟨rfl, e⟩
    have ht' : ((t : Int) == (g : Int)) = false := by simp; omega
    clear h ht
    go_enter Try.func45, Try.ntmps45
    go_wp2_with fail
    go_ret
    exact ⟨by simp, Qt.two w _ _⟩
  · have hab' : (a == b) = false := by simp [hab]
    clear h hab
    go_enter Try.func45, Try.ntmps45
    go_wp2_with fail
    go_ret
    exact ⟨by simp, Qt.two w _ _⟩
end Go.Proofs.Ytdhdkbaalgdicaa

/- One piece more: put. -/
namespace Go.Proofs.Ytdhdkbaalgdicaa
open Go.RowKit

theorem info50 : Try.prog.info? 67 = some Try.t67 := by kernel_rfl

/-- A row of pieces of its own. -/
abbrev Op3 (w : World) (base : Nat) (v : Value) (ps : List Pc) : Prop := w.ownsRow base 67 3 v ps.length (cellsP ps)

theorem append_pc (ty : TypeId) (w : World) (base : Nat) (v : Value) (ps qs : List Pc) (s : Option Addr) (c : Nat) (h : Op3 w base v ps) (hs : Ls w s (cellsP qs)) (hn : ps.length + qs.length < 100000) (hnone : s = none → qs.length = 0 ∧ c = 0) (hb : base ≤ w.heap.size) :
    ∃ v' W, (Builtin.append_ #[64, 64] ty #[v, .slice s qs.length c]).run Try.prog w = .ok v' W ∧ Op3 W base v' (ps ++ qs) ∧ w.grownBy W v.ownBlock ∧ (v'.ownBlock = v.ownBlock ∨ ∃ g, v'.ownBlock = some g ∧ w.heap.size ≤ g) := by
  obtain ⟨v', W, h1, h2, h3⟩ := append_ow 64 ty 67 Try.t67 (.agg #[.bool false, .int .i64 0, .int .i64 0]) 3 24 Try.underlying64 info50 (by kernel_rfl) (by kernel_rfl) (by kernel_rfl) (by rfl) (by omega) (by omega) w base v ps.length qs.length c (cellsP ps) (cellsP qs) s h hs (cellsP_length qs) (cellsP_one qs) hn hnone hb
  refine ⟨v', W, h1, ?_, h3⟩
  rw [← cellsP_append, ← List.length_append] at h2
  exact h2

/-- What put leaves. -/
def PutLeft (w w' : World) (base : Nat) (v v' : Value) (qs : List Pc) : Prop := Op3 w' base v' qs ∧ Mv (fun k => v.ownBlock = some k) w w' ∧ (v'.ownBlock = v.ownBlock ∨ ∃ g, v'.ownBlock = some g ∧ w.heap.size ≤ g)

set_option maxHeartbeats 1000000 in
theorem put_none (v : Value) (base : Nat) (ps : List Pc) (a : Bool) (f : Nat) (w : World) (h : Hid (Op3 w base v ps)) (hb : f < 1000000) :
    Calls Try.prog 37 #[v, .agg #[.bool a, .int .i64 f, .int .i64 f]] w fun e w' => ∃ v', e = .returned v' ∧ Hid (PutLeft w w' base v v' ps) := by
  obtain ⟨s, c, rfl, _⟩ := ow_ls h.out
  have hz : ((f - f : Nat) : Int) = 0 := by omega
  have Z : Hid _ := hz
  clear hz
  go_enter Try.func37, Try.ntmps37
  go_wp2_with fail
  refine (zsize_any a f f _ (Nat.le_refl _) hb).mono ?_
  rintro e w1 ⟨rfl, q1⟩
  rw [Z.out]
  go_wp2_with fail
  go_ret
  have Q : Qt w w1 := ((Qt.refl w).alloc _).comp q1.out
  exact ⟨_, rfl, Q.owns h.out (fun _ _ h => h), Q.mono (fun _ _ h => h.elim), .inl rfl⟩

theorem op3_last {w : World} {base : Nat} {v : Value} {l : List Pc} {q : Pc} (h : Op3 w base v (l ++ [q])) : ∃ g c, v = .slice (some ⟨g, 0, none⟩) (l.length + 1) c ∧ w.cell? ⟨g, l.length * 3, none⟩ = some (.bool q.ad) ∧ w.cell? ⟨g, l.length * 3 + 1, none⟩ = some (.int .i64 q.fr) ∧ w.cell? ⟨g, l.length * 3 + 2, none⟩ = some (.int .i64 q.to) ∧ w.frozen? ⟨g, l.length * 3 + 2, none⟩ = false := by
  have h' := h
  rcases h.2 with ⟨_, h0⟩ | ⟨g, cap, cur, rfl, _, hg, hnc, _⟩
  · simp at h0
  · have hc := cellsP_get (l ++ [q]) l.length q (by simp)
    have hl : (l ++ [q]).length = l.length + 1 := by simp
    have fr : w.frozen? ⟨g, l.length * 3 + 2, none⟩ = false := World.ownsRow.frozenAt h' _
    refine ⟨g, cap, by rw [hl], ?_, ?_, ?_, fr⟩
    · rw [h'.cellAt _ (by rw [hl]; omega)]; exact hc.1
    · rw [h'.cellAt _ (by rw [hl]; omega)]; exact hc.2.1
    · rw [h'.cellAt _ (by rw [hl]; omega)]; exact hc.2.2

theorem cells_ext (l : List Pc) (a : Bool) (f t u : Nat) : (cellsP (l ++ [⟨a, f, t⟩])).set (l.length * 3 + 2) (.int .i64 u) = cellsP (l ++ [⟨a, f, u⟩]) := by
  rw [cellsP_append, cellsP_append, List.set_append_right _ _ (by rw [cellsP_length]; omega), cellsP_length, show l.length * 3 + 2 - l.length * 3 = 2 by omega]
  rfl

set_option maxHeartbeats 1000000 in
theorem put_touch (v : Value) (base : Nat) (l : List Pc) (a : Bool) (f t u : Nat) (w : World) (h : Hid (Op3 w base v (l ++ [⟨a, f, t⟩]))) (hb : u < 1000000) (hl : l.length < 100000) (hu : t < u) :
    Calls Try.prog 37 #[v, .agg #[.bool a, .int .i64 t, .int .i64 u]] w fun e w' => ∃ v', e = .returned v' ∧ Hid (PutLeft w w' base v v' (l ++ [⟨a, f, u⟩])) := by
  obtain ⟨g, c, rfl, c0, c1, c2, fz⟩ := op3_last h.out
  generalize hn : l.length = n at *
  have N : Hid _ := hn
  clear hn
  have hz : ((u - t : Nat) : Int) ≠ 0 := by omega
  have hi : (n : Int) < (n : Int) + 1 := by omega
  have hi0 : (0 : Int) ≤ (n : Int) := by omega
  have hz' : (((u - t : Nat) : Int) == 0) = false := by simp; omega
  clear hz
  simp only at c0 c1 c2
  go_enter Try.func37, Try.ntmps37
  go_wp2_with fail
  refine (zsize_any a t u _ (by omega) hb).mono ?_
  rintro e w1 ⟨rfl, q1⟩
  have Q : Hid (Qt w w1) := ((Qt.refl w).alloc _).comp q1.out
  go_wp2_with fail
  have d0 := Q.out.cell c0 (fun h => h)
  have d1 := Q.out.cell c1 (fun h => h)
  have d2 := Q.out.cell c2 (fun h => h)
  have b0 := q1.out.cell (alloc_new w #[.bool a, .int .i64 t, .int .i64 u] 67 0 _ rfl).1 (fun h => h)
  have b1 := q1.out.cell (alloc_new w #[.bool a, .int .i64 t, .int .i64 u] 67 1 _ rfl).1 (fun h => h)
  have b2 := q1.out.cell (alloc_new w #[.bool a, .int .i64 t, .int .i64 u] 67 2 _ rfl).1 (fun h => h)
  clear c0 c1 c2
  go_region_held3 (fun w' => w'.cell? ⟨g, n * 3, none⟩ = some (.bool a) ∧ w'.cell? ⟨g, n * 3 + 1, none⟩ = some (.int .i64 f) ∧ w'.cell? ⟨g, n * 3 + 2, none⟩ = some (.int .i64 t) ∧ w'.cell? ⟨w.heap.size, 0, none⟩ = some (.bool a) ∧ w'.cell? ⟨w.heap.size, 1, none⟩ = some (.int .i64 t) ∧ w'.cell? ⟨w.heap.size, 2, none⟩ = some (.int .i64 u)) (first | go_keep | (exact ⟨q2.out.cell d0 (fun h => h), q2.out.cell d1 (fun h => h), q2.out.cell d2 (fun h => h), q2.out.cell b0 (fun h => h), q2.out.cell b1 (fun h => h), q2.out.cell b2 (fun h => h)⟩))
    ((first
      | (go_at_call 45; refine (touch_yes a f t u _).mono ?_; rintro e w2 ⟨rfl, q2⟩)))
  have fz2 : w2.frozen? ⟨g, n * 3 + 2, none⟩ = false := by
    have hg := World.block_lt_of_cell? _ _ d0
    rw [q2.out.frozen (p := ⟨g, n * 3 + 2, none⟩) hg (fun h => h)]
    show w1.frozen? _ = _
    rw [Q.out.frozen (p := ⟨g, n * 3 + 2, none⟩) (ow_blk h.out g rfl).2 (fun h => h)]; exact fz
  have Q2 : Hid (Qt w w2) := (Q.out.comp (Mv.drewN _ w1 1)).comp q2.out
  have e0 := q2.out.cell d2 (fun h => h)
  have e2 := q2.out.cell b2 (fun h => h)
  go_wp2_with fail
  go_ret
  refine ⟨_, rfl, ?_, ?_, .inl rfl⟩
  · have h2 := Q2.out.owns h.out (fun _ _ h => h)
    have e : (l ++ [⟨a, f, u⟩] : List Pc).length = n + 1 := by rw [List.length_append, N.out]; rfl
    have e' : (l ++ [⟨a, f, t⟩] : List Pc).length = n + 1 := by rw [List.length_append, N.out]; rfl
    rw [e'] at h2
    have h3 := (World.ownsRow.stored h2 (n * 3 + 2) (.int .i64 u)).1
    show World.ownsRow _ base 67 3 _ _ _
    rw [e, ← cells_ext l a f t u, N.out]
    exact h3
  · exact (Q2.out.mono (fun _ _ h => h.elim)).trans (Mv.setCell w2 ⟨g, n * 3 + 2, none⟩ (.int .i64 u)) (fun j _ h => by simp [Value.ownBlock, h])

/-- What append makes of one piece more. -/
theorem append_one (w1 : World) (base : Nat) (v : Value) (ps : List Pc) (a : Bool) (f t : Nat) (h : Op3 w1 base v ps) (hl : ps.length < 90000) (hb : base ≤ w1.heap.size) :
    ∃ v' W, (Builtin.append_ #[64, 64] 64 #[v, .slice (some ⟨w1.heap.size, 0, none⟩) 1 1]).run Try.prog (w1.alloc (.cells #[.bool a, .int .i64 f, .int .i64 t] 67)).drew = .ok v' W ∧ PutLeft w1 W base v v' (ps ++ [⟨a, f, t⟩]) := by
  have q : Qt w1 (w1.alloc (.cells #[.bool a, .int .i64 f, .int .i64 t] 67)).drew := ((Qt.refl w1).alloc _).comp (Mv.drewN _ _ 1)
  have hs : Ls (w1.alloc (.cells #[.bool a, .int .i64 f, .int .i64 t] 67)).drew (some ⟨w1.heap.size, 0, none⟩) (cellsP [⟨a, f, t⟩]) := (Ls.new w1 #[.bool a, .int .i64 f, .int .i64 t] 67).qt (Mv.drewN _ _ 1)
  obtain ⟨v', W, h1, h2, h3, h4⟩ := append_pc 64 _ base v ps [⟨a, f, t⟩] (some ⟨w1.heap.size, 0, none⟩) 1 (q.owns h (fun _ _ h => h)) hs (by simp; omega) (fun e => by cases e) (Nat.le_trans hb q.size)
  refine ⟨v', W, h1, h2, (q.mono (fun _ _ h => h.elim)).trans (Mv.of_grown h3) (fun _ _ h => h), ?_⟩
  rcases h4 with h4 | ⟨g, h4, h5⟩
  · exact .inl h4
  · exact .inr ⟨g, h4, Nat.le_trans q.size h5⟩
theorem append_two (w1 : World) (base : Nat) (v : Value) (ps : List Pc) (a : Bool) (f t : Nat) (h : Op3 w1 base v ps) (hl : ps.length < 90000) (hb : base ≤ w1.heap.size) :
    ∃ v' W, (Builtin.append_ #[64, 64] 64 #[v, .slice (some ⟨w1.heap.size, 0, none⟩) 1 1]).run Try.prog (w1.alloc (.cells #[.bool a, .int .i64 f, .int .i64 t] 67)) = .ok v' W ∧ PutLeft w1 W base v v' (ps ++ [⟨a, f, t⟩]) := by
  have q : Qt w1 (w1.alloc (.cells #[.bool a, .int .i64 f, .int .i64 t] 67)) := (Qt.refl w1).alloc _
  have hs : Ls (w1.alloc (.cells #[.bool a, .int .i64 f, .int .i64 t] 67)) (some ⟨w1.heap.size, 0, none⟩) (cellsP [⟨a, f, t⟩]) := (Ls.new w1 #[.bool a, .int .i64 f, .int .i64 t] 67)
  obtain ⟨v', W, h1, h2, h3, h4⟩ := append_pc 64 _ base v ps [⟨a, f, t⟩] (some ⟨w1.heap.size, 0, none⟩) 1 (q.owns h (fun _ _ h => h)) hs (by simp; omega) (fun e => by cases e) (Nat.le_trans hb q.size)
  refine ⟨v', W, h1, h2, (q.mono (fun _ _ h => h.elim)).trans (Mv.of_grown h3) (fun _ _ h => h), ?_⟩
  rcases h4 with h4 | ⟨g, h4, h5⟩
  · exact .inl h4
  · exact .inr ⟨g, h4, Nat.le_trans q.size h5⟩
theorem PutLeft.from {w w1 W : World} {base : Nat} {v v' : Value} {qs : List Pc} (q : Qt w w1) (h : PutLeft w1 W base v v' qs) : PutLeft w W base v v' qs := by
  refine ⟨h.1, (q.mono (fun _ _ h => h.elim)).trans h.2.1 (fun _ _ h => h), ?_⟩
  rcases h.2.2 with h4 | ⟨g, h4, h5⟩
  · exact .inl h4
  · exact .inr ⟨g, h4, Nat.le_trans q.size h5⟩

set_option maxHeartbeats 1000000 in
theorem put_first (a : Bool) (f t : Nat) (base : Nat) (w : World) (hb : t < 1000000) (hu : f < t) (hbase : base ≤ w.heap.size) :
    Calls Try.prog 37 #[.slice none 0 0, .agg #[.bool a, .int .i64 f, .int .i64 t]] w fun e w' => ∃ v', e = .returned v' ∧ Hid (PutLeft w w' base (.slice none 0 0) v' [⟨a, f, t⟩]) := by
  have hz' : (((t - f : Nat) : Int) == 0) = false := by simp; omega
  go_enter Try.func37, Try.ntmps37
  go_wp2_with fail
  refine (zsize_any a f t _ (by omega) hb).mono ?_
  rintro e w1 ⟨rfl, q1⟩
  have Q : Hid (Qt w w1) := ((Qt.refl w).alloc _).comp q1.out
  have b0 := q1.out.cell (alloc_new w #[.bool a, .int .i64 f, .int .i64 t] 67 0 _ rfl).1 (fun h => h)
  have b1 := q1.out.cell (alloc_new w #[.bool a, .int .i64 f, .int .i64 t] 67 1 _ rfl).1 (fun h => h)
  have b2 := q1.out.cell (alloc_new w #[.bool a, .int .i64 f, .int .i64 t] 67 2 _ rfl).1 (fun h => h)
  obtain ⟨v', W, hr, hp⟩ := append_one w1 base (.slice none 0 0) [] a f t (ow_nil _ _ _ _) (by simp) (Nat.le_trans hbase Q.out.size)
  have P : Hid _ := hp
  clear hp
  go_wp2_with fail
  go_region
  all_goals (go_wp2_with (at_builtin; first | (refine wpList_append_given rfl _ _ 64 rfl _ _ _ W rfl rfl hr ?_)))
  all_goals (go_ret; exact ⟨v', rfl, PutLeft.from Q.out P.out⟩)

set_option maxHeartbeats 1000000 in
theorem put_zero (g c : Nat) (a : Bool) (f t : Nat) (base : Nat) (w : World) (h : Hid (Op3 w base (.slice (some ⟨g, 0, none⟩) 0 c) [])) (hb : t < 1000000) (hu : f < t) (hbase : base ≤ w.heap.size) :
    Calls Try.prog 37 #[.slice (some ⟨g, 0, none⟩) 0 c, .agg #[.bool a, .int .i64 f, .int .i64 t]] w fun e w' => ∃ v', e = .returned v' ∧ Hid (PutLeft w w' base (.slice (some ⟨g, 0, none⟩) 0 c) v' [⟨a, f, t⟩]) := by
  have hz' : (((t - f : Nat) : Int) == 0) = false := by simp; omega
  go_enter Try.func37, Try.ntmps37
  go_wp2_with fail
  refine (zsize_any a f t _ (by omega) hb).mono ?_
  rintro e w1 ⟨rfl, q1⟩
  have Q : Hid (Qt w w1) := ((Qt.refl w).alloc _).comp q1.out
  have b0 := q1.out.cell (alloc_new w #[.bool a, .int .i64 f, .int .i64 t] 67 0 _ rfl).1 (fun h => h)
  have b1 := q1.out.cell (alloc_new w #[.bool a, .int .i64 f, .int .i64 t] 67 1 _ rfl).1 (fun h => h)
  have b2 := q1.out.cell (alloc_new w #[.bool a, .int .i64 f, .int .i64 t] 67 2 _ rfl).1 (fun h => h)
  obtain ⟨v', W, hr, hp⟩ := append_one w1 base (.slice (some ⟨g, 0, none⟩) 0 c) [] a f t (Q.out.owns h.out (fun _ _ h => h)) (by simp) (Nat.le_trans hbase Q.out.size)
  have P : Hid _ := hp
  clear hp
  go_wp2_with fail
  go_region
  all_goals (go_wp2_with (at_builtin; first | (refine wpList_append_given rfl _ _ 64 rfl _ _ _ W rfl rfl hr ?_)))
  all_goals (go_ret; exact ⟨v', rfl, PutLeft.from Q.out P.out⟩)

set_option maxHeartbeats 1000000 in
theorem put_app (v : Value) (base : Nat) (l : List Pc) (a a' : Bool) (f t f' t' : Nat) (w : World) (h : Hid (Op3 w base v (l ++ [⟨a', f', t'⟩]))) (hno : ¬ (a' = a ∧ t' = f)) (hb : t < 1000000) (hl : l.length < 80000) (hu : f < t) (hbase : base ≤ w.heap.size) :
    Calls Try.prog 37 #[v, .agg #[.bool a, .int .i64 f, .int .i64 t]] w fun e w' => ∃ v', e = .returned v' ∧ Hid (PutLeft w w' base v v' (l ++ [⟨a', f', t'⟩] ++ [⟨a, f, t⟩])) := by
  obtain ⟨g, c, rfl, c0, c1, c2, fz⟩ := op3_last h.out
  clear fz
  generalize hn : l.length = n at *
  have N : Hid _ := hn
  clear hn
  have hz' : (((t - f : Nat) : Int) == 0) = false := by simp; omega
  have hi : (n : Int) < (n : Int) + 1 := by omega
  have hi0 : (0 : Int) ≤ (n : Int) := by omega
  have NO : Hid _ := hno
  clear hno
  simp only at c0 c1 c2
  go_enter Try.func37, Try.ntmps37
  go_wp2_with fail
  refine (zsize_any a f t _ (by omega) hb).mono ?_
  rintro e w1 ⟨rfl, q1⟩
  have Q : Hid (Qt w w1) := ((Qt.refl w).alloc _).comp q1.out
  have d0 := Q.out.cell c0 (fun h => h)
  have d1 := Q.out.cell c1 (fun h => h)
  have d2 := Q.out.cell c2 (fun h => h)
  have b0 := q1.out.cell (alloc_new w #[.bool a, .int .i64 f, .int .i64 t] 67 0 _ rfl).1 (fun h => h)
  have b1 := q1.out.cell (alloc_new w #[.bool a, .int .i64 f, .int .i64 t] 67 1 _ rfl).1 (fun h => h)
  have b2 := q1.out.cell (alloc_new w #[.bool a, .int .i64 f, .int .i64 t] 67 2 _ rfl).1 (fun h => h)
  clear c0 c1 c2
  go_wp2_with fail
  go_region_held3 (fun w' => w'.cell? ⟨g, n * 3, none⟩ = some (.bool a') ∧ w'.cell? ⟨g, n * 3 + 1, none⟩ = some (.int .i64 f') ∧ w'.cell? ⟨g, n * 3 + 2, none⟩ = some (.int .i64 t') ∧ w'.cell? ⟨w.heap.size, 0, none⟩ = some (.bool a) ∧ w'.cell? ⟨w.heap.size, 1, none⟩ = some (.int .i64 f) ∧ w'.cell? ⟨w.heap.size, 2, none⟩ = some (.int .i64 t)) (first | go_keep | (exact ⟨q2.out.cell d0 (fun h => h), q2.out.cell d1 (fun h => h), q2.out.cell d2 (fun h => h), q2.out.cell b0 (fun h => h), q2.out.cell b1 (fun h => h), q2.out.cell b2 (fun h => h)⟩))
    ((first
      | (go_at_call 45; refine (touch_no a' a f' t' f t _ NO.out).mono ?_; rintro e w2 ⟨rfl, q2⟩)))
  have Q2 : Hid (Qt w w2) := (Q.out.comp (Mv.drewN _ w1 1)).comp q2.out
  have e0 := q2.out.cell b0 (fun h => h)
  have e1 := q2.out.cell b1 (fun h => h)
  have e2 := q2.out.cell b2 (fun h => h)
  have hL : (l ++ [⟨a', f', t'⟩] : List Pc).length = n + 1 := by rw [List.length_append, N.out]; rfl
  obtain ⟨v', W, hr, hp⟩ := append_two w2 base _ _ a f t (Q2.out.owns h.out (fun _ _ h => h)) (by rw [hL]; omega) (Nat.le_trans hbase Q2.out.size)
  have P : Hid _ := hp
  clear hp hL
  go_wp2_with (at_builtin; first | (refine wpList_append_given rfl _ _ 64 rfl _ _ _ W rfl rfl hr ?_))
  go_ret
  exact ⟨v', rfl, PutLeft.from Q2.out P.out⟩

theorem put_any (v : Value) (base : Nat) (ps : List Pc) (p : Pc) (w : World) (h : Hid (Op3 w base v ps)) (hb : p.to < 1000000) (hl : ps.length < 80000) (hle : p.fr ≤ p.to) (hbase : base ≤ w.heap.size) :
    Calls Try.prog 37 #[v, .agg #[.bool p.ad, .int .i64 p.fr, .int .i64 p.to]] w fun e w' => ∃ v', e = .returned v' ∧ Hid (PutLeft w w' base v v' (putP ps p)) := by
  obtain ⟨a, f, t⟩ := p
  simp only at hb hle
  by_cases e : t = f
  · subst e
    rw [putP_none _ _ rfl]
    exact put_none v base ps a t w h hb
  · rcases last_cases ps with rfl | ⟨l, ⟨a', f', t'⟩, rfl⟩
    · rw [putP_nil _ e]
      have hv : v = .slice none 0 0 ∨ ∃ g c, v = .slice (some ⟨g, 0, none⟩) 0 c := by
        rcases h.out.2 with ⟨rfl, _⟩ | ⟨g, c, cur, rfl, _⟩
        · exact .inl rfl
        · exact .inr ⟨g, c, rfl⟩
      rcases hv with rfl | ⟨g, c, rfl⟩
      · exact put_first a f t base w hb (by omega) hbase
      · exact put_zero g c a f t base w h hb (by omega) hbase
    · rw [putP_snoc _ _ _ e]
      by_cases c : a' = a ∧ t' = f
      · rw [if_pos c]
        obtain ⟨rfl, rfl⟩ := c
        exact put_touch v base l a' f' t' t w h hb (by rw [List.length_append] at hl; simp at hl; omega) (by omega)
      · rw [if_neg c]
        exact put_app v base l a a' f t f' t' w h c hb (by rw [List.length_append] at hl; simp at hl; omega) (by omega) hbase
end Go.Proofs.Ytdhdkbaalgdicaa

/- Lists of pieces, one behind the other: join. -/
namespace Go.Proofs.Ytdhdkbaalgdicaa
open Go.RowKit

theorem putP_length (l : List Pc) (p : Pc) : (putP l p).length ≤ l.length + 1 := by
  by_cases e : p.to = p.fr
  · rw [putP_none _ _ e]; omega
  · rcases last_cases l with rfl | ⟨l', q, rfl⟩
    · rw [putP_nil _ e]; simp
    · rw [putP_snoc _ _ _ e]
      split <;> simp
theorem fold_length : ∀ (ps l : List Pc), (ps.foldl putP l).length ≤ l.length + ps.length
  | [], l => by simp
  | p :: ps, l => by
    rw [List.foldl_cons]
    have h1 := fold_length ps (putP l p)
    have h2 := putP_length l p
    simp; omega
theorem take_succ_get {α : Type} {l : List α} {i : Nat} {x : α} (h : l[i]? = some x) : l.take (i + 1) = l.take i ++ [x] := by
  rw [List.take_add_one, h]; rfl

/-- Pieces that are sound. -/
def Fit (ps : List Pc) : Prop := ∀ p ∈ ps, p.fr ≤ p.to ∧ p.to < 1000000

/-- A list that is handed in: where, its room, its pieces. -/
abbrev Sg := Option Addr × Nat × List Pc
def sv (s : Sg) : Value := .slice s.1 s.2.2.length s.2.1
structure Jn (w : World) (la : Option Addr) (Ts : List Sg) : Prop where
  lay : Ls w la (Ts.map sv)
  each : ∀ s ∈ Ts, Ls w s.1 (cellsP s.2.2) ∧ Fit s.2.2
theorem Jn.qt {w w' : World} {la : Option Addr} {Ts : List Sg} (h : Jn w la Ts) (q : Qt w w') : Jn w' la Ts := ⟨h.lay.qt q, fun s hs => ⟨(h.each s hs).1.qt q, (h.each s hs).2⟩⟩
/-- The pieces of the first i lists. -/
def pre (Ts : List Sg) (i : Nat) : List Pc := (Ts.take i).flatMap (·.2.2)
theorem pre_succ {Ts : List Sg} {i : Nat} {s : Sg} (h : Ts[i]? = some s) : pre Ts (i + 1) = pre Ts i ++ s.2.2 := by
  unfold pre; rw [take_succ_get h, List.flatMap_append]; simp

/-- What has been joined so far. -/
def Jd (w wr : World) (v : Value) (qs : List Pc) : Prop := Op3 wr w.heap.size v (qs.foldl putP []) ∧ Qt w wr
theorem Jd.put {w wr w' : World} {v v' : Value} {qs : List Pc} {p : Pc} (h : Jd w wr v qs) (o : Obj) (k : PutLeft (wr.alloc o) w' w.heap.size v v' (putP (qs.foldl putP []) p)) : Jd w w' v' (qs ++ [p]) := by
  refine ⟨by rw [List.foldl_append]; exact k.1, ?_⟩
  refine (h.2.alloc o).trans k.2.1 (fun j hj e => ?_)
  have := (ow_blk h.1 j e).1
  omega

set_option maxHeartbeats 2000000 in
theorem join_any (la : Option Addr) (lc : Nat) (Ts : List Sg) (w : World) (h : Hid (Jn w la Ts)) (hl : (pre Ts Ts.length).length < 70000) (hk : Ts.length < 1000) :
    Calls Try.prog 26 #[.slice la Ts.length lc] w fun e w' => ∃ v', e = .returned v' ∧ Hid (Jd w w' v' (pre Ts Ts.length)) := by
  have HL : Hid _ := hl
  clear hl
  obtain ⟨k, hk'⟩ : ∃ k, k = Ts.length := ⟨_, rfl⟩
  have K : Hid _ := hk'
  rw [← hk'] at hk ⊢
  clear hk'
  go_enter Try.func26, Try.ntmps26
  go_wp2_with fail
  go_loopw [3, 10] (fun vj vi wr => ∃ i : Nat, i ≤ k ∧ vi = .int .i64 i ∧ Hid (Jd w wr vj (pre Ts i))) (fun _ vi _ => k - (intOf vi).toNat)
  case atStart => exact ⟨0, by omega, rfl, ow_nil _ _ _ _, Qt.refl w⟩
  case round =>
    obtain ⟨i, hi, rfl, J⟩ := hrel
    by_cases hlt : i < k
    · have hltz : (i : Int) < (k : Int) := by omega
      obtain ⟨s, hs⟩ : ∃ s, Ts[i]? = some s := ⟨Ts[i]'(by have := K.out; omega), List.getElem?_eq_getElem _⟩
      obtain ⟨b, off, rfl, hb, hc0⟩ := (h.out.qt J.out.2).lay i (sv s) (by rw [List.getElem?_map, hs]; rfl)
      have hm : s ∈ Ts := List.mem_of_getElem? hs
      have S1 : Hid (Ls w s.1 (cellsP s.2.2)) := (h.out.each s hm).1
      have S2 : Hid (Fit s.2.2) := (h.out.each s hm).2
      have PR : Hid (pre Ts (i + 1) = pre Ts i ++ s.2.2) := pre_succ hs
      have PL : Hid ((pre Ts i).length + s.2.2.length < 70000) := by
        have h1 : pre Ts Ts.length = pre Ts (i + 1) ++ (Ts.drop (i + 1)).flatMap (·.2.2) := by
          unfold pre; rw [← List.flatMap_append, List.take_append_drop, List.take_length]
        have h2 := HL.out
        rw [h1, PR.out, List.length_append, List.length_append] at h2
        show _ < _
        omega
      obtain ⟨sa, sc, ps⟩ := s
      have hc : wr.cell? ⟨b, off + i, none⟩ = some (.slice sa ps.length sc) := hc0
      clear hs hm hc0
      obtain ⟨n, hn⟩ : ∃ n, n = ps.length := ⟨_, rfl⟩
      have N : Hid _ := hn
      rw [← hn] at hc
      clear hn
      have hn' : n < 70000 := by have h1 := N.out; have h2 := PL.out; simp only at h2; omega
      simp only at S1 S2 PR PL
      go_wp2_with fail
      go_loopw [3, 16] (fun vj vi wr => ∃ j : Nat, j ≤ n ∧ vi = .int .i64 j ∧ Hid (Jd w wr vj (pre Ts i ++ ps.take j))) (fun _ vi _ => n - (intOf vi).toNat)
      case atStart => exact ⟨0, by omega, rfl, by rw [List.take_zero, List.append_nil]; exact J⟩
      case round =>
        clear J
        obtain ⟨j, hj, rfl, J⟩ := hrel
        by_cases hlt2 : j < n
        · have hlt2z : (j : Int) < (n : Int) := by omega
          obtain ⟨p, hp⟩ : ∃ p, ps[j]? = some p := ⟨ps[j]'(by have := N.out; omega), List.getElem?_eq_getElem _⟩
          obtain ⟨b2, off2, rfl, hb2, c0, c1, c2⟩ := ls_get (S1.out.qt J.out.2) hp
          have ft := S2.out p (List.mem_of_getElem? hp)
          have TS : Hid (ps.take (j + 1) = ps.take j ++ [p]) := take_succ_get hp
          have LB : Hid ((pre Ts i ++ ps.take j).length < 80000) := by
            show _ < _
            rw [List.length_append, List.length_take]
            have := PL.out
            omega
          clear hp hc hb
          go_wp2_with fail
          have q := (J.out.2.alloc (.cells #[.bool p.ad, .int .i64 p.fr, .int .i64 p.to] 67)).size
          refine (put_any _ w.heap.size _ p (wr.alloc (.cells #[.bool p.ad, .int .i64 p.fr, .int .i64 p.to] 67)) ((Mv.alloc (fun _ => False) wr _).owns J.out.1 (fun _ _ h => h)) ft.2 (Nat.lt_of_le_of_lt (fold_length _ _) (by have := LB.out; simp only [List.length_nil]; omega)) ft.1 q).mono ?_
          rintro e w' ⟨v', rfl, P⟩
          have J2 : Hid (Jd w w' v' (pre Ts i ++ ps.take (j + 1))) := by
            have := J.out.put _ P.out
            rw [List.append_assoc, ← TS.out] at this
            exact this
          clear P J q c0 c1 c2
          go_wp2_with fail
          go_roundw
          case rel => exact ⟨j + 1, by omega, by go_num, J2⟩
          case measure => simp [intOf]; omega
        · obtain rfl : j = n := by omega
          go_wp2_with fail
          go_roundw
          case rel => exact ⟨i + 1, by omega, by go_num, by
            have := J.out
            rw [List.take_of_length_le (by have := N.out; omega), ← PR.out] at this
            exact this⟩
          case measure => simp [intOf]; omega
    · obtain rfl : i = k := by omega
      go_wp2_with fail
      go_ret
      exact ⟨_, rfl, J⟩
end Go.Proofs.Ytdhdkbaalgdicaa

/- Where a byte stands: place; a piece in two: cut. -/
namespace Go.Proofs.Ytdhdkbaalgdicaa
open Go.RowKit

theorem drop_get {α : Type} {l : List α} {i : Nat} {x : α} (h : l[i]? = some x) : l.drop i = x :: l.drop (i + 1) := by
  obtain ⟨hi, rfl⟩ := List.getElem?_eq_some_iff.1 h
  exact List.drop_eq_getElem_cons hi

set_option maxHeartbeats 2000000 in
theorem place_any (sa : Option Addr) (sc : Nat) (ps : List Pc) (at' : Nat) (w : World) (h : Hid (Ls w sa (cellsP ps))) (F : Hid (Fit ps)) (hl : ps.length < 100000) (hat : at' < 1000000) :
    Calls Try.prog 39 #[.slice sa ps.length sc, .int .i64 at'] w fun e w' => e = .returned (.tuple #[.int .i64 (plc ps at').1, .int .i64 (plc ps at').2]) ∧ Hid (Qt w w') := by
  obtain ⟨n, hn⟩ : ∃ n, n = ps.length := ⟨_, rfl⟩
  have N : Hid _ := hn
  rw [← hn] at hl ⊢
  clear hn
  obtain ⟨io, hio⟩ : ∃ io, io = plc ps at' := ⟨_, rfl⟩
  have HIO : Hid (io = plc ps at') := hio
  rw [← hio]
  clear hio
  go_enter Try.func39, Try.ntmps39
  go_wp2_with fail
  go_loopw [1, 10] (fun va vi wr => ∃ i r : Nat, i ≤ n ∧ r < 1000000 ∧ vi = .int .i64 i ∧ va = .int .i64 r ∧ Hid (io = (i + (plc (ps.drop i) r).1, (plc (ps.drop i) r).2)) ∧ Hid (Qt w wr)) (fun _ vi _ => n - (intOf vi).toNat)
  case atStart => exact ⟨0, at', by omega, by omega, rfl, rfl, by rw [HIO.out]; simp only [Nat.zero_add, List.drop_zero]; trivial, Qt.refl w⟩
  case round =>
    clear hat
    obtain ⟨i, r, hi, hr, rfl, rfl, E, Q⟩ := hrel
    by_cases hlt : i < n
    · have hltz : (i : Int) < (n : Int) := by omega
      obtain ⟨p, hp⟩ : ∃ p, ps[i]? = some p := ⟨ps[i]'(by have := N.out; omega), List.getElem?_eq_getElem _⟩
      obtain ⟨b, off, rfl, hb, c0, c1, c2⟩ := ls_get (h.out.qt Q.out) hp
      have ft := F.out p (List.mem_of_getElem? hp)
      have D : Hid (ps.drop i = p :: ps.drop (i + 1)) := drop_get hp
      obtain ⟨a, f, t⟩ := p
      simp only at c0 c1 c2 ft
      obtain ⟨ft1, ft2⟩ := ft
      clear hp hb
      go_wp2_with fail
      refine (zsize_any a f t _ ft1 ft2).mono ?_
      rintro e w1 ⟨rfl, q1⟩
      have Q1 : Hid (Qt w w1) := (Q.out.alloc _).comp q1.out
      have b0 := q1.out.cell (alloc_new wr #[.bool a, .int .i64 f, .int .i64 t] 67 0 _ rfl).1 (fun h => h)
      have b1 := q1.out.cell (alloc_new wr #[.bool a, .int .i64 f, .int .i64 t] 67 1 _ rfl).1 (fun h => h)
      have b2 := q1.out.cell (alloc_new wr #[.bool a, .int .i64 f, .int .i64 t] 67 2 _ rfl).1 (fun h => h)
      clear c0 c1 c2 q1 Q
      obtain ⟨z, hz⟩ : ∃ z, z = t - f := ⟨_, rfl⟩
      have Z : Hid _ := hz
      rw [← hz]
      clear hz
      by_cases hc : r < z
      · have hcz : (r : Int) < (z : Int) := by omega
        have EE : Hid (io = (i, r)) := by
          show _ = _
          rw [E.out, D.out, plc_here _ _ _ (by have := Z.out; show r < t - f; omega)]; rfl
        go_wp2_with fail
        go_ret2
        exact ⟨by rw [EE.out]; rfl, Q1⟩
      · have hcz : (z : Int) ≤ (r : Int) := by omega
        have hsz : (r : Int) - z = ((r - z : Nat) : Int) := by omega
        have EE : Hid (io = (i + 1 + (plc (ps.drop (i + 1)) (r - z)).1, (plc (ps.drop (i + 1)) (r - z)).2)) := by
          show _ = _
          rw [E.out, D.out, plc_on _ _ _ (by have := Z.out; show ¬ r < t - f; omega), show t - f = z from Z.out.symm]
          simp only [Prod.mk.injEq, and_true]
          omega
        clear E D
        go_wp2_with fail
        refine (zsize_any a f t _ ft1 ft2).mono ?_
        rintro e w2 ⟨rfl, q2⟩
        have Q2 : Hid (Qt w w2) := Q1.out.comp q2.out
        rw [← Z.out]
        clear Q1 q2 b0 b1 b2
        go_wp2_with fail
        exact ⟨⟨i + 1, r - z, by omega, by omega, by go_num, by simp, EE, Q2⟩, by simp [intOf]; omega⟩
    · obtain rfl : i = n := by omega
      have EE : Hid (io = (i, 0)) := by
        show _ = _
        rw [E.out, List.drop_eq_nil_of_le (by have := N.out; omega)]; rfl
      go_wp2_with fail
      go_ret2
      exact ⟨by rw [EE.out]; rfl, Q⟩

theorem results_cell2 {P : Program} {fn : Func} {p u : Tmp} {ty : TypeId} (h : fn.results = #[.cell p ty, .cell u ty]) (tmps : Array Value) (w : World) (g g' : Nat) (t t' : TypeId) (cs cs' : Array Value) (fr fr' : Nat × Nat) (d : TypeDesc)
    (hp : tmps.getD p undef = .pointer (some ⟨g, 0, none⟩)) (hq : tmps.getD u undef = .pointer (some ⟨g', 0, none⟩)) (hg : w.heap[g]? = some (.cells cs t fr)) (hg' : w.heap[g']? = some (.cells cs' t' fr'))
    (hu : P.underlying ty = some d) (hd : (match d with | .struct _ | .array _ _ => true | _ => false) = true) (hi : (P.info? ty).map (·.size) = some cs.size) (hi' : (P.info? ty).map (·.size) = some cs'.size) :
    (results fn tmps).run P w = .ok (.tuple #[.agg cs, .agg cs']) w := by
  have hp' : tmps[p]?.getD undef = .pointer (some ⟨g, 0, none⟩) := by simpa using hp
  have hq' : tmps[u]?.getD undef = .pointer (some ⟨g', 0, none⟩) := by simpa using hq
  simp [results, h, hp', hq', asAddr, run_loadVar_row w g t ty cs fr d hg hu hd hi, run_loadVar_row w g' t' ty cs' fr' d hg' hu hd hi']

theorem heap3 (w : World) (A B C : Obj) : (((w.alloc A).alloc B).alloc C).heap[w.heap.size + 1]? = some B ∧ (((w.alloc A).alloc B).alloc C).heap[w.heap.size + 1 + 1]? = some C := by
  constructor
  · show (((w.heap.push A).push B).push C)[w.heap.size + 1]? = _
    rw [Array.getElem?_push, if_neg (by simp), Array.getElem?_push, if_pos (by simp)]
  · show (((w.heap.push A).push B).push C)[w.heap.size + 1 + 1]? = _
    rw [Array.getElem?_push, if_pos (by simp)]

set_option maxHeartbeats 2000000 in
theorem zcut_any (a : Bool) (f t o : Nat) (w : World) (hf : f < 1000000) (ho : o < 1000000) :
    Calls Try.prog 40 #[.agg #[.bool a, .int .i64 f, .int .i64 t], .int .i64 o] w fun e w' => e = .returned (.tuple #[.agg #[.bool a, .int .i64 f, .int .i64 ((f + o : Nat) : Int)], .agg #[.bool a, .int .i64 ((f + o : Nat) : Int), .int .i64 t]]) ∧ Hid (Qt w w') := by
  go_enter Try.func40, Try.ntmps40
  go_wp2_with fail
  go_region
  all_goals (go_wp2_with fail; go_region)
  go_wp2_with fail
  refine bodyPost_ret (results_cell2 (p := 4) (u := 5) (ty := 67) rfl _ _ (w.heap.size + 1) (w.heap.size + 1 + 1) 67 67 _ _ (0, 0) (0, 0) _ rfl rfl (heap3 w _ _ _).1 (heap3 w _ _ _).2 Try.underlying67 rfl (by kernel_rfl) (by kernel_rfl)) rfl ?_
  exact ⟨by simp, ((Qt.two w _ _).alloc _).comp (Mv.drewN _ _ 2)⟩
end Go.Proofs.Ytdhdkbaalgdicaa

/- A list of pieces in two: split. -/
namespace Go.Proofs.Ytdhdkbaalgdicaa
open Go.RowKit

theorem elem41 : Try.prog.elem 64 = 67 := by kernel_rfl
theorem under41 : Try.prog.underlying 64 = some (.slice (Try.prog.elem 64)) := by rw [elem41]; exact Try.underlying64
theorem size50 (w : World) : (sizeOf 67).run Try.prog w = .ok 3 w := by
  have e : Try.t67.size = 3 := by kernel_rfl
  simp [sizeOf, typeInfo, info50, e]

/-- A list that lies there. -/
structure zLi (w : World) (a : Option Addr) (c : Nat) (ps : List Pc) : Prop where
  ls : Ls w a (cellsP ps)
  cap : ps.length ≤ c
  none : a = none → ps.length = 0 ∧ c = 0
theorem zLi.qt {w w' : World} {a : Option Addr} {c : Nat} {ps : List Pc} (h : zLi w a c ps) (q : Qt w w') : zLi w' a c ps := ⟨h.ls.qt q, h.cap, h.none⟩

/-- The first i. -/
theorem slice_to (w : World) (a : Option Addr) (c : Nat) (ps : List Pc) (h : zLi w a c ps) (i : Nat) (hi : i ≤ ps.length) : ∃ p k, (∀ w, (Instr.slice 64 (.slice a ps.length c) none (some (.int .i64 (i : Int))) none).run Try.prog w = .ok (.slice p i k) w) ∧ zLi w p k (ps.take i) ∧ ∀ q, p = some q → ∃ q0, a = some q0 ∧ q.block = q0.block := by
  have hl : (ps.take i).length = i := by rw [List.length_take]; omega
  have := h.cap
  refine ⟨if c = 0 then a else a.map (·.add (0 * 3)), c - 0, ?_, ⟨?_, ?_, ?_⟩, ?_⟩
  · intro w
    rw [run_slice_h w 64 a ps.length c under41 .i64 i (by omega) (by omega), elem41, size50]
    simp only [Result.andThen_ok, sliced, Int.toNat_natCast, Nat.sub_zero]
  · have hp : Ls w a (cellsP (ps.take i)) := by rw [← cellsP_take]; exact h.ls.take _
    split
    · exact hp
    · intro j u hj
      obtain ⟨b, off, e, hb, hc⟩ := hp j u hj
      exact ⟨b, off, by rw [e, Option.map_some, addr_add]; rfl, hb, hc⟩
  · rw [hl]; omega
  · intro e
    have : a = none := by
      split at e
      · exact e
      · cases a with
        | none => rfl
        | some p => simp at e
    have := h.none this
    rw [hl]; omega
  · intro q e
    split at e
    · exact ⟨q, e, rfl⟩
    · cases a with
      | none => simp at e
      | some p =>
        simp at e
        refine ⟨p, rfl, ?_⟩
        rw [← e]
        unfold Addr.add
        split <;> rfl
/-- From i on. -/
theorem slice_from (w : World) (a : Option Addr) (c : Nat) (ps : List Pc) (h : zLi w a c ps) (i : Nat) (hi : i ≤ ps.length) : ∃ p k, (∀ w, (Instr.slice 64 (.slice a ps.length c) (some (.int .i64 (i : Int))) none none).run Try.prog w = .ok (.slice p (ps.length - i) k) w) ∧ zLi w p k (ps.drop i) ∧ ∀ q, p = some q → ∃ q0, a = some q0 ∧ q.block = q0.block := by
  have hl : (ps.drop i).length = ps.length - i := by rw [List.length_drop]
  have := h.cap
  refine ⟨if c = i then a else a.map (·.add (i * 3)), c - i, ?_, ⟨?_, ?_, ?_⟩, ?_⟩
  · intro w
    rw [run_slice_l w 64 a ps.length c under41 .i64 i (by omega) (by omega), elem41, size50]
    simp only [Result.andThen_ok, sliced, Int.toNat_natCast]
  · split
    · have : ps.drop i = [] := List.drop_eq_nil_of_le (by omega)
      rw [this]; exact Ls.nil _ _
    · rw [← cellsP_drop]; exact h.ls.drop _
  · rw [hl]; omega
  · intro e
    have : a = none := by
      split at e
      · exact e
      · cases a with
        | none => rfl
        | some p => simp at e
    have := h.none this
    rw [hl]; omega
  · intro q e
    split at e
    · exact ⟨q, e, rfl⟩
    · cases a with
      | none => simp at e
      | some p =>
        simp at e
        refine ⟨p, rfl, ?_⟩
        rw [← e]
        unfold Addr.add
        split <;> rfl

/-- It lies where a does, or is new. -/
def Nigh (w : World) (a b : Option Addr) : Prop := ∀ q, b = some q → (∃ q0, a = some q0 ∧ q.block = q0.block) ∨ w.heap.size ≤ q.block
/-- What split tells. -/
def Told2 (w w' : World) (sa : Option Addr) (X : List Bt) (at' m : Nat) (v : Value) : Prop := ∃ a1 c1 ps1 a2 c2 ps2, v = .tuple #[.slice a1 ps1.length c1, .slice a2 ps2.length c2] ∧ zLi w' a1 c1 ps1 ∧ zLi w' a2 c2 ps2 ∧ Fit ps1 ∧ Fit ps2 ∧ spl ps1 = X.take at' ∧ spl ps2 = X.drop at' ∧ ps1.length ≤ m + 1 ∧ ps2.length ≤ m + 1 ∧ Qt w w' ∧ Nigh w sa a1 ∧ Nigh w sa a2

theorem fit_take {ps : List Pc} (h : Fit ps) (i : Nat) : Fit (ps.take i) := fun p hp => h p (List.mem_of_mem_take hp)
theorem fit_drop {ps : List Pc} (h : Fit ps) (i : Nat) : Fit (ps.drop i) := fun p hp => h p (List.mem_of_mem_drop hp)
theorem fit_le {ps : List Pc} (h : Fit ps) : ∀ p ∈ ps, p.fr ≤ p.to := fun p hp => (h p hp).1

/-- An append in a region that draws. -/
theorem step_append_pc {ops : Array Oper} {o : Oper} {a : Act} {w : World} {K : Act → World → Prop} {Q : Exit → Act → World → Prop} {E : Prop} (hgd : o.guard = none) (s x : Operand)
    (ho : o.op = .call { callee := .builtin .append, args := #[s, x], argTypes := #[64, 64] })
    (base : Nat) (w0 : World) (v : Value) (ps : List Pc) (sl : Option Addr) (m c : Nat) (qs : List Pc) (hs : a.eval s = v) (hx : a.eval x = .slice sl m c) (hm : m = qs.length)
    (hown : Op3 w base v ps) (hsl : Ls w sl (cellsP qs)) (hn : ps.length + qs.length < 100000) (hnone : sl = none → qs.length = 0 ∧ c = 0) (hw0 : Below base w0 w) (hb : base ≤ w0.heap.size)
    (h : ∀ v' W, Op3 W base v' (ps ++ qs) → w.grownBy W v.ownBlock → Below base w0 W → K (a.put o.dst v') W) :
    if Region.wanted o (yielded ops a.tmps) = true then Oper.wp Try.prog o a w K Q else E := by
  have hw : Region.wanted o (yielded ops a.tmps) = true := by simp [Region.wanted, hgd]
  rw [if_pos hw]
  subst hm
  obtain ⟨v', W, h1, h2, h3, _⟩ := append_pc o.type w base v ps qs sl c hown hsl hn hnone (Nat.le_trans hb hw0.size)
  exact wp_append_given s x 64 ho v _ v' W hs hx h1 (h v' W h2 h3 (hw0.grown h3 (Nat.le_trans hb hw0.size) (fun k hk => (ow_blk hown k hk).1)))

theorem Ls.grown {w W : World} {a : Option Addr} {xs : List Value} {r : Option Nat} (h : Ls w a xs) (hg : w.grownBy W r) (hne : ∀ p, a = some p → some p.block ≠ r) : Ls W a xs := by
  intro i u hi
  obtain ⟨b, off, e, hb, hc⟩ := h i u hi
  have := hne _ e
  exact ⟨b, off, e, Nat.lt_of_lt_of_le hb hg.size, (World.cell?_of_block (hg.block b hb this)).trans hc⟩
theorem ls_one (w : World) (a : Bool) (f t : Int) (g u : Nat) (B : Nat) (hB : B = w.heap.size) (hf : f = g) (ht : t = u) : Ls (w.alloc (.cells #[.bool a, .int .i64 f, .int .i64 t] 67)) (some ⟨B, 0, none⟩) (cellsP [⟨a, g, u⟩]) := by
  subst hB hf ht; exact Ls.new w _ 67
theorem ls_one_drew (w : World) (a : Bool) (f t : Int) (g u : Nat) (B : Nat) (hB : B = w.heap.size) (hf : f = g) (ht : t = u) : Ls (w.alloc (.cells #[.bool a, .int .i64 f, .int .i64 t] 67)).drew (some ⟨B, 0, none⟩) (cellsP [⟨a, g, u⟩]) := ls_one w a f t g u B hB hf ht

set_option maxHeartbeats 2000000 in
theorem split_whole (sa : Option Addr) (sc : Nat) (ps : List Pc) (at' : Nat) (w : World) (h : Hid (zLi w sa sc ps)) (F : Hid (Fit ps)) (hl : ps.length < 40000) (hat : at' < 1000000) (h0 : (plc ps at').2 = 0) :
    Calls Try.prog 28 #[.slice sa ps.length sc, .int .i64 at'] w fun e w' => ∃ v, e = .returned v ∧ Hid (Told2 w w' sa (spl ps) at' ps.length v) := by
  have PC := place_any sa sc ps at' w h.out.ls F (by omega) hat
  have E := (plc_split ps at' (fit_le F.out)).1 h0
  have hi := (plc_le ps at').1
  have h0z : ((plc ps at').2 : Int) = 0 := by omega
  rw [h0z] at PC
  generalize (plc ps at').1 = i at PC E hi
  obtain ⟨p1, k1, r1, L1, G1⟩ := slice_to w sa sc ps h.out i hi
  obtain ⟨p2, k2, r2, L2, G2⟩ := slice_from w sa sc ps h.out i hi
  have FIN : Hid (∀ W, Qt w W → Told2 w W sa (spl ps) at' ps.length (.tuple #[.slice p1 i k1, .slice p2 (ps.length - i) k2])) := by
    intro W q
    refine ⟨p1, k1, ps.take i, p2, k2, ps.drop i, ?_, L1.qt q, L2.qt q, fit_take F.out i, fit_drop F.out i, E.1, E.2, ?_, ?_, q, fun q e => .inl (G1 q e), fun q e => .inl (G2 q e)⟩
    · rw [List.length_take, List.length_drop, Nat.min_eq_left hi]
    · rw [List.length_take]; omega
    · rw [List.length_drop]; omega
  clear E h0 h0z L1 L2 G1 G2
  generalize ps.length = n at *
  go_enter Try.func28, Try.ntmps28
  go_wp2_with fail
  refine PC.mono ?_
  rintro e w1 ⟨rfl, q1⟩
  go_wp2_with fail
  go_region
  go_wp2_with fail
  go_ret2
  exact ⟨_, rfl, FIN.out _ (q1.out.comp (Mv.drewN _ _ 1))⟩
end Go.Proofs.Ytdhdkbaalgdicaa

/- A list of pieces in two, within a piece. -/
namespace Go.Proofs.Ytdhdkbaalgdicaa
open Go.RowKit

theorem wrap_small {x : Int} (h1 : -1000000 ≤ x) (h2 : x ≤ 1000000) : IntKind.i64.wrap x = x := by
  simp [IntKind.wrap, IntKind.signed, IntKind.bits]
  omega

set_option maxHeartbeats 4000000 in
theorem split_cut (sa : Option Addr) (sc : Nat) (ps : List Pc) (at' : Nat) (w : World) (h : Hid (zLi w sa sc ps)) (F : Hid (Fit ps)) (hl : ps.length < 40000) (hat : at' < 1000000) (h0 : (plc ps at').2 ≠ 0) :
    Calls Try.prog 28 #[.slice sa ps.length sc, .int .i64 at'] w fun e w' => ∃ v, e = .returned v ∧ Hid (Told2 w w' sa (spl ps) at' ps.length v) := by
  have PC := place_any sa sc ps at' w h.out.ls F (by omega) hat
  obtain ⟨p, e1, e2, e3, e4⟩ := (plc_split ps at' (fit_le F.out)).2 h0
  have ho := (plc_le ps at').2
  generalize (plc ps at').1 = i at PC e1 e3 e4
  generalize (plc ps at').2 = o at PC e2 e3 e4 h0 ho
  have hil : i < ps.length := (List.getElem?_eq_some_iff.1 e1).1
  obtain ⟨b, off, rfl, hb, c0, c1, c2⟩ := ls_get h.out.ls e1
  have ft := F.out p (List.mem_of_getElem? e1)
  obtain ⟨a, f, t⟩ := p
  simp only at c0 c1 c2 ft e2 e3 e4
  obtain ⟨p1, k1, r1, L1', -⟩ := slice_to w _ sc ps h.out i (by omega)
  obtain ⟨p2, k2, r2, L2', -⟩ := slice_from w _ sc ps h.out (i + 1) (by omega)
  have L1 : Hid (zLi w p1 k1 (ps.take i)) := L1'
  have L2 : Hid (zLi w p2 k2 (ps.drop (i + 1))) := L2'
  clear L1' L2'
  have r2' : ∀ w, (Instr.slice 64 (.slice (some ⟨b, off, none⟩) ps.length sc) (some (.int .i64 ((i : Int) + 1))) none none).run Try.prog w = .ok (.slice p2 (ps.length - (i + 1)) k2) w := by
    intro w; have := r2 w; rw [show ((i + 1 : Nat) : Int) = (i : Int) + 1 by omega] at this; exact this
  clear r2
  have FIN : Hid (∀ W v1 v2, Qt w W → Op3 W w.heap.size v1 (ps.take i ++ [⟨a, f, f + o⟩]) → Op3 W w.heap.size v2 (⟨a, f + o, t⟩ :: ps.drop (i + 1)) → Told2 w W (some ⟨b, off, none⟩) (spl ps) at' ps.length (.tuple #[v1, v2])) := by
    intro W v1 v2 q o1 o2
    obtain ⟨a1, k1, rfl, l1, n1, z1, g1⟩ := ow_ls o1
    obtain ⟨a2, k2, rfl, l2, n2, z2, g2⟩ := ow_ls o2
    refine ⟨a1, k1, _, a2, k2, _, rfl, ⟨l1, n1, z1⟩, ⟨l2, n2, z2⟩, ?_, ?_, e3, e4, ?_, ?_, q, fun q e => .inr (ow_blk o1 _ (g1 q e)).1, fun q e => .inr (ow_blk o2 _ (g2 q e)).1⟩
    · intro p hp
      rcases List.mem_append.1 hp with h1 | h1
      · exact F.out p (List.mem_of_mem_take h1)
      · simp at h1
        subst h1
        exact ⟨by show f ≤ f + o; omega, by show f + o < _; omega⟩
    · intro p hp
      rcases List.mem_cons.1 hp with h1 | h1
      · subst h1
        exact ⟨by show f + o ≤ t; omega, ft.2⟩
      · exact F.out p (List.mem_of_mem_drop h1)
    · rw [List.length_append, List.length_take]; simp; omega
    · rw [List.length_cons, List.length_drop]; omega
  have N1 : Hid ((ps.take i).length = i) := by show _ = _; rw [List.length_take]; omega
  have N2 : Hid ((ps.drop (i + 1)).length = ps.length - (i + 1)) := by show _ = _; rw [List.length_drop]
  have hof : f < 1000000 := by omega
  have hoo : o < 1000000 := by omega
  have hoz : ((o : Int) == 0) = false := by simp; omega
  have hfo : Hid (f + o ≤ t ∧ t < 1000000) := by show _ ∧ _; omega
  clear e1 e3 e4 e2 ho ft h0 hat
  generalize hn : ps.length = n at *
  have hilz : (i : Int) < (n : Int) := by omega
  have hil1 : (i : Int) + 1 ≤ (n : Int) := by omega
  clear hn
  have hwr : IntKind.i64.wrap ((i : Int) + 1) = (i : Int) + 1 := wrap_small (by omega) (by omega)
  go_enter Try.func28, Try.ntmps28
  go_wp2_with fail
  refine PC.mono ?_
  rintro e w1 ⟨rfl, q1⟩
  have d0 := q1.out.cell c0 (fun h => h)
  have d1 := q1.out.cell c1 (fun h => h)
  have d2 := q1.out.cell c2 (fun h => h)
  clear c0 c1 c2 PC
  go_wp2_with fail
  refine (zcut_any a f t o w1 hof hoo).mono ?_
  rintro e w2 ⟨rfl, q2⟩
  have Q2 : Hid (Qt w w2) := q1.out.comp q2.out
  clear d0 d1 d2 q1 q2
  go_wp2_with fail
  obtain ⟨W3, hW3⟩ : ∃ W3, W3 = ((w2.alloc (.cells #[.bool a, .int .i64 f, .int .i64 ((f : Int) + o)] 67)).alloc (.cells #[.bool a, .int .i64 ((f : Int) + o), .int .i64 t] 67)) := ⟨_, rfl⟩
  have BA : Hid (Below W3.heap.size W3 ((w2.alloc (.cells #[.bool a, .int .i64 f, .int .i64 ((f : Int) + o)] 67)).alloc (.cells #[.bool a, .int .i64 ((f : Int) + o), .int .i64 t] 67))) := by rw [← hW3]; exact Below.refl _ _
  have LE : Hid (W3.heap.size ≤ ((w2.alloc (.cells #[.bool a, .int .i64 f, .int .i64 ((f : Int) + o)] 67)).alloc (.cells #[.bool a, .int .i64 ((f : Int) + o), .int .i64 t] 67)).heap.size) := BA.out.size
  have q3 : Qt w2 W3 := by rw [hW3]; exact Qt.two _ _ _
  have Q3 : Hid (Qt w W3) := Q2.out.comp q3
  have SA : Hid (Ls W3 p1 (cellsP (ps.take i))) := L1.out.ls.qt Q3.out
  have NA : Hid (p1 = none → (ps.take i).length = 0 ∧ k1 = 0) := L1.out.none
  have SB : Hid (Ls W3 p2 (cellsP (ps.drop (i + 1)))) := L2.out.ls.qt Q3.out
  have NB : Hid (p2 = none → (ps.drop (i + 1)).length = 0 ∧ k2 = 0) := L2.out.none
  have lbL : w2.heap.size < W3.heap.size := by rw [hW3]; simp; omega
  have lbR : w2.heap.size + 1 < W3.heap.size := by rw [hW3]; simp
  have kk : ∀ j v, (#[.bool a, .int .i64 f, .int .i64 ((f : Int) + o)] : Array Value)[j]? = some v → W3.cell? ⟨w2.heap.size, j, none⟩ = some v := by
    intro j v hj; rw [hW3]; exact (Mv.alloc (fun _ => False) _ _).cell (alloc_new w2 _ 67 j v hj).1 (fun h => h)
  have rk : ∀ j v, (#[.bool a, .int .i64 ((f : Int) + o), .int .i64 t] : Array Value)[j]? = some v → W3.cell? ⟨w2.heap.size + 1, j, none⟩ = some v := by
    intro j v hj; rw [hW3]
    have := (alloc_new (w2.alloc (.cells #[.bool a, .int .i64 f, .int .i64 ((f : Int) + o)] 67)) _ 67 j v hj).1
    simp only [World.size_alloc] at this
    exact this
  have k0 : Hid _ := kk 0 _ rfl
  have k1' : Hid _ := kk 1 _ rfl
  have k2' : Hid _ := kk 2 _ rfl
  have r0 : Hid _ := rk 0 _ rfl
  have r1'' : Hid _ := rk 1 _ rfl
  have r2'' : Hid _ := rk 2 _ rfl
  clear kk rk hW3 q3
  go_region_held3 (fun w' => w'.cell? ⟨w2.heap.size, 0, none⟩ = some (.bool a) ∧ w'.cell? ⟨w2.heap.size, 1, none⟩ = some (.int .i64 f) ∧ w'.cell? ⟨w2.heap.size, 2, none⟩ = some (.int .i64 ((f : Int) + o))) (first | go_keep | exact ⟨(bel2.cell (p := ⟨w2.heap.size, 0, none⟩) lbL).trans k0.out, (bel2.cell (p := ⟨w2.heap.size, 1, none⟩) lbL).trans k1'.out, (bel2.cell (p := ⟨w2.heap.size, 2, none⟩) lbL).trans k2'.out⟩ | exact ⟨(bel1.cell (p := ⟨w2.heap.size, 0, none⟩) lbL).trans k0.out, (bel1.cell (p := ⟨w2.heap.size, 1, none⟩) lbL).trans k1'.out, (bel1.cell (p := ⟨w2.heap.size, 2, none⟩) lbL).trans k2'.out⟩)
    ((first
      | (refine step_append_pc (by rfl) (.tmp 33) (.tmp 36) (by rfl) W3.heap.size W3 (.slice none 0 0) [] p1 i k1 (ps.take i) (by rfl) (by rfl) N1.out.symm (ow_nil _ _ _ _) (SA.out.below (by first | exact BA.out.drew | exact (BA.out.alloc LE.out _).drew | exact BA.out | exact (BA.out.alloc LE.out _))) (by have := N1.out; simp only [List.length_nil]; omega) NA.out (by first | exact BA.out.drew | exact (BA.out.alloc LE.out _).drew | exact BA.out | exact (BA.out.alloc LE.out _)) (Nat.le_refl _) ?_; intro v1 W1 own1 gr1 bel1)
      | (refine step_append_pc (by rfl) (.tmp 37) (.tmp 39) (by rfl) W3.heap.size W3 v1 ([] ++ ps.take i) (some ⟨_, 0, none⟩) 1 1 [⟨a, f, f + o⟩] (by rfl) (by rfl) rfl (by first | exact own1 | exact (Mv.alloc (fun _ => False) _ _).owns own1 (fun _ _ h => h)) (by first | exact ls_one _ _ _ _ _ _ _ (by simp) rfl (by simp) | exact Ls.grown (ls_one_drew _ _ _ _ _ _ _ (by simp) rfl (by simp)) gr1 (by intro p hp; cases hp; simp [Value.ownBlock])) (by have := N1.out; simp only [List.nil_append, List.length_cons, List.length_nil]; omega) (fun h => by cases h) (by first | exact bel1 | exact bel1.alloc bel1.size _) (Nat.le_refl _) ?_; intro v2 W2 own2 gr2 bel2)))
  all_goals (clear own1 gr1 bel1 gr2)
  all_goals (have e0 := (bel2.cell (p := ⟨w2.heap.size + 1, 0, none⟩) lbR).trans r0.out)
  all_goals (have e1 := (bel2.cell (p := ⟨w2.heap.size + 1, 1, none⟩) lbR).trans r1''.out)
  all_goals (have e2 := (bel2.cell (p := ⟨w2.heap.size + 1, 2, none⟩) lbR).trans r2''.out)
  all_goals (have B0 : Below W2.heap.size W2 W2 := Below.refl _ _)
  all_goals (have lb2 : w2.heap.size + 1 < W2.heap.size := Nat.lt_of_lt_of_le lbR bel2.size)
  all_goals (have SB2 : Hid (Ls W2 p2 (cellsP (ps.drop (i + 1)))) := SB.out.below bel2)
  all_goals (have Q4 : Hid (Qt w W2) := Q3.out.comp ((Mv.of_below bel2).mono (fun j hj hh => by omega)))
  all_goals (have FIN2 : Hid (∀ W v, Below W2.heap.size W2 W → Op3 W W2.heap.size v ([] ++ [⟨a, f + o, t⟩] ++ ps.drop (i + 1)) → Told2 w W (some ⟨b, off, none⟩) (spl ps) at' n (.tuple #[v2, v])) := fun W v hb ho => FIN.out W v2 v (Q4.out.comp ((Mv.of_below hb).mono (fun j hj hh => by omega))) (ow_mono (base := W3.heap.size) (by
      have := (Mv.of_below hb).owns own2 (fun j hj hh => by have := (ow_blk own2 j hj).2; omega)
      exact this) (fun j hj => Nat.le_trans Q3.out.size (ow_blk own2 j hj).1)) (ow_mono ho (fun j hj => Nat.le_trans Q4.out.size (ow_blk ho j hj).1)))
  all_goals (clear own2 bel2 BA LE SA SB)
  all_goals (go_wp2_with fail)
  all_goals (go_region_held3 (fun w' => w'.cell? ⟨w2.heap.size + 1, 0, none⟩ = some (.bool a) ∧ w'.cell? ⟨w2.heap.size + 1, 1, none⟩ = some (.int .i64 ((f : Int) + o)) ∧ w'.cell? ⟨w2.heap.size + 1, 2, none⟩ = some (.int .i64 t)) (first | go_keep | exact ⟨(bel4.cell (p := ⟨w2.heap.size + 1, 0, none⟩) lb2).trans e0, (bel4.cell (p := ⟨w2.heap.size + 1, 1, none⟩) lb2).trans e1, (bel4.cell (p := ⟨w2.heap.size + 1, 2, none⟩) lb2).trans e2⟩ | exact ⟨(bel3.cell (p := ⟨w2.heap.size + 1, 0, none⟩) lb2).trans e0, (bel3.cell (p := ⟨w2.heap.size + 1, 1, none⟩) lb2).trans e1, (bel3.cell (p := ⟨w2.heap.size + 1, 2, none⟩) lb2).trans e2⟩)
    ((first
      | (refine step_append_pc (by rfl) (.tmp 41) (.tmp 43) (by rfl) W2.heap.size W2 (.slice none 0 0) [] (some ⟨_, 0, none⟩) 1 1 [⟨a, f + o, t⟩] (by rfl) (by rfl) rfl (ow_nil _ _ _ _) (by first | exact ls_one _ _ _ _ _ _ _ (by simp) (by simp) rfl | exact ls_one_drew _ _ _ _ _ _ _ (by simp) (by simp) rfl) (by simp) (fun h => by cases h) (by first | exact B0.drew | exact (B0.alloc (Nat.le_refl _) _).drew | exact B0 | exact (B0.alloc (Nat.le_refl _) _)) (Nat.le_refl _) ?_; intro v3 W5 own3 gr3 bel3)
      | (refine step_append_pc (by rfl) (.tmp 44) (.tmp 48) (by rfl) W2.heap.size W2 v3 ([] ++ [⟨a, f + o, t⟩]) p2 (n - (i + 1)) k2 (ps.drop (i + 1)) (by rfl) (by rfl) N2.out.symm own3 (SB2.out.below bel3) (by have := N2.out; simp only [List.nil_append, List.length_cons, List.length_nil]; omega) NB.out bel3 (Nat.le_refl _) ?_; intro v4 W6 own4 gr4 bel4))))
  all_goals (go_wp2_with fail)
  all_goals (go_ret2; exact ⟨_, rfl, FIN2.out _ _ bel4 own4⟩)

theorem split_any (sa : Option Addr) (sc : Nat) (ps : List Pc) (at' : Nat) (w : World) (h : Hid (zLi w sa sc ps)) (F : Hid (Fit ps)) (hl : ps.length < 40000) (hat : at' < 1000000) :
    Calls Try.prog 28 #[.slice sa ps.length sc, .int .i64 at'] w fun e w' => ∃ v, e = .returned v ∧ Hid (Told2 w w' sa (spl ps) at' ps.length v) := by
  by_cases h0 : (plc ps at').2 = 0
  · exact split_whole sa sc ps at' w h F hl hat h0
  · exact split_cut sa sc ps at' w h F hl hat h0
end Go.Proofs.Ytdhdkbaalgdicaa
