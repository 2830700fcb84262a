/- A file over pages: what it is. -/
import Derived.Test.YtjlnmkoggobbgaaN9
import Derived.Test.YtjlnmkoggobbgaaUB
import Derived.Test.YtjlnmkoggobbgaaQB
import Derived.Test.YtjlnmkoggobbgaaC7
namespace Go.Proofs.Ytjlnmkoggobbgaa
open Go.RowKit

/-- How long page i is. -/
def plen (d : Pd) (i : Nat) : Nat := min d.sz (d.n - i * d.sz)

theorem Pg.rds {w : World} {d : Pd} {ra : Option Addr} {rc k : Nat} {bad : Nat → Bool} {rd rd' : Nat → Int} (h : Pg w d ra rc bad k rd) (e : ∀ j, j < k → rd j = rd' j) : Pg w d ra rc bad k rd' :=
  ⟨h.b0, h.t0, h.tp, h.cs, h.c0, h.c1, h.c2, h.c3, h.z3, h.file, h.pages, h.pat, h.faulty, h.reads.congr (fun i hi => by unfold In; rw [e i hi]), h.dist, h.cnt, h.small⟩
/-- Others turn blocks ahead of it, or behind. -/
theorem Pg.mvo {w w' : World} {d : Pd} {ra : Option Addr} {rc k : Nat} {bad : Nat → Bool} {rd : Nat → Int} {S : Nat → Prop} (h : Pg w d ra rc bad k rd) (hm : Mv S w w') (hs : ∀ j, S j → (d.top ≤ j ∨ j < d.base) ∧ bk ra ≠ some j) : Pg w' d ra rc bad k rd := by
  obtain ⟨b1, b2, b3⟩ := h.b0
  obtain ⟨t1, t2, t3⟩ := h.t0
  have hno : ∀ j, d.base ≤ j → j < d.top → ¬ S j := fun j h1 h2 hS => by have := (hs j hS).1; omega
  refine ⟨h.b0, h.t0, Nat.le_trans h.tp hm.size, hm.cell h.cs (hno _ b1 t1), hm.cell h.c0 (hno _ b1 t1), hm.cell h.c1 (hno _ b1 t1), hm.cell h.c2 (hno _ b1 t1), hm.cell h.c3 (hno _ b1 t1), ?_, fun i hi => hm.cell (h.file i hi) (hno _ b2 t2), h.pages.mv hm ?_, h.pat, h.faulty.mv hm ?_, h.reads.mv hm ?_, h.dist, h.cnt, h.small⟩
  · rw [hm.frozen (p := ⟨d.bp, 4, none⟩) (World.block_lt_of_cell? w _ h.c3) (hno _ b1 t1)]; exact h.z3
  · intro j hj
    have h1 := (h.pages.blk j hj).1
    rw [own_blk] at hj
    exact hno j h1 (h.pat j hj).1
  · intro j hj
    cases hj
    exact hno _ b3 t3
  · intro j hj hS
    rw [own_blk] at hj
    exact (hs j hS).2 hj

/-- A page that is kept. -/
def Vp (w : World) (d : Pd) (ra : Option Addr) (X Y : Nat → Prop) (p : Kw) : Prop :=
  ∃ i g : Nat, p.1 = (i : Int) ∧ i < d.m ∧ p.2 0 = .slice (some ⟨g, 0, none⟩) (plen d i) (plen d i) ∧ d.top ≤ g ∧ bk ra ≠ some g ∧ X g ∧ ¬ Y g ∧ ∀ j, j < plen d i → w.cell? ⟨g, j, none⟩ = some (.int .u8 (d.f (i * d.sz + j)))

/-- A file at q: its pages, its cache at c, what it keeps away from (Y). -/
structure Fi (w : World) (q : Nat) (d : Pd) (mo : Int) (bad : Nat → Bool) (R : List Int) (Y : Nat → Prop) (c : Nat) (ra : Option Addr) (rc : Nat) (S : List Kw) (X : Nat → Prop) : Prop where
  fp : w.cell? ⟨q, 0, none⟩ = some (.pointer (some ⟨d.bp, 0, none⟩))
  fk : w.cell? ⟨q, 1, none⟩ = some (.pointer (some ⟨c, 0, none⟩))
  P : Pg w d ra rc bad R.length (lof R)
  C : Ch w c 2 mo S X
  xy : ∀ j, Y j → X j
  xt : ∀ j, j < d.top → X j
  xq : X q
  xr : ∀ j, bk ra = some j → X j
  xw : ∀ j, X j → j < w.heap.size
  yp : ∀ j, Y j → j ≠ d.bp ∧ j ≠ d.bl ∧ bk ra ≠ some j ∧ j ≠ q
  qn : d.top ≤ q ∧ bk ra ≠ some q
  len : (S.length : Int) ≤ max mo 1
  pg : ∀ p, p ∈ S → Vp w d ra X Y p

/-- .. as those see it who call it: which pages are kept (l), which were noted as read (R). -/
def Fs (w : World) (q : Nat) (d : Pd) (mo : Int) (l : List Int) (bad : Nat → Bool) (R : List Int) (Y : Nat → Prop) : Prop :=
  ∃ c ra rc S X, Fi w q d mo bad R Y c ra rc S X ∧ ks S = l

section
variable {w : World} {q : Nat} {d : Pd} {mo : Int} {l : List Int} {bad : Nat → Bool} {R : List Int} {Y : Nat → Prop}

theorem Fs.mono (h : Fs w q d mo l bad R Y) {Z : Nat → Prop} (hz : ∀ j, Z j → Y j) : Fs w q d mo l bad R Z := by
  obtain ⟨c, ra, rc, S, X, h, e⟩ := h
  refine ⟨c, ra, rc, S, X, ⟨h.fp, h.fk, h.P, h.C, fun j hj => h.xy j (hz j hj), h.xt, h.xq, h.xr, h.xw, fun j hj => h.yp j (hz j hj), h.qn, h.len, ?_⟩, e⟩
  intro p hp
  obtain ⟨i, g, h1, h2, h3, h4, h5, h6, h7, h8⟩ := h.pg p hp
  exact ⟨i, g, h1, h2, h3, h4, h5, h6, fun hg => h7 (hz g hg), h8⟩
theorem Fs.yw (h : Fs w q d mo l bad R Y) : ∀ j, Y j → j < w.heap.size := by
  obtain ⟨c, ra, rc, S, X, h, e⟩ := h
  exact fun j hj => h.xw j (h.xy j hj)

/-- Others turn what it keeps away from. -/
theorem Fs.mv {T : Nat → Prop} {w' : World} (h : Fs w q d mo l bad R Y) (hm : Mv T w w') (hT : ∀ j, T j → Y j ∧ (d.top ≤ j ∨ j < d.base)) : Fs w' q d mo l bad R (fun j => Y j ∨ (w.heap.size ≤ j ∧ j < w'.heap.size)) := by
  obtain ⟨c, ra, rc, S, X, h, e⟩ := h
  have hq : ¬ T q := fun hq => (h.yp q (hT q hq).1).2.2.2 rfl
  have hql : q < w.heap.size := World.block_lt_of_cell? _ _ h.fp
  have tp := h.P.tp
  obtain ⟨t1, t2, t3⟩ := h.P.t0
  refine ⟨c, ra, rc, S, fun j => X j ∨ (w.heap.size ≤ j ∧ j < w'.heap.size), ⟨hm.cell h.fp hq, hm.cell h.fk hq, h.P.mvo hm (fun j hj => ⟨(hT j hj).2, (h.yp j (hT j hj).1).2.2.1⟩), (h.C.mv hm (fun j hj => h.xy j (hT j hj).1)).mono (fun j hj => ?_), fun j hj => ?_, fun j hj => .inl (h.xt j hj), .inl h.xq, fun j hj => .inl (h.xr j hj), fun j hj => ?_, fun j hj => ?_, h.qn, h.len, ?_⟩, e⟩
  · rcases hj with hj | hj
    · exact .inl hj
    · exact .inr hj.1
  · rcases hj with hj | hj
    · exact .inl (h.xy j hj)
    · exact .inr hj
  · rcases hj with hj | hj
    · exact Nat.lt_of_lt_of_le (h.xw j hj) hm.size
    · exact hj.2
  · rcases hj with hj | hj
    · exact h.yp j hj
    · exact ⟨by omega, by omega, fun e => by have := (h.P.reads.blk j (by rw [own_blk]; exact e)).2; omega, by omega⟩
  · intro p hp
    obtain ⟨i, g, h1, h2, h3, h4, h5, h6, h7, h8⟩ := h.pg p hp
    refine ⟨i, g, h1, h2, h3, h4, h5, .inl h6, ?_, fun j hj => hm.cell (h8 j hj) (fun hg => h7 (hT g hg).1)⟩
    rintro (hg | hg)
    · exact h7 hg
    · have := h.xw g h6
      omega
theorem Fs.below {w' : World} (h : Fs w q d mo l bad R Y) (hb : Below w.heap.size w w') : Fs w' q d mo l bad R (fun j => Y j ∨ (w.heap.size ≤ j ∧ j < w'.heap.size)) := by
  have hm : Mv (fun _ => False) w w' := (Mv.of_below hb).mono (fun k hk e => by omega)
  exact h.mv hm (fun _ h => h.elim)

/-- A nodup list of small numbers is short. -/
theorem short_nodup : ∀ (m : Nat) (l : List Int), l.Nodup → (∀ x, x ∈ l → 0 ≤ x ∧ x < m) → l.length ≤ m
  | 0, l, _, h => by
    cases l with
    | nil => exact Nat.le_refl _
    | cons x r => have := h x List.mem_cons_self; omega
  | m + 1, l, hn, h => by
    have h2 := short_nodup m (l.erase (m : Int)) (hn.erase _) (fun x hx => by
      have h1 := (List.Nodup.mem_erase_iff hn).1 hx
      have := h x h1.2
      have h3 : x ≠ (m : Int) := h1.1
      omega)
    by_cases hm : (m : Int) ∈ l
    · rw [List.length_erase_of_mem hm] at h2; omega
    · rw [List.erase_of_not_mem hm] at h2; omega
theorem Fs.nodup (h : Fs w q d mo l bad R Y) : l.Nodup ∧ l.length ≤ d.m ∧ (l.length : Int) ≤ max mo 1 ∧ ∀ x, x ∈ l → ∃ i : Nat, x = i ∧ i < d.m := by
  obtain ⟨c, ra, rc, S, X, h, rfl⟩ := h
  have hn := h.C.nodup
  have hm : ∀ x, x ∈ ks S → ∃ i : Nat, x = i ∧ i < d.m := by
    intro x hx
    obtain ⟨p, hp, rfl⟩ := List.mem_map.1 hx
    obtain ⟨i, g, h1, h2, _⟩ := h.pg p hp
    exact ⟨i, h1, h2⟩
  refine ⟨hn, short_nodup d.m _ hn (fun x hx => ?_), by rw [ks_length]; exact h.len, hm⟩
  obtain ⟨i, rfl, hi⟩ := hm x hx
  omega
theorem Fs.small (h : Fs w q d mo l bad R Y) : d.n < 5000 ∧ 0 < d.sz ∧ d.sz ≤ 512 ∧ d.m ≤ d.n := by
  obtain ⟨c, ra, rc, S, X, h, rfl⟩ := h
  exact h.P.small
theorem Fs.cnt (h : Fs w q d mo l bad R Y) : ∀ i, i * d.sz < d.n ↔ i < d.m := by
  obtain ⟨c, ra, rc, S, X, h, rfl⟩ := h
  exact h.P.cnt
end
end Go.Proofs.Ytjlnmkoggobbgaa
