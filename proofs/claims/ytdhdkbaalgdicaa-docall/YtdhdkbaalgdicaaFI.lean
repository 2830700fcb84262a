/- FI: r6_F1 r6_F2 r6_F3 r6_F4 r6_F5 r6_F6 r6_F7 r6_F8 r6_F9 r6_G1 r6_G3 r6_H1 r6_H2. -/
import Derived.Test.YtdhdkbaalgdicaaPG
import Derived.Test.YtdhdkbaalgdicaaCA
/- A file over pages: what it is. -/
namespace Go.Proofs.Ytdhdkbaalgdicaa
open Go.RowKit

/-- How long page i is. -/
def plen (d : Pd) (i : Nat) : Nat := min d.sz (d.n - i * d.sz)

theorem Pg.rds {w : World} {d : Pd} {ra : Option Addr} {rc k : Nat} {bad : Nat → Bool} {rd rd' : Nat → Int} (h : Pg w d ra rc bad k rd) (e : ∀ j, j < k → rd j = rd' j) : Pg w d ra rc bad k rd' :=
  ⟨h.b0, h.t0, h.tp, h.cs, h.c0, h.c1, h.c2, h.c3, h.z3, h.file, h.pages, h.pat, h.faulty, h.reads.congr (fun i hi => by unfold In; rw [e i hi]), h.dist, h.cnt, h.small⟩
/-- Others turn blocks ahead of it, or behind. -/
theorem Pg.mvo {w w' : World} {d : Pd} {ra : Option Addr} {rc k : Nat} {bad : Nat → Bool} {rd : Nat → Int} {S : Nat → Prop} (h : Pg w d ra rc bad k rd) (hm : Mv S w w') (hs : ∀ j, S j → (d.top ≤ j ∨ j < d.base) ∧ bk ra ≠ some j) : Pg w' d ra rc bad k rd := by
  obtain ⟨b1, b2, b3⟩ := h.b0
  obtain ⟨t1, t2, t3⟩ := h.t0
  have hno : ∀ j, d.base ≤ j → j < d.top → ¬ S j := fun j h1 h2 hS => by have := (hs j hS).1; omega
  refine ⟨h.b0, h.t0, Nat.le_trans h.tp hm.size, hm.cell h.cs (hno _ b1 t1), hm.cell h.c0 (hno _ b1 t1), hm.cell h.c1 (hno _ b1 t1), hm.cell h.c2 (hno _ b1 t1), hm.cell h.c3 (hno _ b1 t1), ?_, fun i hi => hm.cell (h.file i hi) (hno _ b2 t2), h.pages.mv hm ?_, h.pat, h.faulty.mv hm ?_, h.reads.mv hm ?_, h.dist, h.cnt, h.small⟩
  · rw [hm.frozen (p := ⟨d.bp, 4, none⟩) (World.block_lt_of_cell? w _ h.c3) (hno _ b1 t1)]; exact h.z3
  · intro j hj
    have h1 := (h.pages.blk j hj).1
    rw [own_blk] at hj
    exact hno j h1 (h.pat j hj).1
  · intro j hj
    cases hj
    exact hno _ b3 t3
  · intro j hj hS
    rw [own_blk] at hj
    exact (hs j hS).2 hj

/-- A page that is kept. -/
def Vp (w : World) (d : Pd) (ra : Option Addr) (X Y : Nat → Prop) (p : Kw) : Prop :=
  ∃ i g : Nat, p.1 = (i : Int) ∧ i < d.m ∧ p.2 0 = .slice (some ⟨g, 0, none⟩) (plen d i) (plen d i) ∧ d.top ≤ g ∧ bk ra ≠ some g ∧ X g ∧ ¬ Y g ∧ ∀ j, j < plen d i → w.cell? ⟨g, j, none⟩ = some (.int .u8 (d.f (i * d.sz + j)))

/-- A file at q: its pages, its cache at c, what it keeps away from (Y). -/
structure Fi (w : World) (q : Nat) (d : Pd) (mo : Int) (bad : Nat → Bool) (R : List Int) (Y : Nat → Prop) (c : Nat) (ra : Option Addr) (rc : Nat) (S : List Kw) (X : Nat → Prop) : Prop where
  fp : w.cell? ⟨q, 0, none⟩ = some (.pointer (some ⟨d.bp, 0, none⟩))
  fk : w.cell? ⟨q, 1, none⟩ = some (.pointer (some ⟨c, 0, none⟩))
  P : Pg w d ra rc bad R.length (lof R)
  C : Ch w c 2 mo S X
  xy : ∀ j, Y j → X j
  xt : ∀ j, j < d.top → X j
  xq : X q
  xr : ∀ j, bk ra = some j → X j
  xw : ∀ j, X j → j < w.heap.size
  yp : ∀ j, Y j → j ≠ d.bp ∧ j ≠ d.bl ∧ bk ra ≠ some j ∧ j ≠ q
  qn : d.top ≤ q ∧ bk ra ≠ some q
  len : (S.length : Int) ≤ max mo 1
  pg : ∀ p, p ∈ S → Vp w d ra X Y p

/-- .. as those see it who call it: which pages are kept (l), which were noted as read (R). -/
def Fs (w : World) (q : Nat) (d : Pd) (mo : Int) (l : List Int) (bad : Nat → Bool) (R : List Int) (Y : Nat → Prop) : Prop :=
  ∃ c ra rc S X, Fi w q d mo bad R Y c ra rc S X ∧ ks S = l

section
variable {w : World} {q : Nat} {d : Pd} {mo : Int} {l : List Int} {bad : Nat → Bool} {R : List Int} {Y : Nat → Prop}

theorem Fs.mono (h : Fs w q d mo l bad R Y) {Z : Nat → Prop} (hz : ∀ j, Z j → Y j) : Fs w q d mo l bad R Z := by
  obtain ⟨c, ra, rc, S, X, h, e⟩ := h
  refine ⟨c, ra, rc, S, X, ⟨h.fp, h.fk, h.P, h.C, fun j hj => h.xy j (hz j hj), h.xt, h.xq, h.xr, h.xw, fun j hj => h.yp j (hz j hj), h.qn, h.len, ?_⟩, e⟩
  intro p hp
  obtain ⟨i, g, h1, h2, h3, h4, h5, h6, h7, h8⟩ := h.pg p hp
  exact ⟨i, g, h1, h2, h3, h4, h5, h6, fun hg => h7 (hz g hg), h8⟩
theorem Fs.yw (h : Fs w q d mo l bad R Y) : ∀ j, Y j → j < w.heap.size := by
  obtain ⟨c, ra, rc, S, X, h, e⟩ := h
  exact fun j hj => h.xw j (h.xy j hj)

/-- Others turn what it keeps away from. -/
theorem Fs.mv {T : Nat → Prop} {w' : World} (h : Fs w q d mo l bad R Y) (hm : Mv T w w') (hT : ∀ j, T j → Y j ∧ (d.top ≤ j ∨ j < d.base)) : Fs w' q d mo l bad R (fun j => Y j ∨ (w.heap.size ≤ j ∧ j < w'.heap.size)) := by
  obtain ⟨c, ra, rc, S, X, h, e⟩ := h
  have hq : ¬ T q := fun hq => (h.yp q (hT q hq).1).2.2.2 rfl
  have hql : q < w.heap.size := World.block_lt_of_cell? _ _ h.fp
  have tp := h.P.tp
  obtain ⟨t1, t2, t3⟩ := h.P.t0
  refine ⟨c, ra, rc, S, fun j => X j ∨ (w.heap.size ≤ j ∧ j < w'.heap.size), ⟨hm.cell h.fp hq, hm.cell h.fk hq, h.P.mvo hm (fun j hj => ⟨(hT j hj).2, (h.yp j (hT j hj).1).2.2.1⟩), (h.C.mv hm (fun j hj => h.xy j (hT j hj).1)).mono (fun j hj => ?_), fun j hj => ?_, fun j hj => .inl (h.xt j hj), .inl h.xq, fun j hj => .inl (h.xr j hj), fun j hj => ?_, fun j hj => ?_, h.qn, h.len, ?_⟩, e⟩
  · rcases hj with hj | hj
    · exact .inl hj
    · exact .inr hj.1
  · rcases hj with hj | hj
    · exact .inl (h.xy j hj)
    · exact .inr hj
  · rcases hj with hj | hj
    · exact Nat.lt_of_lt_of_le (h.xw j hj) hm.size
    · exact hj.2
  · rcases hj with hj | hj
    · exact h.yp j hj
    · exact ⟨by omega, by omega, fun e => by have := (h.P.reads.blk j (by rw [own_blk]; exact e)).2; omega, by omega⟩
  · intro p hp
    obtain ⟨i, g, h1, h2, h3, h4, h5, h6, h7, h8⟩ := h.pg p hp
    refine ⟨i, g, h1, h2, h3, h4, h5, .inl h6, ?_, fun j hj => hm.cell (h8 j hj) (fun hg => h7 (hT g hg).1)⟩
    rintro (hg | hg)
    · exact h7 hg
    · have := h.xw g h6
      omega
theorem Fs.below {w' : World} (h : Fs w q d mo l bad R Y) (hb : Below w.heap.size w w') : Fs w' q d mo l bad R (fun j => Y j ∨ (w.heap.size ≤ j ∧ j < w'.heap.size)) := by
  have hm : Mv (fun _ => False) w w' := (Mv.of_below hb).mono (fun k hk e => by omega)
  exact h.mv hm (fun _ h => h.elim)

/-- A nodup list of small numbers is short. -/
theorem short_nodup : ∀ (m : Nat) (l : List Int), l.Nodup → (∀ x, x ∈ l → 0 ≤ x ∧ x < m) → l.length ≤ m
  | 0, l, _, h => by
    cases l with
    | nil => exact Nat.le_refl _
    | cons x r => have := h x List.mem_cons_self; omega
  | m + 1, l, hn, h => by
    have h2 := short_nodup m (l.erase (m : Int)) (hn.erase _) (fun x hx => by
      have h1 := (List.Nodup.mem_erase_iff hn).1 hx
      have := h x h1.2
      have h3 : x ≠ (m : Int) := h1.1
      omega)
    by_cases hm : (m : Int) ∈ l
    · rw [List.length_erase_of_mem hm] at h2; omega
    · rw [List.erase_of_not_mem hm] at h2; omega
theorem Fs.nodup (h : Fs w q d mo l bad R Y) : l.Nodup ∧ l.length ≤ d.m ∧ (l.length : Int) ≤ max mo 1 ∧ ∀ x, x ∈ l → ∃ i : Nat, x = i ∧ i < d.m := by
  obtain ⟨c, ra, rc, S, X, h, rfl⟩ := h
  have hn := h.C.nodup
  have hm : ∀ x, x ∈ ks S → ∃ i : Nat, x = i ∧ i < d.m := by
    intro x hx
    obtain ⟨p, hp, rfl⟩ := List.mem_map.1 hx
    obtain ⟨i, g, h1, h2, _⟩ := h.pg p hp
    exact ⟨i, h1, h2⟩
  refine ⟨hn, short_nodup d.m _ hn (fun x hx => ?_), by rw [ks_length]; exact h.len, hm⟩
  obtain ⟨i, rfl, hi⟩ := hm x hx
  omega
theorem Fs.small (h : Fs w q d mo l bad R Y) : d.n < 5000 ∧ 0 < d.sz ∧ d.sz ≤ 512 ∧ d.m ≤ d.n := by
  obtain ⟨c, ra, rc, S, X, h, rfl⟩ := h
  exact h.P.small
theorem Fs.cnt (h : Fs w q d mo l bad R Y) : ∀ i, i * d.sz < d.n ↔ i < d.m := by
  obtain ⟨c, ra, rc, S, X, h, rfl⟩ := h
  exact h.P.cnt
end
end Go.Proofs.Ytdhdkbaalgdicaa

/- The small functions of a file. -/
namespace Go.Proofs.Ytdhdkbaalgdicaa
open Go.RowKit

theorem size_any (b : Nat) (sz : Int) (w : World) (hc : w.cell? ⟨b, 0, none⟩ = some (.int .i64 sz)) :
    Calls Try.prog 55 #[.pointer (some ⟨b, 0, none⟩)] w fun e w' => e = .returned (.int .i64 sz) ∧ w' = w := by
  go_enter Try.func55, Try.ntmps55
  go_wp2
  go_ret
  exact ⟨rfl, rfl⟩
theorem flen_nil (w : World) : Calls Try.prog 50 #[.pointer none] w fun e w' => e = .returned (.int .i64 0) ∧ w' = w := by
  go_enter Try.func50, Try.ntmps50
  go_wp2
  go_ret
  exact ⟨rfl, rfl⟩
theorem flen_nop (q : Nat) (w : World) (hc : w.cell? ⟨q, 0, none⟩ = some (.pointer none)) : Calls Try.prog 50 #[.pointer (some ⟨q, 0, none⟩)] w fun e w' => e = .returned (.int .i64 0) ∧ w' = w := by
  go_enter Try.func50, Try.ntmps50
  go_wp2_with fail
  refine (len_nil w).mono ?_
  rintro e w1 ⟨rfl, hw⟩
  obtain rfl := hw.symm
  clear hw
  go_wp2_with fail
  go_ret
  exact ⟨rfl, rfl⟩
theorem has_none (w : World) : Calls Try.prog 49 #[.pointer none] w fun e w' => e = .returned (.bool false) ∧ w' = w := by
  go_enter Try.func49, Try.ntmps49
  go_wp2
  go_ret
  exact ⟨rfl, rfl⟩
theorem has_nop (q : Nat) (w : World) (hc : w.cell? ⟨q, 0, none⟩ = some (.pointer none)) : Calls Try.prog 49 #[.pointer (some ⟨q, 0, none⟩)] w fun e w' => e = .returned (.bool false) ∧ w' = w := by
  go_enter Try.func49, Try.ntmps49
  go_wp2
  go_ret
  exact ⟨rfl, rfl⟩
theorem has_some (q b : Nat) (w : World) (hc : w.cell? ⟨q, 0, none⟩ = some (.pointer (some ⟨b, 0, none⟩))) : Calls Try.prog 49 #[.pointer (some ⟨q, 0, none⟩)] w fun e w' => e = .returned (.bool true) ∧ w' = w := by
  go_enter Try.func49, Try.ntmps49
  go_wp2
  go_ret
  exact ⟨rfl, rfl⟩

section
variable {w : World} {q : Nat} {d : Pd} {mo : Int} {l : List Int} {bad : Nat → Bool} {R : List Int} {Y : Nat → Prop}
theorem flen_any (h : Fs w q d mo l bad R Y) : Calls Try.prog 50 #[.pointer (some ⟨q, 0, none⟩)] w fun e w' => e = .returned (.int .i64 d.n) ∧ w' = w := by
  obtain ⟨c, ra, rc, S, X, h, rfl⟩ := h
  have hp := h.fp
  have L := len_any d.bp _ d.n d.n w h.P.c0
  clear h
  go_enter Try.func50, Try.ntmps50
  go_wp2_with fail
  refine L.mono ?_
  rintro e w1 ⟨rfl, hw⟩
  obtain rfl := hw.symm
  clear hw
  go_wp2_with fail
  go_ret
  exact ⟨rfl, rfl⟩
/-- The cache has gone on by itself. -/
theorem Fi.cache {c : Nat} {ra : Option Addr} {rc : Nat} {S S' : List Kw} {X : Nat → Prop} {w' : World} (h : Fi w q d mo bad R Y c ra rc S X) (hC : Ch w' c 2 mo S' X) (hm : Mv (fun j => ¬ X j) w w') (hlen : (S'.length : Int) ≤ max mo 1) (hpg : ∀ p, p ∈ S' → Vp w d ra X Y p) : Fi w' q d mo bad R Y c ra rc S' X := by
  refine ⟨hm.cell h.fp (fun e => e h.xq), hm.cell h.fk (fun e => e h.xq), h.P.mv hm (fun j hj => ?_), hC, h.xy, h.xt, h.xq, h.xr, fun j hj => Nat.lt_of_lt_of_le (h.xw j hj) hm.size, h.yp, h.qn, hlen, ?_⟩
  · refine ⟨?_, fun e => hj (h.xr j e)⟩
    rcases Nat.lt_or_ge j d.top with e | e
    · exact (hj (h.xt j e)).elim
    · exact e
  · intro p hp
    obtain ⟨i, g, h1, h2, h3, h4, h5, h6, h7, h8⟩ := hpg p hp
    exact ⟨i, g, h1, h2, h3, h4, h5, h6, h7, fun j hj => hm.cell (h8 j hj) (fun e => e h6)⟩
theorem Fi.away {c : Nat} {ra : Option Addr} {rc : Nat} {S : List Kw} {X : Nat → Prop} {w' : World} (h : Fi w q d mo bad R Y c ra rc S X) (hm : Mv (fun j => ¬ X j) w w') : Mv (fun j => ¬ Y j) w w' := hm.mono (fun j _ e hy => e (h.xy j hy))

end
end Go.Proofs.Ytdhdkbaalgdicaa

/- A file opened; a page of it. -/
namespace Go.Proofs.Ytdhdkbaalgdicaa
open Go.RowKit

theorem two_cells (w : World) (a b : Value) (t : TypeId) : (w.alloc (.cells #[a, b] t)).cell? ⟨w.heap.size, 0, none⟩ = some a ∧ (w.alloc (.cells #[a, b] t)).cell? ⟨w.heap.size, 1, none⟩ = some b :=
  ⟨(alloc_new w _ t 0 _ rfl).1, (alloc_new w _ t 1 _ rfl).1⟩

theorem fnew_any {w : World} {d : Pd} {ra : Option Addr} {rc : Nat} {bad : Nat → Bool} {R : List Int} {Y : Nat → Prop} (mo : Int) (h : Pg w d ra rc bad R.length (lof R)) (hY : ∀ j, Y j → j < w.heap.size ∧ j ≠ d.bp ∧ j ≠ d.bl ∧ bk ra ≠ some j) :
    Calls Try.prog 15 #[.pointer (some ⟨d.bp, 0, none⟩), .int .i64 mo] w fun e w' => e = .returned (.pointer (some ⟨w.heap.size + 1, 0, none⟩)) ∧ Hid (Fs w' (w.heap.size + 1) d mo [] bad R Y ∧ Below w.heap.size w w') := by
  have N := bnew mo w
  have e1 : (w.alloc (.cells #[.int .i64 mo, .map none, .pointer none, .pointer none] 95)).heap.size = w.heap.size + 1 := by simp
  have fin : Hid (Fs ((w.alloc (.cells #[.int .i64 mo, .map none, .pointer none, .pointer none] 95)).alloc (.cells #[.pointer (some ⟨d.bp, 0, none⟩), .pointer (some ⟨w.heap.size, 0, none⟩)] 78)) (w.heap.size + 1) d mo [] bad R Y ∧ Below w.heap.size w ((w.alloc (.cells #[.int .i64 mo, .map none, .pointer none, .pointer none] 95)).alloc (.cells #[.pointer (some ⟨d.bp, 0, none⟩), .pointer (some ⟨w.heap.size, 0, none⟩)] 78))) := by
    have C0 := Ch.new w 2 mo 95 (fun j => j < w.heap.size) (fun j h => h) (by omega)
    have A : Mv (fun _ => False) (w.alloc (.cells #[.int .i64 mo, .map none, .pointer none, .pointer none] 95)) ((w.alloc (.cells #[.int .i64 mo, .map none, .pointer none, .pointer none] 95)).alloc (.cells #[.pointer (some ⟨d.bp, 0, none⟩), .pointer (some ⟨w.heap.size, 0, none⟩)] 78)) := Mv.alloc _ _ _
    have C1 := C0.mv A (fun _ h => h.elim)
    rw [e1] at C1
    have T := two_cells (w.alloc (.cells #[.int .i64 mo, .map none, .pointer none, .pointer none] 95)) (.pointer (some ⟨d.bp, 0, none⟩)) (.pointer (some ⟨w.heap.size, 0, none⟩)) 78
    rw [e1] at T
    have A0 : Mv (fun _ => False) w (w.alloc (.cells #[.int .i64 mo, .map none, .pointer none, .pointer none] 95)) := Mv.alloc _ _ _
    have tp := h.tp
    refine ⟨⟨w.heap.size, ra, rc, [], fun j => j < w.heap.size ∨ j = w.heap.size + 1, ⟨T.1, T.2, (h.mv A0 (fun _ h => h.elim)).mv A (fun _ h => h.elim), C1.mono (fun j hj => ?_), fun j hj => .inl (hY j hj).1, fun j hj => .inl (by omega), .inr rfl, fun j hj => .inl (h.reads.blk j (by rw [own_blk]; exact hj)).2, fun j hj => ?_, fun j hj => ⟨(hY j hj).2.1, (hY j hj).2.2.1, (hY j hj).2.2.2, by have := (hY j hj).1; omega⟩, ⟨by omega, fun e => by have := (h.reads.blk _ (by rw [own_blk]; exact e)).2; omega⟩, by simp; omega, fun p hp => by cases hp⟩, rfl⟩, ?_⟩
    · rcases hj with hj | hj
      · exact .inl hj
      · exact .inr (by omega)
    · simp
      omega
    · exact ((Below.refl _ w).alloc (Nat.le_refl _) _).alloc (by simp) _
  clear h e1
  go_enter Try.func15, Try.ntmps15
  go_wp2_with fail
  refine N.mono ?_
  rintro e w1 ⟨rfl, hw⟩
  obtain rfl := hw.symm
  clear hw N
  go_wp2_with fail
  go_ret
  exact ⟨rfl, fin⟩

theorem fnew_nil (mo : Int) (w : World) : Calls Try.prog 15 #[.pointer none, .int .i64 mo] w fun e w' => ∃ q, e = .returned (.pointer (some ⟨q, 0, none⟩)) ∧ w'.cell? ⟨q, 0, none⟩ = some (.pointer none) ∧ Hid (Below w.heap.size w w') := by
  have N := bnew mo w
  go_enter Try.func15, Try.ntmps15
  go_wp2_with fail
  refine N.mono ?_
  rintro e w1 ⟨rfl, hw⟩
  obtain rfl := hw.symm
  clear hw N
  have T := two_cells (w.alloc (.cells #[.int .i64 mo, .map none, .pointer none, .pointer none] 95)) (.pointer none) (.pointer (some ⟨w.heap.size, 0, none⟩)) 78
  rw [show (w.alloc (.cells #[.int .i64 mo, .map none, .pointer none, .pointer none] 95)).heap.size = w.heap.size + 1 by simp] at T
  have T1 : Hid _ := T
  clear T
  go_wp2_with fail
  go_ret
  exact ⟨w.heap.size + 1, rfl, T1.out.1, ((Below.refl _ w).alloc (Nat.le_refl _) _).alloc (by simp) _⟩

def cap (mo : Int) : Nat := (max mo 1).toNat
theorem cap_eq (mo : Int) : (cap mo : Int) = max mo 1 := by unfold cap; omega

/-- What a page that is told leaves. -/
def Got (w w' : World) (q : Nat) (d : Pd) (mo : Int) (l : List Int) (bad : Nat → Bool) (R : List Int) (Y : Nat → Prop) (i g : Nat) : Prop :=
  Fs w' q d mo l bad R Y ∧ Mv (fun j => ¬ Y j) w w' ∧ (∀ j, j < plen d i → w'.cell? ⟨g, j, none⟩ = some (.int .u8 (d.f (i * d.sz + j)))) ∧ ¬ Y g ∧ g < w'.heap.size

section
variable {w : World} {q : Nat} {d : Pd} {mo : Int} {l : List Int} {bad : Nat → Bool} {R : List Int} {Y : Nat → Prop}

theorem fits_nat {i : Nat} (h : i < 5000) : fits (i : Int) := WalkArith.wf_i64 (by omega)
theorem fpage_hit (h : Fs w q d mo l bad R Y) {i : Nat} (hi : (i : Int) ∈ l) :
    Calls Try.prog 56 #[.pointer (some ⟨q, 0, none⟩), .int .i64 i] w fun e w' => ∃ g, e = .returned (.slice (some ⟨g, 0, none⟩) (plen d i) (plen d i)) ∧ Hid (Got w w' q d mo (step (cap mo) l i) bad R Y i g) := by
  have hN := h.nodup
  have hsm := h.small
  obtain ⟨c, ra, rc, S, X, h, rfl⟩ := h
  cases hf : sfnd S (i : Int) with
  | none => exact (sfnd_none_iff.1 hf hi).elim
  | some p =>
    obtain ⟨hp, hk⟩ := sfnd_key hf
    obtain ⟨i', g, h1, h2, h3, h4, h5, h6, h7, h8⟩ := h.pg p hp
    obtain rfl : i' = i := by omega
    have L := bget_some h.C (fits_nat (by omega)) hf
    rw [h3] at L
    have hc := h.fk
    have fin : ∀ w', Hid (Ch w' c 2 mo (p :: sdel S i') X ∧ Mv (fun j => ¬ X j) w w') → Hid (Got w w' q d mo (step (cap mo) (ks S) i') bad R Y i' g) := by
      intro w' hw
      have hl := sdel_length h.C.nodup hf
      have hle := h.len
      refine ⟨⟨c, ra, rc, p :: sdel S i', X, h.cache hw.out.1 hw.out.2 ?_ ?_, ?_⟩, h.away hw.out.2, fun j hj => hw.out.2.cell (h8 j hj) (fun e => e h6), h7, Nat.lt_of_lt_of_le (h.xw g h6) hw.out.2.size⟩
      · rw [List.length_cons]; omega
      · intro p' hp'
        rcases List.mem_cons.1 hp' with rfl | hp'
        · exact h.pg _ hp
        · exact h.pg _ (List.mem_filter.1 hp').1
      · unfold step
        show p.1 :: ks (sdel S i') = _
        rw [ks_sdel, hk, List.take_of_length_le]
        have e1 := cap_eq mo
        rw [List.length_cons, ← ks_sdel, ks_length]
        omega
    clear h hf hN hsm hi h8 h7 h6 h5 h4
    generalize plen d i' = n at L ⊢
    go_enter Try.func56, Try.ntmps56
    go_wp2_with fail
    refine L.mono ?_
    rintro e w1 ⟨rfl, C⟩
    clear L
    go_wp2_with fail
    go_ret
    exact ⟨g, rfl, fin w1 C⟩
end
end Go.Proofs.Ytdhdkbaalgdicaa

/- A page that is read. -/
namespace Go.Proofs.Ytdhdkbaalgdicaa
open Go.RowKit

theorem app_lof (R : List Int) (x : Int) (j : Nat) (hj : j < R.length + 1) : app (lof R) R.length x j = lof (R ++ [x]) j := by
  unfold app lof
  by_cases h : j < R.length
  · rw [if_pos h, List.getElem?_append_left h]
  · obtain rfl : j = R.length := by omega
    rw [if_neg h, List.getElem?_append_right (Nat.le_refl _), Nat.sub_self]; rfl

theorem pS_mem {mo : Int} {S : List Kw} {k : Int} {v : Nat → Value} {p : Kw} (h : p ∈ pS mo S k v) : p = (k, v) ∨ p ∈ S := by
  unfold pS at h
  have h2 : p ∈ (k, v) :: sdel S k := by
    split at h
    · exact h
    · exact List.dropLast_subset _ h
  rcases List.mem_cons.1 h2 with h | h
  · exact .inl h
  · exact .inr (List.mem_filter.1 h).1

def fchain : List PanicEntry := [{ v := .iface 27 (.int .i64 11), recovered := false }]

section
variable {w : World} {q : Nat} {d : Pd} {mo : Int} {l : List Int} {bad : Nat → Bool} {R : List Int} {Y : Nat → Prop}

theorem Fi.read {c : Nat} {ra ra' : Option Addr} {rc rc' : Nat} {S : List Kw} {X : Nat → Prop} {w1 : World} {i : Nat} (h : Fi w q d mo bad R Y c ra rc S X) (P : Pg w1 d ra' rc' bad (R.length + 1) (app (lof R) R.length i)) (K : bk ra' = bk ra ∨ ∃ g, bk ra' = some g ∧ w.heap.size ≤ g) (M : Mv (fun j => j = d.bp ∨ bk ra = some j) w w1) :
    Fi w1 q d mo bad (R ++ [(i : Int)]) Y c ra' rc' S (fun j => X j ∨ (w.heap.size ≤ j ∧ j < w1.heap.size)) ∧ Mv (fun j => ¬ Y j) w w1 := by
  obtain ⟨t1, t2, t3⟩ := h.P.t0
  have hq := h.qn
  have hnew : ∀ j, j < w.heap.size → bk ra ≠ some j → bk ra' ≠ some j := by
    intro j hj hr e
    rcases K with K | ⟨g, k1, k2⟩
    · exact hr (K ▸ e)
    · rw [k1] at e
      have := Option.some.inj e
      omega
  have hqs : ¬ (q = d.bp ∨ bk ra = some q) := by
    rintro (e | e)
    · omega
    · exact hq.2 e
  have hql : q < w.heap.size := World.block_lt_of_cell? _ _ h.fp
  refine ⟨⟨M.cell h.fp hqs, M.cell h.fk hqs, ?_, (h.C.mv M (fun j hj => ?_)).mono (fun j hj => ?_), fun j hj => .inl (h.xy j hj), fun j hj => .inl (h.xt j hj), .inl h.xq, fun j hj => ?_, fun j hj => ?_, fun j hj => ?_, ⟨hq.1, hnew q hql hq.2⟩, h.len, fun p hp => ?_⟩, M.mono (fun j _ hj hy => ?_)⟩
  · rw [List.length_append]
    exact P.rds (fun j hj => app_lof R i j hj)
  · rcases hj with e | e
    · rw [e]; exact h.xt _ t1
    · exact h.xr j e
  · rcases hj with hj | hj
    · exact .inl hj
    · exact .inr hj.1
  · rcases K with K | ⟨g, k1, k2⟩
    · exact .inl (h.xr j (K ▸ hj))
    · have e := k1 ▸ hj
      have e2 := Option.some.inj e
      exact .inr ⟨by omega, (P.reads.blk j (by rw [own_blk]; exact hj)).2⟩
  · rcases hj with hj | hj
    · exact Nat.lt_of_lt_of_le (h.xw j hj) M.size
    · exact hj.2
  · have y := h.yp j hj
    exact ⟨y.1, y.2.1, hnew j (h.xw j (h.xy j hj)) y.2.2.1, y.2.2.2⟩
  · obtain ⟨i, g, h1, h2, h3, h4, h5, h6, h7, h8⟩ := h.pg p hp
    refine ⟨i, g, h1, h2, h3, h4, hnew g (h.xw g h6) h5, .inl h6, h7, fun j hj => M.cell (h8 j hj) ?_⟩
    rintro (e | e)
    · have e' : g = d.bp := e
      omega
    · exact h5 e
  · have y := h.yp j hy
    rcases hj with e | e
    · exact y.1 e
    · exact y.2.2.1 e

set_option maxHeartbeats 1000000 in
theorem fpage_bad (h : Fs w q d mo l bad R Y) {i : Nat} (hi : (i : Int) ∉ l) (him : i < d.m) (hb : bad i = true) (hR : R.length < 50000) :
    Calls Try.prog 56 #[.pointer (some ⟨q, 0, none⟩), .int .i64 i] w fun e w' => e = .panicked fchain ∧ Hid (Fs w' q d mo l bad (R ++ [(i : Int)]) Y ∧ Mv (fun j => ¬ Y j) w w') := by
  have hsm := h.small
  obtain ⟨c, ra, rc, S, X, h, rfl⟩ := h
  have L := bget_none h.C (fits_nat (by omega)) (sfnd_none_iff.2 hi)
  have RB := read_bad d i ra rc R.length bad (lof R) w h.P hR him hb
  have hc := h.fk
  have hp := h.fp
  have fin : ∀ w', WasRead w w' d ra bad R.length (lof R) i → Hid (Fs w' q d mo (ks S) bad (R ++ [(i : Int)]) Y ∧ Mv (fun j => ¬ Y j) w w') := by
    rintro w' ⟨ra', rc', P, K, M⟩
    have := h.read P.out K.out M.out
    exact ⟨⟨c, ra', rc', S, _, this.1, rfl⟩, this.2⟩
  clear h hsm hi him hb hR
  go_enter Try.func56, Try.ntmps56
  go_wp2_with fail
  refine L.mono ?_
  rintro e w1 ⟨rfl, hw⟩
  obtain rfl := hw.symm
  clear hw L
  go_wp2_with fail
  refine RB.mono ?_
  rintro e w2 ⟨rfl, H⟩
  clear RB
  go_wp2_with fail
  exact ⟨rfl, rfl, fin w2 H⟩

set_option maxHeartbeats 1000000 in
theorem fpage_miss (h : Fs w q d mo l bad R Y) {i : Nat} (hi : (i : Int) ∉ l) (him : i < d.m) (hb : bad i = false) (hR : R.length < 50000) :
    Calls Try.prog 56 #[.pointer (some ⟨q, 0, none⟩), .int .i64 i] w fun e w' => ∃ g, e = .returned (.slice (some ⟨g, 0, none⟩) (plen d i) (plen d i)) ∧ Hid (Got w w' q d mo (step (cap mo) l i) bad (R ++ [(i : Int)]) Y i g) := by
  have hsm := h.small
  have hN := h.nodup
  obtain ⟨c, ra, rc, S, X, h, rfl⟩ := h
  have hf := sfnd_none_iff.2 hi
  have hfi := fits_nat (i := i) (by omega)
  have L := bget_none h.C hfi hf
  have RO := read_ok d i ra rc R.length bad (lof R) w h.P hR him hb
  have hc := h.fk
  have hp := h.fp
  have hlen := h.len
  rw [ks_length] at hN
  have fin : ∀ w1 g, WasTold w w1 d ra bad R.length (lof R) i g (min d.sz (d.n - i * d.sz)) → w1.cell? ⟨q, 1, none⟩ = some (.pointer (some ⟨c, 0, none⟩)) ∧
      Calls Try.prog 59 #[.pointer (some ⟨c, 0, none⟩), .int .i64 i, .slice (some ⟨g, 0, none⟩) (min d.sz (d.n - i * d.sz)) (min d.sz (d.n - i * d.sz))] w1 fun e w2 => ∃ a b, e = .returned (.tuple #[.int .i64 a, .bool b]) ∧ Hid (Got w w2 q d mo (step (cap mo) (ks S) i) bad (R ++ [(i : Int)]) Y i g) := by
    rintro w1 g ⟨ra', rc', P, K, M, N, O⟩
    obtain ⟨F, MY⟩ := h.read P.out K.out M.out
    refine ⟨F.fk, ?_⟩
    refine (bput F.C hfi F.xw (by omega) F.len (some ⟨g, 0, none⟩) _ _).mono ?_
    rintro e w2 ⟨rfl, C⟩
    refine ⟨_, _, rfl, ?_⟩
    have hg := O.out.blk g rfl
    have hO : ∀ j, j < plen d i → w1.cell? ⟨g, j, none⟩ = some (.int .u8 (d.f (i * d.sz + j))) := fun j hj => (O.out.at hj).1
    have hYg : ¬ Y g := fun hy => by have := h.xw g (h.xy g hy); omega
    have hXg : X g ∨ (w.heap.size ≤ g ∧ g < w1.heap.size) := .inr hg
    have F2 := F.cache C.out.1 C.out.2 (pS_length F.C.nodup F.len _).1 (fun p hp => by
      rcases pS_mem hp with rfl | hp
      · exact ⟨i, g, rfl, him, rfl, by have := h.P.tp; omega, N.out, hXg, hYg, hO⟩
      · exact F.pg p hp)
    refine ⟨⟨c, ra', rc', _, _, F2, ?_⟩, MY.trans (F.away C.out.2) (fun _ _ h => h), fun j hj => C.out.2.cell (hO j hj) (fun e => e hXg), hYg, Nat.lt_of_lt_of_le hg.2 C.out.2.size⟩
    exact ks_pS F.C.nodup (cap_eq mo) (by have := cap_eq mo; omega) _ _
  have hpl : plen d i = min d.sz (d.n - i * d.sz) := rfl
  rw [hpl]
  clear h hsm hi him hb hR hf hfi hN hlen hpl
  generalize min d.sz (d.n - i * d.sz) = n at RO fin ⊢
  go_enter Try.func56, Try.ntmps56
  go_wp2_with fail
  refine L.mono ?_
  rintro e w1 ⟨rfl, hw⟩
  obtain rfl := hw.symm
  clear hw L
  go_wp2_with fail
  refine RO.mono ?_
  rintro e w2 ⟨g, rfl, H⟩
  clear RO
  obtain ⟨hk2, PP⟩ := fin w2 g H
  clear fin
  go_wp2_with fail
  refine PP.mono ?_
  rintro e w3 ⟨a, b, rfl, G⟩
  clear PP
  go_wp2_with fail
  go_ret
  exact ⟨g, rfl, G⟩
end
end Go.Proofs.Ytdhdkbaalgdicaa

/- A window, page by page. -/
namespace Go.Proofs.Ytdhdkbaalgdicaa
open Go.RowKit

/-- Which pages are kept behind t of them, from i0 on; which were read. -/
def rk (N : Nat) (l : List Int) (i0 : Nat) : Nat → List Int
  | 0 => l
  | t + 1 => step N (rk N l i0 t) ((i0 + t : Nat) : Int)
def rr (N : Nat) (l : List Int) (i0 : Nat) : Nat → List Int
  | 0 => []
  | t + 1 => if ((i0 + t : Nat) : Int) ∈ rk N l i0 t then rr N l i0 t else rr N l i0 t ++ [((i0 + t : Nat) : Int)]
def fails (N : Nat) (l : List Int) (i0 : Nat) (bad : Nat → Bool) (t : Nat) : Prop := ((i0 + t : Nat) : Int) ∉ rk N l i0 t ∧ bad (i0 + t) = true
theorem rr_le (N : Nat) (l : List Int) (i0 : Nat) : ∀ t, (rr N l i0 t).length ≤ t
  | 0 => Nat.le_refl _
  | t + 1 => by
    have := rr_le N l i0 t
    unfold rr
    split
    · omega
    · rw [List.length_append, List.length_singleton]; omega
theorem first_fail (N : Nat) (l : List Int) (i0 : Nat) (bad : Nat → Bool) : ∀ n, (∀ s, s < n → ¬ fails N l i0 bad s) ∨ ∃ t, t < n ∧ fails N l i0 bad t ∧ ∀ s, s < t → ¬ fails N l i0 bad s
  | 0 => .inl (fun s h => by omega)
  | n + 1 => by
    rcases first_fail N l i0 bad n with h | ⟨t, h1, h2, h3⟩
    · by_cases hf : fails N l i0 bad n
      · exact .inr ⟨n, by omega, hf, h⟩
      · refine .inl (fun s hs => ?_)
        by_cases e : s = n
        · rw [e]; exact hf
        · exact h s (by omega)
    · exact .inr ⟨t, by omega, h2, h3⟩

/-- How many bytes there are behind so many pages. -/
def wl (a b sz i : Nat) : Nat := min b (i * sz) - a

/-- What the window is behind t pages. -/
structure Wi (w0 wr : World) (q : Nat) (d : Pd) (mo : Int) (l : List Int) (bad : Nat → Bool) (R : List Int) (Y : Nat → Prop) (a b i0 t : Nat) (xa : Option Addr) (xn xc : Nat) : Prop where
  F : Fs wr q d mo (rk (cap mo) l i0 t) bad (R ++ rr (cap mo) l i0 t) (fun j => Y j ∨ bk xa = some j)
  O : Own wr w0.heap.size 5 (.slice xa xn xc) xn (By fun j => d.f (a + j))
  n : xn = wl a b d.sz (i0 + t)
  M : Mv (fun j => ¬ Y j) w0 wr
  top : d.top ≤ w0.heap.size

theorem made0b (w : World) (n : Nat) (hn : n < 90000) (f : Nat → Int) : ∃ W, (Instr.makeSlice 22 (.int .i64 0) (.int .i64 n)).run Try.prog w = .ok (.slice (some ⟨w.heap.size, 0, none⟩) 0 n) W ∧
    Own W w.heap.size 5 (.slice (some ⟨w.heap.size, 0, none⟩) 0 n) 0 (By f) ∧ Below w.heap.size w W := by
  obtain ⟨W, hr, ho, hg⟩ := run_make_own (P := Try.prog) w w.heap.size 22 5 Try.t5 (.int .u8 0) 1 Try.underlying22 info5 (by kernel_rfl) (by kernel_rfl) .i64 .i64 n (by show 1 * n ≤ _; omega) (by simp only [maxLen]; omega) (Nat.le_refl _)
  exact ⟨W, hr, ho, (Mv.of_grown hg).below (Nat.le_refl _) (fun _ _ e => by cases e)⟩

section
variable {w0 wr : World} {q : Nat} {d : Pd} {mo : Int} {l : List Int} {bad : Nat → Bool} {R : List Int} {Y : Nat → Prop} {a b i0 t : Nat} {xa : Option Addr} {xn xc : Nat}

/-- One page more. -/
theorem Wi.app (h : Wi w0 wr q d mo l bad R Y a b i0 t xa xn xc) {w2 : World} {g lo m : Nat} (G : Got wr w2 q d mo (rk (cap mo) l i0 (t + 1)) bad (R ++ rr (cap mo) l i0 (t + 1)) (fun j => Y j ∨ bk xa = some j) (i0 + t) g)
    (hm : lo + m ≤ plen d (i0 + t)) (hn : xn + m = wl a b d.sz (i0 + t + 1)) (hc : ∀ j, j < m → a + (xn + j) = (i0 + t) * d.sz + (lo + j)) (hs : xn + m < 50000) (cp : Nat) :
    ∃ xa' xc' W, (Builtin.append_ #[22, 22] 22 #[.slice xa xn xc, .slice (some ⟨g, lo, none⟩) m cp]).run Try.prog w2 = .ok (.slice xa' (xn + m) xc') W ∧ Wi w0 W q d mo l bad R Y a b i0 (t + 1) xa' (xn + m) xc' := by
  obtain ⟨F, MY, cells, hYg, hgl⟩ := G
  have O2 := h.O.mv MY (fun k hk e => e (.inr (by rw [own_blk] at hk; exact hk)))
  have S2 : Sl w2 (some ⟨g, lo, none⟩) m (By fun j => d.f ((i0 + t) * d.sz + (lo + j))) := by
    intro j hj
    exact ⟨g, lo, rfl, hgl, cells (lo + j) (by omega)⟩
  have hsz := h.M.size
  obtain ⟨v', W, hr, ho, hg, hf⟩ := append_own 22 22 5 Try.t5 (.int .u8 0) 1 Try.underlying22 info5 (by kernel_rfl) (by kernel_rfl) (by kernel_rfl) rfl (by omega) w2 w0.heap.size _ xn m cp _ _ (some ⟨g, lo, none⟩) O2 S2 (fun _ => rfl) (by omega) (fun h => by cases h) (Nat.le_trans hsz MY.size)
  obtain ⟨xa', xc', rfl, _⟩ := ho.sl
  rw [own_blk, own_blk] at hf
  have hM := Mv.of_grown hg
  rw [own_blk] at hM
  have hx : ∀ j, bk xa = some j → w0.heap.size ≤ j ∧ j < wr.heap.size := fun j hj => h.O.blk j (by rw [own_blk]; exact hj)
  have hx' : ∀ j, bk xa' = some j → w0.heap.size ≤ j ∧ j < W.heap.size := fun j hj => ho.blk j (by rw [own_blk]; exact hj)
  have tp := h.top
  refine ⟨xa', xc', W, hr, ⟨(F.mv hM (fun j hj => ⟨.inr hj, .inl (by have := hx j hj; omega)⟩)).mono (fun j hj => ?_), ho.congr (fun j hj => ?_), hn, ?_, tp⟩⟩
  · rcases hj with hj | hj
    · exact .inl (.inl hj)
    · rcases hf with hf | ⟨k, h1, h2⟩
      · exact .inl (.inr (hf ▸ hj))
      · rw [h1] at hj
        have e := Option.some.inj hj
        exact .inr ⟨by omega, (hx' j (by rw [h1, e])).2⟩
  · unfold cat By
    split
    · rfl
    · have := hc (j - xn) (by omega)
      dsimp only
      rw [← this, show xn + (j - xn) = j by omega]
  · refine (h.M.trans MY (fun j _ e hy => e (.inl hy))).trans hM (fun j hj e => ?_)
    have := hx j e
    omega

theorem rk_hit (h : ((i0 + t : Nat) : Int) ∈ rk (cap mo) l i0 t) : rr (cap mo) l i0 (t + 1) = rr (cap mo) l i0 t := by
  show (if _ then _ else _) = _
  rw [if_pos h]
theorem rk_miss (h : ((i0 + t : Nat) : Int) ∉ rk (cap mo) l i0 t) : rr (cap mo) l i0 (t + 1) = rr (cap mo) l i0 t ++ [((i0 + t : Nat) : Int)] := by
  show (if _ then _ else _) = _
  rw [if_neg h]

/-- A page of the window, whichever way. -/
theorem Wi.page (h : Wi w0 wr q d mo l bad R Y a b i0 t xa xn xc) (hf : ¬ fails (cap mo) l i0 bad t) (him : i0 + t < d.m) (hR : R.length + t < 50000) :
    Calls Try.prog 56 #[.pointer (some ⟨q, 0, none⟩), .int .i64 ((i0 + t : Nat) : Int)] wr fun e w' => ∃ g, e = .returned (.slice (some ⟨g, 0, none⟩) (plen d (i0 + t)) (plen d (i0 + t))) ∧
      Hid (Got wr w' q d mo (rk (cap mo) l i0 (t + 1)) bad (R ++ rr (cap mo) l i0 (t + 1)) (fun j => Y j ∨ bk xa = some j) (i0 + t) g) := by
  by_cases hi : ((i0 + t : Nat) : Int) ∈ rk (cap mo) l i0 t
  · rw [rk_hit hi]
    exact fpage_hit h.F hi
  · rw [rk_miss hi, ← List.append_assoc]
    have hb : bad (i0 + t) = false := by
      cases e : bad (i0 + t) with
      | false => rfl
      | true => exact (hf ⟨hi, e⟩).elim
    exact fpage_miss h.F hi him hb (by rw [List.length_append]; have := rr_le (cap mo) l i0 t; omega)
theorem Wi.page_bad (h : Wi w0 wr q d mo l bad R Y a b i0 t xa xn xc) (hf : fails (cap mo) l i0 bad t) (him : i0 + t < d.m) (hR : R.length + t < 50000) :
    Calls Try.prog 56 #[.pointer (some ⟨q, 0, none⟩), .int .i64 ((i0 + t : Nat) : Int)] wr fun e w' => e = .panicked fchain ∧ Hid (Fs w' q d mo (rk (cap mo) l i0 t) bad (R ++ rr (cap mo) l i0 (t + 1)) Y ∧ Mv (fun j => ¬ Y j) w0 w') := by
  rw [rk_miss hf.1, ← List.append_assoc]
  refine (fpage_bad h.F hf.1 him hf.2 (by rw [List.length_append]; have := rr_le (cap mo) l i0 t; omega)).mono ?_
  rintro e w' ⟨rfl, H⟩
  exact ⟨rfl, H.out.1.mono (fun j hj => .inl hj), h.M.trans H.out.2 (fun j _ e hy => e (.inl hy))⟩

theorem Wi.start {W : World} {c : Nat} (h : Fs w0 q d mo l bad R Y) (O : Own W w0.heap.size 5 (.slice (some ⟨w0.heap.size, 0, none⟩) 0 c) 0 (By fun j => d.f (a + j))) (B : Below w0.heap.size w0 W) (hi : i0 * d.sz ≤ a) : Wi w0 W q d mo l bad R Y a b i0 0 (some ⟨w0.heap.size, 0, none⟩) 0 c := by
  have hl := (O.blk _ rfl).2
  have tp : d.top ≤ w0.heap.size := by
    obtain ⟨c, ra, rc, S, X, h, e⟩ := h
    exact h.P.tp
  refine ⟨?_, O, ?_, (Mv.of_below B).mono (fun j hj e => by omega), tp⟩
  · show Fs W q d mo l bad (R ++ []) _
    rw [List.append_nil]
    refine (h.below B).mono (fun j hj => ?_)
    rcases hj with hj | hj
    · exact .inl hj
    · have e : w0.heap.size = j := Option.some.inj hj
      have hl' : w0.heap.size < W.heap.size := hl
      exact .inr (by omega)
  · unfold wl
    rw [Nat.add_zero]
    omega
end
end Go.Proofs.Ytdhdkbaalgdicaa

/- A window. -/
namespace Go.Proofs.Ytdhdkbaalgdicaa
open Go.RowKit

section
variable {w : World} {q : Nat} {d : Pd} {mo : Int} {l : List Int} {bad : Nat → Bool} {R : List Int} {Y : Nat → Prop}

set_option maxHeartbeats 1000000 in
theorem window_none (a : Int) (w : World) (q : Nat) : Calls Try.prog 53 #[.pointer (some ⟨q, 0, none⟩), .int .i64 a, .int .i64 a] w fun e w' => e = .returned (.slice none 0 0) ∧ w' = w := by
  go_enter Try.func53, Try.ntmps53
  go_wp2_with fail
  go_ret
  exact ⟨rfl, rfl⟩

/-- What the walk wants of numbers. -/
theorem win_step {n sz a b i s m xn lo hh : Nat} (hs : s = i * sz) (hm : m = min sz (n - s)) (hx : xn = min b (i * sz) - a) (hsb : s < b) (hbn : b ≤ n) (hab : a < b) (hlo : lo = a - s) (hhh : hh = min (b - s) sz) (has : a < s + sz) (hz : 0 < sz) :
    lo + (hh - lo) ≤ m ∧ xn + (hh - lo) = min b ((i + 1) * sz) - a ∧ (∀ j, j < hh - lo → a + (xn + j) = i * sz + (lo + j)) ∧ lo < hh ∧ hh ≤ m ∧ hh ≤ sz := by
  rw [Nat.succ_mul]
  rw [← hs] at *
  refine ⟨by omega, by omega, fun j hj => by omega, by omega, by omega, by omega⟩
theorem win_low {a sz i0 i : Nat} (hz : 0 < sz) (h : i0 = a / sz) (hi : i0 ≤ i) : a < i * sz + sz := by
  have h1 := Nat.div_add_mod a sz
  have h2 := Nat.mod_lt a hz
  rw [← h, Nat.mul_comm] at h1
  have h3 := Nat.mul_le_mul_right sz hi
  omega

theorem wrap64_small {x : Int} (h1 : -9000000000000000000 ≤ x) (h2 : x ≤ 9000000000000000000) : wrap64 x = x := by
  simp [wrap64]
  omega

set_option maxHeartbeats 4000000 in
set_option maxRecDepth 20000 in
theorem window_ok (h : Fs w q d mo l bad R Y) (a b i0 T : Nat) (hab : a < b) (hb : b ≤ d.n) (hi0 : Hid (i0 = a / d.sz)) (hT : Hid ((∀ s, s < T → (i0 + s) * d.sz < b) ∧ b ≤ (i0 + T) * d.sz)) (hR : R.length < 20000) (hf : Hid (∀ s, s < T → ¬ fails (cap mo) l i0 bad s)) :
    Calls Try.prog 53 #[.pointer (some ⟨q, 0, none⟩), .int .i64 a, .int .i64 b] w fun e w' => ∃ xa xc, e = .returned (.slice xa (b - a) xc) ∧ Hid (Wi w w' q d mo l bad R Y a b i0 T xa (b - a) xc) := by
  have hsm := h.small
  have hcnt : Hid _ := h.cnt
  obtain ⟨sz, hsz⟩ : ∃ sz, sz = d.sz := ⟨_, rfl⟩
  obtain ⟨W, hmk, hO, hB⟩ := made0b w (b - a) (by omega) (fun j => d.f (a + j))
  have W0 : Hid (Wi w W q d mo l bad R Y a b i0 0 (some ⟨w.heap.size, 0, none⟩) 0 (b - a)) := Wi.start h hO hB (by rw [hi0.out]; exact Nat.div_mul_le_self _ _)
  obtain ⟨hfp, hbpl, hcs, hql⟩ : w.cell? ⟨q, 0, none⟩ = some (.pointer (some ⟨d.bp, 0, none⟩)) ∧ d.bp < w.heap.size ∧ w.cell? ⟨d.bp, 0, none⟩ = some (.int .i64 sz) ∧ q < w.heap.size := by
    obtain ⟨c, ra, rc, S, X, h, e⟩ := h
    rw [hsz]
    exact ⟨h.fp, World.block_lt_of_cell? _ _ h.P.cs, h.P.cs, World.block_lt_of_cell? _ _ h.fp⟩
  have hfp1 : W.cell? ⟨q, 0, none⟩ = some (.pointer (some ⟨d.bp, 0, none⟩)) := (hB.cell (p := ⟨q, 0, none⟩) hql).trans hfp
  have hcs1 : W.cell? ⟨d.bp, 0, none⟩ = some (.int .i64 sz) := (hB.cell (p := ⟨d.bp, 0, none⟩) hbpl).trans hcs
  have SZ := size_any d.bp sz W hcs1
  have HSZ : Hid _ := hsz
  have HLOW : Hid (∀ i, i0 ≤ i → a < i * sz + sz) := fun i hi => win_low (by omega) (by rw [hsz]; exact hi0.out) hi
  have hmk2 : (Instr.makeSlice 22 (.int .i64 0) (.int .i64 ((b : Int) - a))).run Try.prog w = .ok (.slice (some ⟨w.heap.size, 0, none⟩) 0 (b - a)) W := by
    rw [show ((b : Int) - a) = ((b - a : Nat) : Int) by omega]; exact hmk
  have habz : ((a : Int) == b) = false := by rw [beq_eq_false_iff_ne]; omega
  have hbz : (b : Int) ≤ 5000 := by omega
  have haz : (a : Int) < b := by omega
  have hszn : ¬ sz = 0 := by omega
  have hsz1 : ¬ (sz : Int) = 0 := by omega
  have hszp : 0 < sz := by omega
  have HSM : Hid _ := hsm
  clear h hO hB hfp hbpl hcs hql hcs1 hmk hsz hsm
  go_enter Try.func53, Try.ntmps53
  go_wp2_with fail
  refine SZ.mono ?_
  rintro e w1 ⟨rfl, hw⟩
  obtain rfl := hw.symm
  clear hw SZ hmk2 hfp1
  go_wp2_with fail
  go_loopw [7, 9] (fun vb vi wr => ∃ (t i xn xc : Nat) (xa : Option Addr), vb = .slice xa xn xc ∧ vi = .int .i64 i ∧ t ≤ T ∧ i ≤ 5000 ∧ Hid (i = i0 + t) ∧ Hid (Wi w wr q d mo l bad R Y a b i0 t xa xn xc)) (fun _ vi _ => 6000 - (intOf vi).toNat)
  case atStart =>
    have hq : (a : Int) / sz = ((i0 : Nat) : Int) := by rw [hi0.out, ← HSZ.out]; rfl
    have hle : i0 ≤ a := by rw [hi0.out]; exact Nat.div_le_self _ _
    refine ⟨0, i0, 0, b - a, _, rfl, ?_, Nat.zero_le _, by omega, rfl, W0⟩
    rw [hq]
    congr 1
    exact wrap64_small (by omega) (by omega)
  case round =>
    obtain ⟨t, i, xn, xc, xa, rfl, rfl, ht, hi5, hi, H⟩ := hrel
    by_cases hlt : t < T
    · obtain ⟨s, hs⟩ : ∃ s, s = i * sz := ⟨_, rfl⟩
      have hsb : s < b := by rw [hs, hi.out, HSZ.out]; exact hT.out.1 t hlt
      have hib : i < b := Nat.lt_of_le_of_lt (by rw [hs]; exact Nat.le_mul_of_pos_right i hszp) hsb
      have hmul : (i : Int) * sz = (s : Int) := by rw [hs, Int.natCast_mul]
      have hsbz : (s : Int) < b := by omega
      have HS : Hid _ := hs
      clear hs
      have him : i0 + t < d.m := (hcnt.out _).1 (Nat.lt_of_lt_of_le (hT.out.1 t hlt) hb)
      have ht5 : t ≤ 5000 := by have := hi.out; omega
      have PC := H.out.page (hf.out t hlt) him (by omega)
      have hxn : xn = min b (i * sz) - a := by have := H.out.n; unfold wl at this; rw [← hi.out, ← HSZ.out] at this; exact this
      rw [← hi.out] at PC
      obtain ⟨m, hm⟩ : ∃ m, m = plen d i := ⟨_, rfl⟩
      rw [← hm] at PC
      obtain ⟨hh, hhh⟩ : ∃ hh, hh = min (b - s) sz := ⟨_, rfl⟩
      obtain ⟨lo, hlo⟩ : ∃ lo, lo = a - s := ⟨_, rfl⟩
      have hm2 : m = min sz (d.n - s) := by rw [hm, HS.out, HSZ.out]; rfl
      have NN := win_step HS.out hm2 hxn hsb hb hab hlo hhh (by rw [HS.out]; exact HLOW.out i (by rw [hi.out]; omega)) hszp
      obtain ⟨n1, n2, n3, n4, n5, n6⟩ := NN
      have AP : Hid (∀ (w2 : World) (g : Nat), Got wr w2 q d mo (rk (cap mo) l i0 (t + 1)) bad (R ++ rr (cap mo) l i0 (t + 1)) (fun j => Y j ∨ bk xa = some j) i g → ∃ xa' xc' W, (Builtin.append_ #[22, 22] 22 #[.slice xa xn xc, .slice (some ⟨g, lo, none⟩) (hh - lo) (m - lo)]).run Try.prog w2 = .ok (.slice xa' (xn + (hh - lo)) xc') W ∧ Wi w W q d mo l bad R Y a b i0 (t + 1) xa' (xn + (hh - lo)) xc') := by
        intro w2 g G
        rw [hi.out] at G
        refine H.out.app G (by rw [← hi.out, ← hm]; exact n1) (by unfold wl; rw [← hi.out, ← HSZ.out]; exact n2) (by rw [← hi.out, ← HSZ.out]; exact n3) (by have := HSM.out; omega) _
      have h2 : (lo : Int) ≤ hh := by omega
      have h3 : (hh : Int) ≤ m := by omega
      have h4 : ¬ m = lo := by omega
      have HH : Hid _ := hhh
      have HL : Hid _ := hlo
      clear hm hm2 n1 n2 n3 n4 n5 n6 hlo hhh him hxn
      go_wp2_with fail
      refine PC.mono ?_
      rintro e w2 ⟨g, rfl, G⟩
      clear PC
      obtain ⟨xa', xc', W2, hr, H2⟩ := AP.out w2 g G.out
      have HW : Hid _ := H2
      clear AP H2
      by_cases hsa : s ≤ a
      · by_cases hbs : b - s ≤ sz
        · have dummy : True := trivial
          have hlo : (a : Int) - s = lo := by have := HL.out; omega
          have hhh : (b : Int) - s = hh := by have := HH.out; omega
          have hle : (hh : Int) ≤ sz := by have := HH.out; omega
          clear HL HH
          go_wp2_with (at_builtin; first | (refine wpList_append_given rfl _ _ 22 rfl _ _ _ W2 rfl rfl hr ?_))
          go_wp2_with fail
          exact ⟨⟨t + 1, i + 1, _, xc', xa', rfl, by go_num, by omega, by omega, by show _ = _; rw [hi.out]; omega, HW⟩, by simp [intOf]; omega⟩
        · have dummy : True := trivial
          have hlo : (a : Int) - s = lo := by have := HL.out; omega
          obtain ⟨bb, hhh⟩ : ∃ bb : Nat, (b : Int) - s = bb := ⟨b - s, by omega⟩
          have hle : (sz : Int) < bb := by omega
          obtain rfl : hh = sz := by have := HH.out; omega
          clear HL HH
          go_wp2_with (at_builtin; first | (refine wpList_append_given rfl _ _ 22 rfl _ _ _ W2 rfl rfl hr ?_))
          go_wp2_with fail
          exact ⟨⟨t + 1, i + 1, _, xc', xa', rfl, by go_num, by omega, by omega, by show _ = _; rw [hi.out]; omega, HW⟩, by simp [intOf]; omega⟩
      · by_cases hbs : b - s ≤ sz
        · have dummy : True := trivial
          have hlo : (a : Int) - s ≤ 0 := by omega
          obtain rfl : lo = 0 := by have := HL.out; omega
          have hhh : (b : Int) - s = hh := by have := HH.out; omega
          have hle : (hh : Int) ≤ sz := by have := HH.out; omega
          clear HL HH
          go_wp2_with (at_builtin; first | (refine wpList_append_given rfl _ _ 22 rfl _ _ _ W2 rfl rfl hr ?_))
          go_wp2_with fail
          exact ⟨⟨t + 1, i + 1, _, xc', xa', rfl, by go_num, by omega, by omega, by show _ = _; rw [hi.out]; omega, HW⟩, by simp [intOf]; omega⟩
        · have dummy : True := trivial
          have hlo : (a : Int) - s ≤ 0 := by omega
          obtain rfl : lo = 0 := by have := HL.out; omega
          obtain ⟨bb, hhh⟩ : ∃ bb : Nat, (b : Int) - s = bb := ⟨b - s, by omega⟩
          have hle : (sz : Int) < bb := by omega
          obtain rfl : hh = sz := by have := HH.out; omega
          clear HL HH
          go_wp2_with (at_builtin; first | (refine wpList_append_given rfl _ _ 22 rfl _ _ _ W2 rfl rfl hr ?_))
          go_wp2_with fail
          exact ⟨⟨t + 1, i + 1, _, xc', xa', rfl, by go_num, by omega, by omega, by show _ = _; rw [hi.out]; omega, HW⟩, by simp [intOf]; omega⟩
    · have hTt : t = T := by omega
      obtain ⟨s, hs⟩ : ∃ s, s = i * sz := ⟨_, rfl⟩
      have hsb : b ≤ s := by rw [hs, hi.out, HSZ.out, hTt]; exact hT.out.2
      have hmul : (i : Int) * sz = (s : Int) := by rw [hs, Int.natCast_mul]
      have hsbz : (b : Int) ≤ s := by omega
      have hmul5 : i * sz ≤ 5000 * 512 := Nat.mul_le_mul hi5 (by rw [HSZ.out]; exact HSM.out.2.2.1)
      have hs5 : s ≤ 2560000 := by omega
      have hs5z : (s : Int) ≤ 2560000 := by omega
      have hxn : xn = b - a := by
        have := H.out.n
        rw [← hi.out, ← HSZ.out] at this
        unfold wl at this
        omega
      subst hTt
      rw [hxn] at H ⊢
      clear hs hxn
      go_wp2_with fail
      go_ret
      exact ⟨xa, xc, rfl, H⟩

end
end Go.Proofs.Ytdhdkbaalgdicaa

/- A window. -/
namespace Go.Proofs.Ytdhdkbaalgdicaa
open Go.RowKit

section
variable {w : World} {q : Nat} {d : Pd} {mo : Int} {l : List Int} {bad : Nat → Bool} {R : List Int} {Y : Nat → Prop}


set_option maxHeartbeats 4000000 in
set_option maxRecDepth 20000 in
theorem window_bad (h : Fs w q d mo l bad R Y) (a b i0 T : Nat) (hab : a < b) (hb : b ≤ d.n) (hi0 : Hid (i0 = a / d.sz)) (hT : Hid ((∀ s, s < T + 1 → (i0 + s) * d.sz < b) ∧ fails (cap mo) l i0 bad T)) (hR : R.length < 20000) (hf : Hid (∀ s, s < T → ¬ fails (cap mo) l i0 bad s)) :
    Calls Try.prog 53 #[.pointer (some ⟨q, 0, none⟩), .int .i64 a, .int .i64 b] w fun e w' => e = .panicked fchain ∧ Hid (Fs w' q d mo (rk (cap mo) l i0 T) bad (R ++ rr (cap mo) l i0 (T + 1)) Y ∧ Mv (fun j => ¬ Y j) w w') := by
  have hsm := h.small
  have hcnt : Hid _ := h.cnt
  obtain ⟨sz, hsz⟩ : ∃ sz, sz = d.sz := ⟨_, rfl⟩
  obtain ⟨W, hmk, hO, hB⟩ := made0b w (b - a) (by omega) (fun j => d.f (a + j))
  have W0 : Hid (Wi w W q d mo l bad R Y a b i0 0 (some ⟨w.heap.size, 0, none⟩) 0 (b - a)) := Wi.start h hO hB (by rw [hi0.out]; exact Nat.div_mul_le_self _ _)
  obtain ⟨hfp, hbpl, hcs, hql⟩ : w.cell? ⟨q, 0, none⟩ = some (.pointer (some ⟨d.bp, 0, none⟩)) ∧ d.bp < w.heap.size ∧ w.cell? ⟨d.bp, 0, none⟩ = some (.int .i64 sz) ∧ q < w.heap.size := by
    obtain ⟨c, ra, rc, S, X, h, e⟩ := h
    rw [hsz]
    exact ⟨h.fp, World.block_lt_of_cell? _ _ h.P.cs, h.P.cs, World.block_lt_of_cell? _ _ h.fp⟩
  have hfp1 : W.cell? ⟨q, 0, none⟩ = some (.pointer (some ⟨d.bp, 0, none⟩)) := (hB.cell (p := ⟨q, 0, none⟩) hql).trans hfp
  have hcs1 : W.cell? ⟨d.bp, 0, none⟩ = some (.int .i64 sz) := (hB.cell (p := ⟨d.bp, 0, none⟩) hbpl).trans hcs
  have SZ := size_any d.bp sz W hcs1
  have HSZ : Hid _ := hsz
  have HLOW : Hid (∀ i, i0 ≤ i → a < i * sz + sz) := fun i hi => win_low (by omega) (by rw [hsz]; exact hi0.out) hi
  have hmk2 : (Instr.makeSlice 22 (.int .i64 0) (.int .i64 ((b : Int) - a))).run Try.prog w = .ok (.slice (some ⟨w.heap.size, 0, none⟩) 0 (b - a)) W := by
    rw [show ((b : Int) - a) = ((b - a : Nat) : Int) by omega]; exact hmk
  have habz : ((a : Int) == b) = false := by rw [beq_eq_false_iff_ne]; omega
  have hbz : (b : Int) ≤ 5000 := by omega
  have haz : (a : Int) < b := by omega
  have hszn : ¬ sz = 0 := by omega
  have hsz1 : ¬ (sz : Int) = 0 := by omega
  have hszp : 0 < sz := by omega
  have HSM : Hid _ := hsm
  clear h hO hB hfp hbpl hcs hql hcs1 hmk hsz hsm
  go_enter Try.func53, Try.ntmps53
  go_wp2_with fail
  refine SZ.mono ?_
  rintro e w1 ⟨rfl, hw⟩
  obtain rfl := hw.symm
  clear hw SZ hmk2 hfp1
  go_wp2_with fail
  go_loopw [7, 9] (fun vb vi wr => ∃ (t i xn xc : Nat) (xa : Option Addr), vb = .slice xa xn xc ∧ vi = .int .i64 i ∧ t ≤ T ∧ i ≤ 5000 ∧ Hid (i = i0 + t) ∧ Hid (Wi w wr q d mo l bad R Y a b i0 t xa xn xc)) (fun _ vi _ => 6000 - (intOf vi).toNat)
  case atStart =>
    have hq : (a : Int) / sz = ((i0 : Nat) : Int) := by rw [hi0.out, ← HSZ.out]; rfl
    have hle : i0 ≤ a := by rw [hi0.out]; exact Nat.div_le_self _ _
    refine ⟨0, i0, 0, b - a, _, rfl, ?_, Nat.zero_le _, by omega, rfl, W0⟩
    rw [hq]
    congr 1
    exact wrap64_small (by omega) (by omega)
  case round =>
    obtain ⟨t, i, xn, xc, xa, rfl, rfl, ht, hi5, hi, H⟩ := hrel
    by_cases hlt : t < T
    · obtain ⟨s, hs⟩ : ∃ s, s = i * sz := ⟨_, rfl⟩
      have hsb : s < b := by rw [hs, hi.out, HSZ.out]; exact hT.out.1 t (by omega)
      have hib : i < b := Nat.lt_of_le_of_lt (by rw [hs]; exact Nat.le_mul_of_pos_right i hszp) hsb
      have hmul : (i : Int) * sz = (s : Int) := by rw [hs, Int.natCast_mul]
      have hsbz : (s : Int) < b := by omega
      have HS : Hid _ := hs
      clear hs
      have him : i0 + t < d.m := (hcnt.out _).1 (Nat.lt_of_lt_of_le (hT.out.1 t (by omega)) hb)
      have ht5 : t ≤ 5000 := by have := hi.out; omega
      have PC := H.out.page (hf.out t hlt) him (by omega)
      have hxn : xn = min b (i * sz) - a := by have := H.out.n; unfold wl at this; rw [← hi.out, ← HSZ.out] at this; exact this
      rw [← hi.out] at PC
      obtain ⟨m, hm⟩ : ∃ m, m = plen d i := ⟨_, rfl⟩
      rw [← hm] at PC
      obtain ⟨hh, hhh⟩ : ∃ hh, hh = min (b - s) sz := ⟨_, rfl⟩
      obtain ⟨lo, hlo⟩ : ∃ lo, lo = a - s := ⟨_, rfl⟩
      have hm2 : m = min sz (d.n - s) := by rw [hm, HS.out, HSZ.out]; rfl
      have NN := win_step HS.out hm2 hxn hsb hb hab hlo hhh (by rw [HS.out]; exact HLOW.out i (by rw [hi.out]; omega)) hszp
      obtain ⟨n1, n2, n3, n4, n5, n6⟩ := NN
      have AP : Hid (∀ (w2 : World) (g : Nat), Got wr w2 q d mo (rk (cap mo) l i0 (t + 1)) bad (R ++ rr (cap mo) l i0 (t + 1)) (fun j => Y j ∨ bk xa = some j) i g → ∃ xa' xc' W, (Builtin.append_ #[22, 22] 22 #[.slice xa xn xc, .slice (some ⟨g, lo, none⟩) (hh - lo) (m - lo)]).run Try.prog w2 = .ok (.slice xa' (xn + (hh - lo)) xc') W ∧ Wi w W q d mo l bad R Y a b i0 (t + 1) xa' (xn + (hh - lo)) xc') := by
        intro w2 g G
        rw [hi.out] at G
        refine H.out.app G (by rw [← hi.out, ← hm]; exact n1) (by unfold wl; rw [← hi.out, ← HSZ.out]; exact n2) (by rw [← hi.out, ← HSZ.out]; exact n3) (by have := HSM.out; omega) _
      have h2 : (lo : Int) ≤ hh := by omega
      have h3 : (hh : Int) ≤ m := by omega
      have h4 : ¬ m = lo := by omega
      have HH : Hid _ := hhh
      have HL : Hid _ := hlo
      clear hm hm2 n1 n2 n3 n4 n5 n6 hlo hhh him hxn
      go_wp2_with fail
      refine PC.mono ?_
      rintro e w2 ⟨g, rfl, G⟩
      clear PC
      obtain ⟨xa', xc', W2, hr, H2⟩ := AP.out w2 g G.out
      have HW : Hid _ := H2
      clear AP H2
      by_cases hsa : s ≤ a
      · by_cases hbs : b - s ≤ sz
        · have dummy : True := trivial
          have hlo : (a : Int) - s = lo := by have := HL.out; omega
          have hhh : (b : Int) - s = hh := by have := HH.out; omega
          have hle : (hh : Int) ≤ sz := by have := HH.out; omega
          clear HL HH
          go_wp2_with (at_builtin; first | (refine wpList_append_given rfl _ _ 22 rfl _ _ _ W2 rfl rfl hr ?_))
          go_wp2_with fail
          exact ⟨⟨t + 1, i + 1, _, xc', xa', rfl, by go_num, by omega, by omega, by show _ = _; rw [hi.out]; omega, HW⟩, by simp [intOf]; omega⟩
        · have dummy : True := trivial
          have hlo : (a : Int) - s = lo := by have := HL.out; omega
          obtain ⟨bb, hhh⟩ : ∃ bb : Nat, (b : Int) - s = bb := ⟨b - s, by omega⟩
          have hle : (sz : Int) < bb := by omega
          obtain rfl : hh = sz := by have := HH.out; omega
          clear HL HH
          go_wp2_with (at_builtin; first | (refine wpList_append_given rfl _ _ 22 rfl _ _ _ W2 rfl rfl hr ?_))
          go_wp2_with fail
          exact ⟨⟨t + 1, i + 1, _, xc', xa', rfl, by go_num, by omega, by omega, by show _ = _; rw [hi.out]; omega, HW⟩, by simp [intOf]; omega⟩
      · by_cases hbs : b - s ≤ sz
        · have dummy : True := trivial
          have hlo : (a : Int) - s ≤ 0 := by omega
          obtain rfl : lo = 0 := by have := HL.out; omega
          have hhh : (b : Int) - s = hh := by have := HH.out; omega
          have hle : (hh : Int) ≤ sz := by have := HH.out; omega
          clear HL HH
          go_wp2_with (at_builtin; first | (refine wpList_append_given rfl _ _ 22 rfl _ _ _ W2 rfl rfl hr ?_))
          go_wp2_with fail
          exact ⟨⟨t + 1, i + 1, _, xc', xa', rfl, by go_num, by omega, by omega, by show _ = _; rw [hi.out]; omega, HW⟩, by simp [intOf]; omega⟩
        · have dummy : True := trivial
          have hlo : (a : Int) - s ≤ 0 := by omega
          obtain rfl : lo = 0 := by have := HL.out; omega
          obtain ⟨bb, hhh⟩ : ∃ bb : Nat, (b : Int) - s = bb := ⟨b - s, by omega⟩
          have hle : (sz : Int) < bb := by omega
          obtain rfl : hh = sz := by have := HH.out; omega
          clear HL HH
          go_wp2_with (at_builtin; first | (refine wpList_append_given rfl _ _ 22 rfl _ _ _ W2 rfl rfl hr ?_))
          go_wp2_with fail
          exact ⟨⟨t + 1, i + 1, _, xc', xa', rfl, by go_num, by omega, by omega, by show _ = _; rw [hi.out]; omega, HW⟩, by simp [intOf]; omega⟩
    · obtain rfl : t = T := by omega
      obtain ⟨s, hs⟩ : ∃ s, s = i * sz := ⟨_, rfl⟩
      have hsb : s < b := by rw [hs, hi.out, HSZ.out]; exact hT.out.1 t (by omega)
      have hmul : (i : Int) * sz = (s : Int) := by rw [hs, Int.natCast_mul]
      have hsbz : (s : Int) < b := by omega
      have him : i0 + t < d.m := (hcnt.out _).1 (Nat.lt_of_lt_of_le (hT.out.1 t (by omega)) hb)
      have ht5 : t ≤ 5000 := by have := hi.out; omega
      have PC := H.out.page_bad hT.out.2 him (by omega)
      rw [← hi.out] at PC
      clear hs him
      go_wp2_with fail
      refine PC.mono ?_
      rintro e w2 ⟨rfl, G⟩
      clear PC
      exact ⟨rfl, rfl, G⟩

end
end Go.Proofs.Ytdhdkbaalgdicaa

/- Bytes: what recovers. -/
namespace Go.Proofs.Ytdhdkbaalgdicaa
open Go.RowKit

set_option maxRecDepth 20000 in
theorem errno_any (x : Int) (w : World) : Calls Try.prog 52 #[.iface 27 (.int .i64 x)] w fun e w' => e = .returned (.int .i64 x) ∧ w' = w := by
  have hta : (Instr.typeAssert (.iface 27 (.int .i64 x)) 20 27 true).run Try.prog w = .ok (.tuple #[.int .i64 x, .bool true]) w := by first | kernel_rfl | rfl
  go_enter Try.func52, Try.ntmps52
  go_wp2
  go_ret
  exact ⟨rfl, rfl⟩

theorem catchB_idle (p q : Addr) (w : World) :
    CallsD Try.prog 51 #[.pointer (some p), .pointer (some q)] .returning w fun e u' w' => e = .returned (.tuple #[]) ∧ u' = .returning ∧ w' = w := by
  refine callsD_of_wpS Try.func51 rfl fun c₀ cs hu => ?_
  apply wpS_seq
  apply wpS_region
  simp [wpOpsS, go_sem, recoverD, hu, Try.ntmps51, Exit.thenS]
  refine wpS_of_wp ?_
  rw [show (#[Value.pointer (some p), Value.pointer (some q)] ++ ((Array.replicate 6 undef).setIfInBounds 1 Value.nilIface).setIfInBounds 0 Value.nilIface) = #[Value.pointer (some p), Value.pointer (some q), Value.nilIface, Value.nilIface, undef, undef, undef, undef] from rfl]
  go_wp2_with fail
  cases c₀
  simp_all [bodyPostS, results, Try.results51]
theorem catchB_panicking (p q : Addr) (w : World) (y z : Value) (hc : w.cell? p = some y) (hz : w.frozen? p = false) (hc2 : w.cell? q = some z) (hz2 : w.frozen? q = false) (hqr : p ≠ q) :
    CallsD Try.prog 51 #[.pointer (some p), .pointer (some q)] (.panicking fchain) w fun e u' w' =>
      e = .returned (.tuple #[]) ∧ u' = .panicking [{ v := .iface 27 (.int .i64 11), recovered := true }] ∧ w' = (w.setCell p (.slice none 0 0)).setCell q (.int .i64 11) := by
  refine callsD_of_wpS Try.func51 rfl fun c₀ cs hu => ?_
  unfold fchain at hu
  apply wpS_seq
  apply wpS_region
  simp [wpOpsS, go_sem, recoverD, hu, Try.ntmps51, Exit.thenS]
  refine wpS_of_wp ?_
  rw [show (#[Value.pointer (some p), Value.pointer (some q)] ++ ((Array.replicate 6 undef).setIfInBounds 1 (Value.iface 27 (.int .i64 11))).setIfInBounds 0 (Value.iface 27 (.int .i64 11))) = #[Value.pointer (some p), Value.pointer (some q), (Value.iface 27 (.int .i64 11)), (Value.iface 27 (.int .i64 11)), undef, undef, undef, undef] from rfl]
  go_wp2_with fail
  refine (errno_any 11 w).mono ?_
  rintro e w1 ⟨rfl, hw⟩
  obtain rfl := hw.symm
  clear hw
  go_wp2_with fail
  exact ⟨rfl, _, rfl, .tuple #[], by simp [results, Try.results51], rfl, rfl, rfl⟩
end Go.Proofs.Ytdhdkbaalgdicaa

/- Bytes. -/
namespace Go.Proofs.Ytdhdkbaalgdicaa
open Go.RowKit

/-- How many pages a window touches. -/
def cntp (sz a b : Nat) : Nat := if a < b then (b - 1) / sz - a / sz + 1 else 0
theorem cntp_spec {sz a b : Nat} (hz : 0 < sz) (hab : a < b) : (∀ s, s < cntp sz a b → (a / sz + s) * sz < b) ∧ b ≤ (a / sz + cntp sz a b) * sz := by
  have e : cntp sz a b = (b - 1) / sz - a / sz + 1 := by unfold cntp; rw [if_pos hab]
  have h1 : a / sz ≤ (b - 1) / sz := Nat.div_le_div_right (by omega)
  have h2 := Nat.div_add_mod (b - 1) sz
  have h3 := Nat.mod_lt (b - 1) hz
  rw [Nat.mul_comm] at h2
  rw [e]
  generalize (b - 1) / sz = x at *
  generalize a / sz = y at *
  refine ⟨fun s hs => ?_, ?_⟩
  · have := Nat.mul_le_mul_right sz (show y + s ≤ x by omega)
    omega
  · rw [show y + (x - y + 1) = x + 1 by omega, Nat.succ_mul]
    omega

/-- The world in which a window begins. -/
def w2 (w : World) : World := (w.alloc (.cells #[.slice none 0 0] 22)).alloc (.cells #[.int .i64 0] 27)
theorem w2_below (w : World) : Below w.heap.size w (w2 w) := ((Below.refl _ w).alloc (Nat.le_refl _) _).alloc (by simp) _
theorem w2_size (w : World) : (w2 w).heap.size = w.heap.size + 2 := by simp [w2]
theorem w2_new (w : World) : (w2 w).cell? ⟨w.heap.size, 0, none⟩ = some (.slice none 0 0) ∧ (w2 w).frozen? ⟨w.heap.size, 0, none⟩ = false ∧ (w2 w).cell? ⟨w.heap.size + 1, 0, none⟩ = some (.int .i64 0) ∧ (w2 w).frozen? ⟨w.heap.size + 1, 0, none⟩ = false := by
  unfold w2
  refine ⟨?_, ?_, ?_, ?_⟩ <;> simp [go_sem]

/-- What bytes that are told leave. -/
def ToldB (w w' : World) (q : Nat) (d : Pd) (mo : Int) (l : List Int) (bad : Nat → Bool) (R : List Int) (Y : Nat → Prop) (a n : Nat) (xa : Option Addr) (xc : Nat) : Prop :=
  Fs w' q d mo l bad R (fun j => Y j ∨ bk xa = some j) ∧ Own w' w.heap.size 5 (.slice xa n xc) n (By fun j => d.f (a + j)) ∧ Mv (fun j => ¬ Y j) w w'
def LeftB (w w' : World) (q : Nat) (d : Pd) (mo : Int) (l : List Int) (bad : Nat → Bool) (R : List Int) (Y : Nat → Prop) : Prop :=
  Fs w' q d mo l bad R Y ∧ Mv (fun j => ¬ Y j) w w'

section
variable {w : World} {q : Nat} {d : Pd} {mo : Int} {l : List Int} {bad : Nat → Bool} {R : List Int} {Y : Nat → Prop}

theorem Fs.two (h : Fs w q d mo l bad R Y) : Fs (w2 w) q d mo l bad R (fun j => Y j ∨ (w.heap.size ≤ j ∧ j < w.heap.size + 2)) := by
  have := h.below (w2_below w)
  rw [w2_size] at this
  exact this
theorem Fs.top (h : Fs w q d mo l bad R Y) : d.top ≤ w.heap.size := by
  obtain ⟨c, ra, rc, S, X, h, e⟩ := h
  exact h.P.tp

set_option maxHeartbeats 1000000 in
theorem bytes_nil (a b : Int) (w : World) : Calls Try.prog 48 #[.pointer none, .int .i64 a, .int .i64 b] w fun e w' => e = .returned (.tuple #[.slice none 0 0, .int .i64 1]) ∧ Below w.heap.size w w' := by
  go_enter_defers Try.func48, Try.ntmps48
  go_wp2_with fail
  refine (has_none _).mono ?_
  rintro e w1 ⟨rfl, hw⟩
  subst hw
  go_wp2_with fail
  simp [bodyPostD, Leaves, results, Try.results48, go_sem]
  exact ((Below.refl _ w).alloc (Nat.le_refl _) _).alloc (by simp) _
set_option maxHeartbeats 1000000 in
theorem bytes_nop (w : World) (hc : w.cell? ⟨q, 0, none⟩ = some (.pointer none)) : Calls Try.prog 48 #[.pointer (some ⟨q, 0, none⟩), .int .i64 0, .int .i64 0] w fun e w' => e = .returned (.tuple #[.slice none 0 0, .int .i64 1]) ∧ Below w.heap.size w w' := by
  have hl : q < w.heap.size := World.block_lt_of_cell? _ _ hc
  go_enter_defers Try.func48, Try.ntmps48
  go_wp2_with fail
  refine (has_nop q _ ?_).mono ?_
  · exact ((w2_below w).cell (p := ⟨q, 0, none⟩) hl).trans hc
  rintro e w1 ⟨rfl, hw⟩
  subst hw
  go_wp2_with fail
  simp [bodyPostD, Leaves, results, Try.results48, go_sem]
  exact ((Below.refl _ w).alloc (Nat.le_refl _) _).alloc (by simp) _
set_option maxHeartbeats 1000000 in
theorem bytes_range (h : Fs w q d mo l bad R Y) (a b : Int) (hr : a < 0 ∨ b < a ∨ (d.n : Int) < b) : Calls Try.prog 48 #[.pointer (some ⟨q, 0, none⟩), .int .i64 a, .int .i64 b] w fun e w' => e = .returned (.tuple #[.slice none 0 0, .int .i64 1]) ∧ Below w.heap.size w w' := by
  have h2 := h.two
  have HA := has_some q d.bp (w2 w) (by obtain ⟨c, ra, rc, S, X, h, e⟩ := h2; exact h.fp)
  have HL := flen_any h2
  clear h h2
  obtain ⟨n0, f0, n1, f1⟩ := w2_new w
  have FIN : Hid (Below w.heap.size w (((w2 w).setCell ⟨w.heap.size, 0, none⟩ (.slice none 0 0)).setCell ⟨w.heap.size + 1, 0, none⟩ (.int .i64 1))) := ((w2_below w).setCell (Nat.le_refl _) _).setCell (Nat.le_succ _) _
  have v0 : (((w2 w).setCell ⟨w.heap.size, 0, none⟩ (.slice none 0 0)).setCell ⟨w.heap.size + 1, 0, none⟩ (.int .i64 1)).cell? ⟨w.heap.size, 0, none⟩ = some (.slice none 0 0) := by
    rw [World.cell?_setCell_other _ _ _ _ (by simp)]
    exact World.cell?_setCell_same _ _ _ n0
  have v1 : (((w2 w).setCell ⟨w.heap.size, 0, none⟩ (.slice none 0 0)).setCell ⟨w.heap.size + 1, 0, none⟩ (.int .i64 1)).cell? ⟨w.heap.size + 1, 0, none⟩ = some (.int .i64 1) := by
    refine World.cell?_setCell_same _ _ _ (u := .int .i64 0) ?_
    rw [World.cell?_setCell_other _ _ _ _ (by simp)]; exact n1
  by_cases h1 : a < 0
  · clear hr
    go_enter_defers Try.func48, Try.ntmps48
    go_wp2_with fail
    refine HA.mono ?_
    rintro e w1 ⟨rfl, hw⟩
    subst hw
    clear HA HL
    go_wp2_with fail
    simp [bodyPostD, Leaves, results, Try.results48, go_sem, v0, v1]
    exact FIN.out
  · by_cases h2 : b < a
    · clear hr
      have h1' : 0 ≤ a := by omega
      go_enter_defers Try.func48, Try.ntmps48
      go_wp2_with fail
      refine HA.mono ?_
      rintro e w1 ⟨rfl, hw⟩
      subst hw
      clear HA HL
      go_wp2_with fail
      simp [bodyPostD, Leaves, results, Try.results48, go_sem, v0, v1]
      exact FIN.out
    · have h3 : (d.n : Int) < b := by omega
      have h1' : 0 ≤ a := by omega
      have h2' : a ≤ b := by omega
      clear hr
      go_enter_defers Try.func48, Try.ntmps48
      go_wp2_with fail
      refine HA.mono ?_
      rintro e w1 ⟨rfl, hw⟩
      subst hw
      go_wp2_with fail
      refine HL.mono ?_
      rintro e w1 ⟨rfl, hw⟩
      subst hw
      clear HA HL
      go_wp2_with fail
      simp [bodyPostD, Leaves, results, Try.results48, go_sem, v0, v1]
      exact FIN.out
end
end Go.Proofs.Ytdhdkbaalgdicaa

/- Bytes: all its ways. -/
namespace Go.Proofs.Ytdhdkbaalgdicaa
open Go.RowKit

section
variable {w : World} {q : Nat} {d : Pd} {mo : Int} {l : List Int} {bad : Nat → Bool} {R : List Int} {Y : Nat → Prop}

/-- The world behind: the call's own two cells are written. -/
def w2f (w V : World) (x : Value) (e : Int) : World := (V.setCell ⟨w.heap.size, 0, none⟩ x).setCell ⟨w.heap.size + 1, 0, none⟩ (.int .i64 e)
theorem w2f_mv (w V : World) (x : Value) (e : Int) : Mv (fun j => w.heap.size ≤ j ∧ j < w.heap.size + 2) V (w2f w V x e) :=
  ((Mv.setCell V ⟨w.heap.size, 0, none⟩ x).mono (T := fun j => w.heap.size ≤ j ∧ j < w.heap.size + 2) (fun j _ h => by have h' : j = w.heap.size := h; omega)).trans (Mv.setCell _ ⟨w.heap.size + 1, 0, none⟩ _) (fun j _ h => by have h' : j = w.heap.size + 1 := h; omega)
theorem w2f_at {w V : World} (x : Value) (e : Int) {u v : Value} (n0 : V.cell? ⟨w.heap.size, 0, none⟩ = some u) (n1 : V.cell? ⟨w.heap.size + 1, 0, none⟩ = some v) :
    (w2f w V x e).cell? ⟨w.heap.size, 0, none⟩ = some x ∧ (w2f w V x e).cell? ⟨w.heap.size + 1, 0, none⟩ = some (.int .i64 e) := by
  refine ⟨?_, ?_⟩
  · unfold w2f
    rw [World.cell?_setCell_other _ _ _ _ (by simp)]
    exact World.cell?_setCell_same _ _ _ n0
  · refine World.cell?_setCell_same _ _ _ (u := v) ?_
    rw [World.cell?_setCell_other _ _ _ _ (by simp)]; exact n1
/-- What the two cells are in a world in which they were kept. -/
theorem w2_kept {w V : World} {Z : Nat → Prop} (hm : Mv (fun j => ¬ Z j) (w2 w) V) (h0 : Z w.heap.size) (h1 : Z (w.heap.size + 1)) :
    V.cell? ⟨w.heap.size, 0, none⟩ = some (.slice none 0 0) ∧ V.frozen? ⟨w.heap.size, 0, none⟩ = false ∧ V.cell? ⟨w.heap.size + 1, 0, none⟩ = some (.int .i64 0) ∧ V.frozen? ⟨w.heap.size + 1, 0, none⟩ = false := by
  obtain ⟨n0, f0, n1, f1⟩ := w2_new w
  have hs := w2_size w
  exact ⟨hm.cell n0 (fun e => e h0), (hm.frozen (p := ⟨w.heap.size, 0, none⟩) (by show w.heap.size < _; omega) (fun e => e h0)).trans f0, hm.cell n1 (fun e => e h1), (hm.frozen (p := ⟨w.heap.size + 1, 0, none⟩) (by show w.heap.size + 1 < _; omega) (fun e => e h1)).trans f1⟩

theorem told_of {V : World} {l' R' : List Int} {a n : Nat} {xa : Option Addr} {xc : Nat} (h : Fs V q d mo l' bad R' (fun j => (Y j ∨ (w.heap.size ≤ j ∧ j < w.heap.size + 2)) ∨ bk xa = some j)) (O : Own V (w2 w).heap.size 5 (.slice xa n xc) n (By fun j => d.f (a + j))) (M : Mv (fun j => ¬ (Y j ∨ (w.heap.size ≤ j ∧ j < w.heap.size + 2))) (w2 w) V) (tp : d.top ≤ w.heap.size) :
    ToldB w (w2f w V (.slice xa n xc) 0) q d mo l' bad R' Y a n xa xc := by
  have hM := w2f_mv w V (.slice xa n xc) 0
  have hs := w2_size w
  refine ⟨(h.mv hM (fun j hj => ⟨.inl (.inr hj), .inl (by omega)⟩)).mono (fun j hj => ?_), ?_, ?_⟩
  · rcases hj with hj | hj
    · exact .inl (.inl (.inl hj))
    · exact .inl (.inr hj)
  · refine (O.mv hM (fun k hk e => ?_)).base (by omega)
    have := (O.blk k hk).1
    omega
  · have h1 : Mv (fun j => ¬ Y j) w (w2 w) := (Mv.of_below (w2_below w)).mono (fun j hj e => by omega)
    exact (h1.trans M (fun j _ e hy => e (.inl hy))).trans hM (fun j hj e => by omega)
theorem left_of {V : World} {l' R' : List Int} (x : Value) (e : Int) (h : Fs V q d mo l' bad R' (fun j => Y j ∨ (w.heap.size ≤ j ∧ j < w.heap.size + 2))) (M : Mv (fun j => ¬ (Y j ∨ (w.heap.size ≤ j ∧ j < w.heap.size + 2))) (w2 w) V) (tp : d.top ≤ w.heap.size) :
    LeftB w (w2f w V x e) q d mo l' bad R' Y := by
  have hM := w2f_mv w V x e
  refine ⟨(h.mv hM (fun j hj => ⟨.inr hj, .inl (by omega)⟩)).mono (fun j hj => .inl (.inl hj)), ?_⟩
  have h1 : Mv (fun j => ¬ Y j) w (w2 w) := (Mv.of_below (w2_below w)).mono (fun j hj e => by omega)
  exact (h1.trans M (fun j _ e hy => e (.inl hy))).trans hM (fun j hj e => by omega)

set_option maxHeartbeats 1000000 in
/-- A window that is told. -/
theorem bytes_told (h : Fs w q d mo l bad R Y) (a b : Nat) (hab : a ≤ b) (hb : b ≤ d.n) (l' R' : List Int)
    (WN : Calls Try.prog 53 #[.pointer (some ⟨q, 0, none⟩), .int .i64 a, .int .i64 b] (w2 w) fun e V => ∃ xa xc, e = .returned (.slice xa (b - a) xc) ∧ Hid (Fs V q d mo l' bad R' (fun j => (Y j ∨ (w.heap.size ≤ j ∧ j < w.heap.size + 2)) ∨ bk xa = some j) ∧ Own V (w2 w).heap.size 5 (.slice xa (b - a) xc) (b - a) (By fun j => d.f (a + j)) ∧ Mv (fun j => ¬ (Y j ∨ (w.heap.size ≤ j ∧ j < w.heap.size + 2))) (w2 w) V)) :
    Calls Try.prog 48 #[.pointer (some ⟨q, 0, none⟩), .int .i64 a, .int .i64 b] w fun e w' => ∃ xa xc, e = .returned (.tuple #[.slice xa (b - a) xc, .int .i64 0]) ∧ ToldB w w' q d mo l' bad R' Y a (b - a) xa xc := by
  have hmf := make_fn
  have h2 := h.two
  have tp : Hid _ := h.top
  have HA := has_some q d.bp (w2 w) (by obtain ⟨c, ra, rc, S, X, h, e⟩ := h2; exact h.fp)
  have HL := flen_any h2
  have z1 : (a : Int) ≤ b := by omega
  have z2 : (b : Int) ≤ d.n := by omega
  clear h h2
  go_enter_defers Try.func48, Try.ntmps48
  go_wp2_with fail
  refine HA.mono ?_
  rintro e w1 ⟨rfl, hw⟩
  subst hw
  go_wp2_with fail
  refine HL.mono ?_
  rintro e w1 ⟨rfl, hw⟩
  subst hw
  clear HA HL
  go_wp2_with fail
  refine WN.mono ?_
  rintro e V ⟨xa, xc, rfl, H⟩
  clear WN
  obtain ⟨n0, f0, n1, f1⟩ := w2_kept H.out.2.2 (.inr ⟨Nat.le_refl _, by omega⟩) (.inr ⟨by omega, by omega⟩)
  obtain ⟨v0, v1⟩ := w2f_at (.slice xa (b - a) xc) 0 n0 n1
  have FIN := told_of H.out.1 H.out.2.1 H.out.2.2 tp.out
  generalize hn : b - a = n at *
  have HN : Hid _ := hn
  clear hn
  go_wp2_with fail
  refine leaves_cons (f := 51) (args := #[.pointer (some ⟨w.heap.size, 0, none⟩), .pointer (some ⟨w.heap.size + 1, 0, none⟩)]) (by simp) (by simp [go_sem]) ?_
  refine (catchB_idle ⟨w.heap.size, 0, none⟩ ⟨w.heap.size + 1, 0, none⟩ _).mono ?_
  rintro e u' w'' ⟨rfl, rfl, rfl⟩
  rw [show ((V.setCell ⟨w.heap.size, 0, none⟩ (.slice xa n xc)).setCell ⟨w.heap.size + 1, 0, none⟩ (.int .i64 0)) = w2f w V (.slice xa n xc) 0 from rfl]
  clear n0 f0 n1 f1 H
  generalize w2f w V (.slice xa n xc) 0 = Z at *
  simp [Leaves, settle, results, Try.results48, go_sem, v0, v1]
  exact ⟨xa, xc, ⟨rfl, HN.out.symm, rfl⟩, by rw [HN.out]; exact FIN⟩

set_option maxHeartbeats 1000000 in
/-- A window that is not. -/
theorem bytes_left (h : Fs w q d mo l bad R Y) (a b : Nat) (hab : a ≤ b) (hb : b ≤ d.n) (l' R' : List Int)
    (WN : Calls Try.prog 53 #[.pointer (some ⟨q, 0, none⟩), .int .i64 a, .int .i64 b] (w2 w) fun e V => e = .panicked fchain ∧ Hid (Fs V q d mo l' bad R' (fun j => Y j ∨ (w.heap.size ≤ j ∧ j < w.heap.size + 2)) ∧ Mv (fun j => ¬ (Y j ∨ (w.heap.size ≤ j ∧ j < w.heap.size + 2))) (w2 w) V)) :
    Calls Try.prog 48 #[.pointer (some ⟨q, 0, none⟩), .int .i64 a, .int .i64 b] w fun e w' => e = .returned (.tuple #[.slice none 0 0, .int .i64 11]) ∧ LeftB w w' q d mo l' bad R' Y := by
  have hmf := make_fn
  have h2 := h.two
  have tp : Hid _ := h.top
  have HA := has_some q d.bp (w2 w) (by obtain ⟨c, ra, rc, S, X, h, e⟩ := h2; exact h.fp)
  have HL := flen_any h2
  have z1 : (a : Int) ≤ b := by omega
  have z2 : (b : Int) ≤ d.n := by omega
  clear h h2
  go_enter_defers Try.func48, Try.ntmps48
  go_wp2_with fail
  refine HA.mono ?_
  rintro e w1 ⟨rfl, hw⟩
  subst hw
  go_wp2_with fail
  refine HL.mono ?_
  rintro e w1 ⟨rfl, hw⟩
  subst hw
  clear HA HL
  go_wp2_with fail
  refine WN.mono ?_
  rintro e V ⟨rfl, H⟩
  clear WN
  obtain ⟨n0, f0, n1, f1⟩ := w2_kept H.out.2 (.inr ⟨Nat.le_refl _, by omega⟩) (.inr ⟨by omega, by omega⟩)
  obtain ⟨v0, v1⟩ := w2f_at (.slice none 0 0) 11 n0 n1
  have FIN := left_of (.slice none 0 0) 11 H.out.1 H.out.2 tp.out
  refine leaves_cons (f := 51) (args := #[.pointer (some ⟨w.heap.size, 0, none⟩), .pointer (some ⟨w.heap.size + 1, 0, none⟩)]) (by simp) (by simp [go_sem]) ?_
  refine (catchB_panicking ⟨w.heap.size, 0, none⟩ ⟨w.heap.size + 1, 0, none⟩ _ _ _ n0 f0 n1 f1 (by simp)).mono ?_
  rintro e u' w'' ⟨rfl, rfl, rfl⟩
  rw [show ((V.setCell ⟨w.heap.size, 0, none⟩ (.slice none 0 0)).setCell ⟨w.heap.size + 1, 0, none⟩ (.int .i64 11)) = w2f w V (.slice none 0 0) 11 from rfl]
  clear n0 f0 n1 f1 H
  generalize w2f w V (.slice none 0 0) 11 = Z at *
  simp [Leaves, settle, results, Try.results48, go_sem, v0, v1]
  exact FIN

/-- Bytes, where no page fails. -/
theorem bytes_ok (h : Fs w q d mo l bad R Y) (a b : Nat) (hab : a ≤ b) (hb : b ≤ d.n) (hR : R.length < 20000) (hf : ∀ s, s < cntp d.sz a b → ¬ fails (cap mo) l (a / d.sz) bad s) :
    Calls Try.prog 48 #[.pointer (some ⟨q, 0, none⟩), .int .i64 a, .int .i64 b] w fun e w' => ∃ xa xc, e = .returned (.tuple #[.slice xa (b - a) xc, .int .i64 0]) ∧ Hid (ToldB w w' q d mo (rk (cap mo) l (a / d.sz) (cntp d.sz a b)) bad (R ++ rr (cap mo) l (a / d.sz) (cntp d.sz a b)) Y a (b - a) xa xc) := by
  have h2 := h.two
  have hz := h.small.2.1
  by_cases e : a = b
  · subst e
    have e0 : cntp d.sz a a = 0 := by unfold cntp; rw [if_neg (by omega)]
    rw [e0]
    refine bytes_told h a a hab hb l (R ++ []) ?_
    rw [Nat.sub_self, List.append_nil]
    refine (window_none a (w2 w) q).mono ?_
    rintro e V ⟨rfl, rfl⟩
    refine ⟨none, 0, rfl, h2.mono (fun j hj => ?_), own_nil _ _ _ _, Mv.refl _ _⟩
    rcases hj with hj | hj
    · exact hj
    · cases hj
  · have hlt : a < b := by omega
    obtain ⟨c1, c2⟩ := cntp_spec hz hlt
    refine bytes_told h a b hab hb _ _ ?_
    refine (window_ok h2 a b (a / d.sz) (cntp d.sz a b) hlt hb rfl ⟨c1, c2⟩ hR hf).mono ?_
    rintro e V ⟨xa, xc, rfl, H⟩
    exact ⟨xa, xc, rfl, H.out.F, H.out.O, H.out.M⟩
/-- .. and where one does. -/
theorem bytes_bad (h : Fs w q d mo l bad R Y) (a b : Nat) (hab : a ≤ b) (hb : b ≤ d.n) (hR : R.length < 20000) (t : Nat) (ht : t < cntp d.sz a b) (hft : fails (cap mo) l (a / d.sz) bad t) (hf : ∀ s, s < t → ¬ fails (cap mo) l (a / d.sz) bad s) :
    Calls Try.prog 48 #[.pointer (some ⟨q, 0, none⟩), .int .i64 a, .int .i64 b] w fun e w' => e = .returned (.tuple #[.slice none 0 0, .int .i64 11]) ∧ Hid (LeftB w w' q d mo (rk (cap mo) l (a / d.sz) t) bad (R ++ rr (cap mo) l (a / d.sz) (t + 1)) Y) := by
  have h2 := h.two
  have hz := h.small.2.1
  have hlt : a < b := by
    unfold cntp at ht
    split at ht
    · assumption
    · omega
  obtain ⟨c1, c2⟩ := cntp_spec hz hlt
  refine bytes_left h a b hab hb _ _ ?_
  exact window_bad h2 a b (a / d.sz) t hlt hb rfl ⟨fun s hs => c1 s (by omega), hft⟩ hR hf
end
end Go.Proofs.Ytdhdkbaalgdicaa

/- Pages that are turned beneath a file; the statements' first call. -/
namespace Go.Proofs.Ytdhdkbaalgdicaa
open Go.RowKit

section
variable {w : World} {q : Nat} {d : Pd} {mo : Int} {l : List Int} {bad : Nat → Bool} {R : List Int} {Y : Nat → Prop}

theorem Pg.cleared {ra : Option Addr} {rc k : Nat} {rd rd' : Nat → Int} (h : Pg w d ra rc bad k rd) : Pg (w.setCell ⟨d.bp, 4, none⟩ (.slice none 0 0)) d none 0 bad 0 rd' := by
  have hm := Mv.setCell w ⟨d.bp, 4, none⟩ (.slice none 0 0)
  obtain ⟨d1, d2, d3⟩ := h.dist
  refine ⟨h.b0, h.t0, Nat.le_trans h.tp hm.size, ?_, ?_, ?_, ?_, World.cell?_setCell_same _ _ _ h.c3, by rw [World.frozen?_setCell]; exact h.z3, fun i hi => hm.cell (h.file i hi) (fun e => d1 e.symm), h.pages.mv hm (fun j hj e => ?_), h.pat, h.faulty.mv hm (fun j hj e => ?_), own_nil _ _ _ _, h.dist, h.cnt, h.small⟩
  · rw [World.cell?_setCell_other _ _ _ _ (by simp)]; exact h.cs
  · rw [World.cell?_setCell_other _ _ _ _ (by simp)]; exact h.c0
  · rw [World.cell?_setCell_other _ _ _ _ (by simp)]; exact h.c1
  · rw [World.cell?_setCell_other _ _ _ _ (by simp)]; exact h.c2
  · rw [own_blk] at hj
    exact (h.pat j hj).2.1 e
  · cases hj
    exact d2 e.symm

/-- Its pages have turned: what fails, what was read. -/
theorem Fi.pages {c : Nat} {ra ra' : Option Addr} {rc rc' : Nat} {S : List Kw} {X : Nat → Prop} {w1 : World} {bad' : Nat → Bool} {R' : List Int} (h : Fi w q d mo bad R Y c ra rc S X) (P : Pg w1 d ra' rc' bad' R'.length (lof R')) (M : Mv (fun j => j = d.bp ∨ j = d.bl) w w1) (K : ∀ j, bk ra' = some j → bk ra = some j) : Fi w1 q d mo bad' R' Y c ra' rc' S X ∧ Mv (fun j => ¬ Y j) w w1 := by
  obtain ⟨t1, t2, t3⟩ := h.P.t0
  have hq := h.qn
  have hn : ∀ j, d.top ≤ j → ¬ (j = d.bp ∨ j = d.bl) := fun j hj e => by omega
  refine ⟨⟨M.cell h.fp (hn _ hq.1), M.cell h.fk (hn _ hq.1), P, ?_, h.xy, h.xt, h.xq, fun j hj => h.xr j (K j hj), fun j hj => Nat.lt_of_lt_of_le (h.xw j hj) M.size, fun j hj => ?_, ⟨hq.1, fun e => hq.2 (K _ e)⟩, h.len, fun p hp => ?_⟩, M.mono (fun j _ e hy => ?_)⟩
  · refine (h.C.mv M (fun j hj => ?_)).mono (fun j hj => .inl hj)
    rcases hj with e | e
    · rw [e]; exact h.xt _ t1
    · rw [e]; exact h.xt _ t3
  · have y := h.yp j hj
    exact ⟨y.1, y.2.1, fun e => y.2.2.1 (K _ e), y.2.2.2⟩
  · obtain ⟨i, g, h1, h2, h3, h4, h5, h6, h7, h8⟩ := h.pg p hp
    exact ⟨i, g, h1, h2, h3, h4, fun e => h5 (K _ e), h6, h7, fun j hj => M.cell (h8 j hj) (hn g h4)⟩
  · have y := h.yp j hy
    rcases e with e | e
    · exact y.1 e
    · exact y.2.1 e

theorem clear_fs (h : Fs w q d mo l bad R Y) : Calls Try.prog 21 #[.pointer (some ⟨d.bp, 0, none⟩)] w fun e w' => e = .returned (.tuple #[]) ∧ Hid (LeftB w w' q d mo l bad [] Y) := by
  obtain ⟨c, ra, rc, S, X, h, rfl⟩ := h
  refine (clear_any d.bp _ w h.P.c3 h.P.z3).mono ?_
  rintro e w' ⟨rfl, rfl⟩
  have := h.pages (R' := []) (ra' := none) (rc' := 0) (h.P.cleared (rd' := lof [])) ((Mv.setCell w ⟨d.bp, 4, none⟩ (.slice none 0 0)).mono (fun j _ e => .inl e)) (fun j e => by cases e)
  exact ⟨rfl, ⟨c, none, 0, S, X, this.1, rfl⟩, this.2⟩
theorem fault_fs (h : Fs w q d mo l bad R Y) (a : Option Addr) (n c : Nat) (f : Nat → Int) (hn : n < 50000) (hl : Sl w a n (In f)) (hne : ∀ p, a = some p → p.block ≠ d.bl) : Calls Try.prog 20 #[.pointer (some ⟨d.bp, 0, none⟩), .slice a n c] w fun e w' => e = .returned (.tuple #[]) ∧ Hid (LeftB w w' q d mo l (among f n) R Y) := by
  obtain ⟨c', ra, rc, S, X, h, rfl⟩ := h
  refine (fault_any d ra rc R.length bad (lof R) a n c f w h.P hn hl hne).mono ?_
  rintro e w' ⟨rfl, P, M⟩
  have := h.pages P.out (M.out.mono (fun j _ e => .inr e)) (fun j e => e)
  exact ⟨rfl, ⟨c', ra, rc, S, X, this.1, rfl⟩, this.2⟩
theorem reads_fs (h : Fs w q d mo l bad R Y) (hR : R.length < 90000) : Calls Try.prog 22 #[.pointer (some ⟨d.bp, 0, none⟩)] w fun e w' => e = .returned (.slice (some ⟨w.heap.size, 0, none⟩) R.length R.length) ∧ Hid (Own w' w.heap.size 3 (.slice (some ⟨w.heap.size, 0, none⟩) R.length R.length) R.length (In (lof R)) ∧ Below w.heap.size w w') := by
  obtain ⟨c', ra, rc, S, X, h, rfl⟩ := h
  obtain ⟨a, c, e, hs, _⟩ := h.P.reads.sl
  cases e
  refine (reads_any d.bp ra R.length rc (lof R) w h.P.c3 (by omega) hs).mono ?_
  rintro e w' ⟨rfl, O, B⟩
  exact ⟨rfl, O.out, B.out⟩
theorem count_fs (h : Fs w q d mo l bad R Y) : Calls Try.prog 23 #[.pointer (some ⟨d.bp, 0, none⟩)] w fun e w' => e = .returned (.int .i64 d.m) ∧ w' = w := by
  obtain ⟨c', ra, rc, S, X, h, rfl⟩ := h
  exact count_any d.bp d.pa d.m d.pc w h.P.c1
theorem Fs.blk (h : Fs w q d mo l bad R Y) : d.base ≤ d.bp ∧ d.base ≤ d.bl ∧ d.bp < d.top ∧ d.bl < d.top ∧ d.top ≤ w.heap.size := by
  obtain ⟨c', ra, rc, S, X, h, rfl⟩ := h
  exact ⟨h.P.b0.1, h.P.b0.2.2, h.P.t0.1, h.P.t0.2.2, h.P.tp⟩

/-- A new file of new pages. -/
theorem fnew_of {mo : Int} {rd : Nat → Int} {Y : Nat → Prop} (P : Pg w d none 0 bad 0 rd) (hY : ∀ j, Y j → j < w.heap.size ∧ (j < d.base ∨ d.top ≤ j)) : Calls Try.prog 15 #[.pointer (some ⟨d.bp, 0, none⟩), .int .i64 mo] w fun e w' => e = .returned (.pointer (some ⟨w.heap.size + 1, 0, none⟩)) ∧ Hid (Fs w' (w.heap.size + 1) d mo [] bad [] Y ∧ Below w.heap.size w w') := by
  have h1 := P.b0
  have h2 := P.t0
  exact fnew_any mo (R := []) (P.rds (fun j hj => by omega)) (fun j hj => by have := hY j hj; exact ⟨this.1, by omega, by omega, fun e => by cases e⟩)
end

theorem none_fails (N : Nat) (l : List Int) (i0 s : Nat) : ¬ fails N l i0 (fun _ => false) s := fun h => by cases h.2

theorem sl_12345 (w : World) : Sl (w.alloc (.cells #[.int .u8 1, .int .u8 2, .int .u8 3, .int .u8 4, .int .u8 5] 5)) (some ⟨w.heap.size, 0, none⟩) 5 (By fun i => (i : Int) + 1) := by
  intro i hi
  refine ⟨_, _, rfl, by simp, ?_⟩
  rw [Nat.zero_add]
  refine (alloc_new w _ 5 i _ ?_).1
  obtain rfl | rfl | rfl | rfl | rfl : i = 0 ∨ i = 1 ∨ i = 2 ∨ i = 3 ∨ i = 4 := by omega
  all_goals rfl

end Go.Proofs.Ytdhdkbaalgdicaa

/- Small facts for the statements' walks. -/
namespace Go.Proofs.Ytdhdkbaalgdicaa
open Go.RowKit

theorem b8 {x : Int} (h : (Lit.int .u8 x).wf = true) : 0 ≤ x ∧ x ≤ 255 := by
  simpa [Lit.wf, IntKind.min, IntKind.max, IntKind.signed, IntKind.bits] using h
theorem b16 {x : Int} (h : (Lit.int .u16 x).wf = true) : 0 ≤ x ∧ x ≤ 65535 := by
  simpa [Lit.wf, IntKind.min, IntKind.max, IntKind.signed, IntKind.bits] using h
theorem b64 {x : Int} (h : (Lit.int .i64 x).wf = true) : -9223372036854775808 ≤ x ∧ x ≤ 9223372036854775807 := by
  simpa [Lit.wf, IntKind.min, IntKind.max, IntKind.signed, IntKind.bits] using h

theorem cntp_le (sz a b : Nat) : cntp sz a b ≤ b + 1 := by
  unfold cntp
  split
  · have h1 := Nat.div_le_self (b - 1) sz
    have h2 := Nat.sub_le ((b - 1) / sz) (a / sz)
    omega
  · omega
theorem rr_small (N : Nat) (l : List Int) (i0 sz a b : Nat) (hb : b ≤ 5000) : (rr N l i0 (cntp sz a b)).length ≤ 5001 := Nat.le_trans (rr_le N l i0 _) (Nat.le_trans (cntp_le sz a b) (by omega))

theorem own_sl' {w : World} {base n c : Nat} {a : Option Addr} {e : TypeId} {V : Nat → Value} (h : Own w base e (.slice a n c) n V) : Sl w a n V ∧ n ≤ c := by
  obtain ⟨a', c', e', s', l', n'⟩ := h.sl
  cases e'
  exact ⟨s', l'⟩

section
variable {w W : World} {q : Nat} {d : Pd} {mo : Int} {l : List Int} {bad : Nat → Bool} {R : List Int} {Y : Nat → Prop}
/-- Somebody writes into what was told. -/
theorem Fs.poke {xa : Option Addr} (h : Fs W q d mo l bad R (fun j => Y j ∨ bk xa = some j)) (p : Addr) (v : Value) (hp : bk xa = some p.block) (ht : d.top ≤ p.block) : Fs (W.setCell p v) q d mo l bad R (fun j => Y j ∨ bk xa = some j) :=
  (h.mv (Mv.setCell W p v) (fun j e => by have e' : j = p.block := e; rw [e']; exact ⟨.inr hp, .inl ht⟩)).mono (fun j hj => .inl hj)
end
end Go.Proofs.Ytdhdkbaalgdicaa

/- Windows where no page fails; texts. -/
namespace Go.Proofs.Ytdhdkbaalgdicaa
open Go.RowKit

theorem txt_append (f : Nat → Int) (m n : Nat) : txt f m ++ txt (fun j => f (m + j)) n = txt f (m + n) := by
  unfold txt strOfNums
  apply ByteArray.ext
  rw [ByteArray.data_append]
  simp [List.range_add]

theorem txt_size (f : Nat → Int) (n : Nat) : (txt f n).size = n := by
  unfold txt
  rw [strOfNums_size]
  simp

section
variable {w : World} {q : Nat} {d : Pd} {mo : Int} {l : List Int} {R : List Int} {Y : Nat → Prop}
/-- Bytes of pages none of which fails, with what was read left open. -/
theorem bytes_well (h : Fs w q d mo l (fun _ => false) R Y) (a b : Nat) (hab : a ≤ b) (hb : b ≤ d.n) (hR : R.length < 20000) :
    Calls Try.prog 48 #[.pointer (some ⟨q, 0, none⟩), .int .i64 a, .int .i64 b] w fun e w' => ∃ xa xc, e = .returned (.tuple #[.slice xa (b - a) xc, .int .i64 0]) ∧ Hid (∃ l' R', R'.length ≤ R.length + 5001 ∧ ToldB w w' q d mo l' (fun _ => false) R' Y a (b - a) xa xc) := by
  have hs := h.small
  refine (bytes_ok h a b hab hb hR (fun s _ => none_fails _ _ _ s)).mono ?_
  rintro e w' ⟨xa, xc, rfl, T⟩
  exact ⟨xa, xc, rfl, _, _, by rw [List.length_append]; have := rr_small (cap mo) l (a / d.sz) d.sz a b (by omega); omega, T.out⟩
/-- A row that was told stands while others are. -/
theorem keepB {w' : World} {base n c : Nat} {a : Option Addr} {V : Nat → Value} (h : Hid (Own w base 5 (.slice a n c) n V)) (hm : Mv (fun j => ¬ Y j) w w') (hy : ∀ j, bk a = some j → Y j) : Hid (Own w' base 5 (.slice a n c) n V) :=
  h.out.mv hm (fun k hk e => e (hy k (by rw [own_blk] at hk; exact hk)))
end

end Go.Proofs.Ytdhdkbaalgdicaa
