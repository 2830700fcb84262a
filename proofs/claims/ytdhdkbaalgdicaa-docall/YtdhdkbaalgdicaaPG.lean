/- PG: r6_C1 r6_C2 r6_C3 r6_C4 r6_C5. -/
import Derived.Deep.QuietTactic
import Derived.BigQuiet
import Derived.Deep.RegionWith
import Derived.BigRegion
import Derived.Test.YtdhdkbaalgdicaaBY
/- What the small functions of page answer. -/
namespace Go.Proofs.Ytdhdkbaalgdicaa
open Go.RowKit

theorem info3 : Try.prog.info? 3 = some Try.t3 := by kernel_rfl
theorem info4 : Try.prog.info? 4 = some Try.t4 := by kernel_rfl
theorem info22 : Try.prog.info? 22 = some Try.t22 := by kernel_rfl

def In (f : Nat → Int) : Nat → Value := fun i => .int .i64 (f i)

set_option maxHeartbeats 400000 in
theorem copyB_any (a : Option Addr) (n c : Nat) (f : Nat → Int) (w : World) (hn : n < 100000) (hl : Sl w a n (By f)) :
    Calls Try.prog 24 #[.slice a n c] w fun e w' => e = .returned (.slice (some ⟨w.heap.size, 0, none⟩) n n) ∧ Hid (Own w' w.heap.size 5 (.slice (some ⟨w.heap.size, 0, none⟩) n n) n (By f)) ∧ Hid (Below w.heap.size w w') := by
  obtain ⟨hmk, ho⟩ := made 22 5 Try.t5 (.int .u8 0) 1 Try.underlying22 info5 (by kernel_rfl) (by kernel_rfl) (by kernel_rfl) rfl (by omega) n hn w w.heap.size (Nat.le_refl _)
  obtain ⟨W, hcp, h2, h3⟩ := copied 22 5 Try.underlying22 (by kernel_rfl) _ _ _ _ _ _ (By f) a n c ho (hl.mv (Mv.alloc (fun _ => False) w _) (fun _ _ h => h)) (Nat.le_refl _) (fun _ => rfl)
  have R : Hid _ := h2.congr (U := By f) (fun i hi => by rw [if_pos hi])
  have B : Hid (Below w.heap.size w W) := ((Mv.alloc (fun k => k = w.heap.size) w _).trans h3 (fun _ _ h => h)).below (Nat.le_refl _) (fun k hk => by omega)
  clear ho hl h2 h3
  go_enter Try.func24, Try.ntmps24
  go_wp2
  go_ret
  exact ⟨rfl, R, B⟩

set_option maxHeartbeats 400000 in
theorem copyI_any (a : Option Addr) (n c : Nat) (f : Nat → Int) (w : World) (hn : n < 100000) (hl : Sl w a n (In f)) :
    Calls Try.prog 36 #[.slice a n c] w fun e w' => e = .returned (.slice (some ⟨w.heap.size, 0, none⟩) n n) ∧ Hid (Own w' w.heap.size 3 (.slice (some ⟨w.heap.size, 0, none⟩) n n) n (In f)) ∧ Hid (Below w.heap.size w w') := by
  obtain ⟨hmk, ho⟩ := made 24 3 Try.t3 (.int .i64 0) 8 Try.underlying24 info3 (by kernel_rfl) (by kernel_rfl) (by kernel_rfl) rfl (by omega) n hn w w.heap.size (Nat.le_refl _)
  obtain ⟨W, hcp, h2, h3⟩ := copied 24 3 Try.underlying24 (by kernel_rfl) _ _ _ _ _ _ (In f) a n c ho (hl.mv (Mv.alloc (fun _ => False) w _) (fun _ _ h => h)) (Nat.le_refl _) (fun _ => rfl)
  have R : Hid _ := h2.congr (U := In f) (fun i hi => by rw [if_pos hi])
  have B : Hid (Below w.heap.size w W) := ((Mv.alloc (fun k => k = w.heap.size) w _).trans h3 (fun _ _ h => h)).below (Nat.le_refl _) (fun k hk => by omega)
  clear ho hl h2 h3
  go_enter Try.func36, Try.ntmps36
  go_wp2
  go_ret
  exact ⟨rfl, R, B⟩

theorem len_any (b : Nat) (a : Option Addr) (n c : Nat) (w : World) (hc : w.cell? ⟨b, 1, none⟩ = some (.slice a n c)) :
    Calls Try.prog 54 #[.pointer (some ⟨b, 0, none⟩)] w fun e w' => e = .returned (.int .i64 n) ∧ w' = w := by
  go_enter Try.func54, Try.ntmps54
  go_wp2
  go_ret
  exact ⟨rfl, rfl⟩
theorem len_nil (w : World) : Calls Try.prog 54 #[.pointer none] w fun e w' => e = .returned (.int .i64 0) ∧ w' = w := by
  go_enter Try.func54, Try.ntmps54
  go_wp2
  go_ret
  exact ⟨rfl, rfl⟩
theorem count_any (b : Nat) (a : Option Addr) (n c : Nat) (w : World) (hc : w.cell? ⟨b, 2, none⟩ = some (.slice a n c)) :
    Calls Try.prog 23 #[.pointer (some ⟨b, 0, none⟩)] w fun e w' => e = .returned (.int .i64 n) ∧ w' = w := by
  go_enter Try.func23, Try.ntmps23
  go_wp2
  go_ret
  exact ⟨rfl, rfl⟩
theorem count_nil (w : World) : Calls Try.prog 23 #[.pointer none] w fun e w' => e = .returned (.int .i64 0) ∧ w' = w := by
  go_enter Try.func23, Try.ntmps23
  go_wp2
  go_ret
  exact ⟨rfl, rfl⟩
theorem clear_any (b : Nat) (v : Value) (w : World) (hc : w.cell? ⟨b, 4, none⟩ = some v) (hz : w.frozen? ⟨b, 4, none⟩ = false) :
    Calls Try.prog 21 #[.pointer (some ⟨b, 0, none⟩)] w fun e w' => e = .returned (.tuple #[]) ∧ w' = w.setCell ⟨b, 4, none⟩ (.slice none 0 0) := by
  go_enter Try.func21, Try.ntmps21
  go_wp2
  go_end0
  exact ⟨rfl, rfl⟩
theorem clear_nil (w : World) : Calls Try.prog 21 #[.pointer none] w fun e w' => e = .returned (.tuple #[]) ∧ w' = w := by
  go_enter Try.func21, Try.ntmps21
  go_wp2
  (try simp only [Exit.inBlock, Exit.then]); refine bodyPost_ret (results_none rfl _ _ _) rfl ?_
  exact ⟨rfl, rfl⟩
theorem reads_nil (w : World) : Calls Try.prog 22 #[.pointer none] w fun e w' => e = .returned (.slice none 0 0) ∧ w' = w := by
  go_enter Try.func22, Try.ntmps22
  go_wp2
  go_ret
  exact ⟨rfl, rfl⟩
theorem reads_any (b : Nat) (a : Option Addr) (n c : Nat) (f : Nat → Int) (w : World) (hc : w.cell? ⟨b, 4, none⟩ = some (.slice a n c)) (hn : n < 100000) (hl : Hid (Sl w a n (In f))) :
    Calls Try.prog 22 #[.pointer (some ⟨b, 0, none⟩)] w fun e w' => e = .returned (.slice (some ⟨w.heap.size, 0, none⟩) n n) ∧ Hid (Own w' w.heap.size 3 (.slice (some ⟨w.heap.size, 0, none⟩) n n) n (In f)) ∧ Hid (Below w.heap.size w w') := by
  go_enter Try.func22, Try.ntmps22
  go_wp2_with fail
  refine (copyI_any a n c f w hn hl.out).mono ?_
  rintro e w1 ⟨rfl, h1, h2⟩
  go_wp2_with fail
  go_ret
  exact ⟨rfl, h1, h2⟩

def pageChain : List PanicEntry := [{ v := .iface 9 (.string ⟨#[112, 97, 103, 101, 58, 32, 110, 111, 116, 32, 116, 111, 32, 98, 101, 32, 114, 101, 97, 100]⟩), recovered := false }]
theorem must_ok (w : World) : Calls Try.prog 63 #[.bool true] w fun e w' => e = .returned (.tuple #[]) ∧ w' = w := by
  go_enter Try.func63, Try.ntmps63
  go_wp2
  go_end0
  exact ⟨rfl, rfl⟩
theorem must_bad (w : World) : Calls Try.prog 63 #[.bool false] w fun e w' => e = .panicked pageChain ∧ w' = w := by
  go_enter Try.func63, Try.ntmps63
  go_wp2
  exact ⟨rfl, rfl, rfl⟩

/-- Is there such a page? -/
def has (i : Int) (m : Nat) : Bool := decide (0 ≤ i) && decide (i < m)
theorem has_any (b : Nat) (i : Int) (a : Option Addr) (n c : Nat) (w : World) (hc : w.cell? ⟨b, 2, none⟩ = some (.slice a n c)) :
    Calls Try.prog 35 #[.pointer (some ⟨b, 0, none⟩), .int .i64 i] w fun e w' => e = .returned (.bool (has i n)) ∧ w' = w := by
  by_cases h : 0 ≤ i
  · have e1 : Hid (has i n = decide (i < n)) := by show _ = _; unfold has; rw [decide_eq_true h]; rfl
    go_enter Try.func35, Try.ntmps35
    go_wp2_with fail
    refine (count_any b a n c w hc).mono ?_
    rintro e w1 ⟨rfl, hw⟩
    obtain rfl := hw.symm
    go_wp2_with fail
    go_ret
    exact ⟨by rw [e1.out]; rfl, rfl⟩
  · have e1 : Hid (has i n = false) := by show _ = _; unfold has; rw [decide_eq_false h]; rfl
    have h' : i < 0 := by omega
    go_enter Try.func35, Try.ntmps35
    go_wp2_with fail
    go_ret
    exact ⟨by rw [e1.out]; rfl, rfl⟩
theorem has_nil (i : Int) (hi : 0 ≤ i) (w : World) :
    Calls Try.prog 35 #[.pointer none, .int .i64 i] w fun e w' => e = .returned (.bool false) ∧ w' = w := by
  go_enter Try.func35, Try.ntmps35
  go_wp2_with fail
  refine (count_nil w).mono ?_
  rintro e w1 ⟨rfl, hw⟩
  obtain rfl := hw.symm
  go_wp2_with fail
  go_ret
  exact ⟨by rw [decide_eq_false (by omega)]; rfl, rfl⟩

end Go.Proofs.Ytdhdkbaalgdicaa

/- Reading a page. -/
namespace Go.Proofs.Ytdhdkbaalgdicaa
open Go.RowKit

/-- Where a file lies, and what is in it: all that never turns. -/
structure Pd where
  base : Nat
  top : Nat
  bp : Nat
  bf : Nat
  bl : Nat
  pa : Option Addr
  pc : Nat
  n : Nat
  sz : Nat
  m : Nat
  f : Nat → Int

def bk (a : Option Addr) : Option Nat := a.map (·.block)
/-- Page i. -/
def Pd.pg (d : Pd) (i : Nat) : Value := .slice (some ⟨d.bf, i * d.sz, none⟩) (min d.sz (d.n - i * d.sz)) (d.n - i * d.sz)

/-- A file that is open: which pages can't be read, which were. -/
structure Pg (w : World) (d : Pd) (ra : Option Addr) (rc : Nat) (bad : Nat → Bool) (k : Nat) (rd : Nat → Int) : Prop where
  b0 : d.base ≤ d.bp ∧ d.base ≤ d.bf ∧ d.base ≤ d.bl
  t0 : d.bp < d.top ∧ d.bf < d.top ∧ d.bl < d.top
  tp : d.top ≤ w.heap.size
  cs : w.cell? ⟨d.bp, 0, none⟩ = some (.int .i64 d.sz)
  c0 : w.cell? ⟨d.bp, 1, none⟩ = some (.slice (some ⟨d.bf, 0, none⟩) d.n d.n)
  c1 : w.cell? ⟨d.bp, 2, none⟩ = some (.slice d.pa d.m d.pc)
  c2 : w.cell? ⟨d.bp, 3, none⟩ = some (.slice (some ⟨d.bl, 0, none⟩) d.m d.m)
  c3 : w.cell? ⟨d.bp, 4, none⟩ = some (.slice ra k rc)
  z3 : w.frozen? ⟨d.bp, 4, none⟩ = false
  file : ∀ i, i < d.n → w.cell? ⟨d.bf, i, none⟩ = some (.int .u8 (d.f i))
  pages : Own w d.base 22 (.slice d.pa d.m d.pc) d.m d.pg
  pat : ∀ j, bk d.pa = some j → j < d.top ∧ j ≠ d.bp ∧ j ≠ d.bl
  faulty : Own w d.base 4 (.slice (some ⟨d.bl, 0, none⟩) d.m d.m) d.m (fun i => .bool (bad i))
  reads : Own w d.top 3 (.slice ra k rc) k (In rd)
  dist : d.bp ≠ d.bf ∧ d.bp ≠ d.bl ∧ d.bf ≠ d.bl
  cnt : ∀ i, i * d.sz < d.n ↔ i < d.m
  small : d.n < 5000 ∧ 0 < d.sz ∧ d.sz ≤ 512 ∧ d.m ≤ d.n

theorem own_blk (a : Option Addr) (n c : Nat) : (Value.slice a n c).ownBlock = bk a := by cases a <;> rfl

/-- What others may turn. -/
theorem Pg.mv {w w' : World} {d : Pd} {ra : Option Addr} {rc k : Nat} {bad : Nat → Bool} {rd : Nat → Int} {S : Nat → Prop} (h : Pg w d ra rc bad k rd) (hm : Mv S w w') (hs : ∀ j, S j → d.top ≤ j ∧ bk ra ≠ some j) : Pg w' d ra rc bad k rd := by
  have hlt : ∀ j, j < d.top → ¬ S j := fun j hj hS => by have := (hs j hS).1; omega
  obtain ⟨t1, t2, t3⟩ := h.t0
  refine ⟨h.b0, h.t0, Nat.le_trans h.tp hm.size, hm.cell h.cs (hlt _ t1), hm.cell h.c0 (hlt _ t1), hm.cell h.c1 (hlt _ t1), hm.cell h.c2 (hlt _ t1), hm.cell h.c3 (hlt _ t1), ?_, fun i hi => hm.cell (h.file i hi) (hlt _ t2), h.pages.mv hm ?_, h.pat, h.faulty.mv hm ?_, h.reads.mv hm ?_, h.dist, h.cnt, h.small⟩
  · rw [hm.frozen (p := ⟨d.bp, 4, none⟩) (World.block_lt_of_cell? w _ h.c3) (hlt _ t1)]; exact h.z3
  · intro j hj
    rw [own_blk] at hj
    exact hlt j (h.pat j hj).1
  · intro j hj
    cases hj
    exact hlt _ t3
  · intro j hj hS
    rw [own_blk] at hj
    exact (hs j hS).2 hj

/-- One more number behind. -/
def app (rd : Nat → Int) (k : Nat) (i : Int) : Nat → Int := fun j => if j < k then rd j else i

theorem sl_one (w : World) (x : Int) (B : Nat) (hB : B = w.heap.size) : Sl (w.alloc (.cells #[.int .i64 x] 3)) (some ⟨B, 0, none⟩) 1 (In fun _ => x) := by
  subst hB
  intro i hi
  obtain rfl : i = 0 := by omega
  exact ⟨_, _, rfl, by simp, (alloc_new w _ 3 0 _ rfl).1⟩

/-- A reading noted: the append, and the store. -/
theorem Pg.note {w w1 : World} {d : Pd} {ra : Option Addr} {rc k : Nat} {bad : Nat → Bool} {rd : Nat → Int} (h : Pg w d ra rc bad k rd) (hm : Mv (fun _ => False) w w1) (hk : k < 50000) (x : Int) (B : Nat) (hB : B = w1.heap.size) :
    ∃ ra' rc' W, (Builtin.append_ #[24, 24] 24 #[.slice ra k rc, .slice (some ⟨B, 0, none⟩) 1 1]).run Try.prog (w1.alloc (.cells #[.int .i64 x] 3)) = .ok (.slice ra' (k + 1) rc') W ∧
      Pg (W.setCell ⟨d.bp, 4, none⟩ (.slice ra' (k + 1) rc')) d ra' rc' bad (k + 1) (app rd k x) ∧ (bk ra' = bk ra ∨ ∃ g, bk ra' = some g ∧ w1.heap.size ≤ g) ∧
      Mv (fun j => bk ra = some j) (w1.alloc (.cells #[.int .i64 x] 3)) W ∧ Mv (fun j => j = d.bp ∨ bk ra = some j) w (W.setCell ⟨d.bp, 4, none⟩ (.slice ra' (k + 1) rc')) := by
  have hm2 : Mv (fun _ => False) w (w1.alloc (.cells #[.int .i64 x] 3)) := hm.trans (Mv.alloc _ _ _) (fun _ _ h => h)
  have h1 : Pg (w1.alloc (.cells #[.int .i64 x] 3)) d ra rc bad k rd := h.mv hm2 (fun j hj => hj.elim)
  obtain ⟨v', W, hr, ho, hg, hf⟩ := append_own 24 24 3 Try.t3 (.int .i64 0) 8 Try.underlying24 info3 (by kernel_rfl) (by kernel_rfl) (by kernel_rfl) rfl (by omega) _ d.top _ k 1 1 (In rd) (In fun _ => x) (some ⟨B, 0, none⟩) h1.reads (sl_one w1 x B hB) (fun _ => rfl) (by omega) (fun h => by cases h) h1.tp
  obtain ⟨ra', rc', rfl, _⟩ := ho.sl
  rw [own_blk, own_blk] at hf
  have hM := Mv.of_grown hg
  rw [own_blk] at hM
  have hB2 : ∀ j, bk ra = some j → d.top ≤ j := fun j hj => (h1.reads.blk j (by rw [own_blk]; exact hj)).1
  obtain ⟨t1, t2, t3⟩ := h1.t0
  obtain ⟨d1, d2, d3⟩ := h1.dist
  have hlt : ∀ j, j < d.top → ¬ bk ra = some j := fun j hj hS => by have := hB2 j hS; omega
  have hM2 := Mv.setCell W ⟨d.bp, 4, none⟩ (.slice ra' (k + 1) rc')
  have hM3 : Mv (fun j => j = d.bp ∨ bk ra = some j) (w1.alloc (.cells #[.int .i64 x] 3)) (W.setCell ⟨d.bp, 4, none⟩ (.slice ra' (k + 1) rc')) := (hM.mono (T := fun j => j = d.bp ∨ bk ra = some j) (fun j _ h => .inr h)).trans hM2 (fun j _ h => .inl h)
  have hW3 : W.cell? ⟨d.bp, 4, none⟩ = some (.slice ra k rc) := hM.cell h1.c3 (hlt _ t1)
  refine ⟨ra', rc', W, hr, ?_, ?_, hM, hm2.mono (fun _ _ h => h.elim) |>.trans hM3 (fun _ _ h => h)⟩
  · refine ⟨h1.b0, h1.t0, Nat.le_trans h1.tp hM3.size, ?_, ?_, ?_, ?_, ?_, ?_, fun i hi => hM3.cell (h1.file i hi) ?_, h1.pages.mv hM3 ?_, h1.pat, h1.faulty.mv hM3 ?_, ?_, h1.dist, h1.cnt, h1.small⟩
    · rw [World.cell?_setCell_other _ _ _ _ (by simp)]; exact hM.cell h1.cs (hlt _ t1)
    · rw [World.cell?_setCell_other _ _ _ _ (by simp)]; exact hM.cell h1.c0 (hlt _ t1)
    · rw [World.cell?_setCell_other _ _ _ _ (by simp)]; exact hM.cell h1.c1 (hlt _ t1)
    · rw [World.cell?_setCell_other _ _ _ _ (by simp)]; exact hM.cell h1.c2 (hlt _ t1)
    · exact World.cell?_setCell_same _ _ _ hW3
    · rw [World.frozen?_setCell, hM.frozen (p := ⟨d.bp, 4, none⟩) (World.block_lt_of_cell? _ _ h1.c3) (hlt _ t1)]; exact h1.z3
    · rintro (h | h)
      · exact d1 h.symm
      · exact hlt _ t2 h
    · intro j hj
      rw [own_blk] at hj
      have := h1.pat j hj
      rintro (h | h)
      · exact this.2.1 h
      · exact hlt _ this.1 h
    · intro j hj
      cases hj
      rintro (h | h)
      · exact d2 h.symm
      · exact hlt _ t3 h
    · have := (ho.congr (U := In (app rd k x)) (fun i hi => by unfold cat In app; split <;> rfl)).mv hM2 (fun j hj e => by
        have := (ho.blk j hj).1
        have e' : j = d.bp := e
        omega)
      exact this
  · rcases hf with hf | ⟨g, h1, h2⟩
    · exact .inl hf
    · refine .inr ⟨g, h1, ?_⟩
      simp at h2
      omega

end Go.Proofs.Ytdhdkbaalgdicaa

/- Read, in its three ways. -/
namespace Go.Proofs.Ytdhdkbaalgdicaa
open Go.RowKit

theorem make_fn (fn : Fn) (first cap : Array Value) (w : World) : (Instr.makeFunc fn first cap).run Try.prog w = .ok (.func fn first cap) w := rfl

theorem catch_panicking (p q r : Addr) (w : World) (x : Int) (y z : Value) (hp : w.cell? p = some (.int .i64 x)) (hc : w.cell? q = some y) (hz : w.frozen? q = false) (hc2 : w.cell? r = some z) (hz2 : w.frozen? r = false) (hqr : q ≠ r) :
    CallsD Try.prog 62 #[.pointer (some p), .pointer (some q), .pointer (some r)] (.panicking pageChain) w fun e u' w' =>
      e = .returned (.tuple #[]) ∧ u' = .panicking [{ v := .iface 9 (.string ⟨#[112, 97, 103, 101, 58, 32, 110, 111, 116, 32, 116, 111, 32, 98, 101, 32, 114, 101, 97, 100]⟩), recovered := true }] ∧ w' = (w.setCell q (.slice none 0 0)).setCell r (.int .i64 x) := by
  refine callsD_of_wpS Try.func62 rfl fun c₀ cs hu => ?_
  unfold pageChain at hu
  apply wpS_seq
  apply wpS_region
  simp [wpOpsS, go_sem, recoverD, hu, Try.ntmps62, Exit.thenS]
  refine wpS_cond (t := true) (by simp [Act.eval, Array.replicate]) ?_
  simp only [if_true]
  apply wpS_region
  have hc3 : (w.setCell q (.slice none 0 0)).cell? r = some z := by rw [World.cell?_setCell_other _ _ _ _ hqr]; exact hc2
  simp [wpOpsS, go_sem, hp, hc, hz, hc3, hz2, bodyPostS, results, Try.results62]

theorem catch_idle (p q r : Addr) (w : World) :
    CallsD Try.prog 62 #[.pointer (some p), .pointer (some q), .pointer (some r)] .returning w fun e u' w' => e = .returned (.tuple #[]) ∧ u' = .returning ∧ w' = w := by
  refine callsD_of_wpS Try.func62 rfl fun c₀ cs hu => ?_
  apply wpS_seq
  apply wpS_region
  simp [wpOpsS, go_sem, recoverD, hu, Try.ntmps62, Exit.thenS]
  refine wpS_cond (t := false) (by simp [Act.eval, Array.replicate]) ?_
  simp only [Bool.false_eq_true, if_false]
  refine wpS_of_wp (wp_skip ?_)
  cases c₀
  simp_all [bodyPostS, results, Try.results62]

theorem below3 (w : World) (a b c : Obj) : Below w.heap.size w (((w.alloc a).alloc b).alloc c) := (((Below.refl _ _).alloc (Nat.le_refl _) _).alloc (by simp) _).alloc (by simp; omega) _

set_option maxHeartbeats 1000000 in
theorem read_none (b : Nat) (i : Int) (a : Option Addr) (n c : Nat) (w : World) (hc : w.cell? ⟨b, 2, none⟩ = some (.slice a n c)) (hb : b < w.heap.size) (hi : has i n = false) :
    Calls Try.prog 58 #[.pointer (some ⟨b, 0, none⟩), .int .i64 i] w fun e w' => e = .returned (.tuple #[.slice none 0 0, .int .i64 1]) ∧ Below w.heap.size w w' := by
  have hmf := make_fn
  have H : Hid _ := hi
  clear hi
  go_enter_defers Try.func58, Try.ntmps58
  go_wp2_with fail
  refine (has_any b i a n c _ ?_).mono ?_
  · exact ((below3 w _ _ _).cell (p := ⟨b, 2, none⟩) hb).trans hc
  rintro e w1 ⟨rfl, hw⟩
  rw [H.out]
  subst hw
  go_wp2_with fail
  refine (must_bad _).mono ?_
  rintro e w2 ⟨rfl, hw⟩
  subst hw
  refine leaves_cons (f := 62) (args := #[.pointer (some ⟨w.heap.size + 2, 0, none⟩), .pointer (some ⟨w.heap.size, 0, none⟩), .pointer (some ⟨w.heap.size + 1, 0, none⟩)]) (by simp) (by simp [go_sem]) ?_
  refine (catch_panicking ⟨w.heap.size + 2, 0, none⟩ ⟨w.heap.size, 0, none⟩ ⟨w.heap.size + 1, 0, none⟩ _ 1 (.slice none 0 0) (.int .i64 0) ?_ ?_ ?_ ?_ ?_ ?_).mono ?_
  · simp [go_sem]
  · simp [go_sem]
  · simp [go_sem]
  · simp [go_sem]
  · simp [go_sem]
  · simp
  rintro e u' w'' ⟨rfl, rfl, rfl⟩
  simp [Leaves, settle, results, Try.results58, go_sem]
  exact below3 _ _ _ _

set_option maxHeartbeats 1000000 in
theorem read_nil (w : World) :
    Calls Try.prog 58 #[.pointer none, .int .i64 0] w fun e w' => e = .returned (.tuple #[.slice none 0 0, .int .i64 1]) ∧ Below w.heap.size w w' := by
  have hmf := make_fn
  go_enter_defers Try.func58, Try.ntmps58
  go_wp2_with fail
  refine (has_nil 0 (by omega) _).mono ?_
  rintro e w1 ⟨rfl, hw⟩
  subst hw
  go_wp2_with fail
  refine (must_bad _).mono ?_
  rintro e w2 ⟨rfl, hw⟩
  subst hw
  refine leaves_cons (f := 62) (args := #[.pointer (some ⟨w.heap.size + 2, 0, none⟩), .pointer (some ⟨w.heap.size, 0, none⟩), .pointer (some ⟨w.heap.size + 1, 0, none⟩)]) (by simp) (by simp [go_sem]) ?_
  refine (catch_panicking ⟨w.heap.size + 2, 0, none⟩ ⟨w.heap.size, 0, none⟩ ⟨w.heap.size + 1, 0, none⟩ _ 1 (.slice none 0 0) (.int .i64 0) ?_ ?_ ?_ ?_ ?_ ?_).mono ?_
  · simp [go_sem]
  · simp [go_sem]
  · simp [go_sem]
  · simp [go_sem]
  · simp [go_sem]
  · simp
  rintro e u' w'' ⟨rfl, rfl, rfl⟩
  simp [Leaves, settle, results, Try.results58, go_sem]
  exact below3 _ _ _ _

/-- The world in which a reading is noted. -/
def w3 (w : World) : World := ((w.alloc (.cells #[.slice none 0 0] 22)).alloc (.cells #[.int .i64 0] 27)).alloc (.cells #[.int .i64 1] 27)
theorem w3_mv (w : World) : Mv (fun _ => False) w (w3 w) := ((Mv.alloc _ w _).trans (Mv.alloc (fun _ => False) _ _) (fun _ _ h => h)).trans (Mv.alloc (fun _ => False) _ _) (fun _ _ h => h)
theorem w3_size (w : World) : (w3 w).heap.size = w.heap.size + 3 := by simp [w3]

theorem w3_new (w : World) : (w3 w).cell? ⟨w.heap.size, 0, none⟩ = some (.slice none 0 0) ∧ (w3 w).frozen? ⟨w.heap.size, 0, none⟩ = false ∧ (w3 w).cell? ⟨w.heap.size + 1, 0, none⟩ = some (.int .i64 0) ∧ (w3 w).frozen? ⟨w.heap.size + 1, 0, none⟩ = false ∧ (w3 w).cell? ⟨w.heap.size + 1 + 1, 0, none⟩ = some (.int .i64 1) ∧ (w3 w).frozen? ⟨w.heap.size + 1 + 1, 0, none⟩ = false := by
  unfold w3
  refine ⟨?_, ?_, ?_, ?_, ?_, ?_⟩ <;> simp [go_sem]

/-- What the walk is told of the world in which a reading has been noted. -/
structure Noted (w W : World) (d : Pd) (ra : Option Addr) (rc k : Nat) (bad : Nat → Bool) : Prop where
  c1 : W.cell? ⟨d.bp, 2, none⟩ = some (.slice d.pa d.m d.pc)
  c2 : W.cell? ⟨d.bp, 3, none⟩ = some (.slice (some ⟨d.bl, 0, none⟩) d.m d.m)
  c3 : W.cell? ⟨d.bp, 4, none⟩ = some (.slice ra k rc)
  z3 : W.frozen? ⟨d.bp, 4, none⟩ = false
  bl : ∀ i, i < d.m → W.cell? ⟨d.bl, i, none⟩ = some (.bool (bad i))
  n0 : W.cell? ⟨w.heap.size, 0, none⟩ = some (.slice none 0 0)
  f0 : W.frozen? ⟨w.heap.size, 0, none⟩ = false
  n1 : W.cell? ⟨w.heap.size + 1, 0, none⟩ = some (.int .i64 0)
  f1 : W.frozen? ⟨w.heap.size + 1, 0, none⟩ = false
  n2 : W.cell? ⟨w.heap.size + 1 + 1, 0, none⟩ = some (.int .i64 1)
  f2 : W.frozen? ⟨w.heap.size + 1 + 1, 0, none⟩ = false
  lt : d.bp < w.heap.size ∧ d.bl < w.heap.size ∧ d.bp ≠ d.bl
theorem noted {w W : World} {d : Pd} {ra : Option Addr} {rc k : Nat} {bad : Nat → Bool} {rd : Nat → Int} (h : Pg w d ra rc bad k rd) (hm : Mv (fun j => bk ra = some j) (w3 w) W) : Noted w W d ra rc k bad := by
  have hB2 : ∀ j, bk ra = some j → d.top ≤ j ∧ j < w.heap.size := fun j hj => h.reads.blk j (by rw [own_blk]; exact hj)
  have h3 := h.mv (w3_mv w) (fun j hj => hj.elim)
  obtain ⟨t1, t2, t3⟩ := h.t0
  have htp := h.tp
  have hlt : ∀ j, j < d.top → ¬ bk ra = some j := fun j hj hS => by have := hB2 j hS; omega
  have hge : ∀ j, w.heap.size ≤ j → ¬ bk ra = some j := fun j hj hS => by have := hB2 j hS; omega
  obtain ⟨q1, q2, q3, q4, q5, q6⟩ := w3_new w
  have hz := w3_size w
  have fz : ∀ p : Addr, p.block < w.heap.size + 3 → ¬ bk ra = some p.block → W.frozen? p = (w3 w).frozen? p := fun p hp hn => hm.frozen (by omega) hn
  refine ⟨hm.cell h3.c1 (hlt _ t1), hm.cell h3.c2 (hlt _ t1), hm.cell h3.c3 (hlt _ t1), ?_, fun i hi => hm.cell (h3.faulty.at hi).1 (hlt _ t3), hm.cell q1 (hge _ (by simp)), ?_, hm.cell q3 (hge _ (by simp)), ?_, hm.cell q5 (hge _ (by simp; omega)), ?_, by omega, by omega, h.dist.2.1⟩
  · rw [fz _ (by show d.bp < _; omega) (hlt _ t1)]; exact h3.z3
  · rw [fz _ (by show w.heap.size < _; omega) (hge _ (by simp))]; exact q2
  · rw [fz _ (by show w.heap.size + 1 < _; omega) (hge _ (by simp))]; exact q4
  · rw [fz _ (by show w.heap.size + 1 + 1 < _; omega) (hge _ (by simp; omega))]; exact q6

theorem Own.base {w : World} {base n : Nat} {e : TypeId} {v : Value} {V : Nat → Value} (h : Own w base e v n V) {b2 : Nat} (hb : b2 ≤ base) : Own w b2 e v n V := by
  refine ⟨h.1, ?_⟩
  rcases h.2 with hn | ⟨g, cap, cur, rfl, hb1, rest⟩
  · exact .inl hn
  · exact .inr ⟨g, cap, cur, rfl, Nat.le_trans hb hb1, rest⟩

/-- Behind it, only the call's own cells are written. -/
theorem fin3 {w X X' : World} {d : Pd} {ra ra' : Option Addr} {rc' k' : Nat} {bad : Nat → Bool} {rd' : Nat → Int} {T : Nat → Prop} (tp : d.top ≤ w.heap.size) (hra : ∀ j, bk ra = some j → j < w.heap.size) (P' : Pg X d ra' rc' bad k' rd') (K' : bk ra' = bk ra ∨ ∃ g, bk ra' = some g ∧ (w3 w).heap.size ≤ g)
    (M2 : Mv (fun j => j = d.bp ∨ bk ra = some j) w X) (Mx : Mv T X X') (hT : ∀ j, T j → w.heap.size ≤ j ∧ j < w.heap.size + 3) :
    Hid (Pg X' d ra' rc' bad k' rd') ∧ Hid (bk ra' = bk ra ∨ ∃ g, bk ra' = some g ∧ w.heap.size ≤ g) ∧ Hid (Mv (fun j => j = d.bp ∨ bk ra = some j) w X') := by
  have hz := w3_size w
  refine ⟨P'.mv Mx (fun j hj => ?_), ?_, M2.trans Mx (fun j hj hS => ?_)⟩
  · have := hT j hj
    refine ⟨by omega, fun e => ?_⟩
    rcases K' with K' | ⟨g, k1, k2⟩
    · rw [K'] at e
      have := hra j e
      omega
    · rw [k1] at e
      cases e
      omega
  · rcases K' with K' | ⟨g, k1, k2⟩
    · exact .inl K'
    · exact .inr ⟨g, k1, by omega⟩
  · have := hT j hS
    omega

/-- What a reading leaves. -/
def WasRead (w w' : World) (d : Pd) (ra : Option Addr) (bad : Nat → Bool) (k : Nat) (rd : Nat → Int) (i : Nat) : Prop :=
  ∃ ra' rc', Hid (Pg w' d ra' rc' bad (k + 1) (app rd k i)) ∧ Hid (bk ra' = bk ra ∨ ∃ g, bk ra' = some g ∧ w.heap.size ≤ g) ∧ Hid (Mv (fun j => j = d.bp ∨ bk ra = some j) w w')
def WasTold (w w' : World) (d : Pd) (ra : Option Addr) (bad : Nat → Bool) (k : Nat) (rd : Nat → Int) (i g l : Nat) : Prop :=
  ∃ ra' rc', Hid (Pg w' d ra' rc' bad (k + 1) (app rd k i)) ∧ Hid (bk ra' = bk ra ∨ ∃ g, bk ra' = some g ∧ w.heap.size ≤ g) ∧ Hid (Mv (fun j => j = d.bp ∨ bk ra = some j) w w') ∧ Hid (bk ra' ≠ some g) ∧
    Hid (Own w' w.heap.size 5 (.slice (some ⟨g, 0, none⟩) l l) l (By fun j => d.f (i * d.sz + j)))

set_option maxHeartbeats 1000000 in
theorem read_bad (d : Pd) (i : Nat) (ra : Option Addr) (rc k : Nat) (bad : Nat → Bool) (rd : Nat → Int) (w : World) (h : Hid (Pg w d ra rc bad k rd)) (hk : k < 50000) (hi : i < d.m) (hbad : Hid (bad i = true)) :
    Calls Try.prog 58 #[.pointer (some ⟨d.bp, 0, none⟩), .int .i64 i] w fun e w' => e = .returned (.tuple #[.slice none 0 0, .int .i64 11]) ∧ WasRead w w' d ra bad k rd i := by
  have hmf := make_fn
  obtain ⟨ra', rc', W, hr, hP, hK, hM, hM2⟩ := h.out.note (w3_mv w) hk i _ rfl
  have hN := noted h.out ((Mv.alloc (fun _ => False) (w3 w) _).mono (fun _ _ h => h.elim) |>.trans hM (fun _ _ h => h))
  have hc := hN.c3
  have hz := hN.z3
  have hc2 := hN.c2
  have hbl := hN.bl i hi
  rw [hbad.out] at hbl
  have hn2 := hN.n2
  have hf2 := hN.f2
  have N : Hid _ := hN
  have hlt : d.bp < w.heap.size := hN.lt.1
  have hd1 : ¬ d.bp = d.bl := hN.lt.2.2
  have hd2 : ¬ w.heap.size + 1 + 1 = d.bl := by have := hN.lt.2.1; omega
  clear hN
  have P' : Hid _ := hP
  have K' : Hid _ := hK
  have M' : Hid _ := hM
  have M2 : Hid _ := hM2
  clear hP hK hM hM2
  have hc1 := h.out.c1
  have hc3 := (h.out.mv (w3_mv w) (fun j hj => hj.elim)).c3
  have hh : has i d.m = true := by unfold has; rw [decide_eq_true (by omega), decide_eq_true (by omega)]; rfl
  have H : Hid _ := hh
  clear hh
  have hi2 : (i : Int) < d.m := by omega
  go_enter_defers Try.func58, Try.ntmps58
  go_wp2_with fail
  refine (has_any d.bp i d.pa d.m d.pc _ ?_).mono ?_
  · exact ((below3 w _ _ _).cell (p := ⟨d.bp, 2, none⟩) hlt).trans hc1
  rintro e w1 ⟨rfl, hw⟩
  rw [H.out]
  subst hw
  go_wp2_with fail
  refine (must_ok _).mono ?_
  rintro e w2 ⟨rfl, hw⟩
  subst hw
  rw [show (((w.alloc (.cells #[.slice none 0 0] 22)).alloc (.cells #[.int .i64 0] 27)).alloc (.cells #[.int .i64 1] 27)) = w3 w from rfl]
  go_wp2_with (at_builtin; first | (refine wpList_append_given rfl _ _ 24 rfl _ _ _ W rfl rfl hr ?_))
  go_wp2_with fail
  refine (must_bad _).mono ?_
  rintro e w2 ⟨rfl, hw⟩
  subst hw
  have ne1 : ¬ w.heap.size + 1 + 1 = w.heap.size := by omega
  have ne2 : ¬ d.bp = w.heap.size := by omega
  have ne3 : ¬ d.bp = w.heap.size + 1 := by omega
  have ne4 : ¬ d.bp = w.heap.size + 1 + 1 := by omega
  have n0 := N.out.n0
  have f0 := N.out.f0
  have n1 := N.out.n1
  have f1 := N.out.f1
  refine leaves_cons (f := 62) (args := #[.pointer (some ⟨w.heap.size + 1 + 1, 0, none⟩), .pointer (some ⟨w.heap.size, 0, none⟩), .pointer (some ⟨w.heap.size + 1, 0, none⟩)]) (by simp) (by simp [go_sem]) ?_
  refine (catch_panicking ⟨w.heap.size + 1 + 1, 0, none⟩ ⟨w.heap.size, 0, none⟩ ⟨w.heap.size + 1, 0, none⟩ _ 11 (.slice none 0 0) (.int .i64 0) ?_ ?_ ?_ ?_ ?_ ?_).mono ?_
  · refine World.cell?_setCell_same _ _ _ (u := .int .i64 1) ?_
    rw [World.cell?_setCell_other _ _ _ _ (by simp)]; exact hn2
  · rw [World.cell?_setCell_other _ _ _ _ (by simp), World.cell?_setCell_other _ _ _ _ (by simp)]; exact n0
  · rw [World.frozen?_setCell, World.frozen?_setCell]; exact f0
  · rw [World.cell?_setCell_other _ _ _ _ (by simp), World.cell?_setCell_other _ _ _ _ (by simp)]; exact n1
  · rw [World.frozen?_setCell, World.frozen?_setCell]; exact f1
  · simp
  rintro e u' w'' ⟨rfl, rfl, rfl⟩
  have hX : Hid (Mv (fun j => w.heap.size ≤ j ∧ j < w.heap.size + 3) (W.setCell ⟨d.bp, 4, none⟩ (.slice ra' (k + 1) rc')) ((((W.setCell ⟨d.bp, 4, none⟩ (.slice ra' (k + 1) rc')).setCell ⟨w.heap.size + 1 + 1, 0, none⟩ (.int .i64 11)).setCell ⟨w.heap.size, 0, none⟩ (.slice none 0 0)).setCell ⟨w.heap.size + 1, 0, none⟩ (.int .i64 11))) :=
    (((Mv.setCell _ ⟨w.heap.size + 1 + 1, 0, none⟩ (.int .i64 11)).mono (T := fun j => w.heap.size ≤ j ∧ j < w.heap.size + 3) (fun j _ h => by have h' : j = w.heap.size + 1 + 1 := h; omega)).trans (Mv.setCell _ ⟨w.heap.size, 0, none⟩ (.slice none 0 0)) (fun j _ h => by have h' : j = w.heap.size := h; omega)).trans (Mv.setCell _ ⟨w.heap.size + 1, 0, none⟩ (.int .i64 11)) (fun j _ h => by have h' : j = w.heap.size + 1 := h; omega)
  have hv0 : ((((W.setCell ⟨d.bp, 4, none⟩ (.slice ra' (k + 1) rc')).setCell ⟨w.heap.size + 1 + 1, 0, none⟩ (.int .i64 11)).setCell ⟨w.heap.size, 0, none⟩ (.slice none 0 0)).setCell ⟨w.heap.size + 1, 0, none⟩ (.int .i64 11)).cell? ⟨w.heap.size, 0, none⟩ = some (.slice none 0 0) := by
    rw [World.cell?_setCell_other _ _ _ _ (by simp)]
    refine World.cell?_setCell_same _ _ _ (u := .slice none 0 0) ?_
    rw [World.cell?_setCell_other _ _ _ _ (by simp), World.cell?_setCell_other _ _ _ _ (by simp)]; exact n0
  have hv1 : ((((W.setCell ⟨d.bp, 4, none⟩ (.slice ra' (k + 1) rc')).setCell ⟨w.heap.size + 1 + 1, 0, none⟩ (.int .i64 11)).setCell ⟨w.heap.size, 0, none⟩ (.slice none 0 0)).setCell ⟨w.heap.size + 1, 0, none⟩ (.int .i64 11)).cell? ⟨w.heap.size + 1, 0, none⟩ = some (.int .i64 11) := by
    refine World.cell?_setCell_same _ _ _ (u := .int .i64 0) ?_
    rw [World.cell?_setCell_other _ _ _ _ (by simp), World.cell?_setCell_other _ _ _ _ (by simp), World.cell?_setCell_other _ _ _ _ (by simp)]; exact n1
  have F := fin3 h.out.tp (fun j hj => (h.out.reads.blk j (by rw [own_blk]; exact hj)).2) P'.out K'.out M2.out hX.out (fun _ h => h)
  clear hX
  have F' : Hid _ := F
  clear F
  generalize ((((W.setCell ⟨d.bp, 4, none⟩ (.slice ra' (k + 1) rc')).setCell ⟨w.heap.size + 1 + 1, 0, none⟩ (.int .i64 11)).setCell ⟨w.heap.size, 0, none⟩ (.slice none 0 0)).setCell ⟨w.heap.size + 1, 0, none⟩ (.int .i64 11)) = Z at *
  simp [Leaves, settle, results, Try.results58, go_sem, hv0, hv1]
  exact ⟨ra', rc', F'.out⟩

theorem Pg.page {w : World} {d : Pd} {ra : Option Addr} {rc k : Nat} {bad : Nat → Bool} {rd : Nat → Int} (h : Pg w d ra rc bad k rd) (i : Nat) : Sl w (some ⟨d.bf, i * d.sz, none⟩) (min d.sz (d.n - i * d.sz)) (By fun j => d.f (i * d.sz + j)) := by
  intro j hj
  have hl : i * d.sz + j < d.n := by omega
  have hc := h.file _ hl
  exact ⟨_, _, rfl, World.block_lt_of_cell? w _ hc, hc⟩

set_option maxHeartbeats 1000000 in
theorem read_ok (d : Pd) (i : Nat) (ra : Option Addr) (rc k : Nat) (bad : Nat → Bool) (rd : Nat → Int) (w : World) (h : Hid (Pg w d ra rc bad k rd)) (hk : k < 50000) (hi : i < d.m) (hbad : Hid (bad i = false)) :
    Calls Try.prog 58 #[.pointer (some ⟨d.bp, 0, none⟩), .int .i64 i] w fun e w' => ∃ g, e = .returned (.tuple #[.slice (some ⟨g, 0, none⟩) (min d.sz (d.n - i * d.sz)) (min d.sz (d.n - i * d.sz)), .int .i64 0]) ∧ WasTold w w' d ra bad k rd i g (min d.sz (d.n - i * d.sz)) := by
  have hmf := make_fn
  obtain ⟨ra', rc', W, hr, hP, hK, hM, hM2⟩ := h.out.note (w3_mv w) hk i _ rfl
  have hN := noted h.out ((Mv.alloc (fun _ => False) (w3 w) _).mono (fun _ _ h => h.elim) |>.trans hM (fun _ _ h => h))
  have hc := hN.c3
  have hz := hN.z3
  have hc2 := hN.c2
  have hcp := hN.c1
  have hbl := hN.bl i hi
  rw [hbad.out] at hbl
  have hn2 := hN.n2
  have hf2 := hN.f2
  have N : Hid _ := hN
  have hlt : d.bp < w.heap.size := hN.lt.1
  have hd1 : ¬ d.bp = d.bl := hN.lt.2.2
  have hd2 : ¬ w.heap.size + 1 + 1 = d.bl := by have := hN.lt.2.1; omega
  clear hN
  have hpl := hP.pages
  rcases hpl.slice with ⟨_, hm0⟩ | ⟨g, c, hpv, _⟩
  · exact absurd hi (by omega)
  have hpa : d.pa = some ⟨g, 0, none⟩ := by injection hpv
  have hpc : d.pc = c := by injection hpv
  rw [hpv] at hpl hcp
  have hpi := (hpl.at hi).1
  have hgt := hP.pat g (by rw [hpa]; rfl)
  have hd3 : ¬ d.bp = g := fun e => hgt.2.1 e.symm
  have hd4 : ¬ w.heap.size + 1 + 1 = g := by have := h.out.tp; omega
  rw [World.cell?_setCell_other _ _ _ _ (by simp)] at hpi
  unfold Pd.pg at hpi
  have P' : Hid _ := hP
  have K' : Hid _ := hK
  have M' : Hid _ := hM
  have M2 : Hid _ := hM2
  clear hP hK hM hM2 hpl
  have hc1 := h.out.c1
  have hc3 := (h.out.mv (w3_mv w) (fun j hj => hj.elim)).c3
  have hh : has i d.m = true := by unfold has; rw [decide_eq_true (by omega), decide_eq_true (by omega)]; rfl
  have H : Hid _ := hh
  clear hh
  have hi2 : (i : Int) < d.m := by omega
  have PA : Hid _ := hpa
  have PC : Hid _ := hpc
  clear hpa hpc hpv hgt
  go_enter_defers Try.func58, Try.ntmps58
  go_wp2_with fail
  refine (has_any d.bp i d.pa d.m d.pc _ ?_).mono ?_
  · exact ((below3 w _ _ _).cell (p := ⟨d.bp, 2, none⟩) hlt).trans hc1
  rintro e w1 ⟨rfl, hw⟩
  rw [H.out]
  subst hw
  go_wp2_with fail
  refine (must_ok _).mono ?_
  rintro e w2 ⟨rfl, hw⟩
  subst hw
  rw [show (((w.alloc (.cells #[.slice none 0 0] 22)).alloc (.cells #[.int .i64 0] 27)).alloc (.cells #[.int .i64 1] 27)) = w3 w from rfl]
  go_wp2_with (at_builtin; first | (refine wpList_append_given rfl _ _ 24 rfl _ _ _ W rfl rfl hr ?_))
  go_wp2_with fail
  refine (must_ok _).mono ?_
  rintro e w2 ⟨rfl, hw⟩
  subst hw
  go_wp2_with fail
  have hW1 : Hid (Mv (fun j => w.heap.size ≤ j ∧ j < w.heap.size + 3) (W.setCell ⟨d.bp, 4, none⟩ (.slice ra' (k + 1) rc')) ((W.setCell ⟨d.bp, 4, none⟩ (.slice ra' (k + 1) rc')).setCell ⟨w.heap.size + 1 + 1, 0, none⟩ (.int .i64 11))) :=
    (Mv.setCell _ ⟨w.heap.size + 1 + 1, 0, none⟩ (.int .i64 11)).mono (T := fun j => w.heap.size ≤ j ∧ j < w.heap.size + 3) (fun j _ h => by have h' : j = w.heap.size + 1 + 1 := h; omega)
  have n0 : ((W.setCell ⟨d.bp, 4, none⟩ (.slice ra' (k + 1) rc')).setCell ⟨w.heap.size + 1 + 1, 0, none⟩ (.int .i64 11)).cell? ⟨w.heap.size, 0, none⟩ = some (.slice none 0 0) := by
    rw [World.cell?_setCell_other _ _ _ _ (by simp), World.cell?_setCell_other _ _ _ _ (by simp)]; exact N.out.n0
  have f0 : ((W.setCell ⟨d.bp, 4, none⟩ (.slice ra' (k + 1) rc')).setCell ⟨w.heap.size + 1 + 1, 0, none⟩ (.int .i64 11)).frozen? ⟨w.heap.size, 0, none⟩ = false := by
    rw [World.frozen?_setCell, World.frozen?_setCell]; exact N.out.f0
  have n1 : ((W.setCell ⟨d.bp, 4, none⟩ (.slice ra' (k + 1) rc')).setCell ⟨w.heap.size + 1 + 1, 0, none⟩ (.int .i64 11)).cell? ⟨w.heap.size + 1, 0, none⟩ = some (.int .i64 0) := by
    rw [World.cell?_setCell_other _ _ _ _ (by simp), World.cell?_setCell_other _ _ _ _ (by simp)]; exact N.out.n1
  have f1 : ((W.setCell ⟨d.bp, 4, none⟩ (.slice ra' (k + 1) rc')).setCell ⟨w.heap.size + 1 + 1, 0, none⟩ (.int .i64 11)).frozen? ⟨w.heap.size + 1, 0, none⟩ = false := by
    rw [World.frozen?_setCell, World.frozen?_setCell]; exact N.out.f1
  have hsz : Hid (w.heap.size + 3 ≤ ((W.setCell ⟨d.bp, 4, none⟩ (.slice ra' (k + 1) rc')).setCell ⟨w.heap.size + 1 + 1, 0, none⟩ (.int .i64 11)).heap.size) := by
    have h1 := M'.out.size
    have h2 := w3_size w
    have h3 := (Mv.setCell W ⟨d.bp, 4, none⟩ (.slice ra' (k + 1) rc')).size
    have h4 := hW1.out.size
    simp at h1
    show _ ≤ _
    omega
  have pX := P'.out.mv hW1.out (fun j hj => ?_)
  rotate_left
  · exact ⟨by have := h.out.tp; omega, fun e => by
      have hz := w3_size w
      rcases K'.out with K' | ⟨g, k1, k2⟩
      · rw [K'] at e
        have := (h.out.reads.blk j (by rw [own_blk]; exact e)).2
        omega
      · rw [k1] at e
        cases e
        omega⟩
  have hpg := pX.page i
  have HP : Hid _ := hpg
  have hl : min d.sz (d.n - i * d.sz) < 100000 := by have := pX.small; omega
  have PX : Hid _ := pX
  clear hpg pX
  have MX : Hid _ := M2.out.trans hW1.out (fun j hj h => by omega)
  have KX : Hid (bk ra' = bk ra ∨ ∃ g, bk ra' = some g ∧ (w3 w).heap.size ≤ g) := K'.out
  have HR : Hid (∀ j, bk ra' = some j → j < ((W.setCell ⟨d.bp, 4, none⟩ (.slice ra' (k + 1) rc')).setCell ⟨w.heap.size + 1 + 1, 0, none⟩ (.int .i64 11)).heap.size) := fun j hj => (PX.out.reads.blk j (by rw [own_blk]; exact hj)).2
  clear hr hc hz hc2 hcp hbl hn2 hf2 hpi P' K' M' M2 N hW1
  generalize ((W.setCell ⟨d.bp, 4, none⟩ (.slice ra' (k + 1) rc')).setCell ⟨w.heap.size + 1 + 1, 0, none⟩ (.int .i64 11)) = X at *
  generalize hL : min d.sz (d.n - i * d.sz) = l at *
  have L : Hid _ := hL
  clear hL
  refine (copyB_any _ l (d.n - i * d.sz) _ X hl HP.out).mono ?_
  rintro e Y ⟨rfl, hO, hB⟩
  have n0' : Y.cell? ⟨w.heap.size, 0, none⟩ = some (.slice none 0 0) := (hB.out.cell (p := ⟨w.heap.size, 0, none⟩) (by have := hsz.out; show w.heap.size < _; omega)).trans n0
  have f0' : Y.frozen? ⟨w.heap.size, 0, none⟩ = false := (hB.out.frozen (p := ⟨w.heap.size, 0, none⟩) (by have := hsz.out; show w.heap.size < _; omega)).trans f0
  have n1' : Y.cell? ⟨w.heap.size + 1, 0, none⟩ = some (.int .i64 0) := (hB.out.cell (p := ⟨w.heap.size + 1, 0, none⟩) (by have := hsz.out; show w.heap.size + 1 < _; omega)).trans n1
  have f1' : Y.frozen? ⟨w.heap.size + 1, 0, none⟩ = false := (hB.out.frozen (p := ⟨w.heap.size + 1, 0, none⟩) (by have := hsz.out; show w.heap.size + 1 < _; omega)).trans f1
  clear n0 f0 n1 f1
  go_wp2_with fail
  refine leaves_cons (f := 62) (args := #[.pointer (some ⟨w.heap.size + 1 + 1, 0, none⟩), .pointer (some ⟨w.heap.size, 0, none⟩), .pointer (some ⟨w.heap.size + 1, 0, none⟩)]) (by simp) (by simp [go_sem]) ?_
  refine (catch_idle ⟨w.heap.size + 1 + 1, 0, none⟩ ⟨w.heap.size, 0, none⟩ ⟨w.heap.size + 1, 0, none⟩ _).mono ?_
  rintro e u' w'' ⟨rfl, rfl, rfl⟩
  have hv0 : ((Y.setCell ⟨w.heap.size, 0, none⟩ (.slice (some ⟨X.heap.size, 0, none⟩) l l)).setCell ⟨w.heap.size + 1, 0, none⟩ (.int .i64 0)).cell? ⟨w.heap.size, 0, none⟩ = some (.slice (some ⟨X.heap.size, 0, none⟩) l l) := by
    rw [World.cell?_setCell_other _ _ _ _ (by simp)]
    exact World.cell?_setCell_same _ _ _ n0'
  have hv1 : ((Y.setCell ⟨w.heap.size, 0, none⟩ (.slice (some ⟨X.heap.size, 0, none⟩) l l)).setCell ⟨w.heap.size + 1, 0, none⟩ (.int .i64 0)).cell? ⟨w.heap.size + 1, 0, none⟩ = some (.int .i64 0) := by
    refine World.cell?_setCell_same _ _ _ (u := .int .i64 0) ?_
    rw [World.cell?_setCell_other _ _ _ _ (by simp)]; exact n1'
  have hMX2 : Mv (fun j => w.heap.size ≤ j ∧ j < w.heap.size + 3) X ((Y.setCell ⟨w.heap.size, 0, none⟩ (.slice (some ⟨X.heap.size, 0, none⟩) l l)).setCell ⟨w.heap.size + 1, 0, none⟩ (.int .i64 0)) :=
    (((Mv.of_below hB.out).mono (T := fun j => w.heap.size ≤ j ∧ j < w.heap.size + 3) (fun j h1 h2 => by omega)).trans (Mv.setCell _ ⟨w.heap.size, 0, none⟩ _) (fun j _ h => by have h' : j = w.heap.size := h; omega)).trans (Mv.setCell _ ⟨w.heap.size + 1, 0, none⟩ _) (fun j _ h => by have h' : j = w.heap.size + 1 := h; omega)
  have hO2 : Own ((Y.setCell ⟨w.heap.size, 0, none⟩ (.slice (some ⟨X.heap.size, 0, none⟩) l l)).setCell ⟨w.heap.size + 1, 0, none⟩ (.int .i64 0)) X.heap.size 5 (.slice (some ⟨X.heap.size, 0, none⟩) l l) l (By fun j => d.f (i * d.sz + j)) :=
    (hO.out.mv (Mv.setCell Y ⟨w.heap.size, 0, none⟩ _) (fun j hj e => by cases hj; have e' : X.heap.size = w.heap.size := e; have := hsz.out; omega)).mv (Mv.setCell _ ⟨w.heap.size + 1, 0, none⟩ _) (fun j hj e => by cases hj; have e' : X.heap.size = w.heap.size + 1 := e; have := hsz.out; omega)
  have hO3 : Own ((Y.setCell ⟨w.heap.size, 0, none⟩ (.slice (some ⟨X.heap.size, 0, none⟩) l l)).setCell ⟨w.heap.size + 1, 0, none⟩ (.int .i64 0)) w.heap.size 5 (.slice (some ⟨X.heap.size, 0, none⟩) l l) l (By fun j => d.f (i * d.sz + j)) := hO2.base (by have := hsz.out; omega)
  have F := fin3 h.out.tp (fun j hj => (h.out.reads.blk j (by rw [own_blk]; exact hj)).2) PX.out KX.out MX.out hMX2 (fun _ h => h)
  have F' : WasTold w ((Y.setCell ⟨w.heap.size, 0, none⟩ (.slice (some ⟨X.heap.size, 0, none⟩) l l)).setCell ⟨w.heap.size + 1, 0, none⟩ (.int .i64 0)) d ra bad k rd i X.heap.size l := ⟨ra', rc', F.1, F.2.1, F.2.2, fun e => by have := HR.out _ e; omega, hO3⟩
  clear hMX2 hO2 hO3 F hO hB n0' f0' n1' f1'
  generalize ((Y.setCell ⟨w.heap.size, 0, none⟩ (.slice (some ⟨X.heap.size, 0, none⟩) l l)).setCell ⟨w.heap.size + 1, 0, none⟩ (.int .i64 0)) = Z at *
  simp [Leaves, settle, results, Try.results58, go_sem, hv0, hv1]
  refine ⟨_, ⟨rfl, L.out.symm⟩, ?_⟩
  rw [L.out]
  exact F'

end Go.Proofs.Ytdhdkbaalgdicaa

/- A file opened: cut, New. -/
namespace Go.Proofs.Ytdhdkbaalgdicaa
open Go.RowKit

/-- Page i of a file that lies in block bf. -/
def pgV (bf n sz : Nat) (i : Nat) : Value := .slice (some ⟨bf, i * sz, none⟩) (min sz (n - i * sz)) (n - i * sz)

theorem sl_val (w : World) (v : Value) (e : TypeId) (B : Nat) (hB : B = w.heap.size) : Sl (w.alloc (.cells #[v] e)) (some ⟨B, 0, none⟩) 1 (fun _ => v) := by
  subst hB
  intro i hi
  obtain rfl : i = 0 := by omega
  exact ⟨_, _, rfl, by simp, (alloc_new w _ e 0 _ rfl).1⟩

/-- One page more. -/
theorem page_more (w : World) (base : Nat) (v x : Value) (bf n sz i : Nat) (h : Own w base 22 v i (pgV bf n sz)) (hx : x = pgV bf n sz i) (h1 : x.oneCell' = true) (hi : i < 50000) (hb : base ≤ w.heap.size) :
    ∃ v' W, (Builtin.append_ #[60, 60] 60 #[v, .slice (some ⟨w.heap.size, 0, none⟩) 1 1]).run Try.prog (w.alloc (.cells #[x] 22)) = .ok v' W ∧ Own W base 22 v' (i + 1) (pgV bf n sz) ∧ Below base w W := by
  have ho := h.mv (Mv.alloc (fun _ => False) w (.cells #[x] 22)) (fun _ _ h => h)
  obtain ⟨v', W, hr, h2, h3, _⟩ := append_own 60 60 22 Try.t22 (.slice none 0 0) 24 Try.underlying60 info22 (by kernel_rfl) (by kernel_rfl) (by kernel_rfl) rfl (by omega) _ base v i 1 1 (pgV bf n sz) (fun _ => x) _ ho (sl_val w x 22 _ rfl) (fun _ => h1) (by omega) (fun h => by cases h) (by simp; omega)
  refine ⟨v', W, hr, h2.congr (fun j hj => ?_), ?_⟩
  · unfold cat
    split
    · rfl
    · rw [hx, show i = j by omega]
  · exact ((Below.refl base w).alloc hb _).grown h3 (by simp; omega) (fun k hk => (ho.blk k hk).1)

set_option maxHeartbeats 1000000 in
theorem cut_any (bf n sz : Nat) (w : World) (hn : n ≤ 4000) (h0 : 0 < sz) (h1 : sz ≤ 512) :
    Calls Try.prog 25 #[.slice (some ⟨bf, 0, none⟩) n n, .int .i64 sz] w fun e w' => ∃ (m : Nat) (v : Value), e = .returned v ∧ Hid (Own w' w.heap.size 22 v m (pgV bf n sz)) ∧ Hid (∀ i, i * sz < n ↔ i < m) ∧ Hid (Below w.heap.size w w') := by
  go_enter Try.func25, Try.ntmps25
  go_wp2_with fail
  go_loopw [5, 6] (fun vp vq wr => ∃ (i q : Nat) (pa : Option Addr) (pc : Nat), vq = .int .i64 q ∧ vp = .slice pa i pc ∧ q ≤ n + sz ∧ Hid (q = i * sz) ∧ Hid (Own wr w.heap.size 22 (.slice pa i pc) i (pgV bf n sz)) ∧ Hid (∀ j, j < i → j * sz < n) ∧ Hid (Below w.heap.size w wr)) (fun _ vq _ => n + sz - (intOf vq).toNat)
  case atStart => exact ⟨0, 0, none, 0, rfl, rfl, by omega, (Nat.zero_mul _).symm, own_nil _ _ _ _, fun j hj => by omega, Below.refl _ _⟩
  case round =>
    obtain ⟨i, q, pa, pc, rfl, rfl, hq, Q, O, J, B⟩ := hrel
    by_cases hlt : q < n
    · have hltz : (q : Int) < (n : Int) := by omega
      have hi : i < 50000 := by
        have h2 : i * 1 ≤ i * sz := Nat.mul_le_mul_left i h0
        have := Q.out
        omega
      by_cases hle : q + sz ≤ n
      · have hlez : (q : Int) + sz ≤ n := by omega
        have hx : Value.slice (some ⟨bf, q, none⟩) sz (n - q) = pgV bf n sz i := by unfold pgV; rw [← Q.out, show min sz (n - q) = sz by omega]
        obtain ⟨v', W, hr, h2, h3⟩ := page_more wr w.heap.size (.slice pa i pc) _ bf n sz i O.out hx rfl hi B.out.size
        obtain ⟨pa', pc', rfl, _, _⟩ := h2.sl
        have O2 : Hid _ := h2
        have B2 : Hid _ := h3
        have J2 : Hid (∀ j, j < i + 1 → j * sz < n) := fun j hj => by
          by_cases e : j = i
          · rw [e, ← Q.out]; exact hlt
          · exact J.out j (by omega)
        have Q2 : Hid (q + sz = (i + 1) * sz) := by show _ = _; rw [Nat.succ_mul, ← Q.out]
        clear hx h2 h3
        go_wp2_with (at_builtin; first | (refine wpList_append_given rfl _ _ 60 rfl _ _ _ W rfl rfl hr ?_))
        go_wp2_with fail
        exact ⟨⟨i + 1, q + sz, pa', pc', by go_num, rfl, by omega, Q2, O2, J2, B.out.trans B2.out⟩, by simp [intOf]; omega⟩
      · have hlez : (n : Int) < (q : Int) + sz := by omega
        have hx : Value.slice (some ⟨bf, q, none⟩) (n - q) (n - q) = pgV bf n sz i := by unfold pgV; rw [← Q.out, show min sz (n - q) = n - q by omega]
        obtain ⟨v', W, hr, h2, h3⟩ := page_more wr w.heap.size (.slice pa i pc) _ bf n sz i O.out hx rfl hi B.out.size
        obtain ⟨pa', pc', rfl, _, _⟩ := h2.sl
        have O2 : Hid _ := h2
        have B2 : Hid _ := h3
        have J2 : Hid (∀ j, j < i + 1 → j * sz < n) := fun j hj => by
          by_cases e : j = i
          · rw [e, ← Q.out]; exact hlt
          · exact J.out j (by omega)
        have Q2 : Hid (q + sz = (i + 1) * sz) := by show _ = _; rw [Nat.succ_mul, ← Q.out]
        clear hx h2 h3
        go_wp2_with (at_builtin; first | (refine wpList_append_given rfl _ _ 60 rfl _ _ _ W rfl rfl hr ?_))
        go_wp2_with fail
        exact ⟨⟨i + 1, q + sz, pa', pc', by go_num, rfl, by omega, Q2, O2, J2, B.out.trans B2.out⟩, by simp [intOf]; omega⟩
    · have hge : (n : Int) ≤ (q : Int) := by omega
      have F : Hid (∀ j, j * sz < n ↔ j < i) := fun j => by
        refine ⟨fun h => ?_, J.out j⟩
        rcases Nat.lt_or_ge j i with h2 | h2
        · exact h2
        · have := Nat.mul_le_mul_right sz h2
          rw [← Q.out] at this
          omega
      go_wp2_with fail
      go_ret
      exact ⟨i, _, rfl, O, F, B⟩

/-- The values of 5 cells. -/
theorem box_cells (w : World) (s0 a b c e : Value) (t : TypeId) : (w.alloc (.cells #[s0, a, b, c, e] t)).cell? ⟨w.heap.size, 0, none⟩ = some s0 ∧ (w.alloc (.cells #[s0, a, b, c, e] t)).cell? ⟨w.heap.size, 1, none⟩ = some a ∧ (w.alloc (.cells #[s0, a, b, c, e] t)).cell? ⟨w.heap.size, 2, none⟩ = some b ∧ (w.alloc (.cells #[s0, a, b, c, e] t)).cell? ⟨w.heap.size, 3, none⟩ = some c ∧ (w.alloc (.cells #[s0, a, b, c, e] t)).cell? ⟨w.heap.size, 4, none⟩ = some e ∧ (w.alloc (.cells #[s0, a, b, c, e] t)).frozen? ⟨w.heap.size, 4, none⟩ = false := by
  refine ⟨?_, ?_, ?_, ?_, ?_, ?_⟩
  · exact (alloc_new w _ t 0 _ rfl).1
  · exact (alloc_new w _ t 1 _ rfl).1
  · exact (alloc_new w _ t 2 _ rfl).1
  · exact (alloc_new w _ t 3 _ rfl).1
  · exact (alloc_new w _ t 4 _ rfl).1
  · exact (alloc_new w _ t 4 _ rfl).2

theorem new_pg {w W1 W2 : World} {n m sz : Nat} {f : Nat → Int} {pa : Option Addr} {pc : Nat} (O1 : Own W1 w.heap.size 5 (.slice (some ⟨w.heap.size, 0, none⟩) n n) n (By f)) (B1 : Below w.heap.size w W1) (O2 : Own W2 W1.heap.size 22 (.slice pa m pc) m (pgV w.heap.size n sz)) (B2 : Below W1.heap.size W1 W2)
    (O3 : Own (W2.alloc (.cells (madeCells #[.bool false] m) 4)) W2.heap.size 4 (.slice (some ⟨W2.heap.size, 0, none⟩) m m) m (fun _ => .bool false)) (J : ∀ i, i * sz < n ↔ i < m) (hm : m ≤ n) (hn : n ≤ 4000) (h0 : 0 < sz) (h1 : sz ≤ 512) :
    Hid (Pg ((W2.alloc (.cells (madeCells #[.bool false] m) 4)).alloc (.cells #[.int .i64 sz, .slice (some ⟨w.heap.size, 0, none⟩) n n, .slice pa m pc, .slice (some ⟨W2.heap.size, 0, none⟩) m m, .slice none 0 0] 63)) ⟨w.heap.size, W2.heap.size + 2, W2.heap.size + 1, w.heap.size, W2.heap.size, pa, pc, n, sz, m, f⟩ none 0 (fun _ => false) 0 (fun _ => 0)) ∧
    Hid (Below w.heap.size w ((W2.alloc (.cells (madeCells #[.bool false] m) 4)).alloc (.cells #[.int .i64 sz, .slice (some ⟨w.heap.size, 0, none⟩) n n, .slice pa m pc, .slice (some ⟨W2.heap.size, 0, none⟩) m m, .slice none 0 0] 63))) := by
  have s1 := B1.size
  have s2 := B2.size
  have e1 : (W2.alloc (.cells (madeCells #[.bool false] m) 4)).heap.size = W2.heap.size + 1 := by simp
  have hlt : w.heap.size < W1.heap.size := (O1.blk _ rfl).2
  obtain ⟨qs, q0, q1, q2, q3, q4⟩ := box_cells (W2.alloc (.cells (madeCells #[.bool false] m) 4)) (.int .i64 sz) (.slice (some ⟨w.heap.size, 0, none⟩) n n) (.slice pa m pc) (.slice (some ⟨W2.heap.size, 0, none⟩) m m) (.slice none 0 0) 63
  rw [e1] at qs q0 q1 q2 q3 q4
  have M : Mv (fun _ => False) W2 ((W2.alloc (.cells (madeCells #[.bool false] m) 4)).alloc (.cells #[.int .i64 sz, .slice (some ⟨w.heap.size, 0, none⟩) n n, .slice pa m pc, .slice (some ⟨W2.heap.size, 0, none⟩) m m, .slice none 0 0] 63)) := (Mv.alloc _ _ _).trans (Mv.alloc (fun _ => False) _ _) (fun _ _ h => h)
  refine ⟨⟨⟨by show w.heap.size ≤ W2.heap.size + 1; omega, Nat.le_refl _, by show w.heap.size ≤ W2.heap.size; omega⟩, ⟨by show W2.heap.size + 1 < W2.heap.size + 2; omega, by show w.heap.size < W2.heap.size + 2; omega, by show W2.heap.size < W2.heap.size + 2; omega⟩, by simp, qs, q0, q1, q2, q3, q4, ?_, (O2.mv M (fun _ _ h => h)).base (by show w.heap.size ≤ _; omega), ?_, (O3.mv (Mv.alloc (fun _ => False) _ _) (fun _ _ h => h)).base (by show w.heap.size ≤ _; omega), own_nil _ _ _ _, ⟨by show ¬ W2.heap.size + 1 = w.heap.size; omega, by show ¬ W2.heap.size + 1 = W2.heap.size; omega, by show ¬ w.heap.size = W2.heap.size; omega⟩, J, ⟨by show n < 5000; omega, h0, h1, hm⟩⟩, ?_⟩
  · intro i hi
    exact M.cell ((B2.cell (p := ⟨w.heap.size, i, none⟩) hlt).trans (O1.at hi).1) (fun h => h)
  · intro j hj
    have := O2.blk j (by rw [own_blk]; exact hj)
    show j < W2.heap.size + 2 ∧ j ≠ W2.heap.size + 1 ∧ j ≠ W2.heap.size
    omega
  · exact ((B1.trans (B2.mono s1)).alloc (by omega) _).alloc (by simp; omega) _

set_option maxHeartbeats 1000000 in
theorem new_ok (a : Option Addr) (n c sz : Nat) (f : Nat → Int) (w : World) (hn : n ≤ 4000) (h0 : 0 < sz) (h1 : sz ≤ 512) (hl : Hid (Sl w a n (By f))) :
    Calls Try.prog 8 #[.slice a n c, .int .i64 sz] w fun e w' => ∃ d : Pd, e = .returned (.tuple #[.pointer (some ⟨d.bp, 0, none⟩), .int .i64 0]) ∧ Hid (d.base = w.heap.size ∧ d.top = w'.heap.size ∧ d.n = n ∧ d.sz = sz ∧ d.f = f) ∧ Hid (Pg w' d none 0 (fun _ => false) 0 (fun _ => 0)) ∧ Hid (Below w.heap.size w w') := by
  have z1 : ¬ ((sz : Int) < 1) := by omega
  have z2 : (sz : Int) ≤ 512 := by omega
  have z3 : (n : Int) ≤ 4000 := by omega
  go_enter Try.func8, Try.ntmps8
  go_wp2_with fail
  refine (copyB_any a n c f w (by omega) hl.out).mono ?_
  rintro e W1 ⟨rfl, O1, B1⟩
  go_wp2_with fail
  refine (cut_any w.heap.size n sz W1 hn h0 h1).mono ?_
  rintro e W2 ⟨m, v, rfl, O2, J, B2⟩
  obtain ⟨pa, pc, rfl, _, _⟩ := O2.out.sl
  have hm : m ≤ n := by
    rcases Nat.lt_or_ge n m with h | h
    · have h3 := (J.out n).2 h
      have h4 : n * 1 ≤ n * sz := Nat.mul_le_mul_left n h0
      omega
    · exact h
  obtain ⟨hmk, hO3⟩ := made 53 4 Try.t4 (.bool false) 1 Try.underlying53 info4 (by kernel_rfl) (by kernel_rfl) (by kernel_rfl) rfl (by omega) m (by omega) W2 W2.heap.size (Nat.le_refl _)
  have O3 : Hid _ := hO3
  clear hO3
  go_wp2_with fail
  go_ret2
  exact ⟨⟨w.heap.size, W2.heap.size + 2, W2.heap.size + 1, w.heap.size, W2.heap.size, pa, pc, n, sz, m, f⟩, rfl, ⟨rfl, by simp, rfl, rfl, rfl⟩, new_pg O1.out B1.out O2.out B2.out O3.out J.out hm hn h0 h1⟩
set_option maxHeartbeats 1000000 in
theorem new_bad (a : Option Addr) (n c : Nat) (sz : Int) (w : World) (h : sz < 1 ∨ 512 < sz ∨ 4000 < n) :
    Calls Try.prog 8 #[.slice a n c, .int .i64 sz] w fun e w' => e = .returned (.tuple #[.pointer none, .int .i64 1]) ∧ w' = w := by
  by_cases h1 : sz < 1
  · clear h
    go_enter Try.func8, Try.ntmps8
    go_wp2_with fail
    go_ret2
    exact ⟨rfl, rfl⟩
  · by_cases h2 : 512 < sz
    · clear h
      go_enter Try.func8, Try.ntmps8
      go_wp2_with fail
      go_ret2
      exact ⟨rfl, rfl⟩
    · have h3 : (4000 : Int) < n := by omega
      clear h
      have h4 : sz ≤ 512 := by omega
      go_enter Try.func8, Try.ntmps8
      go_wp2_with fail
      go_ret2
      exact ⟨rfl, rfl⟩
end Go.Proofs.Ytdhdkbaalgdicaa

/- Fault; the first call of each statement. -/
namespace Go.Proofs.Ytdhdkbaalgdicaa
open Go.RowKit

/-- Is page j among the first k of l? -/
def among (l : Nat → Int) (k : Nat) (j : Nat) : Bool := (List.range k).any fun i => decide (l i = (j : Int))
theorem among_zero (l : Nat → Int) (j : Nat) : among l 0 j = false := rfl
theorem among_succ (l : Nat → Int) (k j : Nat) : among l (k + 1) j = (among l k j || decide (l k = (j : Int))) := by
  unfold among; rw [List.range_succ, List.any_append]; simp

/-- A page that can't be read any more. -/
theorem Pg.fault {w : World} {d : Pd} {ra : Option Addr} {rc k : Nat} {bad : Nat → Bool} {rd : Nat → Int} (h : Pg w d ra rc bad k rd) (i : Nat) :
    Pg (w.setCell ⟨d.bl, i, none⟩ (.bool true)) d ra rc (fun j => bad j || decide (j = i)) k rd := by
  have hm := Mv.setCell w ⟨d.bl, i, none⟩ (.bool true)
  obtain ⟨t1, t2, t3⟩ := h.t0
  obtain ⟨d1, d2, d3⟩ := h.dist
  refine ⟨h.b0, h.t0, Nat.le_trans h.tp hm.size, hm.cell h.cs d2, hm.cell h.c0 d2, hm.cell h.c1 d2, hm.cell h.c2 d2, hm.cell h.c3 d2, ?_, fun i hi => hm.cell (h.file i hi) d3, h.pages.mv hm ?_, h.pat, ?_, h.reads.mv hm ?_, h.dist, h.cnt, h.small⟩
  · rw [World.frozen?_setCell]; exact h.z3
  · intro j hj
    rw [own_blk] at hj
    exact (h.pat j hj).2.2
  · refine Own.of (World.ownsRow.stored h.faulty i (.bool true)).1 ?_
    intro j hj
    by_cases e : j = i
    · subst e
      rw [World.cell?_setCell_same _ _ _ (h.faulty.at hj).1]
      simp
    · rw [World.cell?_setCell_other _ _ _ _ (fun h => e (by injection h with _ h2; exact h2.symm)), (h.faulty.at hj).1]
      simp [e]
  · intro j hj e
    have := (h.reads.blk j hj).1
    have e' : j = d.bl := e
    omega
theorem Pg.same {w : World} {d : Pd} {ra : Option Addr} {rc k : Nat} {bad bad' : Nat → Bool} {rd : Nat → Int} (h : Pg w d ra rc bad k rd) (e : ∀ j, j < d.m → bad j = bad' j) : Pg w d ra rc bad' k rd :=
  ⟨h.b0, h.t0, h.tp, h.cs, h.c0, h.c1, h.c2, h.c3, h.z3, h.file, h.pages, h.pat, h.faulty.congr (fun i hi => by rw [e i hi]), h.reads, h.dist, h.cnt, h.small⟩

set_option maxRecDepth 20000 in
/-- None is faulty. -/
theorem Pg.heal {w : World} {d : Pd} {ra : Option Addr} {rc k : Nat} {bad : Nat → Bool} {rd : Nat → Int} (h : Pg w d ra rc bad k rd) (ty : TypeId) :
    ∃ W, (Builtin.clear_ #[53] ty #[.slice (some ⟨d.bl, 0, none⟩) d.m d.m]).run Try.prog w = .ok (.tuple #[]) W ∧ Pg W d ra rc (fun _ => false) k rd ∧ Mv (fun j => j = d.bl) w W := by
  obtain ⟨W, hr, ho, hm⟩ := clear_own 53 4 (.bool false) Try.underlying53 (by intro w; rfl) rfl rfl w ty d.base d.bl d.m d.m _ h.faulty
  obtain ⟨t1, t2, t3⟩ := h.t0
  obtain ⟨d1, d2, d3⟩ := h.dist
  refine ⟨W, hr, ⟨h.b0, h.t0, Nat.le_trans h.tp hm.size, hm.cell h.cs d2, hm.cell h.c0 d2, hm.cell h.c1 d2, hm.cell h.c2 d2, hm.cell h.c3 d2, ?_, fun i hi => hm.cell (h.file i hi) d3, h.pages.mv hm ?_, h.pat, ho, h.reads.mv hm ?_, h.dist, h.cnt, h.small⟩, hm⟩
  · rw [hm.frozen (p := ⟨d.bp, 4, none⟩) (World.block_lt_of_cell? _ _ h.c3) d2]; exact h.z3
  · intro j hj
    rw [own_blk] at hj
    exact (h.pat j hj).2.2
  · intro j hj e
    have := (h.reads.blk j hj).1
    have e' : j = d.bl := e
    omega

theorem fault_nil (a : Option Addr) (n c : Nat) (w : World) : Calls Try.prog 20 #[.pointer none, .slice a n c] w fun e w' => e = .returned (.tuple #[]) ∧ w' = w := by
  go_enter Try.func20, Try.ntmps20
  go_wp2
  (try simp only [Exit.inBlock, Exit.then]); refine bodyPost_ret (results_none rfl _ _ _) rfl ?_
  exact ⟨rfl, rfl⟩

set_option maxRecDepth 20000 in
set_option maxHeartbeats 1000000 in
theorem fault_any (d : Pd) (ra : Option Addr) (rc k : Nat) (bad : Nat → Bool) (rd : Nat → Int) (a : Option Addr) (n c : Nat) (l : Nat → Int) (w : World) (h : Hid (Pg w d ra rc bad k rd)) (hn : n < 50000) (hl : Hid (Sl w a n (In l))) (hne : Hid (∀ p, a = some p → p.block ≠ d.bl)) :
    Calls Try.prog 20 #[.pointer (some ⟨d.bp, 0, none⟩), .slice a n c] w fun e w' => e = .returned (.tuple #[]) ∧ Hid (Pg w' d ra rc (among l n) k rd) ∧ Hid (Mv (fun j => j = d.bl) w w') := by
  have hc2 := h.out.c2
  obtain ⟨W, hcl, hP, hM⟩ := h.out.heal 0
  have P1 : Hid _ := hP
  have M1 : Hid _ := hM
  clear hP hM
  go_enter Try.func20, Try.ntmps20
  go_wp2_with fail
  go_loopw [14] (fun vi wr => ∃ i : Nat, i ≤ n ∧ vi = .int .i64 i ∧ Hid (Pg wr d ra rc (among l i) k rd) ∧ Hid (Mv (fun j => j = d.bl) w wr)) (fun vi _ => n - (intOf vi).toNat)
  case atStart => exact ⟨0, by omega, rfl, P1, M1⟩
  case round =>
    obtain ⟨i, hi, rfl, P2, M2⟩ := hrel
    by_cases hlt : i < n
    · have hltz : (i : Int) < (n : Int) := by omega
      obtain ⟨b, off, rfl, hb, hc⟩ := (hl.out.mv M2.out (fun p hp => hne.out p hp)) i hlt
      have hc' : wr.cell? ⟨b, off + i, none⟩ = some (.int .i64 (l i)) := hc
      clear hc
      have E : Hid (∀ j, among l (i + 1) j = (among l i j || decide (l i = (j : Int)))) := fun j => among_succ l i j
      generalize l i = x at hc' E
      have hc1 := P2.out.c1
      have hw2 := P2.out.c2
      cases hh : has x d.m
      · have H : Hid _ := hh
        clear hh
        go_wp2_with fail
        refine (has_any d.bp x d.pa d.m d.pc wr hc1).mono ?_
        rintro e w1 ⟨rfl, hw⟩
        obtain rfl := hw.symm
        rw [H.out]
        clear hw
        go_wp2_with fail
        refine ⟨⟨i + 1, by omega, by go_num, P2.out.same (fun j hj => ?_), M2⟩, by simp [intOf]; omega⟩
        rw [E.out, decide_eq_false, Bool.or_false]
        intro e
        have h2 := H.out
        unfold has at h2
        rw [e, decide_eq_true (by omega), decide_eq_true (by omega)] at h2
        cases h2
      · have H : Hid _ := hh
        have hx : 0 ≤ x ∧ x < d.m := by
          unfold has at hh
          rw [Bool.and_eq_true] at hh
          exact ⟨of_decide_eq_true hh.1, of_decide_eq_true hh.2⟩
        clear hh
        obtain ⟨q, rfl⟩ : ∃ q : Nat, x = q := ⟨x.toNat, by omega⟩
        have hq : q < d.m := by omega
        have hqz : (q : Int) < d.m := hx.2
        have hbl := P2.out.faulty.at hq
        have hbl1 := hbl.1
        have hbl2 := hbl.2
        clear hx hbl
        go_wp2_with fail
        refine (has_any d.bp q d.pa d.m d.pc wr hc1).mono ?_
        rintro e w1 ⟨rfl, hw⟩
        obtain rfl := hw.symm
        rw [H.out]
        clear hw
        go_wp2_with fail
        refine ⟨⟨i + 1, by omega, by go_num, (P2.out.fault q).same (fun j hj => ?_), M2.out.trans (Mv.setCell _ _ _) (fun _ _ h => h)⟩, by simp [intOf]; omega⟩
        rw [E.out]
        congr 1
        rw [Bool.eq_iff_iff, decide_eq_true_iff, decide_eq_true_iff]
        omega
    · obtain rfl : i = n := by omega
      go_wp2_with fail
      go_end0
      exact ⟨rfl, P2, M2⟩
end Go.Proofs.Ytdhdkbaalgdicaa
