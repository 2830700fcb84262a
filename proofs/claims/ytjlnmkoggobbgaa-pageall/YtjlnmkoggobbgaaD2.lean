/- The statement's own list of what was read, beside the file's. -/
import Derived.Test.YtjlnmkoggobbgaaD1
namespace Go.Proofs.Ytjlnmkoggobbgaa
open Go.RowKit

/-- A new file may be held to lie below any block that is there. -/
def Pd.at (d : Pd) (T : Nat) : Pd := { d with top := T }
theorem Pg.retop {w : World} {d : Pd} {rd : Nat → Int} {bad : Nat → Bool} (h : Pg w d none 0 bad 0 rd) (T : Nat) (h1 : d.top ≤ T) (h2 : T ≤ w.heap.size) : Pg w (d.at T) none 0 bad 0 rd := by
  obtain ⟨t1, t2, t3⟩ := h.t0
  exact ⟨h.b0, ⟨Nat.lt_of_lt_of_le t1 h1, Nat.lt_of_lt_of_le t2 h1, Nat.lt_of_lt_of_le t3 h1⟩, h2, h.cs, h.c0, h.c1, h.c2, h.c3, h.z3, h.file, h.pages, fun j hj => ⟨Nat.lt_of_lt_of_le (h.pat j hj).1 h1, (h.pat j hj).2⟩, h.faulty, own_nil _ _ _ _, h.dist, h.cnt, h.small⟩

/-- What may have turned since the world W0: the file's own, and what is new. -/
def Kept (d : Pd) (W0 w : World) : Prop := Mv (fun j => j = d.bp ∨ j = d.bl ∨ d.top ≤ j) W0 w
theorem Kept.step {d : Pd} {W0 w w' : World} {T : Nat → Prop} (h : Kept d W0 w) (k : Mv T w w') (hT : ∀ j, T j → j = d.bp ∨ j = d.bl ∨ d.top ≤ j) : Kept d W0 w' := Mv.trans h k (fun j _ hj => hT j hj)

/-- The file, and the list. -/
structure St (W0 w : World) (d : Pd) (oa : Option Addr) (oc : Nat) (ra : Option Addr) (rc : Nat) (bad : Nat → Bool) (t : Nat) (rd : Nat → Int) : Prop where
  P : Pg w d ra rc bad t rd
  O : Own w d.top 3 (.slice oa t oc) t (In rd)
  S : Sep oa ra
  K : Kept d W0 w

theorem St.ra_lt {W0 w : World} {d : Pd} {oa ra : Option Addr} {oc rc t : Nat} {bad : Nat → Bool} {rd : Nat → Int} (h : St W0 w d oa oc ra rc bad t rd) : ∀ j, bk ra = some j → d.top ≤ j ∧ j < w.heap.size := fun j hj => h.P.reads.blk j (by rw [own_blk]; exact hj)
theorem St.oa_lt {W0 w : World} {d : Pd} {oa ra : Option Addr} {oc rc t : Nat} {bad : Nat → Bool} {rd : Nat → Int} (h : St W0 w d oa oc ra rc bad t rd) : ∀ j, bk oa = some j → d.top ≤ j ∧ j < w.heap.size := fun j hj => h.O.blk j (by rw [own_blk]; exact hj)

/-- New blocks alone have turned. -/
theorem St.new {W0 w w' : World} {d : Pd} {oa ra : Option Addr} {oc rc t : Nat} {bad : Nat → Bool} {rd : Nat → Int} (h : St W0 w d oa oc ra rc bad t rd) {T : Nat → Prop} (k : Mv T w w') (hT : ∀ j, T j → d.top ≤ j ∧ bk oa ≠ some j ∧ bk ra ≠ some j) : St W0 w' d oa oc ra rc bad t rd :=
  ⟨h.P.mv k (fun j hj => ⟨(hT j hj).1, (hT j hj).2.2⟩), h.O.mv k (fun j hj hS => (hT j hS).2.1 (by rw [own_blk] at hj; exact hj)), h.S, h.K.step k (fun j hj => .inr (.inr (hT j hj).1))⟩
theorem St.below {W0 w w' : World} {d : Pd} {oa ra : Option Addr} {oc rc t : Nat} {bad : Nat → Bool} {rd : Nat → Int} (h : St W0 w d oa oc ra rc bad t rd) (k : Below w.heap.size w w') : St W0 w' d oa oc ra rc bad t rd :=
  h.new ((Mv.of_below k).mono (T := fun _ => False) (fun j h1 h2 => by omega)) (fun j hj => hj.elim)

/-- Other pages fail. -/
theorem St.fault {W0 w1 w' : World} {d : Pd} {oa ra : Option Addr} {oc rc t : Nat} {bad bad' : Nat → Bool} {rd : Nat → Int} (h : St W0 w1 d oa oc ra rc bad t rd) (P : Pg w' d ra rc bad' t rd) (k : Mv (fun j => j = d.bl) w1 w') : St W0 w' d oa oc ra rc bad' t rd := by
  refine ⟨P, h.O.mv k (fun j hj e => ?_), h.S, h.K.step k (fun j hj => .inr (.inl hj))⟩
  have h1 := (h.O.blk j hj).1
  have h2 := h.P.t0
  have h3 : j = d.bl := e
  omega

/-- A reading, ahead of its note in the list. -/
structure Half (W0 w : World) (d : Pd) (oa : Option Addr) (oc : Nat) (ra : Option Addr) (rc : Nat) (bad : Nat → Bool) (t : Nat) (rd : Nat → Int) (x : Int) : Prop where
  P : Pg w d ra rc bad (t + 1) (app rd t x)
  O : Own w d.top 3 (.slice oa t oc) t (In rd)
  S : Sep oa ra
  K : Kept d W0 w
theorem St.half {W0 w w' : World} {d : Pd} {oa ra ra' : Option Addr} {oc rc rc' t : Nat} {bad : Nat → Bool} {rd : Nat → Int} {x : Int} (h : St W0 w d oa oc ra rc bad t rd) (P : Pg w' d ra' rc' bad (t + 1) (app rd t x)) (K : bk ra' = bk ra ∨ ∃ g, bk ra' = some g ∧ w.heap.size ≤ g) (M : Mv (fun j => j = d.bp ∨ bk ra = some j) w w') : Half W0 w' d oa oc ra' rc' bad t rd x :=
  ⟨P, h.O.past h.P h.S M, sep_read h.O h.S K (Nat.le_refl _), h.K.step M (fun j hj => by
    rcases hj with e | e
    · exact .inl e
    · exact .inr (.inr (h.ra_lt j e).1))⟩

theorem Half.new {W0 w w' : World} {d : Pd} {oa ra : Option Addr} {oc rc t : Nat} {bad : Nat → Bool} {rd : Nat → Int} {x : Int} (h : Half W0 w d oa oc ra rc bad t rd x) {T : Nat → Prop} (k : Mv T w w') (hT : ∀ j, T j → d.top ≤ j ∧ bk oa ≠ some j ∧ bk ra ≠ some j) : Half W0 w' d oa oc ra rc bad t rd x :=
  ⟨h.P.mv k (fun j hj => ⟨(hT j hj).1, (hT j hj).2.2⟩), h.O.mv k (fun j hj hS => (hT j hS).2.1 (by rw [own_blk] at hj; exact hj)), h.S, h.K.step k (fun j hj => .inr (.inr (hT j hj).1))⟩

theorem Half.note {W0 w : World} {d : Pd} {oa ra : Option Addr} {oc rc t : Nat} {bad : Nat → Bool} {rd : Nat → Int} {x : Int} (h : Half W0 w d oa oc ra rc bad t rd x) (ht : t < 50000) :
    ∃ oa' oc' W, (Builtin.append_ #[31, 31] 31 #[.slice oa t oc, .slice (some ⟨w.heap.size, 0, none⟩) 1 1]).run Try.prog (w.alloc (.cells #[.int .i64 x] 3)) = .ok (.slice oa' (t + 1) oc') W ∧ St W0 W d oa' oc' ra rc bad (t + 1) (app rd t x) ∧ Mv (fun j => d.top ≤ j ∧ bk oa = some j) w W := by
  have h1 := h.new (Mv.alloc (fun _ => False) w (.cells #[.int .i64 x] 3)) (fun j hj => hj.elim)
  obtain ⟨oa', oc', W, hr, ho, hp, hs, hm, hm2, _⟩ := grow_row 31 31 3 Try.t3 (.int .i64 0) 8 Try.underlying31 info3 (by kernel_rfl) (by kernel_rfl) (by kernel_rfl) rfl (by omega) (c := 1) h1.P h1.O h1.S (sl_one w x _ rfl) (fun _ => rfl) (by omega) (fun h => by cases h)
  refine ⟨oa', oc', W, hr, ⟨hp, ho.congr (fun j hj => ?_), hs, h1.K.step hm (fun j hj => .inr (.inr hj))⟩, ?_⟩
  · unfold cat In app
    by_cases h : j < t
    · rw [if_pos h, if_pos h]
    · rw [if_neg h, if_neg h]
  · refine (Mv.alloc (fun j => d.top ≤ j ∧ bk oa = some j) w _).trans (hm2.mono (T := fun j => d.top ≤ j ∧ bk oa = some j) (fun j _ hj => ⟨?_, hj⟩)) (fun _ _ h => h)
    exact (h1.O.blk j (by rw [own_blk]; exact hj)).1

/-- A literal with nothing in it, and a list behind it. -/
theorem append_lit (w : World) (s : Option Addr) (m c : Nat) (f : Nat → Int) (hs : Sl w s m (In f)) (hn : m < 50000) (hnone : s = none → m = 0 ∧ c = 0) :
    ∃ xa xc W, (Builtin.append_ #[31, 31] 31 #[.slice (some ⟨w.heap.size, 0, none⟩) 0 0, .slice s m c]).run Try.prog (w.alloc (.cells #[] 3)) = .ok (.slice xa m xc) W ∧ Own W w.heap.size 3 (.slice xa m xc) m (In f) ∧ Below w.heap.size w W := by
  have hM : Mv (fun _ => False) w (w.alloc (.cells #[] 3)) := Mv.alloc _ _ _
  have ho := own_empty w w.heap.size w.heap.size 3 rfl (Nat.le_refl _) (In f)
  obtain ⟨v', W, hr, h2, h3, _⟩ := append_own 31 31 3 Try.t3 (.int .i64 0) 8 Try.underlying31 info3 (by kernel_rfl) (by kernel_rfl) (by kernel_rfl) rfl (by omega) _ w.heap.size _ 0 m c (In f) (In f) s ho (hs.mv hM (fun _ _ h => h)) (fun _ => rfl) (by omega) hnone (by simp)
  rw [Nat.zero_add] at h2
  obtain ⟨xa, xc, rfl, _⟩ := h2.sl
  refine ⟨xa, xc, W, hr, h2.congr (fun i _ => by unfold cat; rw [if_neg (by omega), Nat.sub_zero]), ?_⟩
  exact ((Below.refl _ w).alloc (Nat.le_refl _) _).grown h3 (by simp) (fun k hk => (ho.blk k hk).1)
end Go.Proofs.Ytjlnmkoggobbgaa
