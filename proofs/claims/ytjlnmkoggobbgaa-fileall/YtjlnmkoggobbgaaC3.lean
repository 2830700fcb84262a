/- Read, in its three ways. -/
import Derived.Test.YtjlnmkoggobbgaaC2
import Derived.Deep.QuietTactic
import Derived.BigQuiet
namespace Go.Proofs.Ytjlnmkoggobbgaa
open Go.RowKit

theorem make_fn (fn : Fn) (first cap : Array Value) (w : World) : (Instr.makeFunc fn first cap).run Try.prog w = .ok (.func fn first cap) w := rfl

theorem catch_panicking (p q r : Addr) (w : World) (x : Int) (y z : Value) (hp : w.cell? p = some (.int .i64 x)) (hc : w.cell? q = some y) (hz : w.frozen? q = false) (hc2 : w.cell? r = some z) (hz2 : w.frozen? r = false) (hqr : q ≠ r) :
    CallsD Try.prog 34 #[.pointer (some p), .pointer (some q), .pointer (some r)] (.panicking pageChain) w fun e u' w' =>
      e = .returned (.tuple #[]) ∧ u' = .panicking [{ v := .iface 9 (.string ⟨#[112, 97, 103, 101, 58, 32, 110, 111, 116, 32, 116, 111, 32, 98, 101, 32, 114, 101, 97, 100]⟩), recovered := true }] ∧ w' = (w.setCell q (.slice none 0 0)).setCell r (.int .i64 x) := by
  refine callsD_of_wpS Try.func34 rfl fun c₀ cs hu => ?_
  unfold pageChain at hu
  apply wpS_seq
  apply wpS_region
  simp [wpOpsS, go_sem, recoverD, hu, Try.ntmps34, Exit.thenS]
  refine wpS_cond (t := true) (by simp [Act.eval, Array.replicate]) ?_
  simp only [if_true]
  apply wpS_region
  have hc3 : (w.setCell q (.slice none 0 0)).cell? r = some z := by rw [World.cell?_setCell_other _ _ _ _ hqr]; exact hc2
  simp [wpOpsS, go_sem, hp, hc, hz, hc3, hz2, bodyPostS, results, Try.results34]

theorem catch_idle (p q r : Addr) (w : World) :
    CallsD Try.prog 34 #[.pointer (some p), .pointer (some q), .pointer (some r)] .returning w fun e u' w' => e = .returned (.tuple #[]) ∧ u' = .returning ∧ w' = w := by
  refine callsD_of_wpS Try.func34 rfl fun c₀ cs hu => ?_
  apply wpS_seq
  apply wpS_region
  simp [wpOpsS, go_sem, recoverD, hu, Try.ntmps34, Exit.thenS]
  refine wpS_cond (t := false) (by simp [Act.eval, Array.replicate]) ?_
  simp only [Bool.false_eq_true, if_false]
  refine wpS_of_wp (wp_skip ?_)
  cases c₀
  simp_all [bodyPostS, results, Try.results34]

theorem below3 (w : World) (a b c : Obj) : Below w.heap.size w (((w.alloc a).alloc b).alloc c) := (((Below.refl _ _).alloc (Nat.le_refl _) _).alloc (by simp) _).alloc (by simp; omega) _

set_option maxHeartbeats 1000000 in
theorem read_none (b : Nat) (i : Int) (a : Option Addr) (n c : Nat) (w : World) (hc : w.cell? ⟨b, 2, none⟩ = some (.slice a n c)) (hb : b < w.heap.size) (hi : has i n = false) :
    Calls Try.prog 17 #[.pointer (some ⟨b, 0, none⟩), .int .i64 i] w fun e w' => e = .returned (.tuple #[.slice none 0 0, .int .i64 1]) ∧ Below w.heap.size w w' := by
  have hmf := make_fn
  have H : Hid _ := hi
  clear hi
  go_enter_defers Try.func17, Try.ntmps17
  go_wp2_with fail
  refine (has_any b i a n c _ ?_).mono ?_
  · exact ((below3 w _ _ _).cell (p := ⟨b, 2, none⟩) hb).trans hc
  rintro e w1 ⟨rfl, hw⟩
  rw [H.out]
  subst hw
  go_wp2_with fail
  refine (must_bad _).mono ?_
  rintro e w2 ⟨rfl, hw⟩
  subst hw
  refine leaves_cons (f := 34) (args := #[.pointer (some ⟨w.heap.size + 2, 0, none⟩), .pointer (some ⟨w.heap.size, 0, none⟩), .pointer (some ⟨w.heap.size + 1, 0, none⟩)]) (by simp) (by simp [go_sem]) ?_
  refine (catch_panicking ⟨w.heap.size + 2, 0, none⟩ ⟨w.heap.size, 0, none⟩ ⟨w.heap.size + 1, 0, none⟩ _ 1 (.slice none 0 0) (.int .i64 0) ?_ ?_ ?_ ?_ ?_ ?_).mono ?_
  · simp [go_sem]
  · simp [go_sem]
  · simp [go_sem]
  · simp [go_sem]
  · simp [go_sem]
  · simp
  rintro e u' w'' ⟨rfl, rfl, rfl⟩
  simp [Leaves, settle, results, Try.results17, go_sem]
  exact below3 _ _ _ _

set_option maxHeartbeats 1000000 in
theorem read_nil (w : World) :
    Calls Try.prog 17 #[.pointer none, .int .i64 0] w fun e w' => e = .returned (.tuple #[.slice none 0 0, .int .i64 1]) ∧ Below w.heap.size w w' := by
  have hmf := make_fn
  go_enter_defers Try.func17, Try.ntmps17
  go_wp2_with fail
  refine (has_nil 0 (by omega) _).mono ?_
  rintro e w1 ⟨rfl, hw⟩
  subst hw
  go_wp2_with fail
  refine (must_bad _).mono ?_
  rintro e w2 ⟨rfl, hw⟩
  subst hw
  refine leaves_cons (f := 34) (args := #[.pointer (some ⟨w.heap.size + 2, 0, none⟩), .pointer (some ⟨w.heap.size, 0, none⟩), .pointer (some ⟨w.heap.size + 1, 0, none⟩)]) (by simp) (by simp [go_sem]) ?_
  refine (catch_panicking ⟨w.heap.size + 2, 0, none⟩ ⟨w.heap.size, 0, none⟩ ⟨w.heap.size + 1, 0, none⟩ _ 1 (.slice none 0 0) (.int .i64 0) ?_ ?_ ?_ ?_ ?_ ?_).mono ?_
  · simp [go_sem]
  · simp [go_sem]
  · simp [go_sem]
  · simp [go_sem]
  · simp [go_sem]
  · simp
  rintro e u' w'' ⟨rfl, rfl, rfl⟩
  simp [Leaves, settle, results, Try.results17, go_sem]
  exact below3 _ _ _ _

/-- The world in which a reading is noted. -/
def w3 (w : World) : World := ((w.alloc (.cells #[.slice none 0 0] 22)).alloc (.cells #[.int .i64 0] 26)).alloc (.cells #[.int .i64 1] 26)
theorem w3_mv (w : World) : Mv (fun _ => False) w (w3 w) := ((Mv.alloc _ w _).trans (Mv.alloc (fun _ => False) _ _) (fun _ _ h => h)).trans (Mv.alloc (fun _ => False) _ _) (fun _ _ h => h)
theorem w3_size (w : World) : (w3 w).heap.size = w.heap.size + 3 := by simp [w3]

theorem w3_new (w : World) : (w3 w).cell? ⟨w.heap.size, 0, none⟩ = some (.slice none 0 0) ∧ (w3 w).frozen? ⟨w.heap.size, 0, none⟩ = false ∧ (w3 w).cell? ⟨w.heap.size + 1, 0, none⟩ = some (.int .i64 0) ∧ (w3 w).frozen? ⟨w.heap.size + 1, 0, none⟩ = false ∧ (w3 w).cell? ⟨w.heap.size + 1 + 1, 0, none⟩ = some (.int .i64 1) ∧ (w3 w).frozen? ⟨w.heap.size + 1 + 1, 0, none⟩ = false := by
  unfold w3
  refine ⟨?_, ?_, ?_, ?_, ?_, ?_⟩ <;> simp [go_sem]

/-- What the walk is told of the world in which a reading has been noted. -/
structure Noted (w W : World) (d : Pd) (ra : Option Addr) (rc k : Nat) (bad : Nat → Bool) : Prop where
  c1 : W.cell? ⟨d.bp, 2, none⟩ = some (.slice d.pa d.m d.pc)
  c2 : W.cell? ⟨d.bp, 3, none⟩ = some (.slice (some ⟨d.bl, 0, none⟩) d.m d.m)
  c3 : W.cell? ⟨d.bp, 4, none⟩ = some (.slice ra k rc)
  z3 : W.frozen? ⟨d.bp, 4, none⟩ = false
  bl : ∀ i, i < d.m → W.cell? ⟨d.bl, i, none⟩ = some (.bool (bad i))
  n0 : W.cell? ⟨w.heap.size, 0, none⟩ = some (.slice none 0 0)
  f0 : W.frozen? ⟨w.heap.size, 0, none⟩ = false
  n1 : W.cell? ⟨w.heap.size + 1, 0, none⟩ = some (.int .i64 0)
  f1 : W.frozen? ⟨w.heap.size + 1, 0, none⟩ = false
  n2 : W.cell? ⟨w.heap.size + 1 + 1, 0, none⟩ = some (.int .i64 1)
  f2 : W.frozen? ⟨w.heap.size + 1 + 1, 0, none⟩ = false
  lt : d.bp < w.heap.size ∧ d.bl < w.heap.size ∧ d.bp ≠ d.bl
theorem noted {w W : World} {d : Pd} {ra : Option Addr} {rc k : Nat} {bad : Nat → Bool} {rd : Nat → Int} (h : Pg w d ra rc bad k rd) (hm : Mv (fun j => bk ra = some j) (w3 w) W) : Noted w W d ra rc k bad := by
  have hB2 : ∀ j, bk ra = some j → d.top ≤ j ∧ j < w.heap.size := fun j hj => h.reads.blk j (by rw [own_blk]; exact hj)
  have h3 := h.mv (w3_mv w) (fun j hj => hj.elim)
  obtain ⟨t1, t2, t3⟩ := h.t0
  have htp := h.tp
  have hlt : ∀ j, j < d.top → ¬ bk ra = some j := fun j hj hS => by have := hB2 j hS; omega
  have hge : ∀ j, w.heap.size ≤ j → ¬ bk ra = some j := fun j hj hS => by have := hB2 j hS; omega
  obtain ⟨q1, q2, q3, q4, q5, q6⟩ := w3_new w
  have hz := w3_size w
  have fz : ∀ p : Addr, p.block < w.heap.size + 3 → ¬ bk ra = some p.block → W.frozen? p = (w3 w).frozen? p := fun p hp hn => hm.frozen (by omega) hn
  refine ⟨hm.cell h3.c1 (hlt _ t1), hm.cell h3.c2 (hlt _ t1), hm.cell h3.c3 (hlt _ t1), ?_, fun i hi => hm.cell (h3.faulty.at hi).1 (hlt _ t3), hm.cell q1 (hge _ (by simp)), ?_, hm.cell q3 (hge _ (by simp)), ?_, hm.cell q5 (hge _ (by simp; omega)), ?_, by omega, by omega, h.dist.2.1⟩
  · rw [fz _ (by show d.bp < _; omega) (hlt _ t1)]; exact h3.z3
  · rw [fz _ (by show w.heap.size < _; omega) (hge _ (by simp))]; exact q2
  · rw [fz _ (by show w.heap.size + 1 < _; omega) (hge _ (by simp))]; exact q4
  · rw [fz _ (by show w.heap.size + 1 + 1 < _; omega) (hge _ (by simp; omega))]; exact q6

theorem Own.base {w : World} {base n : Nat} {e : TypeId} {v : Value} {V : Nat → Value} (h : Own w base e v n V) {b2 : Nat} (hb : b2 ≤ base) : Own w b2 e v n V := by
  refine ⟨h.1, ?_⟩
  rcases h.2 with hn | ⟨g, cap, cur, rfl, hb1, rest⟩
  · exact .inl hn
  · exact .inr ⟨g, cap, cur, rfl, Nat.le_trans hb hb1, rest⟩

/-- Behind it, only the call's own cells are written. -/
theorem fin3 {w X X' : World} {d : Pd} {ra ra' : Option Addr} {rc' k' : Nat} {bad : Nat → Bool} {rd' : Nat → Int} {T : Nat → Prop} (tp : d.top ≤ w.heap.size) (hra : ∀ j, bk ra = some j → j < w.heap.size) (P' : Pg X d ra' rc' bad k' rd') (K' : bk ra' = bk ra ∨ ∃ g, bk ra' = some g ∧ (w3 w).heap.size ≤ g)
    (M2 : Mv (fun j => j = d.bp ∨ bk ra = some j) w X) (Mx : Mv T X X') (hT : ∀ j, T j → w.heap.size ≤ j ∧ j < w.heap.size + 3) :
    Hid (Pg X' d ra' rc' bad k' rd') ∧ Hid (bk ra' = bk ra ∨ ∃ g, bk ra' = some g ∧ w.heap.size ≤ g) ∧ Hid (Mv (fun j => j = d.bp ∨ bk ra = some j) w X') := by
  have hz := w3_size w
  refine ⟨P'.mv Mx (fun j hj => ?_), ?_, M2.trans Mx (fun j hj hS => ?_)⟩
  · have := hT j hj
    refine ⟨by omega, fun e => ?_⟩
    rcases K' with K' | ⟨g, k1, k2⟩
    · rw [K'] at e
      have := hra j e
      omega
    · rw [k1] at e
      cases e
      omega
  · rcases K' with K' | ⟨g, k1, k2⟩
    · exact .inl K'
    · exact .inr ⟨g, k1, by omega⟩
  · have := hT j hS
    omega

/-- What a reading leaves. -/
def WasRead (w w' : World) (d : Pd) (ra : Option Addr) (bad : Nat → Bool) (k : Nat) (rd : Nat → Int) (i : Nat) : Prop :=
  ∃ ra' rc', Hid (Pg w' d ra' rc' bad (k + 1) (app rd k i)) ∧ Hid (bk ra' = bk ra ∨ ∃ g, bk ra' = some g ∧ w.heap.size ≤ g) ∧ Hid (Mv (fun j => j = d.bp ∨ bk ra = some j) w w')
def WasTold (w w' : World) (d : Pd) (ra : Option Addr) (bad : Nat → Bool) (k : Nat) (rd : Nat → Int) (i g l : Nat) : Prop :=
  ∃ ra' rc', Hid (Pg w' d ra' rc' bad (k + 1) (app rd k i)) ∧ Hid (bk ra' = bk ra ∨ ∃ g, bk ra' = some g ∧ w.heap.size ≤ g) ∧ Hid (Mv (fun j => j = d.bp ∨ bk ra = some j) w w') ∧ Hid (bk ra' ≠ some g) ∧
    Hid (Own w' w.heap.size 5 (.slice (some ⟨g, 0, none⟩) l l) l (By fun j => d.f (i * d.sz + j)))

set_option maxHeartbeats 1000000 in
theorem read_bad (d : Pd) (i : Nat) (ra : Option Addr) (rc k : Nat) (bad : Nat → Bool) (rd : Nat → Int) (w : World) (h : Hid (Pg w d ra rc bad k rd)) (hk : k < 50000) (hi : i < d.m) (hbad : Hid (bad i = true)) :
    Calls Try.prog 17 #[.pointer (some ⟨d.bp, 0, none⟩), .int .i64 i] w fun e w' => e = .returned (.tuple #[.slice none 0 0, .int .i64 11]) ∧ WasRead w w' d ra bad k rd i := by
  have hmf := make_fn
  obtain ⟨ra', rc', W, hr, hP, hK, hM, hM2⟩ := h.out.note (w3_mv w) hk i _ rfl
  have hN := noted h.out ((Mv.alloc (fun _ => False) (w3 w) _).mono (fun _ _ h => h.elim) |>.trans hM (fun _ _ h => h))
  have hc := hN.c3
  have hz := hN.z3
  have hc2 := hN.c2
  have hbl := hN.bl i hi
  rw [hbad.out] at hbl
  have hn2 := hN.n2
  have hf2 := hN.f2
  have N : Hid _ := hN
  have hlt : d.bp < w.heap.size := hN.lt.1
  have hd1 : ¬ d.bp = d.bl := hN.lt.2.2
  have hd2 : ¬ w.heap.size + 1 + 1 = d.bl := by have := hN.lt.2.1; omega
  clear hN
  have P' : Hid _ := hP
  have K' : Hid _ := hK
  have M' : Hid _ := hM
  have M2 : Hid _ := hM2
  clear hP hK hM hM2
  have hc1 := h.out.c1
  have hc3 := (h.out.mv (w3_mv w) (fun j hj => hj.elim)).c3
  have hh : has i d.m = true := by unfold has; rw [decide_eq_true (by omega), decide_eq_true (by omega)]; rfl
  have H : Hid _ := hh
  clear hh
  have hi2 : (i : Int) < d.m := by omega
  go_enter_defers Try.func17, Try.ntmps17
  go_wp2_with fail
  refine (has_any d.bp i d.pa d.m d.pc _ ?_).mono ?_
  · exact ((below3 w _ _ _).cell (p := ⟨d.bp, 2, none⟩) hlt).trans hc1
  rintro e w1 ⟨rfl, hw⟩
  rw [H.out]
  subst hw
  go_wp2_with fail
  refine (must_ok _).mono ?_
  rintro e w2 ⟨rfl, hw⟩
  subst hw
  rw [show (((w.alloc (.cells #[.slice none 0 0] 22)).alloc (.cells #[.int .i64 0] 26)).alloc (.cells #[.int .i64 1] 26)) = w3 w from rfl]
  go_wp2_with (at_builtin; first | (refine wpList_append_given rfl _ _ 31 rfl _ _ _ W rfl rfl hr ?_))
  go_wp2_with fail
  refine (must_bad _).mono ?_
  rintro e w2 ⟨rfl, hw⟩
  subst hw
  have ne1 : ¬ w.heap.size + 1 + 1 = w.heap.size := by omega
  have ne2 : ¬ d.bp = w.heap.size := by omega
  have ne3 : ¬ d.bp = w.heap.size + 1 := by omega
  have ne4 : ¬ d.bp = w.heap.size + 1 + 1 := by omega
  have n0 := N.out.n0
  have f0 := N.out.f0
  have n1 := N.out.n1
  have f1 := N.out.f1
  refine leaves_cons (f := 34) (args := #[.pointer (some ⟨w.heap.size + 1 + 1, 0, none⟩), .pointer (some ⟨w.heap.size, 0, none⟩), .pointer (some ⟨w.heap.size + 1, 0, none⟩)]) (by simp) (by simp [go_sem]) ?_
  refine (catch_panicking ⟨w.heap.size + 1 + 1, 0, none⟩ ⟨w.heap.size, 0, none⟩ ⟨w.heap.size + 1, 0, none⟩ _ 11 (.slice none 0 0) (.int .i64 0) ?_ ?_ ?_ ?_ ?_ ?_).mono ?_
  · refine World.cell?_setCell_same _ _ _ (u := .int .i64 1) ?_
    rw [World.cell?_setCell_other _ _ _ _ (by simp)]; exact hn2
  · rw [World.cell?_setCell_other _ _ _ _ (by simp), World.cell?_setCell_other _ _ _ _ (by simp)]; exact n0
  · rw [World.frozen?_setCell, World.frozen?_setCell]; exact f0
  · rw [World.cell?_setCell_other _ _ _ _ (by simp), World.cell?_setCell_other _ _ _ _ (by simp)]; exact n1
  · rw [World.frozen?_setCell, World.frozen?_setCell]; exact f1
  · simp
  rintro e u' w'' ⟨rfl, rfl, rfl⟩
  have hX : Hid (Mv (fun j => w.heap.size ≤ j ∧ j < w.heap.size + 3) (W.setCell ⟨d.bp, 4, none⟩ (.slice ra' (k + 1) rc')) ((((W.setCell ⟨d.bp, 4, none⟩ (.slice ra' (k + 1) rc')).setCell ⟨w.heap.size + 1 + 1, 0, none⟩ (.int .i64 11)).setCell ⟨w.heap.size, 0, none⟩ (.slice none 0 0)).setCell ⟨w.heap.size + 1, 0, none⟩ (.int .i64 11))) :=
    (((Mv.setCell _ ⟨w.heap.size + 1 + 1, 0, none⟩ (.int .i64 11)).mono (T := fun j => w.heap.size ≤ j ∧ j < w.heap.size + 3) (fun j _ h => by have h' : j = w.heap.size + 1 + 1 := h; omega)).trans (Mv.setCell _ ⟨w.heap.size, 0, none⟩ (.slice none 0 0)) (fun j _ h => by have h' : j = w.heap.size := h; omega)).trans (Mv.setCell _ ⟨w.heap.size + 1, 0, none⟩ (.int .i64 11)) (fun j _ h => by have h' : j = w.heap.size + 1 := h; omega)
  have hv0 : ((((W.setCell ⟨d.bp, 4, none⟩ (.slice ra' (k + 1) rc')).setCell ⟨w.heap.size + 1 + 1, 0, none⟩ (.int .i64 11)).setCell ⟨w.heap.size, 0, none⟩ (.slice none 0 0)).setCell ⟨w.heap.size + 1, 0, none⟩ (.int .i64 11)).cell? ⟨w.heap.size, 0, none⟩ = some (.slice none 0 0) := by
    rw [World.cell?_setCell_other _ _ _ _ (by simp)]
    refine World.cell?_setCell_same _ _ _ (u := .slice none 0 0) ?_
    rw [World.cell?_setCell_other _ _ _ _ (by simp), World.cell?_setCell_other _ _ _ _ (by simp)]; exact n0
  have hv1 : ((((W.setCell ⟨d.bp, 4, none⟩ (.slice ra' (k + 1) rc')).setCell ⟨w.heap.size + 1 + 1, 0, none⟩ (.int .i64 11)).setCell ⟨w.heap.size, 0, none⟩ (.slice none 0 0)).setCell ⟨w.heap.size + 1, 0, none⟩ (.int .i64 11)).cell? ⟨w.heap.size + 1, 0, none⟩ = some (.int .i64 11) := by
    refine World.cell?_setCell_same _ _ _ (u := .int .i64 0) ?_
    rw [World.cell?_setCell_other _ _ _ _ (by simp), World.cell?_setCell_other _ _ _ _ (by simp), World.cell?_setCell_other _ _ _ _ (by simp)]; exact n1
  have F := fin3 h.out.tp (fun j hj => (h.out.reads.blk j (by rw [own_blk]; exact hj)).2) P'.out K'.out M2.out hX.out (fun _ h => h)
  clear hX
  have F' : Hid _ := F
  clear F
  generalize ((((W.setCell ⟨d.bp, 4, none⟩ (.slice ra' (k + 1) rc')).setCell ⟨w.heap.size + 1 + 1, 0, none⟩ (.int .i64 11)).setCell ⟨w.heap.size, 0, none⟩ (.slice none 0 0)).setCell ⟨w.heap.size + 1, 0, none⟩ (.int .i64 11)) = Z at *
  simp [Leaves, settle, results, Try.results17, go_sem, hv0, hv1]
  exact ⟨ra', rc', F'.out⟩

theorem Pg.page {w : World} {d : Pd} {ra : Option Addr} {rc k : Nat} {bad : Nat → Bool} {rd : Nat → Int} (h : Pg w d ra rc bad k rd) (i : Nat) : Sl w (some ⟨d.bf, i * d.sz, none⟩) (min d.sz (d.n - i * d.sz)) (By fun j => d.f (i * d.sz + j)) := by
  intro j hj
  have hl : i * d.sz + j < d.n := by omega
  have hc := h.file _ hl
  exact ⟨_, _, rfl, World.block_lt_of_cell? w _ hc, hc⟩

set_option maxHeartbeats 1000000 in
theorem read_ok (d : Pd) (i : Nat) (ra : Option Addr) (rc k : Nat) (bad : Nat → Bool) (rd : Nat → Int) (w : World) (h : Hid (Pg w d ra rc bad k rd)) (hk : k < 50000) (hi : i < d.m) (hbad : Hid (bad i = false)) :
    Calls Try.prog 17 #[.pointer (some ⟨d.bp, 0, none⟩), .int .i64 i] w fun e w' => ∃ g, e = .returned (.tuple #[.slice (some ⟨g, 0, none⟩) (min d.sz (d.n - i * d.sz)) (min d.sz (d.n - i * d.sz)), .int .i64 0]) ∧ WasTold w w' d ra bad k rd i g (min d.sz (d.n - i * d.sz)) := by
  have hmf := make_fn
  obtain ⟨ra', rc', W, hr, hP, hK, hM, hM2⟩ := h.out.note (w3_mv w) hk i _ rfl
  have hN := noted h.out ((Mv.alloc (fun _ => False) (w3 w) _).mono (fun _ _ h => h.elim) |>.trans hM (fun _ _ h => h))
  have hc := hN.c3
  have hz := hN.z3
  have hc2 := hN.c2
  have hcp := hN.c1
  have hbl := hN.bl i hi
  rw [hbad.out] at hbl
  have hn2 := hN.n2
  have hf2 := hN.f2
  have N : Hid _ := hN
  have hlt : d.bp < w.heap.size := hN.lt.1
  have hd1 : ¬ d.bp = d.bl := hN.lt.2.2
  have hd2 : ¬ w.heap.size + 1 + 1 = d.bl := by have := hN.lt.2.1; omega
  clear hN
  have hpl := hP.pages
  rcases hpl.slice with ⟨_, hm0⟩ | ⟨g, c, hpv, _⟩
  · exact absurd hi (by omega)
  have hpa : d.pa = some ⟨g, 0, none⟩ := by injection hpv
  have hpc : d.pc = c := by injection hpv
  rw [hpv] at hpl hcp
  have hpi := (hpl.at hi).1
  have hgt := hP.pat g (by rw [hpa]; rfl)
  have hd3 : ¬ d.bp = g := fun e => hgt.2.1 e.symm
  have hd4 : ¬ w.heap.size + 1 + 1 = g := by have := h.out.tp; omega
  rw [World.cell?_setCell_other _ _ _ _ (by simp)] at hpi
  unfold Pd.pg at hpi
  have P' : Hid _ := hP
  have K' : Hid _ := hK
  have M' : Hid _ := hM
  have M2 : Hid _ := hM2
  clear hP hK hM hM2 hpl
  have hc1 := h.out.c1
  have hc3 := (h.out.mv (w3_mv w) (fun j hj => hj.elim)).c3
  have hh : has i d.m = true := by unfold has; rw [decide_eq_true (by omega), decide_eq_true (by omega)]; rfl
  have H : Hid _ := hh
  clear hh
  have hi2 : (i : Int) < d.m := by omega
  have PA : Hid _ := hpa
  have PC : Hid _ := hpc
  clear hpa hpc hpv hgt
  go_enter_defers Try.func17, Try.ntmps17
  go_wp2_with fail
  refine (has_any d.bp i d.pa d.m d.pc _ ?_).mono ?_
  · exact ((below3 w _ _ _).cell (p := ⟨d.bp, 2, none⟩) hlt).trans hc1
  rintro e w1 ⟨rfl, hw⟩
  rw [H.out]
  subst hw
  go_wp2_with fail
  refine (must_ok _).mono ?_
  rintro e w2 ⟨rfl, hw⟩
  subst hw
  rw [show (((w.alloc (.cells #[.slice none 0 0] 22)).alloc (.cells #[.int .i64 0] 26)).alloc (.cells #[.int .i64 1] 26)) = w3 w from rfl]
  go_wp2_with (at_builtin; first | (refine wpList_append_given rfl _ _ 31 rfl _ _ _ W rfl rfl hr ?_))
  go_wp2_with fail
  refine (must_ok _).mono ?_
  rintro e w2 ⟨rfl, hw⟩
  subst hw
  go_wp2_with fail
  have hW1 : Hid (Mv (fun j => w.heap.size ≤ j ∧ j < w.heap.size + 3) (W.setCell ⟨d.bp, 4, none⟩ (.slice ra' (k + 1) rc')) ((W.setCell ⟨d.bp, 4, none⟩ (.slice ra' (k + 1) rc')).setCell ⟨w.heap.size + 1 + 1, 0, none⟩ (.int .i64 11))) :=
    (Mv.setCell _ ⟨w.heap.size + 1 + 1, 0, none⟩ (.int .i64 11)).mono (T := fun j => w.heap.size ≤ j ∧ j < w.heap.size + 3) (fun j _ h => by have h' : j = w.heap.size + 1 + 1 := h; omega)
  have n0 : ((W.setCell ⟨d.bp, 4, none⟩ (.slice ra' (k + 1) rc')).setCell ⟨w.heap.size + 1 + 1, 0, none⟩ (.int .i64 11)).cell? ⟨w.heap.size, 0, none⟩ = some (.slice none 0 0) := by
    rw [World.cell?_setCell_other _ _ _ _ (by simp), World.cell?_setCell_other _ _ _ _ (by simp)]; exact N.out.n0
  have f0 : ((W.setCell ⟨d.bp, 4, none⟩ (.slice ra' (k + 1) rc')).setCell ⟨w.heap.size + 1 + 1, 0, none⟩ (.int .i64 11)).frozen? ⟨w.heap.size, 0, none⟩ = false := by
    rw [World.frozen?_setCell, World.frozen?_setCell]; exact N.out.f0
  have n1 : ((W.setCell ⟨d.bp, 4, none⟩ (.slice ra' (k + 1) rc')).setCell ⟨w.heap.size + 1 + 1, 0, none⟩ (.int .i64 11)).cell? ⟨w.heap.size + 1, 0, none⟩ = some (.int .i64 0) := by
    rw [World.cell?_setCell_other _ _ _ _ (by simp), World.cell?_setCell_other _ _ _ _ (by simp)]; exact N.out.n1
  have f1 : ((W.setCell ⟨d.bp, 4, none⟩ (.slice ra' (k + 1) rc')).setCell ⟨w.heap.size + 1 + 1, 0, none⟩ (.int .i64 11)).frozen? ⟨w.heap.size + 1, 0, none⟩ = false := by
    rw [World.frozen?_setCell, World.frozen?_setCell]; exact N.out.f1
  have hsz : Hid (w.heap.size + 3 ≤ ((W.setCell ⟨d.bp, 4, none⟩ (.slice ra' (k + 1) rc')).setCell ⟨w.heap.size + 1 + 1, 0, none⟩ (.int .i64 11)).heap.size) := by
    have h1 := M'.out.size
    have h2 := w3_size w
    have h3 := (Mv.setCell W ⟨d.bp, 4, none⟩ (.slice ra' (k + 1) rc')).size
    have h4 := hW1.out.size
    simp at h1
    show _ ≤ _
    omega
  have pX := P'.out.mv hW1.out (fun j hj => ?_)
  rotate_left
  · exact ⟨by have := h.out.tp; omega, fun e => by
      have hz := w3_size w
      rcases K'.out with K' | ⟨g, k1, k2⟩
      · rw [K'] at e
        have := (h.out.reads.blk j (by rw [own_blk]; exact e)).2
        omega
      · rw [k1] at e
        cases e
        omega⟩
  have hpg := pX.page i
  have HP : Hid _ := hpg
  have hl : min d.sz (d.n - i * d.sz) < 100000 := by have := pX.small; omega
  have PX : Hid _ := pX
  clear hpg pX
  have MX : Hid _ := M2.out.trans hW1.out (fun j hj h => by omega)
  have KX : Hid (bk ra' = bk ra ∨ ∃ g, bk ra' = some g ∧ (w3 w).heap.size ≤ g) := K'.out
  have HR : Hid (∀ j, bk ra' = some j → j < ((W.setCell ⟨d.bp, 4, none⟩ (.slice ra' (k + 1) rc')).setCell ⟨w.heap.size + 1 + 1, 0, none⟩ (.int .i64 11)).heap.size) := fun j hj => (PX.out.reads.blk j (by rw [own_blk]; exact hj)).2
  clear hr hc hz hc2 hcp hbl hn2 hf2 hpi P' K' M' M2 N hW1
  generalize ((W.setCell ⟨d.bp, 4, none⟩ (.slice ra' (k + 1) rc')).setCell ⟨w.heap.size + 1 + 1, 0, none⟩ (.int .i64 11)) = X at *
  generalize hL : min d.sz (d.n - i * d.sz) = l at *
  have L : Hid _ := hL
  clear hL
  refine (copyB_any _ l (d.n - i * d.sz) _ X hl HP.out).mono ?_
  rintro e Y ⟨rfl, hO, hB⟩
  have n0' : Y.cell? ⟨w.heap.size, 0, none⟩ = some (.slice none 0 0) := (hB.out.cell (p := ⟨w.heap.size, 0, none⟩) (by have := hsz.out; show w.heap.size < _; omega)).trans n0
  have f0' : Y.frozen? ⟨w.heap.size, 0, none⟩ = false := (hB.out.frozen (p := ⟨w.heap.size, 0, none⟩) (by have := hsz.out; show w.heap.size < _; omega)).trans f0
  have n1' : Y.cell? ⟨w.heap.size + 1, 0, none⟩ = some (.int .i64 0) := (hB.out.cell (p := ⟨w.heap.size + 1, 0, none⟩) (by have := hsz.out; show w.heap.size + 1 < _; omega)).trans n1
  have f1' : Y.frozen? ⟨w.heap.size + 1, 0, none⟩ = false := (hB.out.frozen (p := ⟨w.heap.size + 1, 0, none⟩) (by have := hsz.out; show w.heap.size + 1 < _; omega)).trans f1
  clear n0 f0 n1 f1
  go_wp2_with fail
  refine leaves_cons (f := 34) (args := #[.pointer (some ⟨w.heap.size + 1 + 1, 0, none⟩), .pointer (some ⟨w.heap.size, 0, none⟩), .pointer (some ⟨w.heap.size + 1, 0, none⟩)]) (by simp) (by simp [go_sem]) ?_
  refine (catch_idle ⟨w.heap.size + 1 + 1, 0, none⟩ ⟨w.heap.size, 0, none⟩ ⟨w.heap.size + 1, 0, none⟩ _).mono ?_
  rintro e u' w'' ⟨rfl, rfl, rfl⟩
  have hv0 : ((Y.setCell ⟨w.heap.size, 0, none⟩ (.slice (some ⟨X.heap.size, 0, none⟩) l l)).setCell ⟨w.heap.size + 1, 0, none⟩ (.int .i64 0)).cell? ⟨w.heap.size, 0, none⟩ = some (.slice (some ⟨X.heap.size, 0, none⟩) l l) := by
    rw [World.cell?_setCell_other _ _ _ _ (by simp)]
    exact World.cell?_setCell_same _ _ _ n0'
  have hv1 : ((Y.setCell ⟨w.heap.size, 0, none⟩ (.slice (some ⟨X.heap.size, 0, none⟩) l l)).setCell ⟨w.heap.size + 1, 0, none⟩ (.int .i64 0)).cell? ⟨w.heap.size + 1, 0, none⟩ = some (.int .i64 0) := by
    refine World.cell?_setCell_same _ _ _ (u := .int .i64 0) ?_
    rw [World.cell?_setCell_other _ _ _ _ (by simp)]; exact n1'
  have hMX2 : Mv (fun j => w.heap.size ≤ j ∧ j < w.heap.size + 3) X ((Y.setCell ⟨w.heap.size, 0, none⟩ (.slice (some ⟨X.heap.size, 0, none⟩) l l)).setCell ⟨w.heap.size + 1, 0, none⟩ (.int .i64 0)) :=
    (((Mv.of_below hB.out).mono (T := fun j => w.heap.size ≤ j ∧ j < w.heap.size + 3) (fun j h1 h2 => by omega)).trans (Mv.setCell _ ⟨w.heap.size, 0, none⟩ _) (fun j _ h => by have h' : j = w.heap.size := h; omega)).trans (Mv.setCell _ ⟨w.heap.size + 1, 0, none⟩ _) (fun j _ h => by have h' : j = w.heap.size + 1 := h; omega)
  have hO2 : Own ((Y.setCell ⟨w.heap.size, 0, none⟩ (.slice (some ⟨X.heap.size, 0, none⟩) l l)).setCell ⟨w.heap.size + 1, 0, none⟩ (.int .i64 0)) X.heap.size 5 (.slice (some ⟨X.heap.size, 0, none⟩) l l) l (By fun j => d.f (i * d.sz + j)) :=
    (hO.out.mv (Mv.setCell Y ⟨w.heap.size, 0, none⟩ _) (fun j hj e => by cases hj; have e' : X.heap.size = w.heap.size := e; have := hsz.out; omega)).mv (Mv.setCell _ ⟨w.heap.size + 1, 0, none⟩ _) (fun j hj e => by cases hj; have e' : X.heap.size = w.heap.size + 1 := e; have := hsz.out; omega)
  have hO3 : Own ((Y.setCell ⟨w.heap.size, 0, none⟩ (.slice (some ⟨X.heap.size, 0, none⟩) l l)).setCell ⟨w.heap.size + 1, 0, none⟩ (.int .i64 0)) w.heap.size 5 (.slice (some ⟨X.heap.size, 0, none⟩) l l) l (By fun j => d.f (i * d.sz + j)) := hO2.base (by have := hsz.out; omega)
  have F := fin3 h.out.tp (fun j hj => (h.out.reads.blk j (by rw [own_blk]; exact hj)).2) PX.out KX.out MX.out hMX2 (fun _ h => h)
  have F' : WasTold w ((Y.setCell ⟨w.heap.size, 0, none⟩ (.slice (some ⟨X.heap.size, 0, none⟩) l l)).setCell ⟨w.heap.size + 1, 0, none⟩ (.int .i64 0)) d ra bad k rd i X.heap.size l := ⟨ra', rc', F.1, F.2.1, F.2.2, fun e => by have := HR.out _ e; omega, hO3⟩
  clear hMX2 hO2 hO3 F hO hB n0' f0' n1' f1'
  generalize ((Y.setCell ⟨w.heap.size, 0, none⟩ (.slice (some ⟨X.heap.size, 0, none⟩) l l)).setCell ⟨w.heap.size + 1, 0, none⟩ (.int .i64 0)) = Z at *
  simp [Leaves, settle, results, Try.results17, go_sem, hv0, hv1]
  refine ⟨_, ⟨rfl, L.out.symm⟩, ?_⟩
  rw [L.out]
  exact F'

end Go.Proofs.Ytjlnmkoggobbgaa
