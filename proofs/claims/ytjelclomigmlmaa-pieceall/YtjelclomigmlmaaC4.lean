/- Where a byte stands: place; a piece in two: cut. -/
import Derived.Test.YtjelclomigmlmaaC3
namespace Go.Proofs.Ytjelclomigmlmaa
open Go.RowKit

theorem drop_get {α : Type} {l : List α} {i : Nat} {x : α} (h : l[i]? = some x) : l.drop i = x :: l.drop (i + 1) := by
  obtain ⟨hi, rfl⟩ := List.getElem?_eq_some_iff.1 h
  exact List.drop_eq_getElem_cons hi

set_option maxHeartbeats 2000000 in
theorem place_any (sa : Option Addr) (sc : Nat) (ps : List Pc) (at' : Nat) (w : World) (h : Hid (Ls w sa (cellsP ps))) (F : Hid (Fit ps)) (hl : ps.length < 100000) (hat : at' < 1000000) :
    Calls Try.prog 31 #[.slice sa ps.length sc, .int .i64 at'] w fun e w' => e = .returned (.tuple #[.int .i64 (plc ps at').1, .int .i64 (plc ps at').2]) ∧ Hid (Qt w w') := by
  obtain ⟨n, hn⟩ : ∃ n, n = ps.length := ⟨_, rfl⟩
  have N : Hid _ := hn
  rw [← hn] at hl ⊢
  clear hn
  obtain ⟨io, hio⟩ : ∃ io, io = plc ps at' := ⟨_, rfl⟩
  have HIO : Hid (io = plc ps at') := hio
  rw [← hio]
  clear hio
  go_enter Try.func31, Try.ntmps31
  go_wp2_with fail
  go_loopw [1, 10] (fun va vi wr => ∃ i r : Nat, i ≤ n ∧ r < 1000000 ∧ vi = .int .i64 i ∧ va = .int .i64 r ∧ Hid (io = (i + (plc (ps.drop i) r).1, (plc (ps.drop i) r).2)) ∧ Hid (Qt w wr)) (fun _ vi _ => n - (intOf vi).toNat)
  case atStart => exact ⟨0, at', by omega, by omega, rfl, rfl, by rw [HIO.out]; simp only [Nat.zero_add, List.drop_zero]; trivial, Qt.refl w⟩
  case round =>
    clear hat
    obtain ⟨i, r, hi, hr, rfl, rfl, E, Q⟩ := hrel
    by_cases hlt : i < n
    · have hltz : (i : Int) < (n : Int) := by omega
      obtain ⟨p, hp⟩ : ∃ p, ps[i]? = some p := ⟨ps[i]'(by have := N.out; omega), List.getElem?_eq_getElem _⟩
      obtain ⟨b, off, rfl, hb, c0, c1, c2⟩ := ls_get (h.out.qt Q.out) hp
      have ft := F.out p (List.mem_of_getElem? hp)
      have D : Hid (ps.drop i = p :: ps.drop (i + 1)) := drop_get hp
      obtain ⟨a, f, t⟩ := p
      simp only at c0 c1 c2 ft
      obtain ⟨ft1, ft2⟩ := ft
      clear hp hb
      go_wp2_with fail
      refine (size_any a f t _ ft1 ft2).mono ?_
      rintro e w1 ⟨rfl, q1⟩
      have Q1 : Hid (Qt w w1) := (Q.out.alloc _).comp q1.out
      have b0 := q1.out.cell (alloc_new wr #[.bool a, .int .i64 f, .int .i64 t] 50 0 _ rfl).1 (fun h => h)
      have b1 := q1.out.cell (alloc_new wr #[.bool a, .int .i64 f, .int .i64 t] 50 1 _ rfl).1 (fun h => h)
      have b2 := q1.out.cell (alloc_new wr #[.bool a, .int .i64 f, .int .i64 t] 50 2 _ rfl).1 (fun h => h)
      clear c0 c1 c2 q1 Q
      obtain ⟨z, hz⟩ : ∃ z, z = t - f := ⟨_, rfl⟩
      have Z : Hid _ := hz
      rw [← hz]
      clear hz
      by_cases hc : r < z
      · have hcz : (r : Int) < (z : Int) := by omega
        have EE : Hid (io = (i, r)) := by
          show _ = _
          rw [E.out, D.out, plc_here _ _ _ (by have := Z.out; show r < t - f; omega)]; rfl
        go_wp2_with fail
        go_ret2
        exact ⟨by rw [EE.out]; rfl, Q1⟩
      · have hcz : (z : Int) ≤ (r : Int) := by omega
        have hsz : (r : Int) - z = ((r - z : Nat) : Int) := by omega
        have EE : Hid (io = (i + 1 + (plc (ps.drop (i + 1)) (r - z)).1, (plc (ps.drop (i + 1)) (r - z)).2)) := by
          show _ = _
          rw [E.out, D.out, plc_on _ _ _ (by have := Z.out; show ¬ r < t - f; omega), show t - f = z from Z.out.symm]
          simp only [Prod.mk.injEq, and_true]
          omega
        clear E D
        go_wp2_with fail
        refine (size_any a f t _ ft1 ft2).mono ?_
        rintro e w2 ⟨rfl, q2⟩
        have Q2 : Hid (Qt w w2) := Q1.out.comp q2.out
        rw [← Z.out]
        clear Q1 q2 b0 b1 b2
        go_wp2_with fail
        exact ⟨⟨i + 1, r - z, by omega, by omega, by go_num, by simp, EE, Q2⟩, by simp [intOf]; omega⟩
    · obtain rfl : i = n := by omega
      have EE : Hid (io = (i, 0)) := by
        show _ = _
        rw [E.out, List.drop_eq_nil_of_le (by have := N.out; omega)]; rfl
      go_wp2_with fail
      go_ret2
      exact ⟨by rw [EE.out]; rfl, Q⟩

theorem results_cell2 {P : Program} {fn : Func} {p u : Tmp} {ty : TypeId} (h : fn.results = #[.cell p ty, .cell u ty]) (tmps : Array Value) (w : World) (g g' : Nat) (t t' : TypeId) (cs cs' : Array Value) (fr fr' : Nat × Nat) (d : TypeDesc)
    (hp : tmps.getD p undef = .pointer (some ⟨g, 0, none⟩)) (hq : tmps.getD u undef = .pointer (some ⟨g', 0, none⟩)) (hg : w.heap[g]? = some (.cells cs t fr)) (hg' : w.heap[g']? = some (.cells cs' t' fr'))
    (hu : P.underlying ty = some d) (hd : (match d with | .struct _ | .array _ _ => true | _ => false) = true) (hi : (P.info? ty).map (·.size) = some cs.size) (hi' : (P.info? ty).map (·.size) = some cs'.size) :
    (results fn tmps).run P w = .ok (.tuple #[.agg cs, .agg cs']) w := by
  have hp' : tmps[p]?.getD undef = .pointer (some ⟨g, 0, none⟩) := by simpa using hp
  have hq' : tmps[u]?.getD undef = .pointer (some ⟨g', 0, none⟩) := by simpa using hq
  simp [results, h, hp', hq', asAddr, run_loadVar_row w g t ty cs fr d hg hu hd hi, run_loadVar_row w g' t' ty cs' fr' d hg' hu hd hi']

theorem heap3 (w : World) (A B C : Obj) : (((w.alloc A).alloc B).alloc C).heap[w.heap.size + 1]? = some B ∧ (((w.alloc A).alloc B).alloc C).heap[w.heap.size + 1 + 1]? = some C := by
  constructor
  · show (((w.heap.push A).push B).push C)[w.heap.size + 1]? = _
    rw [Array.getElem?_push, if_neg (by simp), Array.getElem?_push, if_pos (by simp)]
  · show (((w.heap.push A).push B).push C)[w.heap.size + 1 + 1]? = _
    rw [Array.getElem?_push, if_pos (by simp)]

set_option maxHeartbeats 2000000 in
theorem cut_any (a : Bool) (f t o : Nat) (w : World) (hf : f < 1000000) (ho : o < 1000000) :
    Calls Try.prog 35 #[.agg #[.bool a, .int .i64 f, .int .i64 t], .int .i64 o] w fun e w' => e = .returned (.tuple #[.agg #[.bool a, .int .i64 f, .int .i64 ((f + o : Nat) : Int)], .agg #[.bool a, .int .i64 ((f + o : Nat) : Int), .int .i64 t]]) ∧ Hid (Qt w w') := by
  go_enter Try.func35, Try.ntmps35
  go_wp2_with fail
  go_region
  all_goals (go_wp2_with fail; go_region)
  go_wp2_with fail
  refine bodyPost_ret (results_cell2 (p := 4) (u := 5) (ty := 50) rfl _ _ (w.heap.size + 1) (w.heap.size + 1 + 1) 50 50 _ _ (0, 0) (0, 0) _ rfl rfl (heap3 w _ _ _).1 (heap3 w _ _ _).2 Try.underlying50 rfl (by kernel_rfl) (by kernel_rfl)) rfl ?_
  exact ⟨by simp, ((Qt.two w _ _).alloc _).comp (Mv.drewN _ _ 2)⟩
end Go.Proofs.Ytjelclomigmlmaa
