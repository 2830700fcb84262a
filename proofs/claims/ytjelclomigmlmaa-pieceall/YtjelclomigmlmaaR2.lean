/- The document's text: Pieces. -/
import Derived.Test.YtjelclomigmlmaaR1
namespace Go.Proofs.Ytjelclomigmlmaa
open Go.RowKit

/-- Pieces of its own, all new. -/
def Pn (w wr : World) (v : Value) (ps : List Pc) : Prop := Op3 wr w.heap.size v ps ∧ Qt w wr
theorem Pn.put {w wr w' : World} {v v' : Value} {ps qs : List Pc} (h : Pn w wr v ps) (k : PutLeft wr w' w.heap.size v v' qs) : Pn w w' v' qs :=
  ⟨k.1, h.2.trans k.2.1 (fun j hj e => by have := (ow_blk h.1 j e).1; omega)⟩
theorem Pn.qt {w wr w' : World} {v : Value} {ps : List Pc} (h : Pn w wr v ps) (k : Qt wr w') : Pn w w' v ps := ⟨k.owns h.1 (fun _ _ h => h), h.2.comp k⟩

theorem putB_touch (l : List Pc) (a : Bool) (f t : Nat) : putB (l ++ [⟨a, f, t⟩]) (a, t) = l ++ [⟨a, f, t + 1⟩] := by
  rw [putB_snoc, if_pos ⟨rfl, rfl⟩]
theorem putB_app (l : List Pc) (a : Bool) (f t : Nat) (x : Bt) (h : ¬ (a = x.1 ∧ t = x.2)) : putB (l ++ [⟨a, f, t⟩]) x = l ++ [⟨a, f, t⟩] ++ [⟨x.1, x.2, x.2 + 1⟩] := by
  rw [putB_snoc, if_neg h]

/-- One more byte behind the last piece. -/
theorem ext_row {w wr : World} {g c n : Nat} {l : List Pc} {a : Bool} {f t u : Nat} (hn : l.length = n) (h : Pn w wr (.slice (some ⟨g, 0, none⟩) (n + 1) c) (l ++ [⟨a, f, t⟩])) : Pn w (wr.setCell ⟨g, n * 3 + 2, none⟩ (.int .i64 u)) (.slice (some ⟨g, 0, none⟩) (n + 1) c) (l ++ [⟨a, f, u⟩]) := by
  refine ⟨?_, h.2.trans (Mv.setCell wr ⟨g, n * 3 + 2, none⟩ (.int .i64 u)) (fun j hj (e : j = g) => by have := (ow_blk h.1 g rfl).1; omega)⟩
  have h2 := h.1
  have e : (l ++ [⟨a, f, u⟩] : List Pc).length = n + 1 := by rw [List.length_append, hn]; rfl
  have e' : (l ++ [⟨a, f, t⟩] : List Pc).length = n + 1 := by rw [List.length_append, hn]; rfl
  unfold Op3 at h2 ⊢
  rw [e'] at h2
  have h3 := (World.ownsRow.stored h2 (n * 3 + 2) (.int .i64 u)).1
  rw [e, ← cells_ext l a f t u, hn]
  exact h3

set_option maxHeartbeats 4000000 in
set_option maxRecDepth 20000 in
theorem rpieces_any {w : World} {r : Nat} {L : List Bt} {m : Nat} {A : Nat → Int} {vl va : Value} (h : Hid (RxAt w r L m A vl va)) (hl : L.length ≤ 20000) (hb : Hid (∀ x ∈ L, x.2 < 100000)) :
    Calls Try.prog 23 #[.pointer (some ⟨r, 0, none⟩)] w fun e w' => ∃ v, e = .returned v ∧ Hid (Op3 w' w.heap.size v (nf L) ∧ Qt w w') := by
  obtain ⟨la, lc, rfl, ls, -⟩ := ow_ls h.out.ll
  have LS : Hid (Ls w la (cellsB L)) := ls
  have RX : Hid (∀ W, Qt w W → W.cell? ⟨r, 0, none⟩ = some (.slice la L.length lc)) := fun W q => (h.out.qt q).c0
  clear ls h
  obtain ⟨N, hN⟩ : ∃ N, N = L.length := ⟨_, rfl⟩
  have HN : Hid (N = L.length) := hN
  rw [← hN] at RX hl
  clear hN
  go_enter Try.func23, Try.ntmps23
  go_wp2_with fail
  go_loopw [3, 4] (fun vo vi wr => ∃ i : Nat, i ≤ N ∧ vi = .int .i64 i ∧ Hid (Pn w wr vo (nf (L.take i)))) (fun _ vi _ => N - (intOf vi).toNat)
  case atStart => exact ⟨0, by omega, rfl, ow_nil _ _ _ _, Qt.refl _⟩
  case round =>
    obtain ⟨i, hi, rfl, S⟩ := hrel
    have d0 := RX.out _ S.out.2
    by_cases hlt : i < N
    · have hltz : (i : Int) < (N : Int) := by omega
      obtain ⟨x, hx⟩ : ∃ x, L[i]? = some x := ⟨L[i]'(by have := HN.out; omega), List.getElem?_eq_getElem _⟩
      obtain ⟨b, off, rfl, hbb, c0, c1⟩ := lsb_get (LS.out.qt S.out.2) hx
      have xb : x.2 < 100000 := hb.out x (List.mem_of_getElem? hx)
      have NX : Hid (nf (L.take (i + 1)) = putB (nf (L.take i)) x) := by
        show _ = _
        rw [take_succ_get hx, nf_snoc]
      have LB : Hid ((nf (L.take i)).length ≤ 20000) := by
        have := nf_length (L.take i)
        rw [List.length_take] at this
        show _ ≤ _
        omega
      obtain ⟨xa, xk⟩ := x
      simp only at c0 c1 xb
      have S1 : Hid (Pn w (wr.alloc (.cells #[.bool xa, .int .i64 xk] 61)) u3 (nf (L.take i))) := S.out.qt ((Qt.refl wr).alloc _)
      rcases last_cases (nf (L.take i)) with hn | ⟨l, ⟨a, f, t⟩, hn⟩
      · rw [hn] at S1 NX
        have hv : u3 = .slice none 0 0 ∨ ∃ g c, u3 = .slice (some ⟨g, 0, none⟩) 0 c := by
          rcases S1.out.1.2 with ⟨rfl, _⟩ | ⟨g, c, cur, rfl, _⟩
          · exact .inl rfl
          · exact .inr ⟨g, c, rfl⟩
        rw [putB_nil] at NX
        clear hn
        rcases hv with hv | hv
        · subst hv
          go_wp2_with fail
          go_quiet (fail)
          have T0 : Hid (Pn w ((wr.alloc (.cells #[.bool xa, .int .i64 xk] 61)).drewN nq) (.slice none 0 0) []) := S1.out.qt (Mv.drewN _ _ nq)
          have e0 : ((wr.alloc (.cells #[.bool xa, .int .i64 xk] 61)).drewN nq).cell? ⟨wr.heap.size, 0, none⟩ = some (.bool xa) := (alloc_new wr _ 61 0 _ rfl).1
          have e1 : ((wr.alloc (.cells #[.bool xa, .int .i64 xk] 61)).drewN nq).cell? ⟨wr.heap.size, 1, none⟩ = some (.int .i64 xk) := (alloc_new wr _ 61 1 _ rfl).1
          clear S S1 c0 c1
          generalize (wr.alloc (.cells #[.bool xa, .int .i64 xk] 61)).drewN nq = wq at *
          obtain ⟨v', W, hr, hp⟩ := append_two wq w.heap.size _ _ xa xk (xk + 1) T0.out.1 (by simp) T0.out.2.size
          have hr' : (Builtin.append_ #[41, 41] 41 #[(.slice none 0 0), .slice (some ⟨wq.heap.size, 0, none⟩) 1 1]).run Try.prog (wq.alloc (.cells #[.bool xa, .int .i64 xk, .int .i64 ((xk : Int) + 1)] 50)) = .ok v' W := hr
          have P2 : Hid (Pn w W v' (nf (L.take (i + 1)))) := by
            rw [NX.out]
            exact T0.out.put hp
          clear hr hp T0
          go_wp2_with (at_builtin; first | (refine wpList_append_given rfl _ _ 41 rfl _ _ _ W rfl rfl hr' ?_))
          go_wp2_with fail
          exact ⟨⟨i + 1, by omega, by go_num, P2⟩, by simp [intOf]; omega⟩
        · obtain ⟨g, c, rfl⟩ := hv
          go_wp2_with fail
          go_quiet (fail)
          have T0 : Hid (Pn w ((wr.alloc (.cells #[.bool xa, .int .i64 xk] 61)).drewN nq) (.slice (some ⟨g, 0, none⟩) 0 c) []) := S1.out.qt (Mv.drewN _ _ nq)
          have e0 : ((wr.alloc (.cells #[.bool xa, .int .i64 xk] 61)).drewN nq).cell? ⟨wr.heap.size, 0, none⟩ = some (.bool xa) := (alloc_new wr _ 61 0 _ rfl).1
          have e1 : ((wr.alloc (.cells #[.bool xa, .int .i64 xk] 61)).drewN nq).cell? ⟨wr.heap.size, 1, none⟩ = some (.int .i64 xk) := (alloc_new wr _ 61 1 _ rfl).1
          clear S S1 c0 c1
          generalize (wr.alloc (.cells #[.bool xa, .int .i64 xk] 61)).drewN nq = wq at *
          obtain ⟨v', W, hr, hp⟩ := append_two wq w.heap.size _ _ xa xk (xk + 1) T0.out.1 (by simp) T0.out.2.size
          have hr' : (Builtin.append_ #[41, 41] 41 #[(.slice (some ⟨g, 0, none⟩) 0 c), .slice (some ⟨wq.heap.size, 0, none⟩) 1 1]).run Try.prog (wq.alloc (.cells #[.bool xa, .int .i64 xk, .int .i64 ((xk : Int) + 1)] 50)) = .ok v' W := hr
          have P2 : Hid (Pn w W v' (nf (L.take (i + 1)))) := by
            rw [NX.out]
            exact T0.out.put hp
          clear hr hp T0
          go_wp2_with (at_builtin; first | (refine wpList_append_given rfl _ _ 41 rfl _ _ _ W rfl rfl hr' ?_))
          go_wp2_with fail
          exact ⟨⟨i + 1, by omega, by go_num, P2⟩, by simp [intOf]; omega⟩
      · rw [hn] at S1 NX LB
        obtain ⟨g, c, rfl, k0, k1, k2, fz⟩ := op3_last S1.out.1
        generalize hln : l.length = n at *
        have HL : Hid (l.length = n) := hln
        have hnb : n + 1 ≤ 20000 := by have := LB.out; rw [List.length_append, hln] at this; exact this
        clear hln hn
        simp only at k0 k1 k2
        have g0 : decide ((0 : Int) ≤ n) = true := decide_eq_true (by omega)
        have hi1 : (n : Int) < (n : Int) + 1 := by omega
        have hi0 : (0 : Int) ≤ (n : Int) := by omega
        have gt : g < wr.heap.size := by
          have h1 := (ow_blk S.out.1 g rfl).2
          exact h1
        by_cases hab : a = xa
        · subst hab
          by_cases ht : t = xk
          · subst ht
            rw [putB_touch] at NX
            have tb : t < 100000 := xb
            go_wp2_with fail
            go_quiet (fail)
            have T0 : Hid (Pn w ((wr.alloc (.cells #[.bool a, .int .i64 t] 61)).drewN nq) (.slice (some ⟨g, 0, none⟩) (n + 1) c) (l ++ [⟨a, f, t⟩])) := S1.out.qt (Mv.drewN _ _ nq)
            have e2 : ((wr.alloc (.cells #[.bool a, .int .i64 t] 61)).drewN nq).cell? ⟨g, n * 3 + 2, none⟩ = some (.int .i64 t) := k2
            have f2 : ((wr.alloc (.cells #[.bool a, .int .i64 t] 61)).drewN nq).frozen? ⟨g, n * 3 + 2, none⟩ = false := fz
            clear S S1 c0 c1 k0 k1 k2 fz
            generalize (wr.alloc (.cells #[.bool a, .int .i64 t] 61)).drewN nq = wq at *
            have P2 : Hid (Pn w (wq.setCell ⟨g, n * 3 + 2, none⟩ (.int .i64 ((t : Int) + 1))) (.slice (some ⟨g, 0, none⟩) (n + 1) c) (nf (L.take (i + 1)))) := by
              rw [NX.out]
              exact ext_row HL.out T0.out
            clear T0
            go_wp2_with fail
            exact ⟨⟨i + 1, by omega, by go_num, P2⟩, by simp [intOf]; omega⟩
          · rw [putB_app _ _ _ _ _ (by simp; exact ht)] at NX
            have ht' : ((t : Int) == (xk : Int)) = false := by simp; omega
            clear ht
            go_wp2_with fail
            go_quiet (fail)
            have T0 : Hid (Pn w ((wr.alloc (.cells #[.bool a, .int .i64 xk] 61)).drewN nq) (.slice (some ⟨g, 0, none⟩) (n + 1) c) (l ++ [⟨a, f, t⟩])) := S1.out.qt (Mv.drewN _ _ nq)
            have e0 : ((wr.alloc (.cells #[.bool a, .int .i64 xk] 61)).drewN nq).cell? ⟨wr.heap.size, 0, none⟩ = some (.bool a) := (alloc_new wr _ 61 0 _ rfl).1
            have e1 : ((wr.alloc (.cells #[.bool a, .int .i64 xk] 61)).drewN nq).cell? ⟨wr.heap.size, 1, none⟩ = some (.int .i64 xk) := (alloc_new wr _ 61 1 _ rfl).1
            clear S S1 c0 c1 k0 k1 k2 fz
            generalize (wr.alloc (.cells #[.bool a, .int .i64 xk] 61)).drewN nq = wq at *
            obtain ⟨v', W, hr, hp⟩ := append_two wq w.heap.size _ _ a xk (xk + 1) T0.out.1 (by rw [List.length_append, HL.out]; show n + 1 < _; omega) T0.out.2.size
            have hr' : (Builtin.append_ #[41, 41] 41 #[(.slice (some ⟨g, 0, none⟩) (n + 1) c), .slice (some ⟨wq.heap.size, 0, none⟩) 1 1]).run Try.prog (wq.alloc (.cells #[.bool a, .int .i64 xk, .int .i64 ((xk : Int) + 1)] 50)) = .ok v' W := hr
            have P2 : Hid (Pn w W v' (nf (L.take (i + 1)))) := by
              rw [NX.out]
              exact T0.out.put hp
            clear hr hp T0
            go_wp2_with (at_builtin; first | (refine wpList_append_given rfl _ _ 41 rfl _ _ _ W rfl rfl hr' ?_))
            go_wp2_with fail
            exact ⟨⟨i + 1, by omega, by go_num, P2⟩, by simp [intOf]; omega⟩
        · rw [putB_app _ _ _ _ _ (by simp [hab])] at NX
          have hab' : (a == xa) = false := by simp [hab]
          clear hab
          go_wp2_with fail
          go_quiet (fail)
          have T0 : Hid (Pn w ((wr.alloc (.cells #[.bool xa, .int .i64 xk] 61)).drewN nq) (.slice (some ⟨g, 0, none⟩) (n + 1) c) (l ++ [⟨a, f, t⟩])) := S1.out.qt (Mv.drewN _ _ nq)
          have e0 : ((wr.alloc (.cells #[.bool xa, .int .i64 xk] 61)).drewN nq).cell? ⟨wr.heap.size, 0, none⟩ = some (.bool xa) := (alloc_new wr _ 61 0 _ rfl).1
          have e1 : ((wr.alloc (.cells #[.bool xa, .int .i64 xk] 61)).drewN nq).cell? ⟨wr.heap.size, 1, none⟩ = some (.int .i64 xk) := (alloc_new wr _ 61 1 _ rfl).1
          clear S S1 c0 c1 k0 k1 k2 fz
          generalize (wr.alloc (.cells #[.bool xa, .int .i64 xk] 61)).drewN nq = wq at *
          obtain ⟨v', W, hr, hp⟩ := append_two wq w.heap.size _ _ xa xk (xk + 1) T0.out.1 (by rw [List.length_append, HL.out]; show n + 1 < _; omega) T0.out.2.size
          have hr' : (Builtin.append_ #[41, 41] 41 #[(.slice (some ⟨g, 0, none⟩) (n + 1) c), .slice (some ⟨wq.heap.size, 0, none⟩) 1 1]).run Try.prog (wq.alloc (.cells #[.bool xa, .int .i64 xk, .int .i64 ((xk : Int) + 1)] 50)) = .ok v' W := hr
          have P2 : Hid (Pn w W v' (nf (L.take (i + 1)))) := by
            rw [NX.out]
            exact T0.out.put hp
          clear hr hp T0
          go_wp2_with (at_builtin; first | (refine wpList_append_given rfl _ _ 41 rfl _ _ _ W rfl rfl hr' ?_))
          go_wp2_with fail
          exact ⟨⟨i + 1, by omega, by go_num, P2⟩, by simp [intOf]; omega⟩
    · obtain rfl : i = N := by omega
      have E : nf (L.take i) = nf L := by rw [List.take_of_length_le (by have := HN.out; omega)]
      rw [E] at S
      go_wp2_with fail
      go_ret
      exact ⟨_, rfl, S⟩
end Go.Proofs.Ytjelclomigmlmaa
