/- rise. -/
import Derived.Test.YtojbakkbmfgoaaaDoorMg22
import Derived.Test.YtojbakkbmfgoaaaDoorMg20
import Derived.Deep.QuietTactic
import Derived.BigQuiet
namespace Go.Proofs.YtojbakkbmfgoaaaDoor
open Go.RowKit
set_option linter.unusedVariables false
set_option linter.unusedSimpArgs false

/-- Three rows, one behind the other, of which the first is one's own. -/
theorem thrice {W Wx : World} {E u s1 s2 : Value} {c : Nat} {S1 S2 : List Nat} (hE : Oi Wx W.heap.size E []) (q : Qt W Wx) (iu : Is Wx u [c]) (hne : ∀ j, u.ownBlock = some j → E.ownBlock ≠ some j) (i1 : Is W s1 S1) (i2 : Is W s2 S2) (h1 : S1.length + S2.length < 90000) :
    ∃ v4 W4 v10 W10 v14 W14, (Builtin.append_ #[34, 34] 34 #[E, s1]).run Tryd.prog Wx = .ok v4 W4 ∧ (Builtin.append_ #[34, 34] 34 #[v4, u]).run Tryd.prog W4 = .ok v10 W10 ∧ (Builtin.append_ #[34, 34] 34 #[v10, s2]).run Tryd.prog W10 = .ok v14 W14 ∧ Hid (Qt W W4) ∧ Hid (Qt W W10) ∧ Hid (Qt W W14) ∧ Hid (Oi W14 W.heap.size v14 (S1 ++ [c] ++ S2)) := by
  obtain ⟨v4, W4, r4, o4, m4, n4⟩ := hE.app (i1.qt q) (by simp; omega) q.size
  have q4 : Qt W W4 := Mv.trans q m4 (fun j hj e => by have := (ow_blk hE j e).1; omega)
  have iu4 : Is W4 u [c] := iu.far m4 (fun j hj e => hne j hj e)
  obtain ⟨v10, W10, r10, o10, m10, n10⟩ := o4.app iu4 (by simp; omega) q4.size
  have q10 : Qt W W10 := Mv.trans q4 m10 (fun j hj e => by have := (ow_blk o4 j e).1; omega)
  obtain ⟨v14, W14, r14, o14, m14, n14⟩ := o10.app (i2.qt q10) (by simp; omega) q10.size
  have q14 : Qt W W14 := Mv.trans q10 m14 (fun j hj e => by have := (ow_blk o10 j e).1; omega)
  exact ⟨v4, W4, v10, W10, v14, W14, r4, r10, r14, q4, q10, q14, o14⟩
theorem thriceA {W : World} {s1 s2 : Value} {c : Nat} {S1 S2 : List Nat} (i1 : Is W s1 S1) (i2 : Is W s2 S2) (h1 : S1.length + S2.length < 80000) :
    ∃ v4 W4 v10 W10 v14 W14, (Builtin.append_ #[34, 34] 34 #[.slice (some ⟨W.heap.size, 0, none⟩) 0 0, s1]).run Tryd.prog (W.alloc (.cells #[] 3)) = .ok v4 W4 ∧ (Builtin.append_ #[34, 34] 34 #[v4, .slice (some ⟨W4.heap.size, 0, none⟩) 1 1]).run Tryd.prog (W4.alloc (.cells #[.int .i64 (c : Int)] 3)) = .ok v10 W10 ∧ (Builtin.append_ #[34, 34] 34 #[v10, s2]).run Tryd.prog W10 = .ok v14 W14 ∧ Hid (Qt W W4) ∧ Hid (Qt W (W4.alloc (.cells #[.int .i64 (c : Int)] 3))) ∧ Hid (Qt W W10) ∧ Hid (Qt W W14) ∧ Hid (Oi W14 W.heap.size v14 (S1 ++ [c] ++ S2)) := by
  have q : Qt W (W.alloc (.cells #[] 3)) := (Qt.refl W).alloc _
  have hE := Oi.empty W W.heap.size (Nat.le_refl _)
  obtain ⟨v4, W4, r4, o4, m4, n4⟩ := hE.app (i1.qt q) (by simp; omega) q.size
  have q4 : Qt W W4 := Mv.trans q m4 (fun j hj e => by have := (ow_blk hE j e).1; omega)
  obtain ⟨v10, W10, r10, o10, m10, n10⟩ := o4.push (by simp; omega) q4.size c
  have q10 : Qt W W10 := Mv.trans q4 m10 (fun j hj e => by have := (ow_blk o4 j e).1; omega)
  obtain ⟨v14, W14, r14, o14, m14, n14⟩ := o10.app (i2.qt q10) (by simp; omega) q10.size
  have q14 : Qt W W14 := Mv.trans q10 m14 (fun j hj e => by have := (ow_blk o10 j e).1; omega)
  exact ⟨v4, W4, v10, W10, v14, W14, r4, r10, r14, q4, q4.alloc _, q10, q14, o14⟩
theorem thriceB {W : World} {s1 s2 : Value} {c : Nat} {S1 S2 : List Nat} (i1 : Is W s1 S1) (i2 : Is W s2 S2) (h1 : S1.length + S2.length < 80000) :
    ∃ v4 W4 v10 W10 v14 W14, (Builtin.append_ #[34, 34] 34 #[.slice (some ⟨W.heap.size, 0, none⟩) 0 0, s1]).run Tryd.prog ((W.alloc (.cells #[] 3)).alloc (.cells #[.int .i64 (c : Int)] 3)) = .ok v4 W4 ∧ (Builtin.append_ #[34, 34] 34 #[v4, .slice (some ⟨W.heap.size + 1, 0, none⟩) 1 1]).run Tryd.prog W4 = .ok v10 W10 ∧ (Builtin.append_ #[34, 34] 34 #[v10, s2]).run Tryd.prog W10 = .ok v14 W14 ∧ Hid (Qt W W4) ∧ Hid (Qt W W10) ∧ Hid (Qt W W14) ∧ Hid (Oi W14 W.heap.size v14 (S1 ++ [c] ++ S2)) := by
  have q0 : Qt W (W.alloc (.cells #[] 3)) := (Qt.refl W).alloc _
  have q1 : Qt (W.alloc (.cells #[] 3)) ((W.alloc (.cells #[] 3)).alloc (.cells #[.int .i64 (c : Int)] 3)) := (Qt.refl _).alloc _
  have iu := (Oi.new (W.alloc (.cells #[] 3)) 0 c (Nat.zero_le _)).is
  rw [show (W.alloc (.cells #[] 3)).heap.size = W.heap.size + 1 from by simp] at iu
  exact thrice ((Oi.empty W W.heap.size (Nat.le_refl _)).qt q1) (Mv.trans q0 q1 (fun _ _ h => h)) iu (fun j hj e => by
    have a : W.heap.size + 1 = j := Option.some.inj hj
    have b : W.heap.size = j := Option.some.inj e
    omega) i1 i2 (by omega)
theorem thriceC {W : World} {s1 s2 : Value} {c : Nat} {S1 S2 : List Nat} (i1 : Is W s1 S1) (i2 : Is W s2 S2) (h1 : S1.length + S2.length < 80000) :
    ∃ v4 W4 v10 W10 v14 W14, (Builtin.append_ #[34, 34] 34 #[.slice (some ⟨W.heap.size + 1, 0, none⟩) 0 0, s1]).run Tryd.prog ((W.alloc (.cells #[.int .i64 (c : Int)] 3)).alloc (.cells #[] 3)) = .ok v4 W4 ∧ (Builtin.append_ #[34, 34] 34 #[v4, .slice (some ⟨W.heap.size, 0, none⟩) 1 1]).run Tryd.prog W4 = .ok v10 W10 ∧ (Builtin.append_ #[34, 34] 34 #[v10, s2]).run Tryd.prog W10 = .ok v14 W14 ∧ Hid (Qt W W4) ∧ Hid (Qt W W10) ∧ Hid (Qt W W14) ∧ Hid (Oi W14 W.heap.size v14 (S1 ++ [c] ++ S2)) := by
  have q0 : Qt W (W.alloc (.cells #[.int .i64 (c : Int)] 3)) := (Qt.refl W).alloc _
  have q1 : Qt (W.alloc (.cells #[.int .i64 (c : Int)] 3)) ((W.alloc (.cells #[.int .i64 (c : Int)] 3)).alloc (.cells #[] 3)) := (Qt.refl _).alloc _
  have hE := Oi.empty (W.alloc (.cells #[.int .i64 (c : Int)] 3)) W.heap.size q0.size
  have iu := (Oi.new W 0 c (Nat.zero_le _)).is
  rw [show (W.alloc (.cells #[.int .i64 (c : Int)] 3)).heap.size = W.heap.size + 1 from by simp] at hE
  exact thrice hE (Mv.trans q0 q1 (fun _ _ h => h)) (iu.qt q1) (fun j hj e => by
    have a : W.heap.size = j := Option.some.inj hj
    have b : W.heap.size + 1 = j := Option.some.inj e
    omega) i1 i2 (by omega)
/-- What rise has behind the first i. -/
structure Ri (w wr : World) (o : Value) (l : List Nat) (i : Nat) : Prop where
  qt : Qt w wr
  own : Oi wr w.heap.size o (rs l i)
  form : (o = .slice none 0 0 ∧ rs l i = []) ∨ ∃ g cap, o = .slice (some ⟨g, 0, none⟩) (rs l i).length cap ∧ 0 < (rs l i).length ∧ (rs l i).length ≤ cap
theorem Ri.drew {w wr W : World} {o : Value} {l : List Nat} {i : Nat} (h : Ri w wr o l i) (q : Qt wr W) : Ri w W o l i := ⟨h.qt.comp q, h.own.qt q, h.form⟩
theorem Ri.at {w wr : World} {l : List Nat} {i k y g n cap : Nat} (h : Ri w wr (.slice (some ⟨g, 0, none⟩) n cap) l i) (hy : (rs l i)[k]? = some y) : wr.cell? ⟨g, k, none⟩ = some (.int .i64 (y : Int)) := by
  obtain ⟨gb, go, gc, e, hgb, kk⟩ := h.own.is.at hy
  obtain ⟨e1, _, _⟩ := Value.slice.inj e
  have e2 : (⟨g, 0, none⟩ : Addr) = ⟨gb, go, none⟩ := Option.some.inj e1
  obtain ⟨rfl, rfl, _⟩ := Addr.mk.inj e2
  rw [Nat.zero_add] at kk
  exact kk
theorem Ri.same {w wr : World} {o : Value} {l : List Nat} {i j : Nat} (h : Ri w wr o l i) (e : rs l i = rs l j) : Ri w wr o l j := ⟨h.qt, e ▸ h.own, e ▸ h.form⟩
theorem Ri.ins {w wr W W14 : World} {o v14 : Value} {l A B : List Nat} {i c : Nat} (h : Ri w wr o l i) (q1 : Qt wr W) (q : Qt W W14) (ho : Oi W14 W.heap.size v14 (A ++ [c] ++ B)) (e : A ++ [c] ++ B = rs l (i + 1)) : Ri w W14 v14 l (i + 1) := by
  have h1 : Oi W14 w.heap.size v14 (rs l (i + 1)) := by rw [← e]; exact ho.less (Nat.le_trans h.qt.size q1.size)
  have hlen : 0 < (rs l (i + 1)).length := by rw [← e]; simp; omega
  refine ⟨(h.qt.comp q1).comp q, h1, .inr ?_⟩
  rcases h1.2 with ⟨e1, e2⟩ | ⟨g, cap, cur, e1, _, hg, hx, _⟩
  · exfalso; have e3 : (rs l (i + 1)).length = 0 := by first | exact e2.1 | exact e2 | (rw [e2]; rfl)
    omega
  · obtain ⟨a, c2, e3, _, h5, _⟩ := h1.is
    rw [e1] at e3
    obtain ⟨_, _, rfl⟩ := Value.slice.inj e3
    exact ⟨g, cap, e1, hlen, h5⟩

set_option maxRecDepth 20000 in
set_option maxHeartbeats 8000000 in
theorem rise_any (l : List Nat) (hl : l.length < 90000) (h64 : ∀ c ∈ l, c < 64) (v : Value) (w : World) (hv : Hid (Is w v l)) : Calls Tryd.prog 27 #[v] w fun e w' => ∃ o, e = .returned o ∧ Hid (Is w' o (rs l l.length)) ∧ Hid (Qt w w') := by
  have H64 : Hid (∀ c ∈ l, c < 64) := h64
  clear h64
  obtain ⟨la, lc, rfl⟩ := hv.out.form
  go_enter Tryd.func27, Tryd.ntmps27
  go_wp2_with fail
  go_loopw [3, 4, 5] (fun s3 s4 s5 wr => ∃ i : Nat, i ≤ l.length ∧ s4 = .int .i64 i ∧ Hid (Ri w wr s3 l i)) (fun _ s4 _ _ => l.length - (intOf s4).toNat)
  case atStart => exact ⟨0, by omega, rfl, ⟨Qt.refl w, Oi.nil _ _, .inl ⟨rfl, rfl⟩⟩⟩
  case round =>
    obtain ⟨i, hi, rfl, B⟩ := hrel
    by_cases hlt : i < l.length
    · obtain ⟨c, hc⟩ : ∃ c, l[i]? = some c := ⟨_, List.getElem?_eq_getElem hlt⟩
      obtain ⟨lb, lo, lc2, e, hlb, kl0⟩ := hv.out.at hc
      obtain ⟨rfl, _, rfl⟩ := Value.slice.inj e
      have KL : Hid (w.cell? ⟨lb, lo + i, none⟩ = some (.int .i64 (c : Int))) := kl0
      have hc64 : c < 64 := H64.out c (List.mem_of_getElem? hc)
      have HC : Hid (l[i]? = some c) := hc
      clear kl0 hc e
      have hn64 : (rs l i).length ≤ 64 := rs_len l i
      rcases B.out.form with ⟨rfl, e⟩ | ⟨g, cap, rfl, hn0, hncap⟩
      · have HE : Hid (rs l i = []) := e
        clear e
        go_wp2_with fail
        go_loopw [5] (fun s5 wr' => s5 = .int .i64 (0 : Nat) ∧ Hid (Ri w wr' (.slice none 0 0) l i)) (fun s5 _ => 0)
        case atStart => exact ⟨rfl, B⟩
        case round =>
          obtain ⟨rfl, B1⟩ := hrel
          have klwr : wr.cell? ⟨lb, lo + i, none⟩ = some (.int .i64 (c : Int)) := B1.out.qt.cell (p := ⟨lb, lo + i, none⟩) KL.out (fun h => h)
          go_wp2_with fail
          go_quiet (fail)
          obtain ⟨WB2, hWB2⟩ : ∃ WB2, WB2 = wr.drewN nq := ⟨_, rfl⟩
          have QB2 : Hid (Qt wr WB2) := by rw [hWB2]; exact Mv.drewN (fun _ => False) _ nq
          rw [← hWB2]
          clear hWB2
          have B2 : Hid (Ri w WB2 (.slice none 0 0) l i) := B1.out.drew QB2.out
          have klWB2 : WB2.cell? ⟨lb, lo + i, none⟩ = some (.int .i64 (c : Int)) := QB2.out.cell (p := ⟨lb, lo + i, none⟩) klwr (fun h => h)
          go_wp2_with fail
          go_quiet (fail)
          obtain ⟨WB3, hWB3⟩ : ∃ WB3, WB3 = WB2.drewN nq := ⟨_, rfl⟩
          have QB3 : Hid (Qt WB2 WB3) := by rw [hWB3]; exact Mv.drewN (fun _ => False) _ nq
          rw [← hWB3]
          clear hWB3
          have B3 : Hid (Ri w WB3 (.slice none 0 0) l i) := B2.out.drew QB3.out
          have klWB3 : WB3.cell? ⟨lb, lo + i, none⟩ = some (.int .i64 (c : Int)) := QB3.out.cell (p := ⟨lb, lo + i, none⟩) klWB2 (fun h => h)
          clear klwr klWB2
          have QD : Hid (Qt WB3 WB3.drew) := Qt.drew (Qt.refl _)
          have CL : Hid (WB3.cell? ⟨lb, lo + i, none⟩ = some (.int .i64 (c : Int))) := klWB3
          have I1 : Hid (Is WB3.drew (.slice none 0 0) ([] : List Nat)) := (Is.nil _).qt QD.out
          have I2 : Hid (Is WB3.drew (.slice none 0 0) ([] : List Nat)) := (Is.nil _).qt QD.out
          have HL9 : (([] : List Nat)).length + (([] : List Nat)).length < 80000 := by simp
          obtain ⟨v4A, W4A, v10A, W10A, v14A, W14A, r4A, r10A, r14A, q4A, q9A, q10A, q14A, o14A⟩ := thriceA (c := c) I1.out I2.out HL9
          obtain ⟨v4B, W4B, v10B, W10B, v14B, W14B, r4B, r10B, r14B, q4B, q10B, q14B, o14B⟩ := thriceB (c := c) I1.out I2.out HL9
          obtain ⟨v4C, W4C, v10C, W10C, v14C, W14C, r4C, r10C, r14C, q4C, q10C, q14C, o14C⟩ := thriceC (c := c) I1.out I2.out HL9
          have hszd : WB3.drew.heap.size = WB3.heap.size := rfl
          rw [hszd] at r4A r4B r4C r10B r10C
          go_wp2_with fail
          refine Rest.begin (S := (fun w' => w'.cell? ⟨lb, lo + i, none⟩ = some (.int .i64 (c : Int)))) (st := [15]) (by kernel_rfl) ((QD.out).cell (p := ⟨lb, lo + i, none⟩) CL.out (fun h => h)) (fun hHeld => ?_)
          refine Rest.plain (i := 1) _ (some 45) ?_ rfl rfl (by kernel_rfl) (by kernel_rfl) (by kernel_rfl) (by kernel_rfl) (fun _ _ _ h => h) (Or.inl ⟨by rfl, ?_⟩) (by assumption) ?_
          rotate_left
          · (intro w _; go_simp; try with_reducible rfl)
          try simp only [Act.put, List.setIfInBounds_toArray, List.set_cons_zero, List.set_cons_succ]
          refine Rest.plain (i := 2) _ (some 46) ?_ rfl rfl (by kernel_rfl) (by kernel_rfl) (by kernel_rfl) (by kernel_rfl) (fun _ _ _ h => h) (Or.inl ⟨by rfl, ?_⟩) (by assumption) ?_
          rotate_left
          · (intro w _; go_simp; try with_reducible rfl)
          try simp only [Act.put, List.setIfInBounds_toArray, List.set_cons_zero, List.set_cons_succ]
          refine Rest.plain (i := 3) _ (some 47) ?_ rfl rfl (by kernel_rfl) (by kernel_rfl) (by kernel_rfl) (by kernel_rfl) (fun _ _ _ h => h) (Or.inl ⟨by rfl, ?_⟩) (by assumption) ?_
          rotate_left
          · (intro w _; go_simp; try with_reducible rfl)
          try simp only [Act.put, List.setIfInBounds_toArray, List.set_cons_zero, List.set_cons_succ]
          refine Rest.plain (i := 5) _ (some 49) ?_ rfl rfl (by kernel_rfl) (by kernel_rfl) (by kernel_rfl) (by kernel_rfl) (fun _ _ _ h => h) (Or.inl ⟨by rfl, ?_⟩) (by assumption) ?_
          rotate_left
          · (intro w _; go_simp; try with_reducible rfl)
          try simp only [Act.put, List.setIfInBounds_toArray, List.set_cons_zero, List.set_cons_succ]
          refine Rest.plain (i := 6) _ (some 50) ?_ rfl rfl (by kernel_rfl) (by kernel_rfl) (by kernel_rfl) (by kernel_rfl) (fun _ _ _ h => h) (Or.inl ⟨by rfl, ?_⟩) (by assumption) ?_
          rotate_left
          · (intro w _; go_simp; try with_reducible rfl)
          try simp only [Act.put, List.setIfInBounds_toArray, List.set_cons_zero, List.set_cons_succ]
          refine Rest.plain (i := 7) _ (some 51) ?_ rfl rfl (by kernel_rfl) (by kernel_rfl) (by kernel_rfl) (by kernel_rfl) (fun _ _ _ h => h) (Or.inl ⟨by rfl, ?_⟩) (by assumption) ?_
          rotate_left
          · (intro w _; go_simp; try with_reducible rfl)
          try simp only [Act.put, List.setIfInBounds_toArray, List.set_cons_zero, List.set_cons_succ]
          refine Rest.take (i := 8) _ (some 52) ?_ rfl rfl (by kernel_rfl) (by kernel_rfl) (by kernel_rfl) (by kernel_rfl) (fun _ _ _ h => h) (Or.inl ⟨by rfl, ?_⟩) (by assumption) ?_
          rotate_left
          · (intro w hSw; (try dsimp only at hSw); go_simp; try with_reducible rfl)
          try simp only [Act.put, List.setIfInBounds_toArray, List.set_cons_zero, List.set_cons_succ]
          refine Rest.plain (i := 11) _ (some 55) ?_ rfl rfl (by kernel_rfl) (by kernel_rfl) (by kernel_rfl) (by kernel_rfl) (fun _ _ _ h => h) (Or.inl ⟨by rfl, ?_⟩) (by assumption) ?_
          rotate_left
          · (intro w _; go_simp; try with_reducible rfl)
          try simp only [Act.put, List.setIfInBounds_toArray, List.set_cons_zero, List.set_cons_succ]
          refine Rest.plain (i := 12) _ (some 56) ?_ rfl rfl (by kernel_rfl) (by kernel_rfl) (by kernel_rfl) (by kernel_rfl) (fun _ _ _ h => h) (Or.inl ⟨by rfl, ?_⟩) (by assumption) ?_
          rotate_left
          · (intro w _; go_simp; try with_reducible rfl)
          try simp only [Act.put, List.setIfInBounds_toArray, List.set_cons_zero, List.set_cons_succ]
          refine Rest.plain (i := 13) _ (some 57) ?_ rfl rfl (by kernel_rfl) (by kernel_rfl) (by kernel_rfl) (by kernel_rfl) (fun _ _ _ h => h) (Or.inl ⟨by rfl, ?_⟩) (by assumption) ?_
          rotate_left
          · (intro w _; go_simp; try with_reducible rfl)
          try simp only [Act.put, List.setIfInBounds_toArray, List.set_cons_zero, List.set_cons_succ]
          refine Rest.two (i := 0) (j := 9) (by kernel_rfl) rfl rfl (fun K hK => ?_) (fun K hK => ?_)
          · go_simp
            refine hK.out _ _ ((QD.out.alloc _).cell (p := ⟨lb, lo + i, none⟩) CL.out (fun h => h)) (fun hHeld => ?_)
            try simp only [Act.put, List.setIfInBounds_toArray, List.set_cons_zero, List.set_cons_succ]
            clear hK K
            refine Rest.two (i := 4) (j := 9) (by kernel_rfl) rfl rfl (fun K hK => ?_) (fun K hK => ?_)
            · refine step_given rfl (.tmp 44) (.tmp 47) 34 rfl _ _ _ rfl rfl W4A r4A ?_
              refine hK.out _ _ ((QD.out.comp q4A.out).cell (p := ⟨lb, lo + i, none⟩) CL.out (fun h => h)) (fun hHeld => ?_)
              try simp only [Act.put, List.setIfInBounds_toArray, List.set_cons_zero, List.set_cons_succ]
              clear hK K
              refine Rest.one (i := 9) (by kernel_rfl) rfl (fun K hK => ?_)
              go_simp
              refine hK.out _ _ ((QD.out.comp q9A.out).cell (p := ⟨lb, lo + i, none⟩) CL.out (fun h => h)) (fun hHeld => ?_)
              try simp only [Act.put, List.setIfInBounds_toArray, List.set_cons_zero, List.set_cons_succ]
              clear hK K
              refine Rest.one (i := 10) (by kernel_rfl) rfl (fun K hK => ?_)
              refine step_given rfl (.tmp 48) (.tmp 53) 34 rfl _ _ _ rfl rfl W10A r10A ?_
              refine hK.out _ _ ((QD.out.comp q10A.out).cell (p := ⟨lb, lo + i, none⟩) CL.out (fun h => h)) (fun hHeld => ?_)
              try simp only [Act.put, List.setIfInBounds_toArray, List.set_cons_zero, List.set_cons_succ]
              clear hK K
              refine Rest.one (i := 14) (by kernel_rfl) rfl (fun K hK => ?_)
              refine step_given rfl (.tmp 54) (.tmp 57) 34 rfl _ _ _ rfl rfl W14A r14A ?_
              refine hK.out _ _ ((QD.out.comp q14A.out).cell (p := ⟨lb, lo + i, none⟩) CL.out (fun h => h)) (fun hHeld => ?_)
              try simp only [Act.put, List.setIfInBounds_toArray, List.set_cons_zero, List.set_cons_succ]
              clear hK K
              refine Rest.last (i := 15) (by kernel_rfl) rfl (by kernel_rfl) (fun K hK => ?_)
              go_simp
              refine hK.out _ _ ?_
              try simp only [Act.put, List.setIfInBounds_toArray, List.set_cons_zero, List.set_cons_succ]
              clear hK K
              refine Rest.done (by kernel_rfl) ?_ _
              go_wp2_with fail
              exact ⟨⟨i + 1, by omega, by go_num, Ri.ins B3.out QD.out q14A.out o14A.out (by have := rs_ins (k := 0) HC.out hc64 (Nat.zero_le _) (fun j y h => by omega) (fun h => by rw [HE.out] at h; cases h); rw [HE.out] at this; exact this)⟩, by simp [intOf]; omega⟩
            · go_simp
              refine hK.out _ _ (((QD.out.alloc _).alloc _).cell (p := ⟨lb, lo + i, none⟩) CL.out (fun h => h)) (fun hHeld => ?_)
              try simp only [Act.put, List.setIfInBounds_toArray, List.set_cons_zero, List.set_cons_succ]
              clear hK K
              refine Rest.one (i := 4) (by kernel_rfl) rfl (fun K hK => ?_)
              refine step_given rfl (.tmp 44) (.tmp 47) 34 rfl _ _ _ rfl rfl W4B r4B ?_
              refine hK.out _ _ ((QD.out.comp q4B.out).cell (p := ⟨lb, lo + i, none⟩) CL.out (fun h => h)) (fun hHeld => ?_)
              try simp only [Act.put, List.setIfInBounds_toArray, List.set_cons_zero, List.set_cons_succ]
              clear hK K
              refine Rest.one (i := 10) (by kernel_rfl) rfl (fun K hK => ?_)
              refine step_given rfl (.tmp 48) (.tmp 53) 34 rfl _ _ _ rfl rfl W10B r10B ?_
              refine hK.out _ _ ((QD.out.comp q10B.out).cell (p := ⟨lb, lo + i, none⟩) CL.out (fun h => h)) (fun hHeld => ?_)
              try simp only [Act.put, List.setIfInBounds_toArray, List.set_cons_zero, List.set_cons_succ]
              clear hK K
              refine Rest.one (i := 14) (by kernel_rfl) rfl (fun K hK => ?_)
              refine step_given rfl (.tmp 54) (.tmp 57) 34 rfl _ _ _ rfl rfl W14B r14B ?_
              refine hK.out _ _ ((QD.out.comp q14B.out).cell (p := ⟨lb, lo + i, none⟩) CL.out (fun h => h)) (fun hHeld => ?_)
              try simp only [Act.put, List.setIfInBounds_toArray, List.set_cons_zero, List.set_cons_succ]
              clear hK K
              refine Rest.last (i := 15) (by kernel_rfl) rfl (by kernel_rfl) (fun K hK => ?_)
              go_simp
              refine hK.out _ _ ?_
              try simp only [Act.put, List.setIfInBounds_toArray, List.set_cons_zero, List.set_cons_succ]
              clear hK K
              refine Rest.done (by kernel_rfl) ?_ _
              go_wp2_with fail
              exact ⟨⟨i + 1, by omega, by go_num, Ri.ins B3.out QD.out q14B.out o14B.out (by have := rs_ins (k := 0) HC.out hc64 (Nat.zero_le _) (fun j y h => by omega) (fun h => by rw [HE.out] at h; cases h); rw [HE.out] at this; exact this)⟩, by simp [intOf]; omega⟩
          · go_simp
            refine hK.out _ _ ((QD.out.alloc _).cell (p := ⟨lb, lo + i, none⟩) CL.out (fun h => h)) (fun hHeld => ?_)
            try simp only [Act.put, List.setIfInBounds_toArray, List.set_cons_zero, List.set_cons_succ]
            clear hK K
            refine Rest.one (i := 0) (by kernel_rfl) rfl (fun K hK => ?_)
            go_simp
            refine hK.out _ _ (((QD.out.alloc _).alloc _).cell (p := ⟨lb, lo + i, none⟩) CL.out (fun h => h)) (fun hHeld => ?_)
            try simp only [Act.put, List.setIfInBounds_toArray, List.set_cons_zero, List.set_cons_succ]
            clear hK K
            refine Rest.one (i := 4) (by kernel_rfl) rfl (fun K hK => ?_)
            refine step_given rfl (.tmp 44) (.tmp 47) 34 rfl _ _ _ rfl rfl W4C r4C ?_
            refine hK.out _ _ ((QD.out.comp q4C.out).cell (p := ⟨lb, lo + i, none⟩) CL.out (fun h => h)) (fun hHeld => ?_)
            try simp only [Act.put, List.setIfInBounds_toArray, List.set_cons_zero, List.set_cons_succ]
            clear hK K
            refine Rest.one (i := 10) (by kernel_rfl) rfl (fun K hK => ?_)
            refine step_given rfl (.tmp 48) (.tmp 53) 34 rfl _ _ _ rfl rfl W10C r10C ?_
            refine hK.out _ _ ((QD.out.comp q10C.out).cell (p := ⟨lb, lo + i, none⟩) CL.out (fun h => h)) (fun hHeld => ?_)
            try simp only [Act.put, List.setIfInBounds_toArray, List.set_cons_zero, List.set_cons_succ]
            clear hK K
            refine Rest.one (i := 14) (by kernel_rfl) rfl (fun K hK => ?_)
            refine step_given rfl (.tmp 54) (.tmp 57) 34 rfl _ _ _ rfl rfl W14C r14C ?_
            refine hK.out _ _ ((QD.out.comp q14C.out).cell (p := ⟨lb, lo + i, none⟩) CL.out (fun h => h)) (fun hHeld => ?_)
            try simp only [Act.put, List.setIfInBounds_toArray, List.set_cons_zero, List.set_cons_succ]
            clear hK K
            refine Rest.last (i := 15) (by kernel_rfl) rfl (by kernel_rfl) (fun K hK => ?_)
            go_simp
            refine hK.out _ _ ?_
            try simp only [Act.put, List.setIfInBounds_toArray, List.set_cons_zero, List.set_cons_succ]
            clear hK K
            refine Rest.done (by kernel_rfl) ?_ _
            go_wp2_with fail
            exact ⟨⟨i + 1, by omega, by go_num, Ri.ins B3.out QD.out q14C.out o14C.out (by have := rs_ins (k := 0) HC.out hc64 (Nat.zero_le _) (fun j y h => by omega) (fun h => by rw [HE.out] at h; cases h); rw [HE.out] at this; exact this)⟩, by simp [intOf]; omega⟩

      · have hcap0 : ¬ cap = 0 := by omega
        go_wp2_with fail
        go_loopw [5] (fun s5 wr => ∃ k : Nat, k ≤ (rs l i).length ∧ s5 = .int .i64 k ∧ Hid (∀ j y, j < k → (rs l i)[j]? = some y → y < c) ∧ Hid (Ri w wr (.slice (some ⟨g, 0, none⟩) (rs l i).length cap) l i)) (fun s5 _ => (rs l i).length - (intOf s5).toNat)
        case atStart => exact ⟨0, by omega, rfl, (fun j y h => by omega), B⟩
        case round =>
          obtain ⟨k, hk, rfl, HLT, B1⟩ := hrel
          clear B
          have klwr : wr.cell? ⟨lb, lo + i, none⟩ = some (.int .i64 (c : Int)) := B1.out.qt.cell (p := ⟨lb, lo + i, none⟩) KL.out (fun h => h)
          by_cases hkn : k < (rs l i).length
          · obtain ⟨y, hy⟩ : ∃ y, (rs l i)[k]? = some y := ⟨_, List.getElem?_eq_getElem hkn⟩
            have kywr := B1.out.at hy
            have HY : Hid ((rs l i)[k]? = some y) := hy
            clear hy
            have hki : (k : Int) < ((rs l i).length : Int) := by omega
            by_cases hyc : y < c
            · have hyi : (y : Int) < (c : Int) := by omega
              go_wp2_with fail
              go_quiet (fail)
              obtain ⟨WB2, hWB2⟩ : ∃ WB2, WB2 = wr.drewN nq := ⟨_, rfl⟩
              have QB2 : Hid (Qt wr WB2) := by rw [hWB2]; exact Mv.drewN (fun _ => False) _ nq
              rw [← hWB2]
              clear hWB2
              have B2 : Hid (Ri w WB2 (.slice (some ⟨g, 0, none⟩) (rs l i).length cap) l i) := B1.out.drew QB2.out

              go_wp2_with fail
              refine ⟨⟨k + 1, by omega, by go_num, (fun j z hj hz => ?_), B2⟩, by simp [intOf]; omega⟩
              by_cases e : j = k
              · subst e; rw [HY.out] at hz; cases hz; exact hyc
              · exact HLT.out j z (by omega) hz
            · have hyi : decide ((y : Int) < (c : Int)) = false := by simp; omega
              go_wp2_with fail
              go_quiet (fail)
              obtain ⟨WB2, hWB2⟩ : ∃ WB2, WB2 = wr.drewN nq := ⟨_, rfl⟩
              have QB2 : Hid (Qt wr WB2) := by rw [hWB2]; exact Mv.drewN (fun _ => False) _ nq
              rw [← hWB2]
              clear hWB2
              have B2 : Hid (Ri w WB2 (.slice (some ⟨g, 0, none⟩) (rs l i).length cap) l i) := B1.out.drew QB2.out

              have klWB2 : WB2.cell? ⟨lb, lo + i, none⟩ = some (.int .i64 (c : Int)) := QB2.out.cell (p := ⟨lb, lo + i, none⟩) klwr (fun h => h)
              have kyWB2 : WB2.cell? ⟨g, k, none⟩ = some (.int .i64 (y : Int)) := QB2.out.cell (p := ⟨g, k, none⟩) kywr (fun h => h)
              clear klwr kywr hyi
              have hkd : decide ((k : Int) = ((rs l i).length : Int)) = false := by simp; omega
              have hkd2 : ((k : Int) == ((rs l i).length : Int)) = false := by simp; omega
              have hkd3 : ¬ ((k : Int) = ((rs l i).length : Int)) := by omega
              by_cases hyc2 : y = c
              · subst hyc2
                go_wp2_with fail
                go_quiet (fail)
                obtain ⟨WB3, hWB3⟩ : ∃ WB3, WB3 = WB2.drewN nq := ⟨_, rfl⟩
                have QB3 : Hid (Qt WB2 WB3) := by rw [hWB3]; exact Mv.drewN (fun _ => False) _ nq
                rw [← hWB3]
                clear hWB3
                have B3 : Hid (Ri w WB3 (.slice (some ⟨g, 0, none⟩) (rs l i).length cap) l i) := B2.out.drew QB3.out

                go_wp2_with fail
                exact ⟨⟨i + 1, by omega, by go_num, B3.out.same (rs_same HC.out HY.out)⟩, by simp [intOf]; omega⟩
              · have hyi2 : ¬ ((y : Int) = (c : Int)) := by omega
                have hyi3 : ((y : Int) != (c : Int)) = true := by simp; omega
                have hkc : k ≤ cap := by omega
                have hkc2 : (k : Int) ≤ (cap : Int) := by omega
                go_wp2_with fail
                go_quiet (fail)
                obtain ⟨WB3, hWB3⟩ : ∃ WB3, WB3 = WB2.drewN nq := ⟨_, rfl⟩
                have QB3 : Hid (Qt WB2 WB3) := by rw [hWB3]; exact Mv.drewN (fun _ => False) _ nq
                rw [← hWB3]
                clear hWB3
                have B3 : Hid (Ri w WB3 (.slice (some ⟨g, 0, none⟩) (rs l i).length cap) l i) := B2.out.drew QB3.out

                have klWB3 : WB3.cell? ⟨lb, lo + i, none⟩ = some (.int .i64 (c : Int)) := QB3.out.cell (p := ⟨lb, lo + i, none⟩) klWB2 (fun h => h)
                clear klWB2 kyWB2
                have QD : Hid (Qt WB3 WB3.drew) := Qt.drew (Qt.refl _)
                have CL : Hid (WB3.cell? ⟨lb, lo + i, none⟩ = some (.int .i64 (c : Int))) := klWB3
                have I1 : Hid (Is WB3.drew (.slice (some ⟨g, 0, none⟩) k cap) ((rs l i).take k)) := (B3.out.own.is.lo k hk).qt QD.out
                have I2 : Hid (Is WB3.drew (.slice (if cap = k then some ⟨g, 0, none⟩ else some ⟨g, k, none⟩) ((rs l i).length - k) (cap - k)) ((rs l i).drop k)) := (B3.out.own.is.hi k hk).qt QD.out
                have HL9 : (((rs l i).take k)).length + (((rs l i).drop k)).length < 80000 := by rw [List.length_take, List.length_drop]; omega
                obtain ⟨v4A, W4A, v10A, W10A, v14A, W14A, r4A, r10A, r14A, q4A, q9A, q10A, q14A, o14A⟩ := thriceA (c := c) I1.out I2.out HL9
                obtain ⟨v4B, W4B, v10B, W10B, v14B, W14B, r4B, r10B, r14B, q4B, q10B, q14B, o14B⟩ := thriceB (c := c) I1.out I2.out HL9
                obtain ⟨v4C, W4C, v10C, W10C, v14C, W14C, r4C, r10C, r14C, q4C, q10C, q14C, o14C⟩ := thriceC (c := c) I1.out I2.out HL9
                have hszd : WB3.drew.heap.size = WB3.heap.size := rfl
                rw [hszd] at r4A r4B r4C r10B r10C
                go_wp2_with fail
                refine Rest.begin (S := (fun w' => w'.cell? ⟨lb, lo + i, none⟩ = some (.int .i64 (c : Int)))) (st := [15]) (by kernel_rfl) ((QD.out).cell (p := ⟨lb, lo + i, none⟩) CL.out (fun h => h)) (fun hHeld => ?_)
                refine Rest.plain (i := 1) _ (some 45) ?_ rfl rfl (by kernel_rfl) (by kernel_rfl) (by kernel_rfl) (by kernel_rfl) (fun _ _ _ h => h) (Or.inl ⟨by rfl, ?_⟩) (by assumption) ?_
                rotate_left
                · (intro w _; go_simp; try with_reducible rfl)
                try simp only [Act.put, List.setIfInBounds_toArray, List.set_cons_zero, List.set_cons_succ]
                refine Rest.plain (i := 2) _ (some 46) ?_ rfl rfl (by kernel_rfl) (by kernel_rfl) (by kernel_rfl) (by kernel_rfl) (fun _ _ _ h => h) (Or.inl ⟨by rfl, ?_⟩) (by assumption) ?_
                rotate_left
                · (intro w _; go_simp; try with_reducible rfl)
                try simp only [Act.put, List.setIfInBounds_toArray, List.set_cons_zero, List.set_cons_succ]
                refine Rest.plain (i := 3) _ (some 47) ?_ rfl rfl (by kernel_rfl) (by kernel_rfl) (by kernel_rfl) (by kernel_rfl) (fun _ _ _ h => h) (Or.inl ⟨by rfl, ?_⟩) (by assumption) ?_
                rotate_left
                · (intro w _; go_simp; try with_reducible rfl)
                try simp only [Act.put, List.setIfInBounds_toArray, List.set_cons_zero, List.set_cons_succ]
                refine Rest.plain (i := 5) _ (some 49) ?_ rfl rfl (by kernel_rfl) (by kernel_rfl) (by kernel_rfl) (by kernel_rfl) (fun _ _ _ h => h) (Or.inl ⟨by rfl, ?_⟩) (by assumption) ?_
                rotate_left
                · (intro w _; go_simp; try with_reducible rfl)
                try simp only [Act.put, List.setIfInBounds_toArray, List.set_cons_zero, List.set_cons_succ]
                refine Rest.plain (i := 6) _ (some 50) ?_ rfl rfl (by kernel_rfl) (by kernel_rfl) (by kernel_rfl) (by kernel_rfl) (fun _ _ _ h => h) (Or.inl ⟨by rfl, ?_⟩) (by assumption) ?_
                rotate_left
                · (intro w _; go_simp; try with_reducible rfl)
                try simp only [Act.put, List.setIfInBounds_toArray, List.set_cons_zero, List.set_cons_succ]
                refine Rest.plain (i := 7) _ (some 51) ?_ rfl rfl (by kernel_rfl) (by kernel_rfl) (by kernel_rfl) (by kernel_rfl) (fun _ _ _ h => h) (Or.inl ⟨by rfl, ?_⟩) (by assumption) ?_
                rotate_left
                · (intro w _; go_simp; try with_reducible rfl)
                try simp only [Act.put, List.setIfInBounds_toArray, List.set_cons_zero, List.set_cons_succ]
                refine Rest.take (i := 8) _ (some 52) ?_ rfl rfl (by kernel_rfl) (by kernel_rfl) (by kernel_rfl) (by kernel_rfl) (fun _ _ _ h => h) (Or.inl ⟨by rfl, ?_⟩) (by assumption) ?_
                rotate_left
                · (intro w hSw; (try dsimp only at hSw); go_simp; try with_reducible rfl)
                try simp only [Act.put, List.setIfInBounds_toArray, List.set_cons_zero, List.set_cons_succ]
                refine Rest.plain (i := 11) _ (some 55) ?_ rfl rfl (by kernel_rfl) (by kernel_rfl) (by kernel_rfl) (by kernel_rfl) (fun _ _ _ h => h) (Or.inl ⟨by rfl, ?_⟩) (by assumption) ?_
                rotate_left
                · (intro w _; go_simp; try with_reducible rfl)
                try simp only [Act.put, List.setIfInBounds_toArray, List.set_cons_zero, List.set_cons_succ]
                refine Rest.plain (i := 12) _ (some 56) ?_ rfl rfl (by kernel_rfl) (by kernel_rfl) (by kernel_rfl) (by kernel_rfl) (fun _ _ _ h => h) (Or.inl ⟨by rfl, ?_⟩) (by assumption) ?_
                rotate_left
                · (intro w _; go_simp; try with_reducible rfl)
                try simp only [Act.put, List.setIfInBounds_toArray, List.set_cons_zero, List.set_cons_succ]
                refine Rest.plain (i := 13) _ (some 57) ?_ rfl rfl (by kernel_rfl) (by kernel_rfl) (by kernel_rfl) (by kernel_rfl) (fun _ _ _ h => h) (Or.inl ⟨by rfl, ?_⟩) (by assumption) ?_
                rotate_left
                · (intro w _; go_simp; try with_reducible rfl)
                try simp only [Act.put, List.setIfInBounds_toArray, List.set_cons_zero, List.set_cons_succ]
                refine Rest.two (i := 0) (j := 9) (by kernel_rfl) rfl rfl (fun K hK => ?_) (fun K hK => ?_)
                · go_simp
                  refine hK.out _ _ ((QD.out.alloc _).cell (p := ⟨lb, lo + i, none⟩) CL.out (fun h => h)) (fun hHeld => ?_)
                  try simp only [Act.put, List.setIfInBounds_toArray, List.set_cons_zero, List.set_cons_succ]
                  clear hK K
                  refine Rest.two (i := 4) (j := 9) (by kernel_rfl) rfl rfl (fun K hK => ?_) (fun K hK => ?_)
                  · refine step_given rfl (.tmp 44) (.tmp 47) 34 rfl _ _ _ rfl rfl W4A r4A ?_
                    refine hK.out _ _ ((QD.out.comp q4A.out).cell (p := ⟨lb, lo + i, none⟩) CL.out (fun h => h)) (fun hHeld => ?_)
                    try simp only [Act.put, List.setIfInBounds_toArray, List.set_cons_zero, List.set_cons_succ]
                    clear hK K
                    refine Rest.one (i := 9) (by kernel_rfl) rfl (fun K hK => ?_)
                    go_simp
                    refine hK.out _ _ ((QD.out.comp q9A.out).cell (p := ⟨lb, lo + i, none⟩) CL.out (fun h => h)) (fun hHeld => ?_)
                    try simp only [Act.put, List.setIfInBounds_toArray, List.set_cons_zero, List.set_cons_succ]
                    clear hK K
                    refine Rest.one (i := 10) (by kernel_rfl) rfl (fun K hK => ?_)
                    refine step_given rfl (.tmp 48) (.tmp 53) 34 rfl _ _ _ rfl rfl W10A r10A ?_
                    refine hK.out _ _ ((QD.out.comp q10A.out).cell (p := ⟨lb, lo + i, none⟩) CL.out (fun h => h)) (fun hHeld => ?_)
                    try simp only [Act.put, List.setIfInBounds_toArray, List.set_cons_zero, List.set_cons_succ]
                    clear hK K
                    refine Rest.one (i := 14) (by kernel_rfl) rfl (fun K hK => ?_)
                    refine step_given rfl (.tmp 54) (.tmp 57) 34 rfl _ _ _ rfl rfl W14A r14A ?_
                    refine hK.out _ _ ((QD.out.comp q14A.out).cell (p := ⟨lb, lo + i, none⟩) CL.out (fun h => h)) (fun hHeld => ?_)
                    try simp only [Act.put, List.setIfInBounds_toArray, List.set_cons_zero, List.set_cons_succ]
                    clear hK K
                    refine Rest.last (i := 15) (by kernel_rfl) rfl (by kernel_rfl) (fun K hK => ?_)
                    go_simp
                    refine hK.out _ _ ?_
                    try simp only [Act.put, List.setIfInBounds_toArray, List.set_cons_zero, List.set_cons_succ]
                    clear hK K
                    refine Rest.done (by kernel_rfl) ?_ _
                    go_wp2_with fail
                    exact ⟨⟨i + 1, by omega, by go_num, Ri.ins B3.out QD.out q14A.out o14A.out (rs_ins HC.out hc64 hk HLT.out (fun _ => ⟨y, HY.out, by omega⟩))⟩, by simp [intOf]; omega⟩
                  · go_simp
                    refine hK.out _ _ (((QD.out.alloc _).alloc _).cell (p := ⟨lb, lo + i, none⟩) CL.out (fun h => h)) (fun hHeld => ?_)
                    try simp only [Act.put, List.setIfInBounds_toArray, List.set_cons_zero, List.set_cons_succ]
                    clear hK K
                    refine Rest.one (i := 4) (by kernel_rfl) rfl (fun K hK => ?_)
                    refine step_given rfl (.tmp 44) (.tmp 47) 34 rfl _ _ _ rfl rfl W4B r4B ?_
                    refine hK.out _ _ ((QD.out.comp q4B.out).cell (p := ⟨lb, lo + i, none⟩) CL.out (fun h => h)) (fun hHeld => ?_)
                    try simp only [Act.put, List.setIfInBounds_toArray, List.set_cons_zero, List.set_cons_succ]
                    clear hK K
                    refine Rest.one (i := 10) (by kernel_rfl) rfl (fun K hK => ?_)
                    refine step_given rfl (.tmp 48) (.tmp 53) 34 rfl _ _ _ rfl rfl W10B r10B ?_
                    refine hK.out _ _ ((QD.out.comp q10B.out).cell (p := ⟨lb, lo + i, none⟩) CL.out (fun h => h)) (fun hHeld => ?_)
                    try simp only [Act.put, List.setIfInBounds_toArray, List.set_cons_zero, List.set_cons_succ]
                    clear hK K
                    refine Rest.one (i := 14) (by kernel_rfl) rfl (fun K hK => ?_)
                    refine step_given rfl (.tmp 54) (.tmp 57) 34 rfl _ _ _ rfl rfl W14B r14B ?_
                    refine hK.out _ _ ((QD.out.comp q14B.out).cell (p := ⟨lb, lo + i, none⟩) CL.out (fun h => h)) (fun hHeld => ?_)
                    try simp only [Act.put, List.setIfInBounds_toArray, List.set_cons_zero, List.set_cons_succ]
                    clear hK K
                    refine Rest.last (i := 15) (by kernel_rfl) rfl (by kernel_rfl) (fun K hK => ?_)
                    go_simp
                    refine hK.out _ _ ?_
                    try simp only [Act.put, List.setIfInBounds_toArray, List.set_cons_zero, List.set_cons_succ]
                    clear hK K
                    refine Rest.done (by kernel_rfl) ?_ _
                    go_wp2_with fail
                    exact ⟨⟨i + 1, by omega, by go_num, Ri.ins B3.out QD.out q14B.out o14B.out (rs_ins HC.out hc64 hk HLT.out (fun _ => ⟨y, HY.out, by omega⟩))⟩, by simp [intOf]; omega⟩
                · go_simp
                  refine hK.out _ _ ((QD.out.alloc _).cell (p := ⟨lb, lo + i, none⟩) CL.out (fun h => h)) (fun hHeld => ?_)
                  try simp only [Act.put, List.setIfInBounds_toArray, List.set_cons_zero, List.set_cons_succ]
                  clear hK K
                  refine Rest.one (i := 0) (by kernel_rfl) rfl (fun K hK => ?_)
                  go_simp
                  refine hK.out _ _ (((QD.out.alloc _).alloc _).cell (p := ⟨lb, lo + i, none⟩) CL.out (fun h => h)) (fun hHeld => ?_)
                  try simp only [Act.put, List.setIfInBounds_toArray, List.set_cons_zero, List.set_cons_succ]
                  clear hK K
                  refine Rest.one (i := 4) (by kernel_rfl) rfl (fun K hK => ?_)
                  refine step_given rfl (.tmp 44) (.tmp 47) 34 rfl _ _ _ rfl rfl W4C r4C ?_
                  refine hK.out _ _ ((QD.out.comp q4C.out).cell (p := ⟨lb, lo + i, none⟩) CL.out (fun h => h)) (fun hHeld => ?_)
                  try simp only [Act.put, List.setIfInBounds_toArray, List.set_cons_zero, List.set_cons_succ]
                  clear hK K
                  refine Rest.one (i := 10) (by kernel_rfl) rfl (fun K hK => ?_)
                  refine step_given rfl (.tmp 48) (.tmp 53) 34 rfl _ _ _ rfl rfl W10C r10C ?_
                  refine hK.out _ _ ((QD.out.comp q10C.out).cell (p := ⟨lb, lo + i, none⟩) CL.out (fun h => h)) (fun hHeld => ?_)
                  try simp only [Act.put, List.setIfInBounds_toArray, List.set_cons_zero, List.set_cons_succ]
                  clear hK K
                  refine Rest.one (i := 14) (by kernel_rfl) rfl (fun K hK => ?_)
                  refine step_given rfl (.tmp 54) (.tmp 57) 34 rfl _ _ _ rfl rfl W14C r14C ?_
                  refine hK.out _ _ ((QD.out.comp q14C.out).cell (p := ⟨lb, lo + i, none⟩) CL.out (fun h => h)) (fun hHeld => ?_)
                  try simp only [Act.put, List.setIfInBounds_toArray, List.set_cons_zero, List.set_cons_succ]
                  clear hK K
                  refine Rest.last (i := 15) (by kernel_rfl) rfl (by kernel_rfl) (fun K hK => ?_)
                  go_simp
                  refine hK.out _ _ ?_
                  try simp only [Act.put, List.setIfInBounds_toArray, List.set_cons_zero, List.set_cons_succ]
                  clear hK K
                  refine Rest.done (by kernel_rfl) ?_ _
                  go_wp2_with fail
                  exact ⟨⟨i + 1, by omega, by go_num, Ri.ins B3.out QD.out q14C.out o14C.out (rs_ins HC.out hc64 hk HLT.out (fun _ => ⟨y, HY.out, by omega⟩))⟩, by simp [intOf]; omega⟩

          · obtain rfl : k = (rs l i).length := by omega
            go_wp2_with fail
            go_quiet (fail)
            obtain ⟨WB2, hWB2⟩ : ∃ WB2, WB2 = wr.drewN nq := ⟨_, rfl⟩
            have QB2 : Hid (Qt wr WB2) := by rw [hWB2]; exact Mv.drewN (fun _ => False) _ nq
            rw [← hWB2]
            clear hWB2
            have B2 : Hid (Ri w WB2 (.slice (some ⟨g, 0, none⟩) (rs l i).length cap) l i) := B1.out.drew QB2.out

            have klWB2 : WB2.cell? ⟨lb, lo + i, none⟩ = some (.int .i64 (c : Int)) := QB2.out.cell (p := ⟨lb, lo + i, none⟩) klwr (fun h => h)
            go_wp2_with fail
            go_quiet (fail)
            obtain ⟨WB3, hWB3⟩ : ∃ WB3, WB3 = WB2.drewN nq := ⟨_, rfl⟩
            have QB3 : Hid (Qt WB2 WB3) := by rw [hWB3]; exact Mv.drewN (fun _ => False) _ nq
            rw [← hWB3]
            clear hWB3
            have B3 : Hid (Ri w WB3 (.slice (some ⟨g, 0, none⟩) (rs l i).length cap) l i) := B2.out.drew QB3.out

            have klWB3 : WB3.cell? ⟨lb, lo + i, none⟩ = some (.int .i64 (c : Int)) := QB3.out.cell (p := ⟨lb, lo + i, none⟩) klWB2 (fun h => h)
            clear klwr klWB2
            have QD : Hid (Qt WB3 WB3.drew) := Qt.drew (Qt.refl _)
            have CL : Hid (WB3.cell? ⟨lb, lo + i, none⟩ = some (.int .i64 (c : Int))) := klWB3
            have I1 : Hid (Is WB3.drew (.slice (some ⟨g, 0, none⟩) (rs l i).length cap) ((rs l i).take (rs l i).length)) := (B3.out.own.is.lo _ hk).qt QD.out
            have I2 : Hid (Is WB3.drew (.slice (if cap = (rs l i).length then some ⟨g, 0, none⟩ else some ⟨g, (rs l i).length, none⟩) 0 (cap - (rs l i).length)) ((rs l i).drop (rs l i).length)) := ((show Is WB3 (.slice (if cap = (rs l i).length then some ⟨g, 0, none⟩ else some ⟨g, (rs l i).length, none⟩) 0 (cap - (rs l i).length)) ((rs l i).drop (rs l i).length) from by have := B3.out.own.is.hi _ hk; rw [Nat.sub_self] at this; exact this)).qt QD.out
            have HL9 : (((rs l i).take (rs l i).length)).length + (((rs l i).drop (rs l i).length)).length < 80000 := by rw [List.length_take, List.length_drop]; omega
            obtain ⟨v4A, W4A, v10A, W10A, v14A, W14A, r4A, r10A, r14A, q4A, q9A, q10A, q14A, o14A⟩ := thriceA (c := c) I1.out I2.out HL9
            obtain ⟨v4B, W4B, v10B, W10B, v14B, W14B, r4B, r10B, r14B, q4B, q10B, q14B, o14B⟩ := thriceB (c := c) I1.out I2.out HL9
            obtain ⟨v4C, W4C, v10C, W10C, v14C, W14C, r4C, r10C, r14C, q4C, q10C, q14C, o14C⟩ := thriceC (c := c) I1.out I2.out HL9
            have hszd : WB3.drew.heap.size = WB3.heap.size := rfl
            rw [hszd] at r4A r4B r4C r10B r10C
            go_wp2_with fail
            refine Rest.begin (S := (fun w' => w'.cell? ⟨lb, lo + i, none⟩ = some (.int .i64 (c : Int)))) (st := [15]) (by kernel_rfl) ((QD.out).cell (p := ⟨lb, lo + i, none⟩) CL.out (fun h => h)) (fun hHeld => ?_)
            refine Rest.plain (i := 1) _ (some 45) ?_ rfl rfl (by kernel_rfl) (by kernel_rfl) (by kernel_rfl) (by kernel_rfl) (fun _ _ _ h => h) (Or.inl ⟨by rfl, ?_⟩) (by assumption) ?_
            rotate_left
            · (intro w _; go_simp; try with_reducible rfl)
            try simp only [Act.put, List.setIfInBounds_toArray, List.set_cons_zero, List.set_cons_succ]
            refine Rest.plain (i := 2) _ (some 46) ?_ rfl rfl (by kernel_rfl) (by kernel_rfl) (by kernel_rfl) (by kernel_rfl) (fun _ _ _ h => h) (Or.inl ⟨by rfl, ?_⟩) (by assumption) ?_
            rotate_left
            · (intro w _; go_simp; try with_reducible rfl)
            try simp only [Act.put, List.setIfInBounds_toArray, List.set_cons_zero, List.set_cons_succ]
            refine Rest.plain (i := 3) _ (some 47) ?_ rfl rfl (by kernel_rfl) (by kernel_rfl) (by kernel_rfl) (by kernel_rfl) (fun _ _ _ h => h) (Or.inl ⟨by rfl, ?_⟩) (by assumption) ?_
            rotate_left
            · (intro w _; go_simp; try with_reducible rfl)
            try simp only [Act.put, List.setIfInBounds_toArray, List.set_cons_zero, List.set_cons_succ]
            refine Rest.plain (i := 5) _ (some 49) ?_ rfl rfl (by kernel_rfl) (by kernel_rfl) (by kernel_rfl) (by kernel_rfl) (fun _ _ _ h => h) (Or.inl ⟨by rfl, ?_⟩) (by assumption) ?_
            rotate_left
            · (intro w _; go_simp; try with_reducible rfl)
            try simp only [Act.put, List.setIfInBounds_toArray, List.set_cons_zero, List.set_cons_succ]
            refine Rest.plain (i := 6) _ (some 50) ?_ rfl rfl (by kernel_rfl) (by kernel_rfl) (by kernel_rfl) (by kernel_rfl) (fun _ _ _ h => h) (Or.inl ⟨by rfl, ?_⟩) (by assumption) ?_
            rotate_left
            · (intro w _; go_simp; try with_reducible rfl)
            try simp only [Act.put, List.setIfInBounds_toArray, List.set_cons_zero, List.set_cons_succ]
            refine Rest.plain (i := 7) _ (some 51) ?_ rfl rfl (by kernel_rfl) (by kernel_rfl) (by kernel_rfl) (by kernel_rfl) (fun _ _ _ h => h) (Or.inl ⟨by rfl, ?_⟩) (by assumption) ?_
            rotate_left
            · (intro w _; go_simp; try with_reducible rfl)
            try simp only [Act.put, List.setIfInBounds_toArray, List.set_cons_zero, List.set_cons_succ]
            refine Rest.take (i := 8) _ (some 52) ?_ rfl rfl (by kernel_rfl) (by kernel_rfl) (by kernel_rfl) (by kernel_rfl) (fun _ _ _ h => h) (Or.inl ⟨by rfl, ?_⟩) (by assumption) ?_
            rotate_left
            · (intro w hSw; (try dsimp only at hSw); go_simp; try with_reducible rfl)
            try simp only [Act.put, List.setIfInBounds_toArray, List.set_cons_zero, List.set_cons_succ]
            refine Rest.plain (i := 11) _ (some 55) ?_ rfl rfl (by kernel_rfl) (by kernel_rfl) (by kernel_rfl) (by kernel_rfl) (fun _ _ _ h => h) (Or.inl ⟨by rfl, ?_⟩) (by assumption) ?_
            rotate_left
            · (intro w _; go_simp; try with_reducible rfl)
            try simp only [Act.put, List.setIfInBounds_toArray, List.set_cons_zero, List.set_cons_succ]
            refine Rest.plain (i := 12) _ (some 56) ?_ rfl rfl (by kernel_rfl) (by kernel_rfl) (by kernel_rfl) (by kernel_rfl) (fun _ _ _ h => h) (Or.inl ⟨by rfl, ?_⟩) (by assumption) ?_
            rotate_left
            · (intro w _; go_simp; try with_reducible rfl)
            try simp only [Act.put, List.setIfInBounds_toArray, List.set_cons_zero, List.set_cons_succ]
            refine Rest.plain (i := 13) _ (some 57) ?_ rfl rfl (by kernel_rfl) (by kernel_rfl) (by kernel_rfl) (by kernel_rfl) (fun _ _ _ h => h) (Or.inl ⟨by rfl, ?_⟩) (by assumption) ?_
            rotate_left
            · (intro w _; go_simp; try with_reducible rfl)
            try simp only [Act.put, List.setIfInBounds_toArray, List.set_cons_zero, List.set_cons_succ]
            refine Rest.two (i := 0) (j := 9) (by kernel_rfl) rfl rfl (fun K hK => ?_) (fun K hK => ?_)
            · go_simp
              refine hK.out _ _ ((QD.out.alloc _).cell (p := ⟨lb, lo + i, none⟩) CL.out (fun h => h)) (fun hHeld => ?_)
              try simp only [Act.put, List.setIfInBounds_toArray, List.set_cons_zero, List.set_cons_succ]
              clear hK K
              refine Rest.two (i := 4) (j := 9) (by kernel_rfl) rfl rfl (fun K hK => ?_) (fun K hK => ?_)
              · refine step_given rfl (.tmp 44) (.tmp 47) 34 rfl _ _ _ rfl rfl W4A r4A ?_
                refine hK.out _ _ ((QD.out.comp q4A.out).cell (p := ⟨lb, lo + i, none⟩) CL.out (fun h => h)) (fun hHeld => ?_)
                try simp only [Act.put, List.setIfInBounds_toArray, List.set_cons_zero, List.set_cons_succ]
                clear hK K
                refine Rest.one (i := 9) (by kernel_rfl) rfl (fun K hK => ?_)
                go_simp
                refine hK.out _ _ ((QD.out.comp q9A.out).cell (p := ⟨lb, lo + i, none⟩) CL.out (fun h => h)) (fun hHeld => ?_)
                try simp only [Act.put, List.setIfInBounds_toArray, List.set_cons_zero, List.set_cons_succ]
                clear hK K
                refine Rest.one (i := 10) (by kernel_rfl) rfl (fun K hK => ?_)
                refine step_given rfl (.tmp 48) (.tmp 53) 34 rfl _ _ _ rfl rfl W10A r10A ?_
                refine hK.out _ _ ((QD.out.comp q10A.out).cell (p := ⟨lb, lo + i, none⟩) CL.out (fun h => h)) (fun hHeld => ?_)
                try simp only [Act.put, List.setIfInBounds_toArray, List.set_cons_zero, List.set_cons_succ]
                clear hK K
                refine Rest.one (i := 14) (by kernel_rfl) rfl (fun K hK => ?_)
                refine step_given rfl (.tmp 54) (.tmp 57) 34 rfl _ _ _ rfl rfl W14A r14A ?_
                refine hK.out _ _ ((QD.out.comp q14A.out).cell (p := ⟨lb, lo + i, none⟩) CL.out (fun h => h)) (fun hHeld => ?_)
                try simp only [Act.put, List.setIfInBounds_toArray, List.set_cons_zero, List.set_cons_succ]
                clear hK K
                refine Rest.last (i := 15) (by kernel_rfl) rfl (by kernel_rfl) (fun K hK => ?_)
                go_simp
                refine hK.out _ _ ?_
                try simp only [Act.put, List.setIfInBounds_toArray, List.set_cons_zero, List.set_cons_succ]
                clear hK K
                refine Rest.done (by kernel_rfl) ?_ _
                go_wp2_with fail
                exact ⟨⟨i + 1, by omega, by go_num, Ri.ins B3.out QD.out q14A.out o14A.out (rs_ins HC.out hc64 hk HLT.out (fun h => by omega))⟩, by simp [intOf]; omega⟩
              · go_simp
                refine hK.out _ _ (((QD.out.alloc _).alloc _).cell (p := ⟨lb, lo + i, none⟩) CL.out (fun h => h)) (fun hHeld => ?_)
                try simp only [Act.put, List.setIfInBounds_toArray, List.set_cons_zero, List.set_cons_succ]
                clear hK K
                refine Rest.one (i := 4) (by kernel_rfl) rfl (fun K hK => ?_)
                refine step_given rfl (.tmp 44) (.tmp 47) 34 rfl _ _ _ rfl rfl W4B r4B ?_
                refine hK.out _ _ ((QD.out.comp q4B.out).cell (p := ⟨lb, lo + i, none⟩) CL.out (fun h => h)) (fun hHeld => ?_)
                try simp only [Act.put, List.setIfInBounds_toArray, List.set_cons_zero, List.set_cons_succ]
                clear hK K
                refine Rest.one (i := 10) (by kernel_rfl) rfl (fun K hK => ?_)
                refine step_given rfl (.tmp 48) (.tmp 53) 34 rfl _ _ _ rfl rfl W10B r10B ?_
                refine hK.out _ _ ((QD.out.comp q10B.out).cell (p := ⟨lb, lo + i, none⟩) CL.out (fun h => h)) (fun hHeld => ?_)
                try simp only [Act.put, List.setIfInBounds_toArray, List.set_cons_zero, List.set_cons_succ]
                clear hK K
                refine Rest.one (i := 14) (by kernel_rfl) rfl (fun K hK => ?_)
                refine step_given rfl (.tmp 54) (.tmp 57) 34 rfl _ _ _ rfl rfl W14B r14B ?_
                refine hK.out _ _ ((QD.out.comp q14B.out).cell (p := ⟨lb, lo + i, none⟩) CL.out (fun h => h)) (fun hHeld => ?_)
                try simp only [Act.put, List.setIfInBounds_toArray, List.set_cons_zero, List.set_cons_succ]
                clear hK K
                refine Rest.last (i := 15) (by kernel_rfl) rfl (by kernel_rfl) (fun K hK => ?_)
                go_simp
                refine hK.out _ _ ?_
                try simp only [Act.put, List.setIfInBounds_toArray, List.set_cons_zero, List.set_cons_succ]
                clear hK K
                refine Rest.done (by kernel_rfl) ?_ _
                go_wp2_with fail
                exact ⟨⟨i + 1, by omega, by go_num, Ri.ins B3.out QD.out q14B.out o14B.out (rs_ins HC.out hc64 hk HLT.out (fun h => by omega))⟩, by simp [intOf]; omega⟩
            · go_simp
              refine hK.out _ _ ((QD.out.alloc _).cell (p := ⟨lb, lo + i, none⟩) CL.out (fun h => h)) (fun hHeld => ?_)
              try simp only [Act.put, List.setIfInBounds_toArray, List.set_cons_zero, List.set_cons_succ]
              clear hK K
              refine Rest.one (i := 0) (by kernel_rfl) rfl (fun K hK => ?_)
              go_simp
              refine hK.out _ _ (((QD.out.alloc _).alloc _).cell (p := ⟨lb, lo + i, none⟩) CL.out (fun h => h)) (fun hHeld => ?_)
              try simp only [Act.put, List.setIfInBounds_toArray, List.set_cons_zero, List.set_cons_succ]
              clear hK K
              refine Rest.one (i := 4) (by kernel_rfl) rfl (fun K hK => ?_)
              refine step_given rfl (.tmp 44) (.tmp 47) 34 rfl _ _ _ rfl rfl W4C r4C ?_
              refine hK.out _ _ ((QD.out.comp q4C.out).cell (p := ⟨lb, lo + i, none⟩) CL.out (fun h => h)) (fun hHeld => ?_)
              try simp only [Act.put, List.setIfInBounds_toArray, List.set_cons_zero, List.set_cons_succ]
              clear hK K
              refine Rest.one (i := 10) (by kernel_rfl) rfl (fun K hK => ?_)
              refine step_given rfl (.tmp 48) (.tmp 53) 34 rfl _ _ _ rfl rfl W10C r10C ?_
              refine hK.out _ _ ((QD.out.comp q10C.out).cell (p := ⟨lb, lo + i, none⟩) CL.out (fun h => h)) (fun hHeld => ?_)
              try simp only [Act.put, List.setIfInBounds_toArray, List.set_cons_zero, List.set_cons_succ]
              clear hK K
              refine Rest.one (i := 14) (by kernel_rfl) rfl (fun K hK => ?_)
              refine step_given rfl (.tmp 54) (.tmp 57) 34 rfl _ _ _ rfl rfl W14C r14C ?_
              refine hK.out _ _ ((QD.out.comp q14C.out).cell (p := ⟨lb, lo + i, none⟩) CL.out (fun h => h)) (fun hHeld => ?_)
              try simp only [Act.put, List.setIfInBounds_toArray, List.set_cons_zero, List.set_cons_succ]
              clear hK K
              refine Rest.last (i := 15) (by kernel_rfl) rfl (by kernel_rfl) (fun K hK => ?_)
              go_simp
              refine hK.out _ _ ?_
              try simp only [Act.put, List.setIfInBounds_toArray, List.set_cons_zero, List.set_cons_succ]
              clear hK K
              refine Rest.done (by kernel_rfl) ?_ _
              go_wp2_with fail
              exact ⟨⟨i + 1, by omega, by go_num, Ri.ins B3.out QD.out q14C.out o14C.out (rs_ins HC.out hc64 hk HLT.out (fun h => by omega))⟩, by simp [intOf]; omega⟩

    · obtain rfl : i = l.length := by omega
      obtain ⟨oa, oc, rfl⟩ := B.out.own.is.form
      go_wp2_with fail
      go_ret
      exact ⟨_, rfl, B.out.own.is, B.out.qt⟩

end Go.Proofs.YtojbakkbmfgoaaaDoor
