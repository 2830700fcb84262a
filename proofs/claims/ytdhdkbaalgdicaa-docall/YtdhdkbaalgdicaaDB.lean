/- A window of a text over a file, piece by piece. -/
import Derived.Test.YtdhdkbaalgdicaaDS
namespace Go.Proofs.Ytdhdkbaalgdicaa
open Go.RowKit
set_option linter.unusedVariables false

/-- What is told of it, and the rows beside it, while a window is made: R' was read, vb is what there is. -/
structure We (w0 W : World) (dp fq tp : Nat) (d : Pd) (mo : Int) (bad : Nat → Bool) (L : List Bt) (m : Nat) (A : Nat → Int) (Y Z : Nat → Prop) (va vw : Value) (ws : List Pc) (R' : List Int) (vb : Value) (bs : List Int) (l' : List Int) (Y' Z' : Nat → Prop) : Prop where
  D : Ds W dp fq tp d mo l' bad R' L m A Y' Z'
  y : ∀ k, Y k → Y' k
  z : ∀ k, Z k → Z' k
  b : ∀ k, vb.ownBlock = some k → Y' k ∧ Z' k ∧ va.ownBlock ≠ some k ∧ vw.ownBlock ≠ some k
  a : ∀ k, va.ownBlock = some k → Y' k
  p : ∀ k, vw.ownBlock = some k → Y' k
  ob : OB W w0.heap.size vb bs
  oa : Own W w0.heap.size 5 va m (By A)
  op : Op3 W w0.heap.size vw ws
  M : Mv (fun j => ¬ Y j) w0 W
  lt : dp < w0.heap.size ∧ d.top ≤ w0.heap.size
def Wx (w0 W : World) (dp fq tp : Nat) (d : Pd) (mo : Int) (bad : Nat → Bool) (L : List Bt) (m : Nat) (A : Nat → Int) (Y Z : Nat → Prop) (va vw : Value) (ws : List Pc) (R' : List Int) (vb : Value) (bs : List Int) : Prop := ∃ l' Y' Z', We w0 W dp fq tp d mo bad L m A Y Z va vw ws R' vb bs l' Y' Z'

section
variable {w0 W W' : World} {dp fq tp : Nat} {d : Pd} {mo : Int} {bad : Nat → Bool} {L : List Bt} {m : Nat} {A : Nat → Int} {Y Z : Nat → Prop} {va vw : Value} {ws : List Pc} {R R' : List Int} {vb : Value} {bs : List Int}
theorem Wx.qt (h : Wx w0 W dp fq tp d mo bad L m A Y Z va vw ws R' vb bs) (q : Qt W W') : Wx w0 W' dp fq tp d mo bad L m A Y Z va vw ws R' vb bs := by
  obtain ⟨l', Y', Z', h⟩ := h
  exact ⟨l', _, _, h.D.qt q, fun k hk => .inl (h.y k hk), fun k hk => .inl (h.z k hk), fun k hk => ⟨.inl (h.b k hk).1, .inl (h.b k hk).2.1, (h.b k hk).2.2⟩, fun k hk => .inl (h.a k hk), fun k hk => .inl (h.p k hk), q.owns h.ob (fun _ _ h => h), h.oa.mv q (fun _ _ h => h), q.owns h.op (fun _ _ h => h), h.M.trans q (fun _ _ e => e.elim), h.lt⟩
/-- More bytes behind it. -/
theorem Wx.app (h : Wx w0 W dp fq tp d mo bad L m A Y Z va vw ws R' vb bs) (l' : List Int) (s : Option Addr) (c : Nat) (hs : Ls W s (bv l')) (hn : bs.length + l'.length < 100000) (hnone : s = none → l'.length = 0 ∧ c = 0) :
    ∃ v' V, (Builtin.append_ #[22, 22] 22 #[vb, .slice s l'.length c]).run Try.prog W = .ok v' V ∧ Wx w0 V dp fq tp d mo bad L m A Y Z va vw ws R' v' (bs ++ l') := by
  obtain ⟨ll, Y', Z', h⟩ := h
  have hM := h.M.size
  obtain ⟨v', V, hr, o, g, f⟩ := append_b 22 W w0.heap.size vb bs l' s c h.ob hs hn hnone hM
  refine ⟨v', V, hr, ll, _, _, h.D.mv (Mv.of_grown g) (fun j hj => ⟨(h.b j hj).1, (h.b j hj).2.1, ?_, .inl ?_⟩), fun k hk => .inl (h.y k hk), fun k hk => .inl (h.z k hk), fun k hk => ?_, fun k hk => .inl (h.a k hk), fun k hk => .inl (h.p k hk), o, h.oa.mv (Mv.of_grown g) (fun k hk e => (h.b k e).2.2.1 hk), (Mv.of_grown g).owns h.op (fun k hk e => (h.b k e).2.2.2 hk), h.M.trans (Mv.of_grown g) (fun j hj e => ?_), h.lt⟩
  · have := (ow_blk h.ob j hj).1; have := h.lt.1; omega
  · have := (ow_blk h.ob j hj).1; have := h.lt.2; omega
  · rcases f with f | ⟨j, f1, f2⟩
    · rw [f] at hk
      exact ⟨.inl (h.b k hk).1, .inl (h.b k hk).2.1, (h.b k hk).2.2⟩
    · have e : j = k := by rw [f1] at hk; exact Option.some.inj hk
      have hv := (ow_blk o k hk).2
      refine ⟨.inr ⟨by omega, hv⟩, .inr ⟨by omega, hv⟩, fun e2 => ?_, fun e2 => ?_⟩
      · have := (h.oa.blk k e2).2; omega
      · have := (ow_blk h.op k e2).2; omega
  · have := (ow_blk h.ob j e).1; omega
/-- The file was read. -/
theorem Wx.read {a b : Nat} {v : Value} {l' : List Int} {Y' Z' : Nat → Prop} (h : We w0 W dp fq tp d mo bad L m A Y Z va vw ws R' vb bs l' Y' Z') (k : Rok W W' dp fq tp d mo bad R' L m A Y' Z' a b v) :
    ∃ R2, Wx w0 W' dp fq tp d mo bad L m A Y Z va vw ws R2 vb bs ∧ Rd d R' R2 (fun x => a ≤ x ∧ x < b) (b - a) ∧ Own W' W.heap.size 5 v (b - a) (By fun j => d.f (a + j)) := by
  obtain ⟨l2, R2, Y2, Z2, D, hy, hz, _, hv, O, M, rd⟩ := k
  exact ⟨R2, ⟨l2, Y2, Z2, D, fun k hk => hy k (h.y k hk), fun k hk => hz k (h.z k hk), fun k hk => ⟨hy k (h.b k hk).1, hz k (h.b k hk).2.1, (h.b k hk).2.2⟩, fun k hk => hy k (h.a k hk), fun k hk => hy k (h.p k hk), M.owns h.ob (fun k hk e => e (h.b k hk).1), h.oa.mv M (fun k hk e => e (h.a k hk)), M.owns h.op (fun k hk e => e (h.p k hk)), h.M.trans M (fun j hj e hy => e (h.y j hy)), h.lt⟩, rd, O⟩

/-- How a window ends. -/
def Wok (w0 W : World) (dp fq tp : Nat) (d : Pd) (mo : Int) (bad : Nat → Bool) (R : List Int) (L : List Bt) (m : Nat) (A : Nat → Int) (Y Z : Nat → Prop) (X : List Bt) (v : Value) : Prop :=
  ∃ l' R' Y' Z', Ds W dp fq tp d mo l' bad R' L m A Y' Z' ∧ (∀ k, Y k → Y' k) ∧ (∀ k, Z k → Z' k) ∧ (∀ k, v.ownBlock = some k → Y' k ∧ Z' k) ∧ OB W w0.heap.size v (X.map (bt d.f A)) ∧ Mv (fun j => ¬ Y j) w0 W ∧ Rd d R R' (fun x => (false, x) ∈ X) X.length
def Wno (w0 W : World) (dp fq tp : Nat) (d : Pd) (mo : Int) (bad : Nat → Bool) (R : List Int) (L : List Bt) (m : Nat) (A : Nat → Int) (Y Z : Nat → Prop) (X : List Bt) : Prop :=
  ∃ l' R' Y' Z', Ds W dp fq tp d mo l' bad R' L m A Y' Z' ∧ (∀ k, Y k → Y' k) ∧ (∀ k, Z k → Z' k) ∧ Mv (fun j => ¬ Y j) w0 W ∧ Rd d R R' (fun x => (false, x) ∈ X) X.length
def Gd (d : Pd) (bad : Nat → Bool) (X : List Bt) : Prop := ∀ x, (false, x) ∈ X → bad (x / d.sz) = false
def Wend (w0 : World) (dp fq tp : Nat) (d : Pd) (mo : Int) (bad : Nat → Bool) (R : List Int) (L : List Bt) (m : Nat) (A : Nat → Int) (Y Z : Nat → Prop) (X : List Bt) (e : Ending) (W : World) : Prop :=
  (∃ v, e = .returned v ∧ Gd d bad X ∧ Wok w0 W dp fq tp d mo bad R L m A Y Z X v) ∨ (e = .panicked fchain ∧ ¬ Gd d bad X ∧ Wno w0 W dp fq tp d mo bad R L m A Y Z X)

theorem file_bt (G A : Nat → Int) (x n : Nat) : (List.range n).map (fun j => G (x + j)) = (sp1 ⟨false, x, x + n⟩).map (bt G A) := by
  unfold sp1
  rw [List.map_map, show x + n - x = n by omega]
  apply List.ext_getElem
  · simp
  · intro i h1 h2
    simp [bt]

set_option maxHeartbeats 4000000 in
set_option maxRecDepth 20000 in
theorem window_any {l : List Int} (h : Hid (Ds W dp fq tp d mo l bad R L m A Y Z)) (a b : Nat) (hab : a ≤ b) (hb : b ≤ L.length) (hR : R.length + (b - a) < 20000) :
    Calls Try.prog 34 #[.pointer (some ⟨dp, 0, none⟩), .int .i64 a, .int .i64 b] W fun e W' => Wend W dp fq tp d mo bad R L m A Y Z ((L.take b).drop a) e W' := by
  have c1 := h.out.c1
  have AD := added_any (h := (h.out.T : Hid _))
  obtain ⟨X, hX⟩ : ∃ X, X = (L.take b).drop a := ⟨_, rfl⟩
  have HX : Hid (X = (L.take b).drop a) := hX
  have XL : Hid (X.length = b - a) := by show _ = _; rw [hX, List.length_drop, List.length_take]; omega
  rw [← hX]
  have HL : Hid (L.length ≤ 20000) := h.out.small.2.2
  have HB : Hid (a ≤ b ∧ b ≤ L.length) := ⟨hab, hb⟩
  have HRl : Hid (R.length + X.length < 20000) := by have := XL.out; show _ < _; omega
  have ba : a ≤ 20000 := by have := HL.out; omega
  have bb : b ≤ 20000 := by have := HL.out; omega
  clear hX hab hb hR
  go_enter Try.func34, Try.ntmps34
  go_wp2_with fail
  refine AD.mono ?_
  rintro e w1 ⟨va, rfl, F1⟩
  clear AD
  obtain ⟨aa, ac, rfl, _, hac, hna⟩ := F1.out.1.sl
  have HAC : Hid (m ≤ ac ∧ (aa = none → m = 0 ∧ ac = 0)) := ⟨hac, hna⟩
  clear hac hna
  have D1 : Hid _ := h.out.qt F1.out.2
  have c1' := D1.out.c1
  have PI := pieces_any (h := (D1.out.T : Hid _))
  clear c1
  go_wp2_with fail
  refine PI.mono ?_
  rintro e w2 ⟨vp, rfl, F2⟩
  clear PI c1'
  obtain ⟨pa, pc, rfl, pli, _⟩ := own_cells w2 _ vp _ F2.out.1
  have NL : (nf L).length ≤ 20000 := by have := nf_length L; have := HL.out; omega
  have WI := within_any pa pc (nf L) a b w2 pli (h.out.wf.fit (by have := h.out.small; omega)) NL ba bb (by show _ ≤ _; rw [spl_nf]; exact HL.out)
  go_wp2_with fail
  refine WI.mono ?_
  rintro e w3 ⟨vw, rfl, F3⟩
  clear WI pli NL
  have SW : Hid (spl (wi (nf L) a b) = X) := by
    show _ = _
    rw [wi_spl, spl_nf, HX.out]
    rfl
  have PW : Hid (∀ q ∈ wi (nf L) a b, q.fr < q.to) := wi_pos _ _ _
  obtain ⟨ws, hws⟩ : ∃ ws, ws = wi (nf L) a b := ⟨_, rfl⟩
  rw [← hws] at SW PW F3
  have D3 : Hid (Wx W w3 dp fq tp d mo bad L m A Y Z (.slice aa m ac) vw ws R (.slice none 0 0) []) := by
    have q12 := F2.out.2
    have q23 := F3.out.2
    have q13 : Qt w1 w3 := q12.comp q23
    have q03 : Qt W w3 := F1.out.2.comp q13
    have s1 := F1.out.2.size
    have s2 := q12.size
    have s3 := q23.size
    refine ⟨l, _, _, h.out.qt q03, fun k hk => .inl hk, fun k hk => .inl hk, fun k hk => (by cases hk), fun k hk => .inr ?_, fun k hk => .inr ?_, ow_nil _ _ _ _, F1.out.1.mv q13 (fun _ _ h => h), ow_mono F3.out.1 (fun j hj => ?_), q03.mono (fun _ _ e => e.elim), h.out.lt, h.out.top⟩
    · have := F1.out.1.blk k hk; omega
    · have := ow_blk F3.out.1 k hk; omega
    · have := (ow_blk F3.out.1 j hj).1; omega
  obtain ⟨wa, wc, rfl, wli, _⟩ := own_cells w3 _ vw _ F3.out.1
  clear wli F3 hws D1 F1 F2
  have WF : Hid (Wf d.n m L) := h.out.wf
  have SM : Hid (d.n ≤ 20000 ∧ m ≤ 20000 ∧ L.length ≤ 20000) := h.out.small
  have SX : Hid (∀ x ∈ X, x ∈ L) := by
    intro x hx
    rw [HX.out] at hx
    exact List.mem_of_mem_take (List.mem_of_mem_drop hx)
  obtain ⟨N, hN⟩ : ∃ N, N = ws.length := ⟨_, rfl⟩
  have HN : Hid (N = ws.length) := hN
  have NB : N ≤ 20000 := by
    have h1 : ∀ (ws : List Pc), (∀ q ∈ ws, q.fr < q.to) → ws.length ≤ (spl ws).length := by
      intro ws
      induction ws with
      | nil => intro _; exact Nat.le_refl _
      | cons q r ih =>
        intro hp
        have h2 := hp q (by simp)
        have h3 := ih (fun q hq => hp q (by simp [hq]))
        rw [spl_cons, List.length_append, sp1_length, List.length_cons]
        omega
    have h2 := h1 ws PW.out
    rw [SW.out, XL.out] at h2
    omega
  rw [← hN]
  clear hN
  go_wp2_with fail
  go_loopw [7, 25] (fun vb vi wr => ∃ i : Nat, i ≤ N ∧ vi = .int .i64 i ∧ Hid (∃ R', Wx W wr dp fq tp d mo bad L m A Y Z (.slice aa m ac) (.slice wa ws.length wc) ws R' vb ((spl (ws.take i)).map (bt d.f A)) ∧ Rd d R R' (fun x => (false, x) ∈ spl (ws.take i)) (spl (ws.take i)).length ∧ Gd d bad (spl (ws.take i)))) (fun _ vi _ => N - (intOf vi).toNat)
  case atStart => exact ⟨0, by omega, rfl, R, by simpa [spl] using D3.out, Rd.refl d R _, fun x hx => by simp [spl] at hx⟩
  case round =>
    obtain ⟨i, hi, rfl, H⟩ := hrel
    by_cases hlt : i < N
    · have hltz : (i : Int) < (N : Int) := by omega
      obtain ⟨R', HW0, RD0, GD0⟩ := H.out
      have HW : Hid _ := HW0
      have RD : Hid _ := RD0
      have GD : Hid _ := GD0
      clear HW0 RD0 GD0 H
      obtain ⟨q, hq⟩ : ∃ p, ws[i]? = some p := ⟨ws[i]'(by have := HN.out; omega), List.getElem?_eq_getElem _⟩
      have LSW : Ls wr wa (cellsP ws) := by
        obtain ⟨_, _, _, h1⟩ := HW.out
        obtain ⟨a2, c2, e2, h2, _⟩ := own_cells _ _ _ _ h1.op
        cases e2
        exact h2.ls
      obtain ⟨bx, off, rfl, hbx, d0, d1, d2⟩ := ls_get LSW hq
      have hqm : q ∈ ws := List.mem_of_getElem? hq
      have hpos := PW.out q hqm
      have hin : ∀ z ∈ sp1 q, z ∈ L := fun z hz => SX.out z (by rw [← SW.out]; exact mem_spl hqm hz)
      have T1 : Hid (spl (ws.take (i + 1)) = spl (ws.take i) ++ sp1 q) := by
        show _ = _
        rw [take_succ_get hq, spl_append, spl_cons, spl_nil, List.append_nil]
      have TB : Hid ((spl (ws.take (i + 1))).length ≤ X.length) := by
        show _ ≤ _
        rw [← SW.out]
        conv => rhs; rw [← List.take_append_drop (i + 1) ws, spl_append, List.length_append]
        omega
      have RL : Hid (R'.length + (spl (ws.take (i + 1))).length - (spl (ws.take i)).length < 20000) := by
        have h1 := RD.out.2
        have h2 := HRl.out
        have h3 := TB.out
        show _ < _
        omega
      obtain ⟨ad, x, y⟩ := q
      simp only at d0 d1 d2 hpos
      have hxy : x < y := hpos
      have hlast : (ad, y - 1) ∈ L := hin _ (sp1_mem.2 ⟨rfl, by show x ≤ y - 1; omega, by show y - 1 < y; omega⟩)
      obtain ⟨n, hn⟩ : ∃ n, n = y - x := ⟨_, rfl⟩
      have HNN : Hid (n = y - x) := hn
      have RL2 : Hid (R'.length + n < 20000) := by
        have h1 := RL.out
        rw [T1.out, List.length_append, sp1_length] at h1
        have h1 : R'.length + (_ + (y - x)) - _ < 20000 := h1
        show _ < _
        omega
      have BL : Hid (((spl (ws.take i)).map (bt d.f A)).length + n < 100000) := by
        have h1 := TB.out
        rw [T1.out, List.length_append, sp1_length] at h1
        have h1 : _ + (y - x) ≤ _ := h1
        have h2 := HRl.out
        show _ < _
        rw [List.length_map]
        omega
      cases ad with
      | true =>
        have hym : y ≤ m := by have := (WF.out _ hlast).2 rfl; have : y - 1 < m := this; omega
        obtain ⟨p, k, hsl, hsl2, hsl3⟩ := slice_midB aa m ac x y (by omega) hym HAC.out.1 HAC.out.2
        have WA : Hid (Wx W (wr.alloc (.cells #[.bool true, .int .i64 x, .int .i64 y] 67)) dp fq tp d mo bad L m A Y Z (.slice aa m ac) (.slice (some ⟨bx, off, none⟩) ws.length wc) ws R' u7 ((spl (ws.take i)).map (bt d.f A))) := Wx.qt HW.out ((Qt.refl wr).alloc _)
        have LA : Ls (wr.alloc (.cells #[.bool true, .int .i64 x, .int .i64 y] 67)) aa (bv ((List.range m).map A)) := by
          obtain ⟨_, _, _, h1⟩ := WA.out
          obtain ⟨a2, c2, e2, h2, _⟩ := h1.oa.sl
          cases e2
          exact sl_ls h2
        have EL : (((List.range m).map A).drop x).take (y - x) = (sp1 ⟨true, x, y⟩).map (bt d.f A) := by
          have := part_bt d.f A true m x y hym
          exact this
        have EN : ((((List.range m).map A).drop x).take (y - x)).length = n := by rw [EL, List.length_map, sp1_length]; exact HNN.out.symm
        obtain ⟨v', V, hr, HV⟩ := Wx.app WA.out ((((List.range m).map A).drop x).take (y - x)) p k (hsl2 _ _ (by simp) LA) (by rw [EN]; exact BL.out) (fun e => by rw [EN, HNN.out]; exact hsl3 e)
        rw [EN] at hr
        have FIN : Hid (∃ R', Wx W V dp fq tp d mo bad L m A Y Z (.slice aa m ac) (.slice (some ⟨bx, off, none⟩) ws.length wc) ws R' v' ((spl (ws.take (i + 1))).map (bt d.f A)) ∧ Rd d R R' (fun x => (false, x) ∈ spl (ws.take (i + 1))) (spl (ws.take (i + 1))).length ∧ Gd d bad (spl (ws.take (i + 1)))) := by
          refine ⟨R', ?_, ?_, ?_⟩
          · rw [T1.out, List.map_append, ← EL]; exact HV
          · refine Rd.mono RD.out (fun z hz => ?_) ?_
            · rw [T1.out]; exact List.mem_append_left _ hz
            · rw [T1.out, List.length_append]; omega
          · rw [T1.out]
            intro z hz
            rcases List.mem_append.1 hz with hz | hz
            · exact GD.out z hz
            · have := (sp1_mem.1 hz).1
              cases this
        rw [← hn] at hsl
        clear hn hq hbx LSW hqm hin hlast hym hsl2 hsl3 WA LA EL EN HV hpos HW
        go_wp2_with (at_builtin; first | (refine wpList_append_given rfl _ _ 22 rfl _ _ _ V rfl rfl hr ?_))
        exact ⟨⟨i + 1, by omega, by go_num, FIN⟩, by simp [intOf]; omega⟩
      | false =>
        have hyn : y ≤ d.n := by have := (WF.out _ hlast).1 rfl; have : y - 1 < d.n := this; omega
        obtain ⟨l1, Y1, Z1, HE0⟩ := Wx.qt HW.out ((Qt.refl wr).alloc (.cells #[.bool false, .int .i64 x, .int .i64 y] 67))
        have HE : Hid _ := HE0
        by_cases good : ∀ z, x ≤ z → z < y → bad (z / d.sz) = false
        · have RO := dread_ok (h := (HE0.D : Hid _)) x y (by omega) hyn (by have := RL2.out; omega) good
          rw [← hn] at RO
          have GG : Hid (∀ z, x ≤ z → z < y → bad (z / d.sz) = false) := good
          clear hn hq hbx LSW hqm hin hlast hyn hpos HW HE0 good
          go_wp2_with fail
          refine RO.mono ?_
          rintro e w5 ⟨xa, xc, rfl, K⟩
          clear RO d0 d1 d2
          obtain ⟨R2, W2, rd2, O2⟩ := Wx.read HE.out K.out
          rw [← HNN.out] at O2
          obtain ⟨a2, c2, e2, s2, _, n2⟩ := O2.sl
          cases e2
          have EL : (List.range n).map (fun j => d.f (x + j)) = (sp1 ⟨false, x, y⟩).map (bt d.f A) := by
            rw [file_bt d.f A x n, show x + n = y by have := HNN.out; omega]
          have LN : ((List.range n).map (fun j => d.f (x + j))).length = n := by simp
          obtain ⟨v', V, hr, HV⟩ := Wx.app W2 ((List.range n).map (fun j => d.f (x + j))) xa xc (sl_ls s2) (by rw [LN]; exact BL.out) (fun e => by rw [LN]; exact n2 e)
          rw [LN] at hr
          have FIN : Hid (∃ R', Wx W V dp fq tp d mo bad L m A Y Z (.slice aa m ac) (.slice (some ⟨bx, off, none⟩) ws.length wc) ws R' v' ((spl (ws.take (i + 1))).map (bt d.f A)) ∧ Rd d R R' (fun x => (false, x) ∈ spl (ws.take (i + 1))) (spl (ws.take (i + 1))).length ∧ Gd d bad (spl (ws.take (i + 1)))) := by
            refine ⟨R2, ?_, ?_, ?_⟩
            · rw [T1.out, List.map_append, ← EL]; exact HV
            · have := Rd.trans RD.out rd2 (K := fun x => (false, x) ∈ spl (ws.take (i + 1))) (fun z hz => by rw [T1.out]; exact List.mem_append_left _ hz) (fun z hz => by rw [T1.out]; exact List.mem_append_right _ (sp1_mem.2 ⟨rfl, hz.1, hz.2⟩))
              refine this.mono (fun _ h => h) ?_
              rw [T1.out, List.length_append, sp1_length]
              exact Nat.le_refl _
            · rw [T1.out]
              intro z hz
              rcases List.mem_append.1 hz with hz | hz
              · exact GD.out z hz
              · have := sp1_mem.1 hz
                exact GG.out z this.2.1 this.2.2
          clear HV EL LN W2 rd2 O2 s2 n2 K HE
          go_wp2_with (at_builtin; first | (refine wpList_append_given rfl _ _ 22 rfl _ _ _ V rfl rfl hr ?_))
          exact ⟨⟨i + 1, by omega, by go_num, FIN⟩, by simp [intOf]; omega⟩
        · obtain ⟨z, z1, z2, z3⟩ : ∃ z, x ≤ z ∧ z < y ∧ bad (z / d.sz) = true := by
            apply Classical.byContradiction
            intro hno
            refine good (fun z z1 z2 => ?_)
            cases e : bad (z / d.sz) with
            | false => rfl
            | true => exact (hno ⟨z, z1, z2, e⟩).elim
          have RB := dread_bad (h := (HE0.D : Hid _)) x y (by omega) hyn (by have := RL2.out; omega) z z1 z2 z3
          have NG : Hid (¬ Gd d bad X) := by
            intro hg
            have := hg z (by rw [← SW.out]; exact mem_spl hqm (sp1_mem.2 ⟨rfl, z1, z2⟩))
            rw [z3] at this
            cases this
          have QX : Hid (∀ u, u ∈ sp1 ⟨false, x, y⟩ → u ∈ X) := fun u hu => by rw [← SW.out]; exact mem_spl hqm hu
          clear hn hq hbx LSW hqm hin hlast hyn hpos HW HE0 good z1 z2 z3
          go_wp2_with fail
          refine RB.mono ?_
          rintro e w5 ⟨rfl, K⟩
          clear RB d0 d1 d2
          refine ⟨rfl, .inr ⟨rfl, NG.out, ?_⟩⟩
          obtain ⟨l3, R3, Z3, D3', hz3, M3, rd3⟩ := K.out
          refine ⟨l3, R3, Y1, Z3, D3', HE.out.y, fun k hk => hz3 k (HE.out.z k hk), HE.out.M.trans M3 (fun j hj e hy => e (HE.out.y j hy)), ?_⟩
          have PX : ∀ u, u ∈ spl (ws.take i) → u ∈ X := fun u hu => by rw [← SW.out, ← List.take_append_drop i ws, spl_append]; exact List.mem_append_left _ hu
          refine (Rd.trans RD.out rd3 (K := fun x => (false, x) ∈ X) (fun z hz => PX _ hz) (fun z hz => QX.out _ (sp1_mem.2 ⟨rfl, hz.1, hz.2⟩))).mono (fun _ h => h) ?_
          have h1 := TB.out
          rw [T1.out, List.length_append, sp1_length] at h1
          exact h1
    · obtain rfl : i = N := by omega
      have FIN : Hid (Gd d bad X ∧ Wok W wr dp fq tp d mo bad R L m A Y Z X u7) := by
        obtain ⟨R', HW, RD, GD⟩ := H.out
        rw [List.take_of_length_le (by have := HN.out; omega), SW.out] at HW RD GD
        obtain ⟨l', Y', Z', HE⟩ := HW
        exact ⟨GD, l', R', Y', Z', HE.D, HE.y, HE.z, fun k hk => ⟨(HE.b k hk).1, (HE.b k hk).2.1⟩, HE.ob, HE.M, RD⟩
      go_wp2_with fail
      go_ret
      exact .inl ⟨_, rfl, FIN.out⟩
end
end Go.Proofs.Ytdhdkbaalgdicaa
