/- The reference's walk: one or the other, part by part. -/
import Derived.Test.YtojbakkbmfgoaaaDoorMg21
import Derived.Test.YtojbakkbmfgoaaaDoorMg20
namespace Go.Proofs.YtojbakkbmfgoaaaDoor
open Go.RowKit
set_option linter.unusedVariables false
set_option linter.unusedSimpArgs false

theorem kB {g x : Nat} {w : World} {f l fx lx : Value} {b c : Bool} (h : B5p 41 g (.slice none 0 0) f l (.slice none 0 0) (.bool b) w) (k : B5p 41 x (.slice none 0 0) fx lx (.slice none 0 0) (.bool c) w) :
    (w.cell? ⟨x, 1, none⟩ = some fx ∧ w.cell? ⟨x, 2, none⟩ = some lx ∧ w.cell? ⟨x, 4, none⟩ = some (.bool c)) ∧ (w.cell? ⟨g, 1, none⟩ = some f ∧ w.cell? ⟨g, 2, none⟩ = some l ∧ w.cell? ⟨g, 4, none⟩ = some (.bool b)) := by
  obtain ⟨a, b, c, d, e, f⟩ := kA h k
  exact ⟨⟨d, e, f⟩, a, b, c⟩
theorem kx {g x i : Nat} {v fx lx c : Value} {w : World} (h : g ≠ x) (k : w.cell? ⟨x, 1, none⟩ = some fx ∧ w.cell? ⟨x, 2, none⟩ = some lx ∧ w.cell? ⟨x, 4, none⟩ = some c) :
    (w.setCell ⟨g, i, none⟩ v).cell? ⟨x, 1, none⟩ = some fx ∧ (w.setCell ⟨g, i, none⟩ v).cell? ⟨x, 2, none⟩ = some lx ∧ (w.setCell ⟨g, i, none⟩ v).cell? ⟨x, 4, none⟩ = some c :=
  ⟨(World.cell?_setCell_far w ⟨g, i, none⟩ ⟨x, 1, none⟩ v h).trans k.1, (World.cell?_setCell_far w ⟨g, i, none⟩ ⟨x, 2, none⟩ v h).trans k.2.1, (World.cell?_setCell_far w ⟨g, i, none⟩ ⟨x, 4, none⟩ v h).trans k.2.2⟩
theorem no_mem {l : List Nat} (h : ∀ j, j ∉ l) : l = [] := List.eq_nil_iff_forall_not_mem.2 h
theorem Xt.lt {X : Nat → Prop} {w wr : World} {b : Nat} {f l : Value} {F L : List Nat} (hX : ∀ j, X j → j < w.heap.size) (hs : w.heap.size ≤ wr.heap.size) (hf : Oi wr b f F) (hl : Oi wr b l L) : ∀ j, Xt X f l j → j < wr.heap.size := by
  intro j hj
  rcases hj with hj | hj | hj
  · exact Nat.lt_of_lt_of_le (hX j hj) hs
  · exact (ow_blk hf j hj).2
  · exact (ow_blk hl j hj).2
theorem used_succ' {l : List RX} {i : Nat} {y : RX} (h : l[i]? = some y) : used l (i + 1) = used l i + y.nodes := by
  unfold used
  rw [List.take_add_one, h]
  simp
theorem used_step {l : List RX} {i : Nat} {y : RX} (h : l[i]? = some y) : used l i + y.nodes ≤ (l.map RX.nodes).sum := by
  rw [← used_succ' h]; exact used_le l _
theorem Ta.tell {X : Nat → Prop} {gp : Nat} {w wr : World} {S : List (Nat → Bool)} {G H : Nat → List Nat} {P : Pla} {nd : Nat} {v u f l r0 r1 r2 r3 r4 r5 : Value} {F L : List Nat} (h : Hid (Ta X gp w wr S G P nd v u f l F L H r0 r1 r2 r3 r4 r5)) :
    RwP X gp w S G P (1 + nd) (.returned (.agg #[.slice none 0 0, f, l, .slice none 0 0, .bool P.null])) (put5 wr (w.heap.size + 1) (.slice none 0 0) f l (.slice none 0 0) (.bool P.null)) := by
  have h' := h.out
  have hlo := h'.lo
  refine RwP.tell (P := P) (h'.wp.less (fun j _ e => .inl e)) h'.of.is h'.ol.is (fun j hj => ?_) h'.fl ⟨h'.hh.1, fun i => by have := h'.hh.2 i; omega⟩ h'.zb (by omega) h'.fp (by omega)
  rcases hj with hj | hj
  · exact (ow_blk h'.of j hj).1
  · exact (ow_blk h'.ol j hj).1

set_option maxRecDepth 20000 in
set_option maxHeartbeats 8000000 in
theorem rw_alt (p : Nat → Bool) (l : List RX) (hl : l.length < 100000) (IH : ∀ y ∈ l, RwC y ∧ y.formed = true) : RwC ⟨3, p, l⟩ := by
  intro X K gp v u S G a c w hp hK hW hc hf hG hR hX
  obtain ⟨BR, BZ, Q0⟩ := begin_boxes5 w (.int .i64 3) (.int .u64 (limb p 0)) (.int .u64 (limb p 1)) (.int .u64 (limb p 2)) (.int .u64 (limb p 3)) (.slice a l.length c)
  have HE : Hid (JP orP oP l l.length = RX.pla ⟨3, p, l⟩) := JP_or l p
  have HN : Hid (RX.nodes ⟨3, p, l⟩ = 1 + used l l.length) := by show _ = _; rw [nodes_eq, used_all]
  rw [← HE.out] at hc ⊢
  have HP : Hid (Parts l K w a c) := hp
  have HI : Hid _ := IH
  have HK : Hid (∀ j, K j → j < gp) := hK
  have HX : Hid (∀ j, X j → j < w.heap.size) := hX
  have HR : Hid (∀ i, S.length ≤ i → G i = []) := hR
  have HG : Hid (∀ i, (G i).length + 1600 * (1 + used l l.length) ≤ 64000) := fun i => by have := hG i; rw [HN.out] at this; exact this
  have HC : Hid (∀ i, S.length + (JP orP oP l i).cnt ≤ 40) := fun i => by have := JP_cnt (g := orP) (fun _ _ => rfl) oP l i; omega
  have HF : Hid (∀ i, (JP orP oP l i).Fine) := fun i => JP_fine orP_fine oP_fine l i
  have HW : Hid (gp < w.heap.size) := hW.out.lt
  have HWP : Hid (Wp X gp w v u S S.length G) := hW
  have hlen : l.length < 100000 := hl
  rw [HN.out]
  obtain ⟨k0, k1, k2, k3, k4, k5, _⟩ := B6.facts BR
  clear hp hK hW hc hf IH hG hR hX hl
  generalize limb p 0 = y0 at *
  generalize limb p 1 = y1 at *
  generalize limb p 2 = y2 at *
  generalize limb p 3 = y3 at *
  show Calls Tryd.prog 26 #[.pointer (some ⟨gp, 0, none⟩), .agg #[.int .i64 3, .int .u64 y0, .int .u64 y1, .int .u64 y2, .int .u64 y3, .slice a l.length c]] w fun e w' => RwP X gp w S G (JP orP oP l l.length) (1 + used l l.length) e w'
  have B0 : Hid (Ta X gp w (((w.alloc (.cells #[.int .i64 3, .int .u64 y0, .int .u64 y1, .int .u64 y2, .int .u64 y3, .slice a l.length c] 29)).alloc (zeros5 41)).alloc (zeros5 41)) S G (JP orP oP l 0) (used l 0) v u (.slice none 0 0) (.slice none 0 0) [] [] G (.int .i64 3) (.int .u64 y0) (.int .u64 y1) (.int .u64 y2) (.int .u64 y3) (.slice a l.length c)) := by
    have QA : Qt ((w.alloc (.cells #[.int .i64 3, .int .u64 y0, .int .u64 y1, .int .u64 y2, .int .u64 y3, .slice a l.length c] 29)).alloc (zeros5 41)) (((w.alloc (.cells #[.int .i64 3, .int .u64 y0, .int .u64 y1, .int .u64 y2, .int .u64 y3, .slice a l.length c] 29)).alloc (zeros5 41)).alloc (zeros5 41)) := Mv.alloc _ _ _
    have BO := B5p.new ((w.alloc (.cells #[.int .i64 3, .int .u64 y0, .int .u64 y1, .int .u64 y2, .int .u64 y3, .slice a l.length c] 29)).alloc (zeros5 41)) (.slice none 0 0) (.slice none 0 0) (.slice none 0 0) (.slice none 0 0) (.bool false)
    rw [show ((w.alloc (.cells #[.int .i64 3, .int .u64 y0, .int .u64 y1, .int .u64 y2, .int .u64 y3, .slice a l.length c] 29)).alloc (zeros5 41)).heap.size = w.heap.size + 2 from by simp] at BO
    have HWQ := HWP.out.qt (Q0.out.comp QA)
    refine ⟨?_, ⟨fun i j => ?_, fun i => ?_⟩, BO.out, Oi.nil _ _, Oi.nil _ _, (fun j hj => nomatch hj), ⟨fun n => ?_, fun n => ?_, Nat.zero_le _, Nat.zero_le _⟩, Fr.of_qt (Q0.out.comp QA), (B6.mv BR.out QA (fun h => h)).out, (B5p.mv BZ.out QA (fun h => h)).out, HW.out⟩
    · have e : S ++ (JP orP oP l 0).sets = S := by simp [JP_zero, oP]
      rw [e]
      exact HWQ.less (fun j _ e => by
        rcases e with e | e | e
        · exact e
        · cases e
        · cases e)
    · simp [JP_zero, oP]
    · omega
    · simp [JP_zero, oP]
    · simp [JP_zero, oP]
  go_enter Tryd.func26, Tryd.ntmps26
  go_wp2_with fail
  generalize (((w.alloc (.cells #[.int .i64 3, .int .u64 y0, .int .u64 y1, .int .u64 y2, .int .u64 y3, .slice a l.length c] 29)).alloc (.cells #[.slice none 0 0, .slice none 0 0, .slice none 0 0, .slice none 0 0, .bool false] 41)).alloc (.cells #[.slice none 0 0, .slice none 0 0, .slice none 0 0, .slice none 0 0, .bool false] 41)) = V0 at *
  clear k0 k1 k2 k3 k4 k5
  go_loopw [7] (fun s7 wr => ∃ (i : Nat) (v u f g : Value) (F L : List Nat) (H : Nat → List Nat), i ≤ l.length ∧ s7 = .int .i64 i ∧ Hid (Ta X gp w wr S G (JP orP oP l i) (used l i) v u f g F L H (.int .i64 3) (.int .u64 y0) (.int .u64 y1) (.int .u64 y2) (.int .u64 y3) (.slice a l.length c))) (fun s7 _ => l.length - (intOf s7).toNat)
  case atStart => exact ⟨0, v, u, .slice none 0 0, .slice none 0 0, [], [], G, by omega, rfl, B0⟩
  case round =>
    obtain ⟨i, v2, u2, f, g, F, L, H, hi, rfl, B⟩ := hrel
    clear B0
    obtain ⟨m0, m1, m2, m3, m4, m5, _⟩ := B6.facts (show Hid _ from B.out.rb)
    by_cases hlt : i < l.length
    · obtain ⟨y, hy⟩ : ∃ y, l[i]? = some y := ⟨_, List.getElem?_eq_getElem hlt⟩
      have hmem : y ∈ l := List.mem_of_getElem? hy
      have PR : Parts l K wr a c := Fr.parts B.out.fp HP.out HK.out
      obtain ⟨b', o', a2, c2, hab, hp2, q0, q1, q2, q3, q4, q5⟩ := PR.at (i := i) (x := y) hy
      subst hab
      have HJS : Hid (JP orP oP l (i + 1) = orP (JP orP oP l i) y.pla) := JP_succ orP oP hy
      have HJ2 : Hid (S.length + ((JP orP oP l i).cnt + y.pla.cnt) ≤ 40) := by have := HC.out (i + 1); rw [HJS.out] at this; exact this
      have HU : Hid (used l (i + 1) = used l i + y.nodes) := used_succ' hy
      have HF1 : Hid ((JP orP oP l i).Fine) := HF.out i
      have HS : Hid ((S ++ (JP orP oP l i).sets).length = S.length + (JP orP oP l i).cnt) := by show _ = _; rw [List.length_append, HF1.out.len]
      have hth := (HI.out y hmem).1 (Xt X f g) K gp v2 u2 _ H a2 c2 wr hp2 HK.out (show Hid _ from B.out.wp) (by rw [HS.out]; have := HJ2.out; omega) (HI.out y hmem).2 (fun j => by
        have h1 := B.out.hh.2 j
        have h2 := HG.out j
        have h3 := used_step hy
        rw [← used_all] at h3
        omega) (fun j hj => no_mem (fun n hn => by
          rw [B.out.hh.1, HR.out j (by rw [HS.out] at hj; omega)] at hn
          rcases hn with hn | hn
          · cases hn
          · have := (HF1.out.fol _ _ _ hn).1
            rw [HS.out] at hj; omega)) (Xt.lt HX.out B.out.fp.size B.out.of B.out.ol)
      obtain ⟨fa, fc, rfl⟩ := B.out.of.is.form
      obtain ⟨ga, gc, rfl⟩ := B.out.ol.is.form
      have hgo : w.heap.size + 2 < wr.heap.size := B.out.out.lt
      have hz0 : Hid (gp < w.heap.size) := HW
      clear PR hp2 hmem hy
      generalize JP orP oP l i = P at *
      generalize y.pla = Y at *
      generalize y.nodes = ny at *
      go_wp2_with fail
      refine hth.mono ?_
      rintro e w1 ⟨fx, lx, Fx, Lx, v1, u1, H1, rfl, iF, iL, hfr, hFL, W1, hH, F1⟩
      obtain ⟨xa, xc, rfl⟩ := iF.out.form
      obtain ⟨za, zc, rfl⟩ := iL.out.form
      obtain ⟨af, cf, V1, al, cl, V2, ra, rb, E0, E1, E2, TN⟩ := Ta.next B HF1.out (by have := HJ2.out; omega) iF iL hfr hFL W1 hH F1
      have hx1 : w1.heap.size ≠ w.heap.size + 2 := by have := Nat.lt_of_lt_of_le hgo F1.out.size; omega
      clear hth m0 m1 m2 m3 m4 m5 q0 q1 q2 q3 q4 q5
      obtain ⟨_, n1, n2, _, n4, _, o1, o2, _, o4⟩ := B5p.facts (show Hid _ from E2.out.1)
      have hsize1 : w.heap.size + 2 < w1.heap.size := Nat.lt_of_lt_of_le hgo F1.out.size
      go_wp2_with fail
      cases hpn : P.null with
      | true =>
        rw [hpn] at E0 E1 E2 TN
        rw [Bool.true_or] at TN
        refine Rast.begin (A := (fun w' => w'.cell? ⟨w1.heap.size, 1, none⟩ = some (.slice xa Fx.length xc) ∧ w'.cell? ⟨w1.heap.size, 2, none⟩ = some (.slice za Lx.length zc) ∧ w'.cell? ⟨w1.heap.size, 4, none⟩ = some (.bool Y.null))) (S := (fun w' => w'.cell? ⟨w.heap.size + 2, 1, none⟩ = some (.slice fa F.length fc) ∧ w'.cell? ⟨w.heap.size + 2, 2, none⟩ = some (.slice ga L.length gc) ∧ w'.cell? ⟨w.heap.size + 2, 4, none⟩ = some (.bool true))) (st := [17, 19, 21]) (by kernel_rfl) (kB E0.out.1 E0.out.2) (fun hHeld => ?_)
        refine Rast.plain (i := 0) _ (some 63) ?_ rfl rfl (by kernel_rfl) (by kernel_rfl) (by kernel_rfl) (by kernel_rfl) (fun _ _ _ h => h) (Or.inl ⟨by rfl, ?_⟩) (by assumption) ?_
        rotate_left
        · (intro w _; go_simp; try with_reducible rfl)
        try simp only [Act.put, List.setIfInBounds_toArray, List.set_cons_zero, List.set_cons_succ]
        refine Rast.take (i := 1) _ (some 64) ?_ rfl rfl (by kernel_rfl) (by kernel_rfl) (by kernel_rfl) (by kernel_rfl) (fun _ _ _ h => h) (Or.inl ⟨by rfl, ?_⟩) (by assumption) ?_
        rotate_left
        · (intro w hSw; (try dsimp only at hSw); go_simp; try with_reducible rfl)
        try simp only [Act.put, List.setIfInBounds_toArray, List.set_cons_zero, List.set_cons_succ]
        refine Rast.plain (i := 2) _ (some 65) ?_ rfl rfl (by kernel_rfl) (by kernel_rfl) (by kernel_rfl) (by kernel_rfl) (fun _ _ _ h => h) (Or.inl ⟨by rfl, ?_⟩) (by assumption) ?_
        rotate_left
        · (intro w _; go_simp; try with_reducible rfl)
        try simp only [Act.put, List.setIfInBounds_toArray, List.set_cons_zero, List.set_cons_succ]
        refine Rast.ever (i := 3) _ (some 66) ?_ rfl rfl (by kernel_rfl) (by kernel_rfl) (by kernel_rfl) (by kernel_rfl) (fun _ _ _ h => h) (Or.inl ⟨by rfl, ?_⟩) (by assumption) ?_
        rotate_left
        · (intro w hSw; (try dsimp only at hSw); go_simp; try with_reducible rfl)
        try simp only [Act.put, List.setIfInBounds_toArray, List.set_cons_zero, List.set_cons_succ]
        refine Rast.plain (i := 5) _ (some 68) ?_ rfl rfl (by kernel_rfl) (by kernel_rfl) (by kernel_rfl) (by kernel_rfl) (fun _ _ _ h => h) (Or.inl ⟨by rfl, ?_⟩) (by assumption) ?_
        rotate_left
        · (intro w _; go_simp; try with_reducible rfl)
        try simp only [Act.put, List.setIfInBounds_toArray, List.set_cons_zero, List.set_cons_succ]
        refine Rast.take (i := 6) _ (some 69) ?_ rfl rfl (by kernel_rfl) (by kernel_rfl) (by kernel_rfl) (by kernel_rfl) (fun _ _ _ h => h) (Or.inl ⟨by rfl, ?_⟩) (by assumption) ?_
        rotate_left
        · (intro w hSw; (try dsimp only at hSw); go_simp; try with_reducible rfl)
        try simp only [Act.put, List.setIfInBounds_toArray, List.set_cons_zero, List.set_cons_succ]
        refine Rast.plain (i := 7) _ (some 70) ?_ rfl rfl (by kernel_rfl) (by kernel_rfl) (by kernel_rfl) (by kernel_rfl) (fun _ _ _ h => h) (Or.inl ⟨by rfl, ?_⟩) (by assumption) ?_
        rotate_left
        · (intro w _; go_simp; try with_reducible rfl)
        try simp only [Act.put, List.setIfInBounds_toArray, List.set_cons_zero, List.set_cons_succ]
        refine Rast.ever (i := 8) _ (some 71) ?_ rfl rfl (by kernel_rfl) (by kernel_rfl) (by kernel_rfl) (by kernel_rfl) (fun _ _ _ h => h) (Or.inl ⟨by rfl, ?_⟩) (by assumption) ?_
        rotate_left
        · (intro w hSw; (try dsimp only at hSw); go_simp; try with_reducible rfl)
        try simp only [Act.put, List.setIfInBounds_toArray, List.set_cons_zero, List.set_cons_succ]
        refine Rast.plain (i := 10) _ (some 73) ?_ rfl rfl (by kernel_rfl) (by kernel_rfl) (by kernel_rfl) (by kernel_rfl) (fun _ _ _ h => h) (Or.inl ⟨by rfl, ?_⟩) (by assumption) ?_
        rotate_left
        · (intro w _; go_simp; try with_reducible rfl)
        try simp only [Act.put, List.setIfInBounds_toArray, List.set_cons_zero, List.set_cons_succ]
        refine Rast.take (i := 11) _ (some 74) ?_ rfl rfl (by kernel_rfl) (by kernel_rfl) (by kernel_rfl) (by kernel_rfl) (fun _ _ _ h => h) (Or.inl ⟨by rfl, ?_⟩) (by assumption) ?_
        rotate_left
        · (intro w hSw; (try dsimp only at hSw); go_simp; try with_reducible rfl)
        try simp only [Act.put, List.setIfInBounds_toArray, List.set_cons_zero, List.set_cons_succ]
        refine Rast.one (i := 4) (by kernel_rfl) rfl (fun K hK => ?_)
        refine step_given rfl (.tmp 64) (.tmp 66) 34 rfl _ _ _ rfl rfl V1 ra ?_
        refine hK.out _ _ (kB E1.out.1 E1.out.2) (fun hHeld => ?_)
        try simp only [Act.put, List.setIfInBounds_toArray, List.set_cons_zero, List.set_cons_succ]
        clear hK K
        refine Rast.plain (i := 16) _ (some 79) ?_ rfl rfl (by kernel_rfl) (by kernel_rfl) (by kernel_rfl) (by kernel_rfl) (fun _ _ _ h => h) (Or.inl ⟨by rfl, ?_⟩) (by assumption) ?_
        rotate_left
        · (intro w _; go_simp; try with_reducible rfl)
        try simp only [Act.put, List.setIfInBounds_toArray, List.set_cons_zero, List.set_cons_succ]
        refine Rast.one (i := 9) (by kernel_rfl) rfl (fun K hK => ?_)
        refine step_given rfl (.tmp 69) (.tmp 71) 34 rfl _ _ _ rfl rfl V2 rb ?_
        refine hK.out _ _ (kB E2.out.1 E2.out.2) (fun hHeld => ?_)
        try simp only [Act.put, List.setIfInBounds_toArray, List.set_cons_zero, List.set_cons_succ]
        clear hK K
        refine Rast.plain (i := 12) _ (some 75) ?_ rfl rfl (by kernel_rfl) (by kernel_rfl) (by kernel_rfl) (by kernel_rfl) (fun _ _ _ h => h) (Or.inl ⟨by rfl, ?_⟩) (by assumption) ?_
        rotate_left
        · (intro w _; go_simp; try with_reducible rfl)
        try simp only [Act.put, List.setIfInBounds_toArray, List.set_cons_zero, List.set_cons_succ]
        refine Rast.plain (i := 13) _ (some 76) undef rfl rfl (by kernel_rfl) (by kernel_rfl) (by kernel_rfl) (by kernel_rfl) (fun _ _ _ h => h) (Or.inr ⟨by rfl, rfl⟩) (by assumption) ?_
        try simp only [Act.put, List.setIfInBounds_toArray, List.set_cons_zero, List.set_cons_succ]
        refine Rast.plain (i := 14) _ (some 77) undef rfl rfl (by kernel_rfl) (by kernel_rfl) (by kernel_rfl) (by kernel_rfl) (fun _ _ _ h => h) (Or.inr ⟨by rfl, rfl⟩) (by assumption) ?_
        try simp only [Act.put, List.setIfInBounds_toArray, List.set_cons_zero, List.set_cons_succ]
        refine Rast.plain (i := 15) _ (some 78) ?_ rfl rfl (by kernel_rfl) (by kernel_rfl) (by kernel_rfl) (by kernel_rfl) (fun _ _ _ h => h) (Or.inl ⟨by rfl, ?_⟩) (by assumption) ?_
        rotate_left
        · (intro w _; go_simp; try with_reducible rfl)
        try simp only [Act.put, List.setIfInBounds_toArray, List.set_cons_zero, List.set_cons_succ]
        refine Rast.last (i := 17) (by kernel_rfl) rfl (by kernel_rfl) (fun K hK => ?_)
        go_simp
        refine hK.out _ _ (kx (by omega) hHeld.1) (fun hA => ?_)
        try simp only [Act.put, List.setIfInBounds_toArray, List.set_cons_zero, List.set_cons_succ]
        clear hK K
        refine Rast.last (i := 18) (by kernel_rfl) rfl (by kernel_rfl) (fun K hK => ?_)
        go_simp
        refine hK.out _ _ (hA) (fun hA => ?_)
        try simp only [Act.put, List.setIfInBounds_toArray, List.set_cons_zero, List.set_cons_succ]
        clear hK K
        refine Rast.last (i := 19) (by kernel_rfl) rfl (by kernel_rfl) (fun K hK => ?_)
        go_simp
        refine hK.out _ _ (kx (by omega) hA) (fun hA => ?_)
        try simp only [Act.put, List.setIfInBounds_toArray, List.set_cons_zero, List.set_cons_succ]
        clear hK K
        refine Rast.last (i := 20) (by kernel_rfl) rfl (by kernel_rfl) (fun K hK => ?_)
        go_simp
        refine hK.out _ _ (hA) (fun hA => ?_)
        try simp only [Act.put, List.setIfInBounds_toArray, List.set_cons_zero, List.set_cons_succ]
        clear hK K
        refine Rast.last (i := 21) (by kernel_rfl) rfl (by kernel_rfl) (fun K hK => ?_)
        go_simp
        refine hK.out _ _ (kx (by omega) hA) (fun hA => ?_)
        try simp only [Act.put, List.setIfInBounds_toArray, List.set_cons_zero, List.set_cons_succ]
        clear hK K
        refine Rast.done (by kernel_rfl) ?_ _
        go_wp2_with fail
        refine ⟨⟨i + 1, v1, u1, .slice af (F.length + Fx.length) cf, .slice al (L.length + Lx.length) cl, F ++ Fx, L ++ Lx, H1, by omega, by go_num, ?_⟩, by simp [intOf]; omega⟩
        rw [HJS.out, HU.out]
        exact TN
      | false =>
        rw [hpn] at E0 E1 E2 TN
        rw [Bool.false_or] at TN
        refine Rast.begin (A := (fun w' => w'.cell? ⟨w1.heap.size, 1, none⟩ = some (.slice xa Fx.length xc) ∧ w'.cell? ⟨w1.heap.size, 2, none⟩ = some (.slice za Lx.length zc) ∧ w'.cell? ⟨w1.heap.size, 4, none⟩ = some (.bool Y.null))) (S := (fun w' => w'.cell? ⟨w.heap.size + 2, 1, none⟩ = some (.slice fa F.length fc) ∧ w'.cell? ⟨w.heap.size + 2, 2, none⟩ = some (.slice ga L.length gc) ∧ w'.cell? ⟨w.heap.size + 2, 4, none⟩ = some (.bool false))) (st := [17, 19, 21]) (by kernel_rfl) (kB E0.out.1 E0.out.2) (fun hHeld => ?_)
        refine Rast.plain (i := 0) _ (some 63) ?_ rfl rfl (by kernel_rfl) (by kernel_rfl) (by kernel_rfl) (by kernel_rfl) (fun _ _ _ h => h) (Or.inl ⟨by rfl, ?_⟩) (by assumption) ?_
        rotate_left
        · (intro w _; go_simp; try with_reducible rfl)
        try simp only [Act.put, List.setIfInBounds_toArray, List.set_cons_zero, List.set_cons_succ]
        refine Rast.take (i := 1) _ (some 64) ?_ rfl rfl (by kernel_rfl) (by kernel_rfl) (by kernel_rfl) (by kernel_rfl) (fun _ _ _ h => h) (Or.inl ⟨by rfl, ?_⟩) (by assumption) ?_
        rotate_left
        · (intro w hSw; (try dsimp only at hSw); go_simp; try with_reducible rfl)
        try simp only [Act.put, List.setIfInBounds_toArray, List.set_cons_zero, List.set_cons_succ]
        refine Rast.plain (i := 2) _ (some 65) ?_ rfl rfl (by kernel_rfl) (by kernel_rfl) (by kernel_rfl) (by kernel_rfl) (fun _ _ _ h => h) (Or.inl ⟨by rfl, ?_⟩) (by assumption) ?_
        rotate_left
        · (intro w _; go_simp; try with_reducible rfl)
        try simp only [Act.put, List.setIfInBounds_toArray, List.set_cons_zero, List.set_cons_succ]
        refine Rast.ever (i := 3) _ (some 66) ?_ rfl rfl (by kernel_rfl) (by kernel_rfl) (by kernel_rfl) (by kernel_rfl) (fun _ _ _ h => h) (Or.inl ⟨by rfl, ?_⟩) (by assumption) ?_
        rotate_left
        · (intro w hSw; (try dsimp only at hSw); go_simp; try with_reducible rfl)
        try simp only [Act.put, List.setIfInBounds_toArray, List.set_cons_zero, List.set_cons_succ]
        refine Rast.plain (i := 5) _ (some 68) ?_ rfl rfl (by kernel_rfl) (by kernel_rfl) (by kernel_rfl) (by kernel_rfl) (fun _ _ _ h => h) (Or.inl ⟨by rfl, ?_⟩) (by assumption) ?_
        rotate_left
        · (intro w _; go_simp; try with_reducible rfl)
        try simp only [Act.put, List.setIfInBounds_toArray, List.set_cons_zero, List.set_cons_succ]
        refine Rast.take (i := 6) _ (some 69) ?_ rfl rfl (by kernel_rfl) (by kernel_rfl) (by kernel_rfl) (by kernel_rfl) (fun _ _ _ h => h) (Or.inl ⟨by rfl, ?_⟩) (by assumption) ?_
        rotate_left
        · (intro w hSw; (try dsimp only at hSw); go_simp; try with_reducible rfl)
        try simp only [Act.put, List.setIfInBounds_toArray, List.set_cons_zero, List.set_cons_succ]
        refine Rast.plain (i := 7) _ (some 70) ?_ rfl rfl (by kernel_rfl) (by kernel_rfl) (by kernel_rfl) (by kernel_rfl) (fun _ _ _ h => h) (Or.inl ⟨by rfl, ?_⟩) (by assumption) ?_
        rotate_left
        · (intro w _; go_simp; try with_reducible rfl)
        try simp only [Act.put, List.setIfInBounds_toArray, List.set_cons_zero, List.set_cons_succ]
        refine Rast.ever (i := 8) _ (some 71) ?_ rfl rfl (by kernel_rfl) (by kernel_rfl) (by kernel_rfl) (by kernel_rfl) (fun _ _ _ h => h) (Or.inl ⟨by rfl, ?_⟩) (by assumption) ?_
        rotate_left
        · (intro w hSw; (try dsimp only at hSw); go_simp; try with_reducible rfl)
        try simp only [Act.put, List.setIfInBounds_toArray, List.set_cons_zero, List.set_cons_succ]
        refine Rast.plain (i := 10) _ (some 73) ?_ rfl rfl (by kernel_rfl) (by kernel_rfl) (by kernel_rfl) (by kernel_rfl) (fun _ _ _ h => h) (Or.inl ⟨by rfl, ?_⟩) (by assumption) ?_
        rotate_left
        · (intro w _; go_simp; try with_reducible rfl)
        try simp only [Act.put, List.setIfInBounds_toArray, List.set_cons_zero, List.set_cons_succ]
        refine Rast.take (i := 11) _ (some 74) ?_ rfl rfl (by kernel_rfl) (by kernel_rfl) (by kernel_rfl) (by kernel_rfl) (fun _ _ _ h => h) (Or.inl ⟨by rfl, ?_⟩) (by assumption) ?_
        rotate_left
        · (intro w hSw; (try dsimp only at hSw); go_simp; try with_reducible rfl)
        try simp only [Act.put, List.setIfInBounds_toArray, List.set_cons_zero, List.set_cons_succ]
        refine Rast.one (i := 4) (by kernel_rfl) rfl (fun K hK => ?_)
        refine step_given rfl (.tmp 64) (.tmp 66) 34 rfl _ _ _ rfl rfl V1 ra ?_
        refine hK.out _ _ (kB E1.out.1 E1.out.2) (fun hHeld => ?_)
        try simp only [Act.put, List.setIfInBounds_toArray, List.set_cons_zero, List.set_cons_succ]
        clear hK K
        refine Rast.plain (i := 16) _ (some 79) ?_ rfl rfl (by kernel_rfl) (by kernel_rfl) (by kernel_rfl) (by kernel_rfl) (fun _ _ _ h => h) (Or.inl ⟨by rfl, ?_⟩) (by assumption) ?_
        rotate_left
        · (intro w _; go_simp; try with_reducible rfl)
        try simp only [Act.put, List.setIfInBounds_toArray, List.set_cons_zero, List.set_cons_succ]
        refine Rast.one (i := 9) (by kernel_rfl) rfl (fun K hK => ?_)
        refine step_given rfl (.tmp 69) (.tmp 71) 34 rfl _ _ _ rfl rfl V2 rb ?_
        refine hK.out _ _ (kB E2.out.1 E2.out.2) (fun hHeld => ?_)
        try simp only [Act.put, List.setIfInBounds_toArray, List.set_cons_zero, List.set_cons_succ]
        clear hK K
        refine Rast.plain (i := 12) _ (some 75) ?_ rfl rfl (by kernel_rfl) (by kernel_rfl) (by kernel_rfl) (by kernel_rfl) (fun _ _ _ h => h) (Or.inl ⟨by rfl, ?_⟩) (by assumption) ?_
        rotate_left
        · (intro w _; go_simp; try with_reducible rfl)
        try simp only [Act.put, List.setIfInBounds_toArray, List.set_cons_zero, List.set_cons_succ]
        refine Rast.plain (i := 13) _ (some 76) ?_ rfl rfl (by kernel_rfl) (by kernel_rfl) (by kernel_rfl) (by kernel_rfl) (fun _ _ _ h => h) (Or.inl ⟨by rfl, ?_⟩) (by assumption) ?_
        rotate_left
        · (intro w _; go_simp; try with_reducible rfl)
        try simp only [Act.put, List.setIfInBounds_toArray, List.set_cons_zero, List.set_cons_succ]
        refine Rast.ever (i := 14) _ (some 77) ?_ rfl rfl (by kernel_rfl) (by kernel_rfl) (by kernel_rfl) (by kernel_rfl) (fun _ _ _ h => h) (Or.inl ⟨by rfl, ?_⟩) (by assumption) ?_
        rotate_left
        · (intro w hSw; (try dsimp only at hSw); go_simp; try with_reducible rfl)
        try simp only [Act.put, List.setIfInBounds_toArray, List.set_cons_zero, List.set_cons_succ]
        refine Rast.plain (i := 15) _ (some 78) ?_ rfl rfl (by kernel_rfl) (by kernel_rfl) (by kernel_rfl) (by kernel_rfl) (fun _ _ _ h => h) (Or.inl ⟨by rfl, ?_⟩) (by assumption) ?_
        rotate_left
        · (intro w _; go_simp; try with_reducible rfl)
        try simp only [Act.put, List.setIfInBounds_toArray, List.set_cons_zero, List.set_cons_succ]
        refine Rast.last (i := 17) (by kernel_rfl) rfl (by kernel_rfl) (fun K hK => ?_)
        go_simp
        refine hK.out _ _ (kx (by omega) hHeld.1) (fun hA => ?_)
        try simp only [Act.put, List.setIfInBounds_toArray, List.set_cons_zero, List.set_cons_succ]
        clear hK K
        refine Rast.last (i := 18) (by kernel_rfl) rfl (by kernel_rfl) (fun K hK => ?_)
        go_simp
        refine hK.out _ _ (hA) (fun hA => ?_)
        try simp only [Act.put, List.setIfInBounds_toArray, List.set_cons_zero, List.set_cons_succ]
        clear hK K
        refine Rast.last (i := 19) (by kernel_rfl) rfl (by kernel_rfl) (fun K hK => ?_)
        go_simp
        refine hK.out _ _ (kx (by omega) hA) (fun hA => ?_)
        try simp only [Act.put, List.setIfInBounds_toArray, List.set_cons_zero, List.set_cons_succ]
        clear hK K
        refine Rast.last (i := 20) (by kernel_rfl) rfl (by kernel_rfl) (fun K hK => ?_)
        go_simp
        refine hK.out _ _ (hA) (fun hA => ?_)
        try simp only [Act.put, List.setIfInBounds_toArray, List.set_cons_zero, List.set_cons_succ]
        clear hK K
        refine Rast.last (i := 21) (by kernel_rfl) rfl (by kernel_rfl) (fun K hK => ?_)
        go_simp
        refine hK.out _ _ (kx (by omega) hA) (fun hA => ?_)
        try simp only [Act.put, List.setIfInBounds_toArray, List.set_cons_zero, List.set_cons_succ]
        clear hK K
        refine Rast.done (by kernel_rfl) ?_ _
        go_wp2_with fail
        refine ⟨⟨i + 1, v1, u1, .slice af (F.length + Fx.length) cf, .slice al (L.length + Lx.length) cl, F ++ Fx, L ++ Lx, H1, by omega, by go_num, ?_⟩, by simp [intOf]; omega⟩
        rw [HJS.out, HU.out]
        exact TN
    · obtain rfl : i = l.length := by omega
      obtain ⟨fa, fc, rfl⟩ := B.out.of.is.form
      obtain ⟨ga, gc, rfl⟩ := B.out.ol.is.form
      obtain ⟨x0, x1, x2, x3, x4, x5, x6, x7, x8, x9⟩ := B5p.facts (show Hid _ from B.out.out)
      obtain ⟨z0, z1, z2, z3, z4, z5, z6, z7, z8, z9⟩ := B5p.facts (show Hid _ from B.out.zb)
      have BZ2 : Hid (B5p 41 (w.heap.size + 1) (.slice none 0 0) (.slice none 0 0) (.slice none 0 0) (.slice none 0 0) (.bool false) wr) := B.out.zb
      go_wp2_with fail
      refine bodyPost_ret (results_cell_row (p := 4) (ty := 41) rfl _ _ (w.heap.size + 1) 41 _ (0, 0) _ rfl (put5_heap BZ2.out _ _ _ _ _) Tryd.underlying41 rfl (by kernel_rfl)) rfl ?_
      exact Ta.tell B

end Go.Proofs.YtojbakkbmfgoaaaDoor

namespace Go.Proofs.YtojbakkbmfgoaaaDoor
open Go.RowKit
set_option linter.unusedVariables false
set_option linter.unusedSimpArgs false

/-- While parts are gone through, one behind the other. -/
structure Tc (X : Nat → Prop) (gp : Nat) (w wr : World) (S : List (Nat → Bool)) (G : Nat → List Nat) (P : Pla) (nd : Nat) (v u f l : Value) (F L : List Nat) (H : Nat → List Nat) (r0 r1 r2 r3 r4 r5 : Value) : Prop where
  wp : Wp X gp wr v u (S ++ P.sets) (S ++ P.sets).length H
  hh : (∀ i j, j ∈ H i ↔ j ∈ G i ∨ P.fol S.length i j = true) ∧ ∀ i, (H i).length ≤ (G i).length + 1600 * nd
  out : B5p 41 (w.heap.size + 2) (.slice none 0 0) f l (.slice none 0 0) (.bool P.null) wr
  of : Is wr f F
  ol : Is wr l L
  fr : Fresh w f l
  fl : Fl P S.length F L
  fp : Fp gp w wr
  rb : B6 w.heap.size r0 r1 r2 r3 r4 r5 wr
  zb : B5p 41 (w.heap.size + 1) (.slice none 0 0) (.slice none 0 0) (.slice none 0 0) (.slice none 0 0) (.bool false) wr
  lo : gp < w.heap.size
theorem Tc.tell {X : Nat → Prop} {gp : Nat} {w wr : World} {S : List (Nat → Bool)} {G H : Nat → List Nat} {P : Pla} {nd : Nat} {v u f l r0 r1 r2 r3 r4 r5 : Value} {F L : List Nat} (h : Hid (Tc X gp w wr S G P nd v u f l F L H r0 r1 r2 r3 r4 r5)) :
    RwP X gp w S G P (1 + nd) (.returned (.agg #[.slice none 0 0, f, l, .slice none 0 0, .bool P.null])) (put5 wr (w.heap.size + 1) (.slice none 0 0) f l (.slice none 0 0) (.bool P.null)) := by
  have h' := h.out
  have hlo := h'.lo
  exact RwP.tell (P := P) h'.wp h'.of h'.ol h'.fr h'.fl ⟨h'.hh.1, fun i => by have := h'.hh.2 i; omega⟩ h'.zb (by omega) h'.fp (by omega)
/-- Within a round. -/
structure Tm (X : Nat → Prop) (gp : Nat) (w W : World) (T : List (Nat → Bool)) (H : Nat → List Nat) (v u f l fx lx : Value) (b c : Bool) (g : Nat) (F L Fx Lx : List Nat) (r0 r1 r2 r3 r4 r5 : Value) : Prop where
  wp : Wp X gp W v u T T.length H
  out : B5p 41 (w.heap.size + 2) (.slice none 0 0) f l (.slice none 0 0) (.bool b) W
  xb : B5p 41 g (.slice none 0 0) fx lx (.slice none 0 0) (.bool c) W
  of : Is W f F
  ol : Is W l L
  ofx : Is W fx Fx
  olx : Is W lx Lx
  fr : Fresh w f l
  frx : Fresh w fx lx
  fp : Fp gp w W
  rb : B6 w.heap.size r0 r1 r2 r3 r4 r5 W
  zb : B5p 41 (w.heap.size + 1) (.slice none 0 0) (.slice none 0 0) (.slice none 0 0) (.slice none 0 0) (.bool false) W
  lo : gp < w.heap.size
  hg : w.heap.size + 2 < g
section
variable {X : Nat → Prop} {gp : Nat} {w W W' : World} {T : List (Nat → Bool)} {H : Nat → List Nat} {v u f l fx lx f' : Value} {b c : Bool} {g : Nat} {F L Fx Lx F' : List Nat} {r0 r1 r2 r3 r4 r5 : Value}
theorem Tm.qt (h : Hid (Tm X gp w W T H v u f l fx lx b c g F L Fx Lx r0 r1 r2 r3 r4 r5)) (q : Qt W W') : Hid (Tm X gp w W' T H v u f l fx lx b c g F L Fx Lx r0 r1 r2 r3 r4 r5) :=
  ⟨h.out.wp.qt q, (B5p.mv h.out.out q (fun h => h)).out, (B5p.mv h.out.xb q (fun h => h)).out, h.out.of.qt q, h.out.ol.qt q, h.out.ofx.qt q, h.out.olx.qt q, h.out.fr, h.out.frx, h.out.fp.qt q, (B6.mv h.out.rb q (fun h => h)).out, (B5p.mv h.out.zb q (fun h => h)).out, h.out.lo, h.out.hg⟩
theorem Tm.set (h : Hid (Tm X gp w W T H v u f l fx lx b c g F L Fx Lx r0 r1 r2 r3 r4 r5)) (m : Mv (fun j => j = w.heap.size + 2) W W') {s t : Value} {d : Bool} {F2 L2 : List Nat} (ho : B5p 41 (w.heap.size + 2) (.slice none 0 0) s t (.slice none 0 0) (.bool d) W') (i1 : Is W s F2) (i2 : Is W t L2) (hf : Fresh w s t) : Hid (Tm X gp w W' T H v u s t fx lx d c g F2 L2 Fx Lx r0 r1 r2 r3 r4 r5) := by
  have h' := h.out
  have h0 := h'.lo
  have h1 := h'.hg
  have k3 : ∀ t, t ≠ 41 → ∀ j cs, W.heap[j]? = some (.cells cs t (0, 0)) → ¬ j = w.heap.size + 2 := by
    intro t ht j cs hj e
    rw [e] at hj
    exact ht (not_typed hj h'.out)
  exact ⟨Wp.box h'.wp h'.out (by decide) (by omega) m, ho, (B5p.mv h'.xb m (by omega)).out, i1.mv m (k3 3 (by decide)), i2.mv m (k3 3 (by decide)), h'.ofx.mv m (k3 3 (by decide)), h'.olx.mv m (k3 3 (by decide)), hf, h'.frx, Fp.box h'.fp m (by omega), (B6.mv h'.rb m (by omega)).out, (B5p.mv h'.zb m (by omega)).out, h0, h1⟩
theorem Tm.k1 (h : Hid (Tm X gp w W T H v u f l fx lx b c g F L Fx Lx r0 r1 r2 r3 r4 r5)) : W.cell? ⟨w.heap.size + 2, 1, none⟩ = some f ∧ W.cell? ⟨g, 1, none⟩ = some fx := by
  obtain ⟨_, a1, a2, _, a4, _⟩ := B5p.facts (show Hid _ from h.out.out)
  obtain ⟨_, b1, b2, _, b4, _⟩ := B5p.facts (show Hid _ from h.out.xb)
  exact ⟨a1, b1⟩
theorem Tm.k2 (h : Hid (Tm X gp w W T H v u f l fx lx b c g F L Fx Lx r0 r1 r2 r3 r4 r5)) : W.cell? ⟨w.heap.size + 2, 2, none⟩ = some l ∧ W.cell? ⟨g, 2, none⟩ = some lx := by
  obtain ⟨_, a1, a2, _, a4, _⟩ := B5p.facts (show Hid _ from h.out.out)
  obtain ⟨_, b1, b2, _, b4, _⟩ := B5p.facts (show Hid _ from h.out.xb)
  exact ⟨a2, b2⟩
/-- The first ones are joined. -/
theorem Tm.first (h : Hid (Tm X gp w W T H v u f l fx lx b c g F L Fx Lx r0 r1 r2 r3 r4 r5)) (hl : F.length + Fx.length < 100000) :
    ∃ v1 W1 a2 c2 W2, (Builtin.append_ #[34, 34] 34 #[.slice (some ⟨W.drew.heap.size, 0, none⟩) 0 0, f]).run Tryd.prog (W.drew.alloc (.cells #[] 3)) = .ok v1 W1 ∧ (Builtin.append_ #[34, 34] 34 #[v1, fx]).run Tryd.prog W1 = .ok (.slice a2 (F.length + Fx.length) c2) W2 ∧ Hid (∃ a c, v1 = .slice a F.length c) ∧ Hid (Qt W W1) ∧ Hid (Qt W W2) ∧
      Hid (Tm X gp w (W2.setCell ⟨w.heap.size + 2, 1, none⟩ (.slice a2 (F.length + Fx.length) c2)) T H v u (.slice a2 (F.length + Fx.length) c2) l fx lx b c g (F ++ Fx) L Fx Lx r0 r1 r2 r3 r4 r5) := by
  have QD : Qt W W.drew := Qt.drew (Qt.refl _)
  obtain ⟨v1, W1, a2, c2, W2, e1, e2, q1, q2, I2, F1, O2⟩ := twice (h.out.of.qt QD) (h.out.ofx.qt QD) hl
  have Q2 : Qt W W2 := QD.comp q2.out
  have h2 := Tm.qt h Q2
  refine ⟨v1, W1, a2, c2, W2, e1, e2, F1, QD.comp q1.out, Q2, ?_⟩
  refine Tm.set h2 (Mv.setCell W2 ⟨w.heap.size + 2, 1, none⟩ _) (heap_set h2.out.out) I2.out h2.out.ol (fun j hj => ?_)
  rcases hj with hj | hj
  · have a1 := (ow_blk O2.out j hj).1
    have a2 := h.out.fp.size
    have a3 := QD.size
    omega
  · exact h.out.fr j (.inr hj)
/-- The last ones are joined. -/
theorem Tm.last (h : Hid (Tm X gp w W T H v u f l fx lx b c g F L Fx Lx r0 r1 r2 r3 r4 r5)) (hl : L.length + Lx.length < 100000) :
    ∃ v1 W1 a2 c2 W2, (Builtin.append_ #[34, 34] 34 #[.slice (some ⟨W.drew.heap.size, 0, none⟩) 0 0, l]).run Tryd.prog (W.drew.alloc (.cells #[] 3)) = .ok v1 W1 ∧ (Builtin.append_ #[34, 34] 34 #[v1, lx]).run Tryd.prog W1 = .ok (.slice a2 (L.length + Lx.length) c2) W2 ∧ Hid (∃ a c, v1 = .slice a L.length c) ∧ Hid (Qt W W1) ∧ Hid (Qt W W2) ∧
      Hid (Tm X gp w (W2.setCell ⟨w.heap.size + 2, 2, none⟩ (.slice a2 (L.length + Lx.length) c2)) T H v u f (.slice a2 (L.length + Lx.length) c2) fx lx b c g F (L ++ Lx) Fx Lx r0 r1 r2 r3 r4 r5) := by
  have QD : Qt W W.drew := Qt.drew (Qt.refl _)
  obtain ⟨v1, W1, a2, c2, W2, e1, e2, q1, q2, I2, F1, O2⟩ := twice (h.out.ol.qt QD) (h.out.olx.qt QD) hl
  have Q2 : Qt W W2 := QD.comp q2.out
  have h2 := Tm.qt h Q2
  refine ⟨v1, W1, a2, c2, W2, e1, e2, F1, QD.comp q1.out, Q2, ?_⟩
  refine Tm.set h2 (Mv.setCell W2 ⟨w.heap.size + 2, 2, none⟩ _) (heap_set h2.out.out) h2.out.of I2.out (fun j hj => ?_)
  rcases hj with hj | hj
  · exact h.out.fr j (.inl hj)
  · have a1 := (ow_blk O2.out j hj).1
    have a2 := h.out.fp.size
    have a3 := QD.size
    omega
theorem Tm.only (h : Hid (Tm X gp w W T H v u f l fx lx b c g F L Fx Lx r0 r1 r2 r3 r4 r5)) : Hid (Tm X gp w (W.setCell ⟨w.heap.size + 2, 2, none⟩ lx) T H v u f lx fx lx b c g F Lx Fx Lx r0 r1 r2 r3 r4 r5) :=
  Tm.set h (Mv.setCell W ⟨w.heap.size + 2, 2, none⟩ _) (heap_set h.out.out) h.out.of h.out.olx (fun j hj => by
    rcases hj with hj | hj
    · exact h.out.fr j (.inl hj)
    · exact h.out.frx j (.inr hj))
theorem Tm.null (h : Hid (Tm X gp w W T H v u f l fx lx b c g F L Fx Lx r0 r1 r2 r3 r4 r5)) (d : Bool) : Hid (Tm X gp w (W.setCell ⟨w.heap.size + 2, 4, none⟩ (.bool d)) T H v u f l fx lx d c g F L Fx Lx r0 r1 r2 r3 r4 r5) :=
  Tm.set h (Mv.setCell W ⟨w.heap.size + 2, 4, none⟩ _) (heap_set h.out.out) h.out.of h.out.ol h.out.fr
end
theorem fl_then {P Y : Pla} {k : Nat} {F L Fx Lx F2 L2 : List Nat} (h : Fl P k F L) (g : Fl Y (k + P.cnt) Fx Lx) (e1 : F2 = if P.null = true then F ++ Fx else F) (e2 : L2 = if Y.null = true then L ++ Lx else Lx) : Fl (thenP P Y) k F2 L2 := by
  obtain ⟨h1, h2, h3, h4⟩ := h
  obtain ⟨g1, g2, g3, g4⟩ := g
  subst e1 e2
  refine ⟨fun n => ?_, fun n => ?_, ?_, ?_⟩
  · show _ ↔ (P.fst k n || (P.null && Y.fst (k + P.cnt) n)) = true
    cases P.null <;> simp [h1, g1]
  · show _ ↔ (Y.lst (k + P.cnt) n || (Y.null && P.lst k n)) = true
    cases Y.null <;> simp [h2, g2, or_comm]
  · show _ ≤ P.cnt + Y.cnt
    split
    · rw [List.length_append]; omega
    · omega
  · show _ ≤ P.cnt + Y.cnt
    split
    · rw [List.length_append]; omega
    · omega
theorem goes_then {P Y : Pla} {k nd ny : Nat} {G H H1 : Nat → List Nat} {F L Fx Lx : List Nat} (h : Fl P k F L) (g : Fl Y (k + P.cnt) Fx Lx) (hc : P.cnt + Y.cnt ≤ 40) (hh : (∀ i j, j ∈ H i ↔ j ∈ G i ∨ P.fol k i j = true) ∧ ∀ i, (H i).length ≤ (G i).length + 1600 * nd) (hH : (∀ i j, j ∈ H1 i ↔ j ∈ H i ∨ Y.fol (k + P.cnt) i j = true) ∧ ∀ i, (H1 i).length + 1600 ≤ (H i).length + 1600 * ny) :
    (∀ i j, j ∈ goesG H1 L Fx i ↔ j ∈ G i ∨ (thenP P Y).fol k i j = true) ∧ ∀ i, (goesG H1 L Fx i).length ≤ (G i).length + 1600 * (nd + ny) := by
  obtain ⟨h1, h2, h3, h4⟩ := h
  obtain ⟨g1, g2, g3, g4⟩ := g
  refine ⟨fun i j => ?_, fun i => ?_⟩
  · rw [goesG_mem, hH.1, hh.1, h2, g1]
    show _ ↔ j ∈ G i ∨ (P.fol k i j || (Y.fol (k + P.cnt) i j || (P.lst k i && Y.fst (k + P.cnt) j))) = true
    simp only [Bool.or_eq_true, Bool.and_eq_true, or_assoc]
  · have a := goesG_len Fx i L H1
    have b := hh.2 i
    have d := hH.2 i
    have c := mul40 (a := L.length) (b := Fx.length) (by omega) (by omega)
    omega
/-- A round is done. -/
theorem Tm.done {X : Nat → Prop} {gp : Nat} {w W : World} {S : List (Nat → Bool)} {P Y : Pla} {G H : Nat → List Nat} {nd : Nat} {v u f l fx lx : Value} {c d : Bool} {g : Nat} {F L F1 L1 Fx Lx F2 L2 : List Nat} {r0 r1 r2 r3 r4 r5 : Value} (h : Hid (Tm X gp w W ((S ++ P.sets) ++ Y.sets) H v u f l fx lx d c g F2 L2 F1 L1 r0 r1 r2 r3 r4 r5)) (hd : d = (P.null && Y.null)) (hF : Hid (Fl P S.length F L)) (hY : Hid (Fl Y (S.length + P.cnt) Fx Lx)) (e1 : F2 = if P.null = true then F ++ Fx else F) (e2 : L2 = if Y.null = true then L ++ Lx else Lx) (hh : Hid ((∀ i j, j ∈ H i ↔ j ∈ G i ∨ (thenP P Y).fol S.length i j = true) ∧ ∀ i, (H i).length ≤ (G i).length + 1600 * nd)) :
    Hid (Tc X gp w W S G (thenP P Y) nd v u f l F2 L2 H r0 r1 r2 r3 r4 r5) := by
  have h' := h.out
  subst hd
  have hw := h'.wp
  rw [List.append_assoc] at hw
  exact ⟨hw, hh, h'.out, h'.of, h'.ol, h'.fr, fl_then hF.out hY.out e1 e2, h'.fp, h'.rb, h'.zb, h'.lo⟩

set_option maxRecDepth 20000 in
set_option maxHeartbeats 8000000 in
theorem rw_cat (p : Nat → Bool) (l : List RX) (hl : l.length < 100000) (IH : ∀ y ∈ l, RwC y ∧ y.formed = true) : RwC ⟨2, p, l⟩ := by
  intro X K gp v u S G a c w hp hK hW hc hf hG hR hX
  obtain ⟨BR, BZ, Q0⟩ := begin_boxes5 w (.int .i64 2) (.int .u64 (limb p 0)) (.int .u64 (limb p 1)) (.int .u64 (limb p 2)) (.int .u64 (limb p 3)) (.slice a l.length c)
  have HE : Hid (JP thenP eP l l.length = RX.pla ⟨2, p, l⟩) := JP_then l p
  have HN : Hid (RX.nodes ⟨2, p, l⟩ = 1 + used l l.length) := by show _ = _; rw [nodes_eq, used_all]
  rw [← HE.out] at hc ⊢
  have HP : Hid (Parts l K w a c) := hp
  have HI : Hid _ := IH
  have HK : Hid (∀ j, K j → j < gp) := hK
  have HX : Hid (∀ j, X j → j < w.heap.size) := hX
  have HR : Hid (∀ i, S.length ≤ i → G i = []) := hR
  have HG : Hid (∀ i, (G i).length + 1600 * (1 + used l l.length) ≤ 64000) := fun i => by have := hG i; rw [HN.out] at this; exact this
  have HC : Hid (∀ i, S.length + (JP thenP eP l i).cnt ≤ 40) := fun i => by have := JP_cnt (g := thenP) (fun _ _ => rfl) eP l i; omega
  have HF : Hid (∀ i, (JP thenP eP l i).Fine) := fun i => JP_fine thenP_fine eP_fine l i
  have HW : Hid (gp < w.heap.size) := hW.out.lt
  have HWP : Hid (Wp X gp w v u S S.length G) := hW
  have hlen : l.length < 100000 := hl
  rw [HN.out]
  obtain ⟨k0, k1, k2, k3, k4, k5, _⟩ := B6.facts BR
  clear hp hK hW hc hf IH hG hR hX hl
  generalize limb p 0 = y0 at *
  generalize limb p 1 = y1 at *
  generalize limb p 2 = y2 at *
  generalize limb p 3 = y3 at *
  show Calls Tryd.prog 26 #[.pointer (some ⟨gp, 0, none⟩), .agg #[.int .i64 2, .int .u64 y0, .int .u64 y1, .int .u64 y2, .int .u64 y3, .slice a l.length c]] w fun e w' => RwP X gp w S G (JP thenP eP l l.length) (1 + used l l.length) e w'
  have B0 : Hid (Tc X gp w (((w.alloc (.cells #[.int .i64 2, .int .u64 y0, .int .u64 y1, .int .u64 y2, .int .u64 y3, .slice a l.length c] 29)).alloc (zeros5 41)).alloc (.cells #[.slice none 0 0, .slice none 0 0, .slice none 0 0, .slice none 0 0, .bool true] 41)) S G (JP thenP eP l 0) (used l 0) v u (.slice none 0 0) (.slice none 0 0) [] [] G (.int .i64 2) (.int .u64 y0) (.int .u64 y1) (.int .u64 y2) (.int .u64 y3) (.slice a l.length c)) := by
    have QA : Qt ((w.alloc (.cells #[.int .i64 2, .int .u64 y0, .int .u64 y1, .int .u64 y2, .int .u64 y3, .slice a l.length c] 29)).alloc (zeros5 41)) (((w.alloc (.cells #[.int .i64 2, .int .u64 y0, .int .u64 y1, .int .u64 y2, .int .u64 y3, .slice a l.length c] 29)).alloc (zeros5 41)).alloc (.cells #[.slice none 0 0, .slice none 0 0, .slice none 0 0, .slice none 0 0, .bool true] 41)) := Mv.alloc _ _ _
    have BO := B5p.new ((w.alloc (.cells #[.int .i64 2, .int .u64 y0, .int .u64 y1, .int .u64 y2, .int .u64 y3, .slice a l.length c] 29)).alloc (zeros5 41)) (.slice none 0 0) (.slice none 0 0) (.slice none 0 0) (.slice none 0 0) (.bool true)
    rw [show ((w.alloc (.cells #[.int .i64 2, .int .u64 y0, .int .u64 y1, .int .u64 y2, .int .u64 y3, .slice a l.length c] 29)).alloc (zeros5 41)).heap.size = w.heap.size + 2 from by simp] at BO
    have HWQ := HWP.out.qt (Q0.out.comp QA)
    refine ⟨?_, ⟨fun i j => ?_, fun i => ?_⟩, BO.out, Is.nil _, Is.nil _, (fun j hj => by rcases hj with hj | hj <;> cases hj), ⟨fun n => ?_, fun n => ?_, Nat.zero_le _, Nat.zero_le _⟩, Fr.of_qt (Q0.out.comp QA), (B6.mv BR.out QA (fun h => h)).out, (B5p.mv BZ.out QA (fun h => h)).out, HW.out⟩
    · have e : S ++ (JP thenP eP l 0).sets = S := by simp [JP_zero, eP]
      rw [e]
      exact HWQ
    · simp [JP_zero, eP]
    · omega
    · simp [JP_zero, eP]
    · simp [JP_zero, eP]
  go_enter Tryd.func26, Tryd.ntmps26
  go_wp2_with fail
  generalize (((w.alloc (.cells #[.int .i64 2, .int .u64 y0, .int .u64 y1, .int .u64 y2, .int .u64 y3, .slice a l.length c] 29)).alloc (.cells #[.slice none 0 0, .slice none 0 0, .slice none 0 0, .slice none 0 0, .bool false] 41)).alloc (.cells #[.slice none 0 0, .slice none 0 0, .slice none 0 0, .slice none 0 0, .bool true] 41)) = V0 at *
  clear k0 k1 k2 k3 k4 k5
  go_loopw [10] (fun s7 wr => ∃ (i : Nat) (v u f g : Value) (F L : List Nat) (H : Nat → List Nat), i ≤ l.length ∧ s7 = .int .i64 i ∧ Hid (Tc X gp w wr S G (JP thenP eP l i) (used l i) v u f g F L H (.int .i64 2) (.int .u64 y0) (.int .u64 y1) (.int .u64 y2) (.int .u64 y3) (.slice a l.length c))) (fun s7 _ => l.length - (intOf s7).toNat)
  case atStart => exact ⟨0, v, u, .slice none 0 0, .slice none 0 0, [], [], G, by omega, rfl, B0⟩
  case round =>
    obtain ⟨i, v2, u2, f, g, F, L, H, hi, rfl, B⟩ := hrel
    clear B0
    obtain ⟨m0, m1, m2, m3, m4, m5, _⟩ := B6.facts (show Hid _ from B.out.rb)
    by_cases hlt : i < l.length
    · obtain ⟨y, hy⟩ : ∃ y, l[i]? = some y := ⟨_, List.getElem?_eq_getElem hlt⟩
      have hmem : y ∈ l := List.mem_of_getElem? hy
      have PR : Parts l K wr a c := Fr.parts B.out.fp HP.out HK.out
      obtain ⟨b', o', a2, c2, hab, hp2, q0, q1, q2, q3, q4, q5⟩ := PR.at (i := i) (x := y) hy
      subst hab
      have HJS : Hid (JP thenP eP l (i + 1) = thenP (JP thenP eP l i) y.pla) := JP_succ thenP eP hy
      have HJ2 : Hid (S.length + ((JP thenP eP l i).cnt + y.pla.cnt) ≤ 40) := by have := HC.out (i + 1); rw [HJS.out] at this; exact this
      have HU : Hid (used l (i + 1) = used l i + y.nodes) := used_succ' hy
      have HF1 : Hid ((JP thenP eP l i).Fine) := HF.out i
      have HS : Hid ((S ++ (JP thenP eP l i).sets).length = S.length + (JP thenP eP l i).cnt) := by show _ = _; rw [List.length_append, HF1.out.len]
      have HB : Hid (∀ j, (H j).length + 1600 * y.nodes ≤ 64000) := fun j => by
        have h1 := B.out.hh.2 j
        have h2 := HG.out j
        have h3 := used_step hy
        rw [← used_all] at h3
        omega
      have hth := (HI.out y hmem).1 X K gp v2 u2 _ H a2 c2 wr hp2 HK.out (show Hid _ from B.out.wp) (by rw [HS.out]; have := HJ2.out; omega) (HI.out y hmem).2 HB.out (fun j hj => no_mem (fun n hn => by
          rw [B.out.hh.1, HR.out j (by rw [HS.out] at hj; omega)] at hn
          rcases hn with hn | hn
          · cases hn
          · have := (HF1.out.fol _ _ _ hn).1
            rw [HS.out] at hj; omega)) (fun j hj => Nat.lt_of_lt_of_le (HX.out j hj) B.out.fp.size)
      obtain ⟨fa, fc, rfl⟩ := B.out.of.form
      obtain ⟨ga, gc, rfl⟩ := B.out.ol.form
      have hgo : w.heap.size + 2 < wr.heap.size := B.out.out.lt
      have hz0 : Hid (gp < w.heap.size) := HW
      have HFY : Hid (y.pla.Fine) := pla_fine y
      clear PR hp2 hmem hy
      generalize JP thenP eP l i = P at *
      generalize y.pla = Y at *
      generalize y.nodes = ny at *
      go_wp2_with fail
      refine hth.mono ?_
      rintro e w1 ⟨fx, lx, Fx, Lx, v1, u1, H1, rfl, iF, iL, hfr, hFL, W1, hH, F1⟩
      obtain ⟨xa, xc, rfl⟩ := iF.out.form
      obtain ⟨za, zc, rfl⟩ := iL.out.form
      have hsize1 : w.heap.size + 2 < w1.heap.size := Nat.lt_of_lt_of_le hgo F1.out.size
      have hx1 : w1.heap.size ≠ w.heap.size + 2 := by omega
      have HY : Hid (Fl Y (S.length + P.cnt) Fx Lx) := by have := hFL.out; rw [HS.out] at this; exact this
      have HHH := goes_then (nd := used l i) (ny := ny) B.out.fl HY.out (by have := HJ2.out; omega) B.out.hh (by have := hH.out; rw [HS.out] at this; exact this)
      have HH2 : Hid _ := HHH
      have QN : Hid (Qt w1 (w1.alloc (.cells #[.slice none 0 0, .slice xa Fx.length xc, .slice za Lx.length zc, .slice none 0 0, .bool Y.null] 41))) := Mv.alloc _ _ _
      have F2 := F1.out.qt QN.out
      have M0 : Hid (Tm X gp w (w1.alloc (.cells #[.slice none 0 0, .slice xa Fx.length xc, .slice za Lx.length zc, .slice none 0 0, .bool Y.null] 41)) ((S ++ P.sets) ++ Y.sets) H1 v1 u1 (.slice fa F.length fc) (.slice ga L.length gc) (.slice xa Fx.length xc) (.slice za Lx.length zc) P.null Y.null w1.heap.size F L Fx Lx (.int .i64 2) (.int .u64 y0) (.int .u64 y1) (.int .u64 y2) (.int .u64 y3) _) :=
        ⟨W1.out.qt QN.out, (B5p.fp B.out.out F2 (by have := HW.out; omega)).out, (B5p.new w1 _ _ _ _ _).out, B.out.of.fp F2 B.out.wp.at_, B.out.ol.fp F2 B.out.wp.at_, iF.out.qt QN.out, iL.out.qt QN.out, B.out.fr, hfr.out.up B.out.fp.size, B.out.fp.trans F2, (B6.fp B.out.rb F2 (by have := HW.out; omega)).out, (B5p.fp B.out.zb F2 (by have := HW.out; omega)).out, HW.out, hsize1⟩
      obtain ⟨o0, o1, o2, o3, o4, o5, o6, o7, o8, o9⟩ := B5p.facts (show Hid _ from M0.out.out)
      obtain ⟨n0, n1, n2, n3, n4, n5, n6, n7, n8, n9⟩ := B5p.facts (show Hid _ from M0.out.xb)
      have HFP : Hid (Fl P S.length F L) := B.out.fl
      have hgs := goes_any X L Fx gp v1 u1 (.slice ga L.length gc) (.slice xa Fx.length xc) _ _ H1 _ (show Hid _ from M0.out.wp) (show Hid _ from M0.out.ol) (show Hid _ from M0.out.ofx) (fun i hi => by have := HF1.out.lst _ _ ((HFP.out.2.1 i).1 hi); rw [List.length_append, HS.out]; omega) (fun i => by have h1 := mul40 (a := L.length) (b := Fx.length) (by have := HFP.out.2.2.2; have := HJ2.out; omega) (by have := HY.out.2.2.1; have := HJ2.out; omega); have h2 := hH.out.2 i; have h3 := HB.out i; have := HY.out.2.2.1; have := HJ2.out; omega) (by have := HFP.out.2.2.2; have := HJ2.out; omega) (fun j hj => Nat.lt_of_lt_of_le (HX.out j hj) (Nat.le_trans B.out.fp.size F2.size))
      have hLF : Hid (F.length ≤ 40 ∧ L.length ≤ 40 ∧ Fx.length ≤ 40 ∧ Lx.length ≤ 40) := by
        have a1 := HFP.out.2.2; have a2 := HY.out.2.2; have a3 := HJ2.out
        exact ⟨by omega, by omega, by omega, by omega⟩
      clear hth m0 m1 m2 m3 m4 m5 q0 q1 q2 q3 q4 q5 hfr hFL hH HHH F1 W1 iF iL F2
      go_wp2_with fail
      have hsz2 : w.heap.size + 2 < (w1.alloc (.cells #[.slice none 0 0, .slice xa Fx.length xc, .slice za Lx.length zc, .slice none 0 0, .bool Y.null] 41)).heap.size := M0.out.out.lt
      generalize w1.alloc (.cells #[.slice none 0 0, .slice xa Fx.length xc, .slice za Lx.length zc, .slice none 0 0, .bool Y.null] 41) = V1 at *
      generalize w1.heap.size = xg at *
      refine hgs.mono ?_
      rintro e w3 ⟨rfl, W3, F3⟩
      have M3 : Hid (Tm X gp w w3 ((S ++ P.sets) ++ Y.sets) (goesG H1 L Fx) v1 u1 (.slice fa F.length fc) (.slice ga L.length gc) (.slice xa Fx.length xc) (.slice za Lx.length zc) P.null Y.null xg F L Fx Lx (.int .i64 2) (.int .u64 y0) (.int .u64 y1) (.int .u64 y2) (.int .u64 y3) _) :=
        ⟨W3.out, (B5p.fp M0.out.out F3.out (by have := HW.out; omega)).out, (B5p.fp M0.out.xb F3.out (by have := HW.out; have := M0.out.hg; omega)).out, M0.out.of.fp F3.out M0.out.wp.at_, M0.out.ol.fp F3.out M0.out.wp.at_, M0.out.ofx.fp F3.out M0.out.wp.at_, M0.out.olx.fp F3.out M0.out.wp.at_, M0.out.fr, M0.out.frx, M0.out.fp.trans F3.out, (B6.fp M0.out.rb F3.out (by have := HW.out; omega)).out, (B5p.fp M0.out.zb F3.out (by have := HW.out; omega)).out, HW.out, M0.out.hg⟩
      clear o0 o1 o2 o3 o4 o5 o6 o7 o8 o9 n0 n1 n2 n3 n4 n5 n6 n7 n8 n9 hgs M0 W3 F3 hsz2
      generalize goesG H1 L Fx = H2 at *
      have hcase : ∃ b c, P.null = b ∧ Y.null = c := ⟨_, _, rfl, rfl⟩
      obtain ⟨bp, by', hpn, hyn⟩ := hcase
      rw [hpn, hyn] at M3
      cases bp with
      | true =>
        cases by' with
        | true =>
          obtain ⟨ao0, ao1, ao2, ao3, ao4, ao5, ao6, ao7, ao8, ao9⟩ := B5p.facts (show Hid _ from M3.out.out)
          obtain ⟨an0, an1, an2, an3, an4, an5, an6, an7, an8, an9⟩ := B5p.facts (show Hid _ from M3.out.xb)
          obtain ⟨t1, Z1, pa, pc, Z2, ra, rb, et, qa, qb, M4⟩ := Tm.first M3 (by have := hLF.out; omega)
          obtain ⟨ta, tc, rfl⟩ := et.out
          have hszZ : w3.drew.heap.size = w3.heap.size := rfl
          go_wp2_with fail
          refine Rest.begin (S := (fun w' => w'.cell? ⟨w.heap.size + 2, 1, none⟩ = some (.slice fa F.length fc) ∧ w'.cell? ⟨xg, 1, none⟩ = some (.slice xa Fx.length xc))) (st := [8]) (by kernel_rfl) (Tm.k1 (Tm.qt M3 (Qt.drew (Qt.refl _)))) (fun hHeld => ?_)
          refine Rest.plain (i := 1) _ (some 109) ?_ rfl rfl (by kernel_rfl) (by kernel_rfl) (by kernel_rfl) (by kernel_rfl) (fun _ _ _ h => h) (Or.inl ⟨by rfl, ?_⟩) (by assumption) ?_
          rotate_left
          · (intro w _; go_simp; try with_reducible rfl)
          try simp only [Act.put, List.setIfInBounds_toArray, List.set_cons_zero, List.set_cons_succ]
          refine Rest.take (i := 2) _ (some 110) ?_ rfl rfl (by kernel_rfl) (by kernel_rfl) (by kernel_rfl) (by kernel_rfl) (fun _ _ _ h => h) (Or.inl ⟨by rfl, ?_⟩) (by assumption) ?_
          rotate_left
          · (intro w hSw; (try dsimp only at hSw); go_simp; try with_reducible rfl)
          try simp only [Act.put, List.setIfInBounds_toArray, List.set_cons_zero, List.set_cons_succ]
          refine Rest.plain (i := 4) _ (some 112) ?_ rfl rfl (by kernel_rfl) (by kernel_rfl) (by kernel_rfl) (by kernel_rfl) (fun _ _ _ h => h) (Or.inl ⟨by rfl, ?_⟩) (by assumption) ?_
          rotate_left
          · (intro w _; go_simp; try with_reducible rfl)
          try simp only [Act.put, List.setIfInBounds_toArray, List.set_cons_zero, List.set_cons_succ]
          refine Rest.take (i := 5) _ (some 113) ?_ rfl rfl (by kernel_rfl) (by kernel_rfl) (by kernel_rfl) (by kernel_rfl) (fun _ _ _ h => h) (Or.inl ⟨by rfl, ?_⟩) (by assumption) ?_
          rotate_left
          · (intro w hSw; (try dsimp only at hSw); go_simp; try with_reducible rfl)
          try simp only [Act.put, List.setIfInBounds_toArray, List.set_cons_zero, List.set_cons_succ]
          refine Rest.one (i := 0) (by kernel_rfl) rfl (fun K hK => ?_)
          go_simp
          refine hK.out _ _ (Tm.k1 (Tm.qt M3 (Qt.drew ((Qt.refl _).alloc _)))) (fun hHeld => ?_)
          try simp only [Act.put, List.setIfInBounds_toArray, List.set_cons_zero, List.set_cons_succ]
          clear hK K
          refine Rest.one (i := 3) (by kernel_rfl) rfl (fun K hK => ?_)
          refine step_given rfl (.tmp 108) (.tmp 110) 34 rfl _ _ _ rfl rfl Z1 ra ?_
          refine hK.out _ _ (Tm.k1 (Tm.qt M3 (qa.out))) (fun hHeld => ?_)
          try simp only [Act.put, List.setIfInBounds_toArray, List.set_cons_zero, List.set_cons_succ]
          clear hK K
          refine Rest.one (i := 6) (by kernel_rfl) rfl (fun K hK => ?_)
          refine step_given rfl (.tmp 111) (.tmp 113) 34 rfl _ _ _ rfl rfl Z2 rb ?_
          refine hK.out _ _ (Tm.k1 (Tm.qt M3 (qb.out))) (fun hHeld => ?_)
          try simp only [Act.put, List.setIfInBounds_toArray, List.set_cons_zero, List.set_cons_succ]
          clear hK K
          refine Rest.plain (i := 7) _ (some 115) ?_ rfl rfl (by kernel_rfl) (by kernel_rfl) (by kernel_rfl) (by kernel_rfl) (fun _ _ _ h => h) (Or.inl ⟨by rfl, ?_⟩) (by assumption) ?_
          rotate_left
          · (intro w _; go_simp; try with_reducible rfl)
          try simp only [Act.put, List.setIfInBounds_toArray, List.set_cons_zero, List.set_cons_succ]
          obtain ⟨so0, so1, so2, so3, so4, so5, so6, so7, so8, so9⟩ := B5p.facts (show Hid _ from (Tm.qt M3 qb.out).out.out)
          obtain ⟨sn0, sn1, sn2, sn3, sn4, sn5, sn6, sn7, sn8, sn9⟩ := B5p.facts (show Hid _ from (Tm.qt M3 qb.out).out.xb)
          refine Rest.last (i := 8) (by kernel_rfl) rfl (by kernel_rfl) (fun K hK => ?_)
          go_simp
          refine hK.out _ _ ?_
          try simp only [Act.put, List.setIfInBounds_toArray, List.set_cons_zero, List.set_cons_succ]
          clear hK K
          clear so0 sn0 so1 sn1 so2 sn2 so3 sn3 so4 sn4 so5 sn5 so6 sn6 so7 sn7 so8 sn8 so9 sn9
          refine Rest.done (by kernel_rfl) ?_ _
          clear ao0 an0 ao1 an1 ao2 an2 ao3 an3 ao4 an4 ao5 an5 ao6 an6 ao7 an7 ao8 an8 ao9 an9
          generalize Z2.setCell ⟨w.heap.size + 2, 1, none⟩ (.slice pa (F.length + Fx.length) pc) = V4 at *
          clear ra rb et qa qb hszZ M3
          obtain ⟨bo0, bo1, bo2, bo3, bo4, bo5, bo6, bo7, bo8, bo9⟩ := B5p.facts (show Hid _ from M4.out.out)
          obtain ⟨bn0, bn1, bn2, bn3, bn4, bn5, bn6, bn7, bn8, bn9⟩ := B5p.facts (show Hid _ from M4.out.xb)
          obtain ⟨t2, Y1, pb, pd, Y2, ra, rb, et, qa, qb, M5⟩ := Tm.last M4 (by have := hLF.out; omega)
          obtain ⟨tb, td, rfl⟩ := et.out
          have hszZ : V4.drew.heap.size = V4.heap.size := rfl
          go_wp2_with fail
          refine Rest.begin (S := (fun w' => w'.cell? ⟨w.heap.size + 2, 2, none⟩ = some (.slice ga L.length gc) ∧ w'.cell? ⟨xg, 2, none⟩ = some (.slice za Lx.length zc))) (st := [8]) (by kernel_rfl) (Tm.k2 (Tm.qt M4 (Qt.drew (Qt.refl _)))) (fun hHeld => ?_)
          refine Rest.plain (i := 1) _ (some 119) ?_ rfl rfl (by kernel_rfl) (by kernel_rfl) (by kernel_rfl) (by kernel_rfl) (fun _ _ _ h => h) (Or.inl ⟨by rfl, ?_⟩) (by assumption) ?_
          rotate_left
          · (intro w _; go_simp; try with_reducible rfl)
          try simp only [Act.put, List.setIfInBounds_toArray, List.set_cons_zero, List.set_cons_succ]
          refine Rest.take (i := 2) _ (some 120) ?_ rfl rfl (by kernel_rfl) (by kernel_rfl) (by kernel_rfl) (by kernel_rfl) (fun _ _ _ h => h) (Or.inl ⟨by rfl, ?_⟩) (by assumption) ?_
          rotate_left
          · (intro w hSw; (try dsimp only at hSw); go_simp; try with_reducible rfl)
          try simp only [Act.put, List.setIfInBounds_toArray, List.set_cons_zero, List.set_cons_succ]
          refine Rest.plain (i := 4) _ (some 122) ?_ rfl rfl (by kernel_rfl) (by kernel_rfl) (by kernel_rfl) (by kernel_rfl) (fun _ _ _ h => h) (Or.inl ⟨by rfl, ?_⟩) (by assumption) ?_
          rotate_left
          · (intro w _; go_simp; try with_reducible rfl)
          try simp only [Act.put, List.setIfInBounds_toArray, List.set_cons_zero, List.set_cons_succ]
          refine Rest.take (i := 5) _ (some 123) ?_ rfl rfl (by kernel_rfl) (by kernel_rfl) (by kernel_rfl) (by kernel_rfl) (fun _ _ _ h => h) (Or.inl ⟨by rfl, ?_⟩) (by assumption) ?_
          rotate_left
          · (intro w hSw; (try dsimp only at hSw); go_simp; try with_reducible rfl)
          try simp only [Act.put, List.setIfInBounds_toArray, List.set_cons_zero, List.set_cons_succ]
          refine Rest.one (i := 0) (by kernel_rfl) rfl (fun K hK => ?_)
          go_simp
          refine hK.out _ _ (Tm.k2 (Tm.qt M4 (Qt.drew ((Qt.refl _).alloc _)))) (fun hHeld => ?_)
          try simp only [Act.put, List.setIfInBounds_toArray, List.set_cons_zero, List.set_cons_succ]
          clear hK K
          refine Rest.one (i := 3) (by kernel_rfl) rfl (fun K hK => ?_)
          refine step_given rfl (.tmp 118) (.tmp 120) 34 rfl _ _ _ rfl rfl Y1 ra ?_
          refine hK.out _ _ (Tm.k2 (Tm.qt M4 (qa.out))) (fun hHeld => ?_)
          try simp only [Act.put, List.setIfInBounds_toArray, List.set_cons_zero, List.set_cons_succ]
          clear hK K
          refine Rest.one (i := 6) (by kernel_rfl) rfl (fun K hK => ?_)
          refine step_given rfl (.tmp 121) (.tmp 123) 34 rfl _ _ _ rfl rfl Y2 rb ?_
          refine hK.out _ _ (Tm.k2 (Tm.qt M4 (qb.out))) (fun hHeld => ?_)
          try simp only [Act.put, List.setIfInBounds_toArray, List.set_cons_zero, List.set_cons_succ]
          clear hK K
          refine Rest.plain (i := 7) _ (some 125) ?_ rfl rfl (by kernel_rfl) (by kernel_rfl) (by kernel_rfl) (by kernel_rfl) (fun _ _ _ h => h) (Or.inl ⟨by rfl, ?_⟩) (by assumption) ?_
          rotate_left
          · (intro w _; go_simp; try with_reducible rfl)
          try simp only [Act.put, List.setIfInBounds_toArray, List.set_cons_zero, List.set_cons_succ]
          obtain ⟨so0, so1, so2, so3, so4, so5, so6, so7, so8, so9⟩ := B5p.facts (show Hid _ from (Tm.qt M4 qb.out).out.out)
          obtain ⟨sn0, sn1, sn2, sn3, sn4, sn5, sn6, sn7, sn8, sn9⟩ := B5p.facts (show Hid _ from (Tm.qt M4 qb.out).out.xb)
          refine Rest.last (i := 8) (by kernel_rfl) rfl (by kernel_rfl) (fun K hK => ?_)
          go_simp
          refine hK.out _ _ ?_
          try simp only [Act.put, List.setIfInBounds_toArray, List.set_cons_zero, List.set_cons_succ]
          clear hK K
          clear so0 sn0 so1 sn1 so2 sn2 so3 sn3 so4 sn4 so5 sn5 so6 sn6 so7 sn7 so8 sn8 so9 sn9
          refine Rest.done (by kernel_rfl) ?_ _
          clear bo0 bn0 bo1 bn1 bo2 bn2 bo3 bn3 bo4 bn4 bo5 bn5 bo6 bn6 bo7 bn7 bo8 bn8 bo9 bn9
          generalize Y2.setCell ⟨w.heap.size + 2, 2, none⟩ (.slice pb (L.length + Lx.length) pd) = V5 at *
          obtain ⟨co0, co1, co2, co3, co4, co5, co6, co7, co8, co9⟩ := B5p.facts (show Hid _ from M5.out.out)
          obtain ⟨cn0, cn1, cn2, cn3, cn4, cn5, cn6, cn7, cn8, cn9⟩ := B5p.facts (show Hid _ from M5.out.xb)
          go_wp2_with fail
          refine ⟨⟨i + 1, v1, u1, (.slice pa (F.length + Fx.length) pc), (.slice pb (L.length + Lx.length) pd), (F ++ Fx), (L ++ Lx), H2, by omega, by go_num, ?_⟩, by simp [intOf]; omega⟩
          rw [HJS.out, HU.out]
          exact Tm.done (Tm.null M5 true) (by simp [hpn, hyn]) HFP HY (by simp [hpn]) (by simp [hyn]) HH2

        | false =>
          obtain ⟨ao0, ao1, ao2, ao3, ao4, ao5, ao6, ao7, ao8, ao9⟩ := B5p.facts (show Hid _ from M3.out.out)
          obtain ⟨an0, an1, an2, an3, an4, an5, an6, an7, an8, an9⟩ := B5p.facts (show Hid _ from M3.out.xb)
          obtain ⟨t1, Z1, pa, pc, Z2, ra, rb, et, qa, qb, M4⟩ := Tm.first M3 (by have := hLF.out; omega)
          obtain ⟨ta, tc, rfl⟩ := et.out
          have hszZ : w3.drew.heap.size = w3.heap.size := rfl
          go_wp2_with fail
          refine Rest.begin (S := (fun w' => w'.cell? ⟨w.heap.size + 2, 1, none⟩ = some (.slice fa F.length fc) ∧ w'.cell? ⟨xg, 1, none⟩ = some (.slice xa Fx.length xc))) (st := [8]) (by kernel_rfl) (Tm.k1 (Tm.qt M3 (Qt.drew (Qt.refl _)))) (fun hHeld => ?_)
          refine Rest.plain (i := 1) _ (some 109) ?_ rfl rfl (by kernel_rfl) (by kernel_rfl) (by kernel_rfl) (by kernel_rfl) (fun _ _ _ h => h) (Or.inl ⟨by rfl, ?_⟩) (by assumption) ?_
          rotate_left
          · (intro w _; go_simp; try with_reducible rfl)
          try simp only [Act.put, List.setIfInBounds_toArray, List.set_cons_zero, List.set_cons_succ]
          refine Rest.take (i := 2) _ (some 110) ?_ rfl rfl (by kernel_rfl) (by kernel_rfl) (by kernel_rfl) (by kernel_rfl) (fun _ _ _ h => h) (Or.inl ⟨by rfl, ?_⟩) (by assumption) ?_
          rotate_left
          · (intro w hSw; (try dsimp only at hSw); go_simp; try with_reducible rfl)
          try simp only [Act.put, List.setIfInBounds_toArray, List.set_cons_zero, List.set_cons_succ]
          refine Rest.plain (i := 4) _ (some 112) ?_ rfl rfl (by kernel_rfl) (by kernel_rfl) (by kernel_rfl) (by kernel_rfl) (fun _ _ _ h => h) (Or.inl ⟨by rfl, ?_⟩) (by assumption) ?_
          rotate_left
          · (intro w _; go_simp; try with_reducible rfl)
          try simp only [Act.put, List.setIfInBounds_toArray, List.set_cons_zero, List.set_cons_succ]
          refine Rest.take (i := 5) _ (some 113) ?_ rfl rfl (by kernel_rfl) (by kernel_rfl) (by kernel_rfl) (by kernel_rfl) (fun _ _ _ h => h) (Or.inl ⟨by rfl, ?_⟩) (by assumption) ?_
          rotate_left
          · (intro w hSw; (try dsimp only at hSw); go_simp; try with_reducible rfl)
          try simp only [Act.put, List.setIfInBounds_toArray, List.set_cons_zero, List.set_cons_succ]
          refine Rest.one (i := 0) (by kernel_rfl) rfl (fun K hK => ?_)
          go_simp
          refine hK.out _ _ (Tm.k1 (Tm.qt M3 (Qt.drew ((Qt.refl _).alloc _)))) (fun hHeld => ?_)
          try simp only [Act.put, List.setIfInBounds_toArray, List.set_cons_zero, List.set_cons_succ]
          clear hK K
          refine Rest.one (i := 3) (by kernel_rfl) rfl (fun K hK => ?_)
          refine step_given rfl (.tmp 108) (.tmp 110) 34 rfl _ _ _ rfl rfl Z1 ra ?_
          refine hK.out _ _ (Tm.k1 (Tm.qt M3 (qa.out))) (fun hHeld => ?_)
          try simp only [Act.put, List.setIfInBounds_toArray, List.set_cons_zero, List.set_cons_succ]
          clear hK K
          refine Rest.one (i := 6) (by kernel_rfl) rfl (fun K hK => ?_)
          refine step_given rfl (.tmp 111) (.tmp 113) 34 rfl _ _ _ rfl rfl Z2 rb ?_
          refine hK.out _ _ (Tm.k1 (Tm.qt M3 (qb.out))) (fun hHeld => ?_)
          try simp only [Act.put, List.setIfInBounds_toArray, List.set_cons_zero, List.set_cons_succ]
          clear hK K
          refine Rest.plain (i := 7) _ (some 115) ?_ rfl rfl (by kernel_rfl) (by kernel_rfl) (by kernel_rfl) (by kernel_rfl) (fun _ _ _ h => h) (Or.inl ⟨by rfl, ?_⟩) (by assumption) ?_
          rotate_left
          · (intro w _; go_simp; try with_reducible rfl)
          try simp only [Act.put, List.setIfInBounds_toArray, List.set_cons_zero, List.set_cons_succ]
          obtain ⟨so0, so1, so2, so3, so4, so5, so6, so7, so8, so9⟩ := B5p.facts (show Hid _ from (Tm.qt M3 qb.out).out.out)
          obtain ⟨sn0, sn1, sn2, sn3, sn4, sn5, sn6, sn7, sn8, sn9⟩ := B5p.facts (show Hid _ from (Tm.qt M3 qb.out).out.xb)
          refine Rest.last (i := 8) (by kernel_rfl) rfl (by kernel_rfl) (fun K hK => ?_)
          go_simp
          refine hK.out _ _ ?_
          try simp only [Act.put, List.setIfInBounds_toArray, List.set_cons_zero, List.set_cons_succ]
          clear hK K
          clear so0 sn0 so1 sn1 so2 sn2 so3 sn3 so4 sn4 so5 sn5 so6 sn6 so7 sn7 so8 sn8 so9 sn9
          refine Rest.done (by kernel_rfl) ?_ _
          clear ao0 an0 ao1 an1 ao2 an2 ao3 an3 ao4 an4 ao5 an5 ao6 an6 ao7 an7 ao8 an8 ao9 an9
          generalize Z2.setCell ⟨w.heap.size + 2, 1, none⟩ (.slice pa (F.length + Fx.length) pc) = V4 at *
          clear ra rb et qa qb hszZ M3
          obtain ⟨bo0, bo1, bo2, bo3, bo4, bo5, bo6, bo7, bo8, bo9⟩ := B5p.facts (show Hid _ from M4.out.out)
          obtain ⟨bn0, bn1, bn2, bn3, bn4, bn5, bn6, bn7, bn8, bn9⟩ := B5p.facts (show Hid _ from M4.out.xb)
          have M6 := Tm.only M4
          go_wp2_with fail
          refine ⟨⟨i + 1, v1, u1, (.slice pa (F.length + Fx.length) pc), (.slice za Lx.length zc), (F ++ Fx), Lx, H2, by omega, by go_num, ?_⟩, by simp [intOf]; omega⟩
          rw [HJS.out, HU.out]
          exact Tm.done (Tm.null M6 false) (by simp [hpn, hyn]) HFP HY (by simp [hpn]) (by simp [hyn]) HH2

      | false =>
        cases by' with
        | true =>
          obtain ⟨ao0, ao1, ao2, ao3, ao4, ao5, ao6, ao7, ao8, ao9⟩ := B5p.facts (show Hid _ from M3.out.out)
          obtain ⟨an0, an1, an2, an3, an4, an5, an6, an7, an8, an9⟩ := B5p.facts (show Hid _ from M3.out.xb)
          obtain ⟨t2, Y1, pb, pd, Y2, ra, rb, et, qa, qb, M5⟩ := Tm.last M3 (by have := hLF.out; omega)
          obtain ⟨tb, td, rfl⟩ := et.out
          have hszZ : w3.drew.heap.size = w3.heap.size := rfl
          go_wp2_with fail
          refine Rest.begin (S := (fun w' => w'.cell? ⟨w.heap.size + 2, 2, none⟩ = some (.slice ga L.length gc) ∧ w'.cell? ⟨xg, 2, none⟩ = some (.slice za Lx.length zc))) (st := [8]) (by kernel_rfl) (Tm.k2 (Tm.qt M3 (Qt.drew (Qt.refl _)))) (fun hHeld => ?_)
          refine Rest.plain (i := 1) _ (some 119) ?_ rfl rfl (by kernel_rfl) (by kernel_rfl) (by kernel_rfl) (by kernel_rfl) (fun _ _ _ h => h) (Or.inl ⟨by rfl, ?_⟩) (by assumption) ?_
          rotate_left
          · (intro w _; go_simp; try with_reducible rfl)
          try simp only [Act.put, List.setIfInBounds_toArray, List.set_cons_zero, List.set_cons_succ]
          refine Rest.take (i := 2) _ (some 120) ?_ rfl rfl (by kernel_rfl) (by kernel_rfl) (by kernel_rfl) (by kernel_rfl) (fun _ _ _ h => h) (Or.inl ⟨by rfl, ?_⟩) (by assumption) ?_
          rotate_left
          · (intro w hSw; (try dsimp only at hSw); go_simp; try with_reducible rfl)
          try simp only [Act.put, List.setIfInBounds_toArray, List.set_cons_zero, List.set_cons_succ]
          refine Rest.plain (i := 4) _ (some 122) ?_ rfl rfl (by kernel_rfl) (by kernel_rfl) (by kernel_rfl) (by kernel_rfl) (fun _ _ _ h => h) (Or.inl ⟨by rfl, ?_⟩) (by assumption) ?_
          rotate_left
          · (intro w _; go_simp; try with_reducible rfl)
          try simp only [Act.put, List.setIfInBounds_toArray, List.set_cons_zero, List.set_cons_succ]
          refine Rest.take (i := 5) _ (some 123) ?_ rfl rfl (by kernel_rfl) (by kernel_rfl) (by kernel_rfl) (by kernel_rfl) (fun _ _ _ h => h) (Or.inl ⟨by rfl, ?_⟩) (by assumption) ?_
          rotate_left
          · (intro w hSw; (try dsimp only at hSw); go_simp; try with_reducible rfl)
          try simp only [Act.put, List.setIfInBounds_toArray, List.set_cons_zero, List.set_cons_succ]
          refine Rest.one (i := 0) (by kernel_rfl) rfl (fun K hK => ?_)
          go_simp
          refine hK.out _ _ (Tm.k2 (Tm.qt M3 (Qt.drew ((Qt.refl _).alloc _)))) (fun hHeld => ?_)
          try simp only [Act.put, List.setIfInBounds_toArray, List.set_cons_zero, List.set_cons_succ]
          clear hK K
          refine Rest.one (i := 3) (by kernel_rfl) rfl (fun K hK => ?_)
          refine step_given rfl (.tmp 118) (.tmp 120) 34 rfl _ _ _ rfl rfl Y1 ra ?_
          refine hK.out _ _ (Tm.k2 (Tm.qt M3 (qa.out))) (fun hHeld => ?_)
          try simp only [Act.put, List.setIfInBounds_toArray, List.set_cons_zero, List.set_cons_succ]
          clear hK K
          refine Rest.one (i := 6) (by kernel_rfl) rfl (fun K hK => ?_)
          refine step_given rfl (.tmp 121) (.tmp 123) 34 rfl _ _ _ rfl rfl Y2 rb ?_
          refine hK.out _ _ (Tm.k2 (Tm.qt M3 (qb.out))) (fun hHeld => ?_)
          try simp only [Act.put, List.setIfInBounds_toArray, List.set_cons_zero, List.set_cons_succ]
          clear hK K
          refine Rest.plain (i := 7) _ (some 125) ?_ rfl rfl (by kernel_rfl) (by kernel_rfl) (by kernel_rfl) (by kernel_rfl) (fun _ _ _ h => h) (Or.inl ⟨by rfl, ?_⟩) (by assumption) ?_
          rotate_left
          · (intro w _; go_simp; try with_reducible rfl)
          try simp only [Act.put, List.setIfInBounds_toArray, List.set_cons_zero, List.set_cons_succ]
          obtain ⟨so0, so1, so2, so3, so4, so5, so6, so7, so8, so9⟩ := B5p.facts (show Hid _ from (Tm.qt M3 qb.out).out.out)
          obtain ⟨sn0, sn1, sn2, sn3, sn4, sn5, sn6, sn7, sn8, sn9⟩ := B5p.facts (show Hid _ from (Tm.qt M3 qb.out).out.xb)
          refine Rest.last (i := 8) (by kernel_rfl) rfl (by kernel_rfl) (fun K hK => ?_)
          go_simp
          refine hK.out _ _ ?_
          try simp only [Act.put, List.setIfInBounds_toArray, List.set_cons_zero, List.set_cons_succ]
          clear hK K
          clear so0 sn0 so1 sn1 so2 sn2 so3 sn3 so4 sn4 so5 sn5 so6 sn6 so7 sn7 so8 sn8 so9 sn9
          refine Rest.done (by kernel_rfl) ?_ _
          clear ao0 an0 ao1 an1 ao2 an2 ao3 an3 ao4 an4 ao5 an5 ao6 an6 ao7 an7 ao8 an8 ao9 an9
          generalize Y2.setCell ⟨w.heap.size + 2, 2, none⟩ (.slice pb (L.length + Lx.length) pd) = V5 at *
          obtain ⟨co0, co1, co2, co3, co4, co5, co6, co7, co8, co9⟩ := B5p.facts (show Hid _ from M5.out.out)
          obtain ⟨cn0, cn1, cn2, cn3, cn4, cn5, cn6, cn7, cn8, cn9⟩ := B5p.facts (show Hid _ from M5.out.xb)
          go_wp2_with fail
          refine ⟨⟨i + 1, v1, u1, (.slice fa F.length fc), (.slice pb (L.length + Lx.length) pd), F, (L ++ Lx), H2, by omega, by go_num, ?_⟩, by simp [intOf]; omega⟩
          rw [HJS.out, HU.out]
          exact Tm.done (Tm.null M5 false) (by simp [hpn, hyn]) HFP HY (by simp [hpn]) (by simp [hyn]) HH2

        | false =>
          obtain ⟨ao0, ao1, ao2, ao3, ao4, ao5, ao6, ao7, ao8, ao9⟩ := B5p.facts (show Hid _ from M3.out.out)
          obtain ⟨an0, an1, an2, an3, an4, an5, an6, an7, an8, an9⟩ := B5p.facts (show Hid _ from M3.out.xb)
          have M6 := Tm.only M3
          go_wp2_with fail
          refine ⟨⟨i + 1, v1, u1, (.slice fa F.length fc), (.slice za Lx.length zc), F, Lx, H2, by omega, by go_num, ?_⟩, by simp [intOf]; omega⟩
          rw [HJS.out, HU.out]
          exact Tm.done (Tm.null M6 false) (by simp [hpn, hyn]) HFP HY (by simp [hpn]) (by simp [hyn]) HH2

    · obtain rfl : i = l.length := by omega
      obtain ⟨fa, fc, rfl⟩ := B.out.of.form
      obtain ⟨ga, gc, rfl⟩ := B.out.ol.form
      obtain ⟨x0, x1, x2, x3, x4, x5, x6, x7, x8, x9⟩ := B5p.facts (show Hid _ from B.out.out)
      obtain ⟨z0, z1, z2, z3, z4, z5, z6, z7, z8, z9⟩ := B5p.facts (show Hid _ from B.out.zb)
      have BZ2 : Hid (B5p 41 (w.heap.size + 1) (.slice none 0 0) (.slice none 0 0) (.slice none 0 0) (.slice none 0 0) (.bool false) wr) := B.out.zb
      go_wp2_with fail
      refine bodyPost_ret (results_cell_row (p := 4) (ty := 41) rfl _ _ (w.heap.size + 1) 41 _ (0, 0) _ rfl (put5_heap BZ2.out _ _ _ _ _) Tryd.underlying41 rfl (by kernel_rfl)) rfl ?_
      exact Tc.tell B

end Go.Proofs.YtojbakkbmfgoaaaDoor

namespace Go.Proofs.YtojbakkbmfgoaaaDoor
open Go.RowKit
set_option linter.unusedVariables false

theorem rw_any : ∀ x : RX, x.nodes ≤ 1000 → x.formed = true → RwC x := by
  refine RX.ind ?_
  intro k p l ih hnd hf
  have hfk := formed_kind hf
  have hnn := hf
  rw [formed_at, Bool.and_eq_true] at hnn
  have hnode := hnn.1
  unfold RX.node node at hnode
  have h1 := nodes_at (⟨k, p, l⟩ : RX)
  have hall : ∀ y ∈ l, RwC y ∧ y.formed = true := by
    intro y hy
    have h2 := mem_le_sum (x := y) (l := l) hy
    have h3 := (formed_part hf (show y ∈ (⟨k, p, l⟩ : RX).args from hy)).1
    exact ⟨ih y hy (by simp only at h1; omega) h3, h3⟩
  have hlen : l.length ≤ 1000 := by have h2 := len_le_sum l; simp only at h1; omega
  simp only at hfk hnode
  by_cases h1k : k = 1
  · subst h1k
    exact rw_set p l
  · by_cases hk2 : k = 2 ∨ k = 3
    · rcases hk2 with rfl | rfl
      · exact rw_cat p l (by omega) hall
      · exact rw_alt p l (by omega) hall
    · have hk4 : k = 4 ∨ k = 5 ∨ k = 6 := by omega
      rw [if_neg (fun e => hk2 e.symm), if_pos hk4] at hnode
      have hone : l.length = 1 := by simp at hnode; exact hnode.2
      match l, hone, hall with
      | [x], _, hall =>
        have h3 := hall x (by simp)
        cases hb : x.pla.null <;> rcases hk4 with rfl | rfl | rfl
        · exact rw_sign4b p x h3.1 h3.2 hb
        · exact rw_sign5b p x h3.1 h3.2 hb
        · exact rw_sign6b p x h3.1 h3.2 hb
        · exact rw_sign4a p x h3.1 h3.2 hb
        · exact rw_sign5a p x h3.1 h3.2 hb
        · exact rw_sign6a p x h3.1 h3.2 hb

end Go.Proofs.YtojbakkbmfgoaaaDoor

namespace Go.Proofs.YtojbakkbmfgoaaaDoor
open Go.RowKit
set_option linter.unusedVariables false

theorem sorted_ext : ∀ {l m : List Nat}, l.Pairwise (· < ·) → m.Pairwise (· < ·) → (∀ x, x ∈ l ↔ x ∈ m) → l = m
  | [], [], _, _, _ => rfl
  | [], b :: m, _, _, h => absurd ((h b).2 (by simp)) (by simp)
  | a :: l, [], _, _, h => absurd ((h a).1 (by simp)) (by simp)
  | a :: l, b :: m, h1, h2, h => by
    obtain ⟨ha, hl⟩ := List.pairwise_cons.1 h1
    obtain ⟨hb, hm⟩ := List.pairwise_cons.1 h2
    have e : a = b := by
      have h3 := (h a).1 (by simp)
      have h4 := (h b).2 (by simp)
      rcases List.mem_cons.1 h3 with e | e
      · exact e
      · rcases List.mem_cons.1 h4 with e2 | e2
        · exact e2.symm
        · have := hb a e; have := ha b e2; omega
    subst e
    rw [sorted_ext hl hm (fun x => ?_)]
    constructor
    · intro hx
      have h3 := (h x).1 (List.mem_cons_of_mem _ hx)
      rcases List.mem_cons.1 h3 with e | e
      · have := ha x hx; omega
      · exact e
    · intro hx
      have h3 := (h x).2 (List.mem_cons_of_mem _ hx)
      rcases List.mem_cons.1 h3 with e | e
      · have := hb x hx; omega
      · exact e
theorem asc_sorted (n : Nat) (p : Nat → Bool) : (asc n p).Pairwise (· < ·) := List.Pairwise.filter _ List.pairwise_lt_range
theorem asc_congr {n : Nat} {p q : Nat → Bool} (h : ∀ i, i < n → p i = q i) : asc n p = asc n q := sorted_ext (asc_sorted n p) (asc_sorted n q) (fun x => by
  rw [asc_mem, asc_mem]
  constructor
  · rintro ⟨h1, h2⟩; exact ⟨h1, by rw [← h x h1]; exact h2⟩
  · rintro ⟨h1, h2⟩; exact ⟨h1, by rw [h x h1]; exact h2⟩)
theorem asc_ins {p q : Nat → Bool} {c k : Nat} (hc : c < 64) (hk : k ≤ (asc 64 p).length) (h1 : ∀ j y, j < k → (asc 64 p)[j]? = some y → y < c) (h2 : k < (asc 64 p).length → ∃ y, (asc 64 p)[k]? = some y ∧ c < y) (hq : ∀ n, q n = true ↔ (p n = true ∨ n = c)) : (asc 64 p).take k ++ [c] ++ (asc 64 p).drop k = asc 64 q := by
  have hs := asc_sorted 64 p
  have hm : ∀ x, x ∈ asc 64 p ↔ x < 64 ∧ p x = true := fun x => asc_mem
  generalize asc 64 p = O at *
  have ht : ∀ y ∈ O.take k, y < c := by
    intro y hy
    obtain ⟨j, hj⟩ := List.getElem?_of_mem hy
    rw [List.getElem?_take] at hj
    split at hj
    · exact h1 j y (by assumption) hj
    · cases hj
  have hd : ∀ y ∈ O.drop k, c < y := by
    intro y hy
    obtain ⟨j, hj⟩ := List.getElem?_of_mem hy
    rw [List.getElem?_drop] at hj
    obtain ⟨hlt, hj'⟩ := List.getElem?_eq_some_iff.1 hj
    obtain ⟨z, hz, hcz⟩ := h2 (by omega)
    obtain ⟨hlt2, hz'⟩ := List.getElem?_eq_some_iff.1 hz
    by_cases e : j = 0
    · subst e
      simp only [Nat.add_zero] at hj'
      rw [← hj', hz']; exact hcz
    · have := List.pairwise_iff_getElem.1 hs k (k + j) hlt2 hlt (by omega)
      rw [hz', hj'] at this
      omega
  refine sorted_ext ?_ (asc_sorted 64 q) (fun x => ?_)
  · rw [List.pairwise_append, List.pairwise_append]
    refine ⟨⟨hs.sublist (List.take_sublist _ _), by simp, fun a ha b hb => ?_⟩, hs.sublist (List.drop_sublist _ _), fun a ha b hb => ?_⟩
    · rw [List.mem_singleton] at hb
      subst hb
      exact ht a ha
    · rcases List.mem_append.1 ha with ha | ha
      · have := ht a ha; have := hd b hb; omega
      · rw [List.mem_singleton] at ha
        subst ha
        exact hd b hb
  · rw [asc_mem, hq, List.mem_append, List.mem_append, List.mem_singleton]
    have e : x ∈ O ↔ x ∈ O.take k ∨ x ∈ O.drop k := by
      rw [← List.mem_append, List.take_append_drop]
    have e2 := hm x
    constructor
    · rintro ((h | h) | h)
      · have := (e2.1 (e.2 (.inl h))); exact ⟨this.1, .inl this.2⟩
      · exact ⟨by omega, .inr h⟩
      · have := (e2.1 (e.2 (.inr h))); exact ⟨this.1, .inl this.2⟩
    · rintro ⟨h1, h | h⟩
      · rcases e.1 (e2.2 ⟨h1, h⟩) with h | h
        · exact .inl (.inl h)
        · exact .inr h
      · exact .inl (.inr h)
/-- The numbers of the first i of l. -/
def rs (l : List Nat) (i : Nat) : List Nat := asc 64 (fun n => (l.take i).contains n)
theorem rs_take {l : List Nat} {i c : Nat} (h : l[i]? = some c) (n : Nat) : (l.take (i + 1)).contains n = true ↔ ((l.take i).contains n = true ∨ n = c) := by
  rw [List.take_add_one, h]
  simp
theorem rs_ins {l : List Nat} {i c k : Nat} (h : l[i]? = some c) (hc : c < 64) (hk : k ≤ (rs l i).length) (h1 : ∀ j y, j < k → (rs l i)[j]? = some y → y < c) (h2 : k < (rs l i).length → ∃ y, (rs l i)[k]? = some y ∧ c < y) : (rs l i).take k ++ [c] ++ (rs l i).drop k = rs l (i + 1) :=
  asc_ins hc hk h1 h2 (rs_take h)
theorem rs_same {l : List Nat} {i c k : Nat} (h : l[i]? = some c) (h2 : (rs l i)[k]? = some c) : rs l i = rs l (i + 1) := by
  have h3 := (asc_mem.1 (List.mem_of_getElem? h2)).2
  refine asc_congr (fun n _ => ?_)
  rw [Bool.eq_iff_iff, rs_take h]
  constructor
  · exact .inl
  · rintro (e | rfl)
    · exact e
    · exact h3
theorem rs_len (l : List Nat) (i : Nat) : (rs l i).length ≤ 64 := asc_length 64 _
theorem rs_all (l : List Nat) (q : Nat → Bool) (h : ∀ n, n ∈ l ↔ q n = true) : rs l l.length = asc 64 q := by
  refine asc_congr (fun n _ => ?_)
  rw [List.take_length, Bool.eq_iff_iff, ← h n]
  simp
/-- A part of a row. -/
theorem Is.lo {w : World} {g cap : Nat} {O : List Nat} (h : Is w (.slice (some ⟨g, 0, none⟩) O.length cap) O) (k : Nat) (hk : k ≤ O.length) : Is w (.slice (some ⟨g, 0, none⟩) k cap) (O.take k) := by
  obtain ⟨a, c, e, h1, h2, h3, h4⟩ := h
  obtain ⟨rfl, _, rfl⟩ := Value.slice.inj e
  refine ⟨_, _, by rw [List.length_take, Nat.min_eq_left hk], ?_, by rw [List.length_take]; omega, (fun e => by cases e), h4⟩
  unfold zi
  rw [List.map_take]
  exact h1.take k
theorem Is.hi {w : World} {g cap : Nat} {O : List Nat} (h : Is w (.slice (some ⟨g, 0, none⟩) O.length cap) O) (k : Nat) (hk : k ≤ O.length) : Is w (.slice (if cap = k then some ⟨g, 0, none⟩ else some ⟨g, k, none⟩) (O.length - k) (cap - k)) (O.drop k) := by
  obtain ⟨a, c, e, h1, h2, h3, h4⟩ := h
  obtain ⟨rfl, _, rfl⟩ := Value.slice.inj e
  have hc : ∃ cs, w.heap[g]? = some (.cells cs 3 (0, 0)) := h4 _ rfl
  by_cases e : cap = k
  · rw [if_pos e]
    have e2 : O.drop k = [] := List.drop_eq_nil_of_le (by omega)
    rw [e2]
    refine ⟨some ⟨g, 0, none⟩, cap - k, by rw [show O.length - k = 0 from by omega]; rfl, Ls.nil _ _, Nat.zero_le _, (fun e => by cases e), fun p hp => ?_⟩
    cases hp
    exact hc
  · rw [if_neg e]
    refine ⟨some ⟨g, k, none⟩, cap - k, by rw [List.length_drop], ?_, by rw [List.length_drop]; omega, (fun e => by cases e), fun p hp => ?_⟩
    · have := h1.drop k
      unfold zi
      rw [List.map_drop]
      rw [Option.map_some, addr_add, Nat.zero_add] at this
      exact this
    · cases hp
      exact hc
end Go.Proofs.YtojbakkbmfgoaaaDoor
