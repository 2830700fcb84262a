/- The document's text: Edit, where it may be done. -/
import Derived.Test.YtjelclomigmlmaaR5
import Derived.BigRegion
import Derived.Deep.RegionLaw
namespace Go.Proofs.Ytjelclomigmlmaa
open Go.RowKit

theorem step_append_given {P : Program} {ops : Array Oper} {o : Oper} {a : Act} {w : World} {K : Act → World → Prop} {Q : Exit → Act → World → Prop} {E : Prop}
    (hg : o.guard = none) (s x : Operand) (t : TypeId) (hop : o.op = Op.call { callee := Callee.builtin Builtin.append, args := #[s, x], argTypes := #[t, t] })
    (sv xv v' : Value) (hs : a.eval s = sv) (hx : a.eval x = xv) (W : World) (hr : (Builtin.append_ #[t, t] o.type #[sv, xv]).run P w = .ok v' W)
    (hK : K (a.put o.dst v') W) : if Region.wanted o (yielded ops a.tmps) = true then Oper.wp P o a w K Q else E := by
  have hw : Region.wanted o (yielded ops a.tmps) = true := by simp [Region.wanted, hg]
  rw [if_pos hw]
  unfold Oper.wp
  simp [execOp, hop, resolve, invoke, builtin, hs, hx, hr, Result.andThen]
  exact hK

section
variable {w : World} {r : Nat} {L : List Bt} {m : Nat} {A : Nat → Int} {vl va : Value}
set_option maxHeartbeats 8000000 in
set_option maxRecDepth 20000 in
theorem redit_ok (h : Hid (RxAt w r L m A vl va)) (a b : Nat) (sa : Option Addr) (k sc : Nat) (f : Nat → Int) (hab : a ≤ b) (hb : b ≤ L.length) (hk : k ≤ 300) (hs : Hid (Sl w sa k (By f))) (hn : Hid (sa = none → k = 0 ∧ sc = 0)) (hm : m + k ≤ 20000) (hl : L.length + k ≤ 20000) :
    Calls Try.prog 14 #[.pointer (some ⟨r, 0, none⟩), .int .i64 a, .int .i64 b, .slice sa k sc] w fun e w' => e = .returned (.int .i64 0) ∧ ∃ vl' va', Hid (RxAt w' r (ins L a b m k) (m + k) (catI A m f) vl' va' ∧ Mv (fun j => j = r) w w' ∧ (∀ j, vl'.ownBlock = some j → w.heap.size ≤ j) ∧ ∀ j, va'.ownBlock = some j → w.heap.size ≤ j) := by
  obtain ⟨la, lc, rfl, ls, hlc, hln, -⟩ := ow_ls h.out.ll
  obtain ⟨aa, ac, rfl, asl, -, han⟩ := h.out.ad.sl
  have LS : Hid (Ls w la (cellsB L)) := ls
  have AS : Hid (Ls w aa (bv ((List.range m).map A))) := sl_ls asl
  have SS : Hid (Ls w sa (bv ((List.range k).map f))) := sl_ls hs.out
  have hrl := h.out.lt
  obtain ⟨N, hN⟩ : ∃ N, N = L.length := ⟨_, rfl⟩
  have HN : Hid (N = L.length) := hN
  have RC : Hid (∀ W, Below w.heap.size w W → W.cell? ⟨r, 0, none⟩ = some (.slice la N lc) ∧ W.cell? ⟨r, 1, none⟩ = some (.slice aa m ac) ∧ W.frozen? ⟨r, 0, none⟩ = false ∧ W.frozen? ⟨r, 1, none⟩ = false) := by
    intro W bW
    have := h.out.qt (qt_of_below bW)
    exact ⟨by rw [hN]; exact this.c0, this.c1, this.z0, this.z1⟩
  rw [← hN] at hlc hln hb hl
  clear hN ls asl
  obtain ⟨p1, k1, s1, f1, z1⟩ := slice_to2 la N lc a (by omega) hlc hln
  obtain ⟨p2, k2, s2, f2, z2⟩ := slice_from2 la N lc b hb hlc hln
  have P1 : Hid (Ls w p1 (cellsB (L.take a))) := f1 w L HN.out.symm LS.out
  have P2 : Hid (Ls w p2 (cellsB (L.drop b))) := f2 w L HN.out.symm LS.out
  have n1 : Hid ((L.take a).length = a) := by show _ = _; rw [List.length_take]; have := HN.out; omega
  have n2 : Hid ((L.drop b).length = N - b) := by show _ = _; rw [List.length_drop]; have := HN.out; omega
  have Z2 : Hid (p2 = none → (L.drop b).length = 0 ∧ k2 = 0) := by rw [n2.out]; exact z2
  have nA : Hid (((List.range m).map A).length = m) := by show _ = _; simp
  have nS : Hid (((List.range k).map f).length = k) := by show _ = _; simp
  have ZA : Hid (aa = none → ((List.range m).map A).length = 0 ∧ ac = 0) := by rw [nA.out]; exact han
  have ZS : Hid (sa = none → ((List.range k).map f).length = 0 ∧ sc = 0) := by rw [nS.out]; exact hn.out
  have q0 : Qt w (w.alloc (.cells #[] 61)) := (Qt.refl w).alloc _
  obtain ⟨v1, W1, hr1, o1, g1, -⟩ := append_2 44 (w.alloc (.cells #[] 61)) w.heap.size (.slice (some ⟨w.heap.size, 0, none⟩) 0 0) [] (L.take a) p1 k1 (ow_new w w.heap.size 2 61 #[] 0 (Nat.le_refl _) (by omega) rfl) (P1.out.qt q0) (by rw [n1.out]; simp only [List.length_nil]; omega) (by rw [n1.out]; exact z1) q0.size
  have Q1 : Hid (Qt w W1) := q0.trans (Mv.of_grown g1) (fun j hj e => by simp [Value.ownBlock] at e; omega)
  have OL1 : Hid (O2b W1 w.heap.size v1 (L.take a ++ sp1 ⟨true, m, m + 0⟩)) := by
    rw [sp1_none true m (m + 0) (by omega), List.append_nil]
    exact o1
  rw [n1.out] at hr1
  clear o1 g1 q0 f1 f2 z1 z2 hlc hln han
  have habz : (a : Int) ≤ b := by omega
  have hbz : (b : Int) ≤ N := by omega
  have hkz : (k : Int) ≤ 300 := by omega
  have haz : (a : Int) ≤ N := by omega
  have c0 := (RC.out w (Below.refl _ _)).1
  go_enter Try.func14, Try.ntmps14
  go_wp2_with (at_builtin; first | (refine wpList_append_given rfl _ _ 44 rfl _ _ _ W1 rfl rfl hr1 ?_))
  go_loopw [9, 10] (fun vo vi wr => ∃ i : Nat, i ≤ k ∧ vi = .int .i64 i ∧ Hid (O2b wr w.heap.size vo (L.take a ++ sp1 ⟨true, m, m + i⟩) ∧ Qt w wr)) (fun _ vi _ => k - (intOf vi).toNat)
  case atStart => exact ⟨0, by omega, rfl, OL1.out, Q1.out⟩
  case round =>
    clear hr1 OL1 Q1 c0
    obtain ⟨i, hi, rfl, S⟩ := hrel
    obtain ⟨c0, c1, y0, y1⟩ := RC.out _ (S.out.2.below _ (Nat.le_refl _))
    by_cases hlt : i < k
    · have hltz : (i : Int) < (k : Int) := by omega
      have hmz : (m : Int) + i ≤ 20000 := by omega
      obtain ⟨v', W, hr, o, mm, -⟩ := append_2one wr w.heap.size u9 _ true ((m : Int) + i) (m + i) (by omega) S.out.1 (by rw [List.length_append, n1.out, sp1_length]; show a + (m + i - m) < _; omega) S.out.2.size
      have S2 : Hid (O2b W w.heap.size v' (L.take a ++ sp1 ⟨true, m, m + (i + 1)⟩) ∧ Qt w W) := by
        refine ⟨?_, S.out.2.trans mm (fun j hj e => by have := (ow_blk S.out.1 j e).1; omega)⟩
        rw [show m + (i + 1) = m + i + 1 by omega, sp1_snoc true m (m + i) (by omega), ← List.append_assoc]
        exact o
      clear S o mm
      go_wp2_with (at_builtin; first | (refine wpList_append_given rfl _ _ 44 rfl _ _ _ W rfl rfl hr ?_))
      go_wp2_with fail
      exact ⟨⟨i + 1, by omega, by go_num, S2⟩, by simp [intOf]; omega⟩
    · obtain rfl : i = k := by omega
      have BE : Hid (Below w.heap.size w wr) := S.out.2.below _ (Nat.le_refl _)
      have ol : O2b wr w.heap.size u9 (L.take a ++ sp1 ⟨true, m, m + i⟩) := S.out.1
      have nl : Hid ((L.take a ++ sp1 ⟨true, m, m + i⟩).length = a + i) := by show _ = _; rw [List.length_append, n1.out, sp1_length]; show a + (m + i - m) = _; omega
      have FIN : Hid (∀ W v u, Below w.heap.size w W → O2b W w.heap.size v (L.take a ++ sp1 ⟨true, m, m + i⟩ ++ L.drop b) → OB W w.heap.size u ([] ++ (List.range m).map A ++ (List.range i).map f) → RxAt ((W.setCell ⟨r, 0, none⟩ v).setCell ⟨r, 1, none⟩ u) r (ins L a b m i) (m + i) (catI A m f) v u ∧ Mv (fun j => j = r) w ((W.setCell ⟨r, 0, none⟩ v).setCell ⟨r, 1, none⟩ u) ∧ (∀ j, v.ownBlock = some j → w.heap.size ≤ j) ∧ ∀ j, u.ownBlock = some j → w.heap.size ≤ j) := by
        intro W v u bW o p
        rw [List.nil_append, range_cat] at p
        have := redit_fin h.out bW o p
        exact ⟨this.1, this.2, fun j e => (ow_blk o j e).1, fun j e => (ow_blk p j e).1⟩
      clear S
      have LB64 : (L.take a ++ sp1 ⟨true, m, m + i⟩).length + (L.drop b).length < 100000 := by have h1 := nl.out; have h2 := n2.out; omega
      have LB70 : ([] : List Int).length + ((List.range m).map A).length < 100000 := by have h1 := nA.out; simp only [List.length_nil]; omega
      have LB72 : ([] ++ (List.range m).map A).length + ((List.range i).map f).length < 100000 := by have h1 := nA.out; have h2 := nS.out; simp only [List.nil_append]; omega
      have b0 : Below w.heap.size w wr.drew := BE.out.drew
      have bX : Below w.heap.size w (wr.alloc (.cells #[] 5)).drew := (BE.out.alloc BE.out.size _).drew
      have ol0 : O2b wr.drew w.heap.size u9 (L.take a ++ sp1 ⟨true, m, m + i⟩) := ol
      have olX : O2b (wr.alloc (.cells #[] 5)).drew w.heap.size u9 (L.take a ++ sp1 ⟨true, m, m + i⟩) := ow_alloc_drew ol _
      have eX : OB (wr.alloc (.cells #[] 5)).drew w.heap.size (.slice (some ⟨wr.heap.size, 0, none⟩) 0 0) [] := ob_empty_drew wr w.heap.size _ rfl BE.out.size
      obtain ⟨v64a, W64a, h64a, o64a, g64a, -⟩ := append_2 44 wr.drew w.heap.size u9 (L.take a ++ sp1 ⟨true, m, m + i⟩) (L.drop b) p2 k2 ol0 (P2.out.below b0) LB64 Z2.out (Below.size b0)
      have b64a := Below.grown b0 g64a (Below.size b0) (fun j hj => (ow_blk ol0 j hj).1)
      have bEa : Below w.heap.size w (W64a.alloc (.cells #[] 5)) := b64a.alloc b64a.size _
      have eEa : OB (W64a.alloc (.cells #[] 5)) w.heap.size (.slice (some ⟨W64a.heap.size, 0, none⟩) 0 0) [] := ob_empty W64a w.heap.size _ rfl b64a.size
      obtain ⟨v70a, W70a, h70a, o70a, g70a, -⟩ := append_b 28 (W64a.alloc (.cells #[] 5)) w.heap.size (.slice (some ⟨W64a.heap.size, 0, none⟩) 0 0) [] ((List.range m).map A) aa ac eEa (AS.out.below bEa) LB70 ZA.out (Below.size bEa)
      have b70a := Below.grown bEa g70a (Below.size bEa) (fun j hj => (ow_blk eEa j hj).1)
      obtain ⟨v72a, W72a, h72a, o72a, g72a, -⟩ := append_b 28 W70a w.heap.size v70a ([] ++ (List.range m).map A) ((List.range i).map f) sa sc o70a (SS.out.below b70a) LB72 ZS.out (Below.size b70a)
      have b72a := Below.grown b70a g72a (Below.size b70a) (fun j hj => (ow_blk o70a j hj).1)
      have f64a := carry (carry (ow_alloc o64a _) eEa g70a (by decide)) o70a g72a (by decide)
      obtain ⟨v64b, W64b, h64b, o64b, g64b, -⟩ := append_2 44 (wr.alloc (.cells #[] 5)).drew w.heap.size u9 (L.take a ++ sp1 ⟨true, m, m + i⟩) (L.drop b) p2 k2 olX (P2.out.below bX) LB64 Z2.out (Below.size bX)
      have b64b := Below.grown bX g64b (Below.size bX) (fun j hj => (ow_blk olX j hj).1)
      have eXb := carry eX olX g64b (by decide)
      obtain ⟨v70b, W70b, h70b, o70b, g70b, -⟩ := append_b 28 W64b w.heap.size (.slice (some ⟨wr.heap.size, 0, none⟩) 0 0) [] ((List.range m).map A) aa ac eXb (AS.out.below b64b) LB70 ZA.out (Below.size b64b)
      have b70b := Below.grown b64b g70b (Below.size b64b) (fun j hj => (ow_blk eXb j hj).1)
      obtain ⟨v72b, W72b, h72b, o72b, g72b, -⟩ := append_b 28 W70b w.heap.size v70b ([] ++ (List.range m).map A) ((List.range i).map f) sa sc o70b (SS.out.below b70b) LB72 ZS.out (Below.size b70b)
      have b72b := Below.grown b70b g72b (Below.size b70b) (fun j hj => (ow_blk o70b j hj).1)
      have f64b := carry (carry o64b eXb g70b (by decide)) o70b g72b (by decide)
      obtain ⟨v70c, W70c, h70c, o70c, g70c, -⟩ := append_b 28 (wr.alloc (.cells #[] 5)).drew w.heap.size (.slice (some ⟨wr.heap.size, 0, none⟩) 0 0) [] ((List.range m).map A) aa ac eX (AS.out.below bX) LB70 ZA.out (Below.size bX)
      have b70c := Below.grown bX g70c (Below.size bX) (fun j hj => (ow_blk eX j hj).1)
      have olc := carry olX eX g70c (by decide)
      obtain ⟨v64c, W64c, h64c, o64c, g64c, -⟩ := append_2 44 W70c w.heap.size u9 (L.take a ++ sp1 ⟨true, m, m + i⟩) (L.drop b) p2 k2 olc (P2.out.below b70c) LB64 Z2.out (Below.size b70c)
      have b64c := Below.grown b70c g64c (Below.size b70c) (fun j hj => (ow_blk olc j hj).1)
      have o70c2 := carry o70c olc g64c (by decide)
      obtain ⟨v72c, W72c, h72c, o72c, g72c, -⟩ := append_b 28 W64c w.heap.size v70c ([] ++ (List.range m).map A) ((List.range i).map f) sa sc o70c2 (SS.out.below b64c) LB72 ZS.out (Below.size b64c)
      have b72c := Below.grown b64c g72c (Below.size b64c) (fun j hj => (ow_blk o70c2 j hj).1)
      have f64c := carry o64c o70c2 g72c (by decide)
      obtain ⟨v72d, W72d, h72d, o72d, g72d, -⟩ := append_b 28 W70c w.heap.size v70c ([] ++ (List.range m).map A) ((List.range i).map f) sa sc o70c (SS.out.below b70c) LB72 ZS.out (Below.size b70c)
      have b72d := Below.grown b70c g72d (Below.size b70c) (fun j hj => (ow_blk o70c j hj).1)
      have old := carry olc o70c g72d (by decide)
      obtain ⟨v64d, W64d, h64d, o64d, g64d, -⟩ := append_2 44 W72d w.heap.size u9 (L.take a ++ sp1 ⟨true, m, m + i⟩) (L.drop b) p2 k2 old (P2.out.below b72d) LB64 Z2.out (Below.size b72d)
      have b64d := Below.grown b72d g64d (Below.size b72d) (fun j hj => (ow_blk old j hj).1)
      have f72d := carry o72d old g64d (by decide)
      have FA : Hid _ := FIN.out W72a v64a v72a b72a f64a o72a
      have FB : Hid _ := FIN.out W72b v64b v72b b72b f64b o72b
      have FC : Hid _ := FIN.out W72c v64c v72c b72c f64c o72c
      have FD : Hid _ := FIN.out W64d v64d v72d b64d o64d f72d
      obtain ⟨x64a, y64a, rfl, -⟩ := ow_ls o64a
      obtain ⟨x64b, y64b, rfl, -⟩ := ow_ls o64b
      obtain ⟨x64c, y64c, rfl, -⟩ := ow_ls o64c
      obtain ⟨x64d, y64d, rfl, -⟩ := ow_ls o64d
      obtain ⟨x72a, y72a, rfl, -⟩ := ow_ls o72a
      obtain ⟨x72b, y72b, rfl, -⟩ := ow_ls o72b
      obtain ⟨x72c, y72c, rfl, -⟩ := ow_ls o72c
      obtain ⟨x72d, y72d, rfl, -⟩ := ow_ls o72d
      obtain ⟨x70a, y70a, rfl, -⟩ := ow_ls o70a
      obtain ⟨x70b, y70b, rfl, -⟩ := ow_ls o70b
      obtain ⟨x70c, y70c, rfl, -⟩ := ow_ls o70c
      obtain ⟨c064a, c164a, -, -⟩ := RC.out W64a b64a
      obtain ⟨c0Ea, c1Ea, -, -⟩ := RC.out (W64a.alloc (.cells #[] 5)) bEa
      obtain ⟨c0X, c1X, -, -⟩ := RC.out (wr.alloc (.cells #[] 5)) (BE.out.alloc BE.out.size _)
      obtain ⟨c070a, c170a, -, -⟩ := RC.out W70a b70a
      obtain ⟨c072a, c172a, q072a, q172a⟩ := RC.out W72a b72a
      obtain ⟨c064b, c164b, -, -⟩ := RC.out W64b b64b
      obtain ⟨c070b, c170b, -, -⟩ := RC.out W70b b70b
      obtain ⟨c072b, c172b, q072b, q172b⟩ := RC.out W72b b72b
      obtain ⟨c070c, c170c, -, -⟩ := RC.out W70c b70c
      obtain ⟨c064c, c164c, -, -⟩ := RC.out W64c b64c
      obtain ⟨c072c, c172c, q072c, q172c⟩ := RC.out W72c b72c
      obtain ⟨c072d, c172d, -, -⟩ := RC.out W72d b72d
      obtain ⟨c064d, c164d, q064d, q164d⟩ := RC.out W64d b64d
      clear f64a f64b f64c f72d old olc eX eXb eEa olX ol0 ol o70c2 o64a o70a o72a o64b o70b o72b o70c o64c o72c o72d o64d g64a g70a g72a g64b g70b g72b g70c g64c g72c g72d g64d b64a b70a b72a b64b b70b b72b b70c b64c b72c b72d b64d b0 bX bEa
      have n70 : ([] ++ (List.range m).map A).length = m := by simp
      have n72 : ([] ++ (List.range m).map A ++ (List.range i).map f).length = m + i := by simp
      rw [n2.out] at h64a h64b h64c h64d
      rw [n70] at h70a h70b h70c h72a h72b h72c h72d
      rw [n72] at h72a h72b h72c h72d FA FB FC FD
      clear n70 n72
      generalize (L.take a ++ sp1 ⟨true, m, m + i⟩ ++ L.drop b).length = ln at *
      rw [nA.out] at h70a h70b h70c
      rw [nS.out] at h72a h72b h72c h72d
      go_wp2_with fail
      go_region_law (first
        | ((with_reducible show (if _ then Oper.wp _ _ _ (wr.drew) _ _ else _)); refine step_append_given rfl (.tmp 57) (.tmp 63) 44 rfl _ _ _ rfl rfl W64a h64a ?_)
        | ((with_reducible show (if _ then Oper.wp _ _ _ (W64a.alloc (.cells #[] 5)) _ _ else _)); refine step_append_given rfl (.tmp 65) (.tmp 69) 28 rfl _ _ _ rfl rfl W70a h70a ?_)
        | ((with_reducible show (if _ then Oper.wp _ _ _ (W70a) _ _ else _)); refine step_append_given rfl (.tmp 70) (.tmp 71) 28 rfl _ _ _ rfl rfl W72a h72a ?_)
        | ((with_reducible show (if _ then Oper.wp _ _ _ ((wr.alloc (.cells #[] 5)).drew) _ _ else _)); refine step_append_given rfl (.tmp 57) (.tmp 63) 44 rfl _ _ _ rfl rfl W64b h64b ?_)
        | ((with_reducible show (if _ then Oper.wp _ _ _ (W64b) _ _ else _)); refine step_append_given rfl (.tmp 65) (.tmp 69) 28 rfl _ _ _ rfl rfl W70b h70b ?_)
        | ((with_reducible show (if _ then Oper.wp _ _ _ (W70b) _ _ else _)); refine step_append_given rfl (.tmp 70) (.tmp 71) 28 rfl _ _ _ rfl rfl W72b h72b ?_)
        | ((with_reducible show (if _ then Oper.wp _ _ _ ((wr.alloc (.cells #[] 5)).drew) _ _ else _)); refine step_append_given rfl (.tmp 65) (.tmp 69) 28 rfl _ _ _ rfl rfl W70c h70c ?_)
        | ((with_reducible show (if _ then Oper.wp _ _ _ (W70c) _ _ else _)); refine step_append_given rfl (.tmp 57) (.tmp 63) 44 rfl _ _ _ rfl rfl W64c h64c ?_)
        | ((with_reducible show (if _ then Oper.wp _ _ _ (W64c) _ _ else _)); refine step_append_given rfl (.tmp 70) (.tmp 71) 28 rfl _ _ _ rfl rfl W72c h72c ?_)
        | ((with_reducible show (if _ then Oper.wp _ _ _ (W70c) _ _ else _)); refine step_append_given rfl (.tmp 70) (.tmp 71) 28 rfl _ _ _ rfl rfl W72d h72d ?_)
        | ((with_reducible show (if _ then Oper.wp _ _ _ (W72d) _ _ else _)); refine step_append_given rfl (.tmp 57) (.tmp 63) 44 rfl _ _ _ rfl rfl W64d h64d ?_))
      all_goals (go_wp2_with fail; go_ret; first | exact ⟨rfl, _, _, FA⟩ | exact ⟨rfl, _, _, FB⟩ | exact ⟨rfl, _, _, FC⟩ | exact ⟨rfl, _, _, FD⟩)
end
end Go.Proofs.Ytjelclomigmlmaa
