/- Rows of bytes, as lists; what a text spells: spell. -/
import Derived.Test.YtjelclomigmlmaaE1
namespace Go.Proofs.Ytjelclomigmlmaa
open Go.RowKit

def bv (l : List Int) : List Value := l.map (Value.int .u8)
/-- A row of bytes of its own. -/
abbrev OB (w : World) (base : Nat) (v : Value) (l : List Int) : Prop := w.ownsRow base 5 1 v l.length (bv l)
theorem bv_one (l : List Int) : ∀ u ∈ bv l, u.oneCell' = true := by
  intro u hu
  obtain ⟨x, _, rfl⟩ := List.mem_map.1 hu
  rfl
theorem append_b (ty : TypeId) (w : World) (base : Nat) (v : Value) (l l' : List Int) (s : Option Addr) (c : Nat) (h : OB w base v l) (hs : Ls w s (bv l')) (hn : l.length + l'.length < 100000) (hnone : s = none → l'.length = 0 ∧ c = 0) (hb : base ≤ w.heap.size) :
    ∃ v' W, (Builtin.append_ #[28, 28] ty #[v, .slice s l'.length c]).run Try.prog w = .ok v' W ∧ OB W base v' (l ++ l') ∧ w.grownBy W v.ownBlock ∧ (v'.ownBlock = v.ownBlock ∨ ∃ g, v'.ownBlock = some g ∧ w.heap.size ≤ g) := by
  obtain ⟨v', W, h1, h2, h3⟩ := append_ow 28 ty 5 Try.t5 (.int .u8 0) 1 1 Try.underlying28 info5 (by kernel_rfl) (by kernel_rfl) (by kernel_rfl) (by rfl) (by omega) (by omega) w base v l.length l'.length c (bv l) (bv l') s h hs (by rw [bv, List.length_map, Nat.mul_one]) (bv_one l') hn hnone hb
  refine ⟨v', W, h1, ?_, h3⟩
  have e : bv l ++ bv l' = bv (l ++ l') := by rw [bv, bv, bv, List.map_append]
  rw [e, ← List.length_append] at h2
  exact h2
theorem ls_sl {w : World} {a : Option Addr} {l : List Int} (h : Ls w a (bv l)) : Sl w a l.length (By fun i => l.getD i 0) := by
  intro i hi
  have : (bv l)[i]? = some (.int .u8 (l.getD i 0)) := by
    rw [bv, List.getElem?_map, List.getElem?_eq_getElem hi]
    simp [List.getD, List.getElem?_eq_getElem hi]
  exact h i _ this
theorem sl_ls {w : World} {a : Option Addr} {n : Nat} {f : Nat → Int} (h : Sl w a n (By f)) : Ls w a (bv ((List.range n).map f)) := by
  intro i u hi
  have hl : i < n := by
    have := (List.getElem?_eq_some_iff.1 hi).1
    rw [bv, List.length_map, List.length_map, List.length_range] at this
    exact this
  have e : u = By f i := by
    rw [bv, List.getElem?_map, List.getElem?_map, List.getElem?_range hl] at hi
    simp at hi
    exact hi.symm
  rw [e]
  exact h i hl
theorem txt_list (l : List Int) : txt (fun i => l.getD i 0) l.length = strOfNums l := by
  unfold txt
  congr 1
  apply List.ext_getElem
  · simp
  · intro i h1 h2
    simp [List.getD, List.getElem?_eq_getElem h2]
theorem conv_list (v : Value) (base : Nat) (l : List Int) (w : World) (h : OB w base v l) : ∃ a c, v = .slice a l.length c ∧ (convert 28 9 (.slice a l.length c)).run Try.prog w = .ok (.string (strOfNums l)) w := by
  obtain ⟨a, c, e, h1, _⟩ := ow_ls h
  refine ⟨a, c, e, ?_⟩
  rw [← txt_list]
  exact conv_any a l.length c _ w (ls_sl h1)

/-- One byte more. -/
theorem append_byte (w : World) (base : Nat) (v : Value) (l : List Int) (x : Int) (h : OB w base v l) (hl : l.length < 90000) (hb : base ≤ w.heap.size) :
    ∃ v' W, (Builtin.append_ #[28, 28] 28 #[v, .slice (some ⟨w.heap.size, 0, none⟩) 1 1]).run Try.prog (w.alloc (.cells #[.int .u8 x] 5)) = .ok v' W ∧ OB W base v' (l ++ [x]) ∧ Mv (fun j => v.ownBlock = some j) w W := by
  have q : Qt w (w.alloc (.cells #[.int .u8 x] 5)) := (Qt.refl w).alloc _
  obtain ⟨v', W, h1, h2, h3, _⟩ := append_b 28 _ base v l [x] (some ⟨w.heap.size, 0, none⟩) 1 (q.owns h (fun _ _ h => h)) (Ls.new w #[.int .u8 x] 5) (by simp; omega) (fun e => by cases e) (Nat.le_trans hb q.size)
  exact ⟨v', W, h1, h2, (q.mono (fun _ _ h => h.elim)).trans (Mv.of_grown h3) (fun _ _ h => h)⟩

/-- The byte that stands there, over a file G. -/
def bt (G A : Nat → Int) (x : Bt) : Int := if x.1 then A x.2 else G x.2
/-- A file of bytes that rise. -/
def Gr : Nat → Int := fun k => (k : Int)

/-- What was spelt so far: new memory. -/
def Sp (w wr : World) (v : Value) (l : List Int) : Prop := OB wr w.heap.size v l ∧ Qt w wr
theorem Sp.put {w wr W : World} {v v' : Value} {l : List Int} {x : Int} (h : Sp w wr v l) (o : OB W w.heap.size v' (l ++ [x])) (m : Mv (fun j => v.ownBlock = some j) wr W) : Sp w W v' (l ++ [x]) :=
  ⟨o, h.2.trans m (fun j hj e => by have := (ow_blk h.1 j e).1; omega)⟩

set_option maxHeartbeats 4000000 in
theorem spell_any {w : World} {p n : Nat} {L : List Bt} {m : Nat} {A : Nat → Int} {Y : Nat → Prop} (h : Hid (Tx w p n L m A Y)) (hn : n ≤ 256) :
    Calls Try.prog 26 #[.pointer (some ⟨p, 0, none⟩)] w fun e w' => e = .returned (.string (strOfNums (L.map (bt Gr A)))) ∧ Hid (Qt w w') := by
  obtain ⟨tx, htx⟩ : ∃ tx, tx = strOfNums (L.map (bt Gr A)) := ⟨_, rfl⟩
  have TX : Hid (tx = strOfNums (L.map (bt Gr A))) := htx
  rw [← htx]
  clear htx
  obtain ⟨vp, va, H⟩ := h.out
  have WF : Hid (Wf n m L) := H.wf
  have F : Hid (Fit (nf L)) := H.fit
  have LL : Hid (L.length ≤ 20000) := H.small.2.2
  have hlN : (nf L).length ≤ 20000 := H.len
  have hm20 : m ≤ 20000 := H.small.2.1
  have SPN : Hid (spl (nf L) = L) := spl_nf L
  have PIN : Hid (∀ q ∈ nf L, ∀ k, q.fr ≤ k → k < q.to → (q.ad, k) ∈ L) := by
    intro q hq k h1 h2
    have : ((q.ad, k) : Bt) ∈ spl (nf L) := mem_spl hq (sp1_mem.2 ⟨rfl, h1, h2⟩)
    rw [spl_nf] at this
    exact this
  clear H
  obtain ⟨N, hN⟩ : ∃ N, N = (nf L).length := ⟨_, rfl⟩
  have HN : Hid (N = (nf L).length) := hN
  rw [← hN] at hlN
  go_enter Try.func26, Try.ntmps26
  go_wp2_with fail
  refine (pieces_any h).mono ?_
  rintro e w1 ⟨v1, rfl, F1⟩
  have T1 : Hid (Tx w1 p n L m A (fun j => Y j ∨ w.heap.size ≤ j ∧ j < w1.heap.size)) := h.out.qt F1.out.2
  obtain ⟨a1, c1, rfl, l1, -⟩ := ow_ls F1.out.1
  have L1 : Hid (Ls w1 a1 (cellsP (nf L))) := l1
  have Q1 : Hid (Qt w w1) := F1.out.2
  rw [← hN]
  clear l1 F1 hN
  go_wp2_with fail
  refine (added_any T1).mono ?_
  rintro e w2 ⟨v2, rfl, F2⟩
  obtain ⟨a2, c2, rfl, s2, -⟩ := F2.out.1.sl
  have S2 : Hid (Sl w2 a2 m (By A)) := s2
  have Q2 : Hid (Qt w w2) := Q1.out.comp F2.out.2
  have L2 : Hid (Ls w2 a1 (cellsP (nf L))) := L1.out.qt F2.out.2
  clear s2 F2 T1 L1 Q1 h
  generalize nf L = ps at *
  go_wp2_with fail
  go_loopw [3, 6] (fun vo vi wr => ∃ i : Nat, i ≤ N ∧ vi = .int .i64 i ∧ Hid (Sp w2 wr vo ((spl (ps.take i)).map (bt Gr A)))) (fun _ vi _ => N - (intOf vi).toNat)
  case atStart => exact ⟨0, by omega, rfl, ow_nil _ _ _ _, Qt.refl _⟩
  case round =>
    obtain ⟨i, hi, rfl, S⟩ := hrel
    by_cases hlt : i < N
    · have hltz : (i : Int) < (N : Int) := by omega
      obtain ⟨q, hq⟩ : ∃ p, ps[i]? = some p := ⟨ps[i]'(by have := HN.out; omega), List.getElem?_eq_getElem _⟩
      have hqm := List.mem_of_getElem? hq
      have ft := F.out q hqm
      have PQ : Hid (∀ k, q.fr ≤ k → k < q.to → (q.ad, k) ∈ L) := PIN.out q hqm
      obtain ⟨b, off, rfl, hb, -⟩ := ls_get (L2.out) hq
      have CE : Hid (∀ W, Qt w2 W → W.cell? ⟨b, off + i * 3, none⟩ = some (.bool q.ad) ∧ W.cell? ⟨b, off + i * 3 + 1, none⟩ = some (.int .i64 q.fr) ∧ W.cell? ⟨b, off + i * 3 + 2, none⟩ = some (.int .i64 q.to)) := by
        intro W k
        obtain ⟨b', off', e, _, h⟩ := ls_get (L2.out.qt k) hq
        cases e
        exact h
      have TS : Hid (spl (ps.take (i + 1)) = spl (ps.take i) ++ sp1 q) := by
        show _ = _
        rw [take_succ_get hq, spl_append, spl_cons, spl_nil, List.append_nil]
      have LEN : Hid ((spl (ps.take (i + 1))).length ≤ 20000) := by
        have h2 : (spl (ps.take (i + 1))).length ≤ (spl ps).length := by
          conv => rhs; rw [← List.take_append_drop (i + 1) ps, spl_append, List.length_append]
          omega
        rw [SPN.out] at h2
        exact Nat.le_trans h2 LL.out
      obtain ⟨ad, fr, to⟩ := q
      simp only at ft PQ CE
      obtain ⟨ft1, ft2⟩ := ft
      obtain ⟨d0, d1, d2⟩ := CE.out wr S.out.2
      clear hq hqm hb
      go_wp2_with fail
      clear d0 d1 d2
      go_loopw [3, 7] (fun vo vk wr => ∃ k : Nat, fr ≤ k ∧ k ≤ to ∧ vk = .int .i64 k ∧ Hid (Sp w2 wr vo ((spl (ps.take i) ++ sp1 ⟨ad, fr, k⟩).map (bt Gr A)))) (fun _ vk _ => to - (intOf vk).toNat)
      case atStart => exact ⟨fr, by omega, by omega, rfl, by rw [sp1_none _ _ _ (Nat.le_refl _), List.append_nil]; exact S⟩
      case round =>
        clear S
        obtain ⟨k, hk1, hk2, rfl, S⟩ := hrel
        obtain ⟨d0, d1, d2⟩ := CE.out _ S.out.2
        by_cases hlt2 : k < to
        · have hlt2z : (k : Int) < (to : Int) := by omega
          have MEM := PQ.out k hk1 hlt2
          have WK := WF.out _ MEM
          have TB : Hid (sp1 ⟨ad, fr, k + 1⟩ = sp1 ⟨ad, fr, k⟩ ++ [(ad, k)]) := sp1_snoc ad fr k hk1
          have LB : ((spl (ps.take i) ++ sp1 ⟨ad, fr, k⟩).map (bt Gr A)).length < 90000 := by
            have h1 := LEN.out
            rw [TS.out, List.length_append, sp1_length] at h1
            rw [List.length_map, List.length_append, sp1_length]
            simp only at h1 ⊢
            omega
          cases ad with
          | false =>
            have hk256 : k < 256 := by have := WK.1 rfl; simp only at this; omega
            obtain ⟨v', W, hr, o, mm⟩ := append_byte _ w2.heap.size _ _ (k : Int) S.out.1 LB S.out.2.size
            have S3 : Hid (Sp w2 W v' ((spl (ps.take i) ++ sp1 ⟨false, fr, k + 1⟩).map (bt Gr A))) := by
              rw [TB.out, ← List.append_assoc, List.map_append]
              exact S.out.put o mm
            clear MEM WK LB o mm TB
            go_wp2_with (at_builtin; first | (refine wpList_append_given rfl _ _ 28 rfl _ _ _ W rfl rfl hr ?_))
            go_roundw
            case rel => exact ⟨k + 1, by omega, by omega, by go_num, S3⟩
            case measure => simp [intOf]; omega
          | true =>
            have hkm : k < m := WK.2 rfl
            have hkmz : (k : Int) < (m : Int) := by omega
            obtain ⟨b3, o3, rfl, _, hc3⟩ := (S2.out.mv S.out.2 (fun _ _ h => h)) k hkm
            obtain ⟨v', W, hr, o, mm⟩ := append_byte _ w2.heap.size _ _ (A k) S.out.1 LB S.out.2.size
            have S3 : Hid (Sp w2 W v' ((spl (ps.take i) ++ sp1 ⟨true, fr, k + 1⟩).map (bt Gr A))) := by
              rw [TB.out, ← List.append_assoc, List.map_append]
              exact S.out.put o mm
            have hc4 : _ = some (Value.int .u8 (A k)) := hc3
            clear MEM WK LB o mm TB hc3
            generalize A k = x at hc4 hr
            go_wp2_with (at_builtin; first | (refine wpList_append_given rfl _ _ 28 rfl _ _ _ W rfl rfl hr ?_))
            go_roundw
            case rel => exact ⟨k + 1, by omega, by omega, by go_num, S3⟩
            case measure => simp [intOf]; omega
        · obtain rfl : k = to := by omega
          rw [← TS.out] at S
          go_wp2_with fail
          go_roundw
          case rel => exact ⟨i + 1, by omega, by go_num, S⟩
          case measure => simp [intOf]; omega
    · obtain rfl : i = N := by omega
      have E : (spl (ps.take i)).map (bt Gr A) = L.map (bt Gr A) := by
        rw [List.take_of_length_le (by have := HN.out; omega), SPN.out]
      have S3 := S.out
      rw [E] at S3
      obtain ⟨a4, c4, rfl, cv⟩ := conv_list _ _ _ _ S3.1
      have Q4 : Hid (Qt w wr) := Q2.out.comp S3.2
      clear S S3 E
      rw [← TX.out] at cv
      generalize (L.map (bt Gr A)).length = ln at *
      go_wp2_with fail
      go_ret
      exact ⟨rfl, Q4⟩
end Go.Proofs.Ytjelclomigmlmaa
