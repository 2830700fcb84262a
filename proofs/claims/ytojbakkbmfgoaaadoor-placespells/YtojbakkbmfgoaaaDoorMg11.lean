/- What an expression is made of: levelOf, isNode, takes. -/
import Derived.Test.YtojbakkbmfgoaaaDoorMg09
import Derived.Test.YtojbakkbmfgoaaaDoorMsC4
namespace Go.Proofs.YtojbakkbmfgoaaaDoor
open Go.RowKit
set_option linter.unusedVariables false

theorem svz : sv (fun _ => false) = .agg #[.int .u64 0, .int .u64 0, .int .u64 0, .int .u64 0] := by rw [sv_cells, limb_none, limb_none, limb_none, limb_none]; rfl
theorem int_nat (n m : Nat) : decide (n = m) = ((n : Int) == (m : Int)) := by
  rw [show ((n : Int) == (m : Int)) = decide ((n : Int) = (m : Int)) from rfl]
  exact decide_eq_decide.2 (by omega)
theorem beq_no {a b : Int} (h : a ≠ b) : (a == b) = false := by simp [h]
set_option maxHeartbeats 400000 in
theorem level_any (k : Int) (w : World) : Calls Tryd.prog 46 #[.int .i64 k] w fun e w' => e = .returned (.int .i64 (lvl k)) ∧ w' = w := by
  by_cases h3 : k = 3
  · subst h3
    go_enter Tryd.func46, Tryd.ntmps46
    go_wp2_with fail
    go_ret
    exact ⟨rfl, rfl⟩
  by_cases h2 : k = 2
  · subst h2
    go_enter Tryd.func46, Tryd.ntmps46
    go_wp2_with fail
    go_ret
    exact ⟨rfl, rfl⟩
  by_cases h4 : k = 4
  · subst h4
    go_enter Tryd.func46, Tryd.ntmps46
    go_wp2_with fail
    go_ret
    exact ⟨rfl, rfl⟩
  by_cases h5 : k = 5
  · subst h5
    go_enter Tryd.func46, Tryd.ntmps46
    go_wp2_with fail
    go_ret
    exact ⟨rfl, rfl⟩
  by_cases h6 : k = 6
  · subst h6
    go_enter Tryd.func46, Tryd.ntmps46
    go_wp2_with fail
    go_ret
    exact ⟨rfl, rfl⟩
  by_cases h1 : k = 1
  · subst h1
    go_enter Tryd.func46, Tryd.ntmps46
    go_wp2_with fail
    go_ret
    exact ⟨rfl, rfl⟩
  have e : lvl k = 0 := by unfold lvl; rw [if_neg h3, if_neg h2, if_neg (by omega), if_neg h1]
  rw [e]
  have e1 := beq_no h1
  have e2 := beq_no h2
  have e3 := beq_no h3
  have e4 := beq_no h4
  have e5 := beq_no h5
  have e6 := beq_no h6
  go_enter Tryd.func46, Tryd.ntmps46
  go_wp2_with fail
  go_ret
  exact ⟨rfl, rfl⟩

set_option maxHeartbeats 400000 in
theorem isNode_any (k : Int) (p : Nat → Bool) (a : Option Addr) (n c : Nat) (w : World) : Calls Tryd.prog 45 #[xv k p a n c] w fun e w' => e = .returned (.bool (node k p n)) ∧ Hid (Qt w w') := by
  have hq := fun W => neq_run p (fun _ => false) W
  rw [same_none, svz, sv_cells] at hq
  have hl := fun W => level_any k W
  unfold xv
  generalize limb p 0 = x0 at *
  generalize limb p 1 = x1 at *
  generalize limb p 2 = x2 at *
  generalize limb p 3 = x3 at *
  unfold node
  generalize any p = s at *
  by_cases h3 : k = 3 ∨ k = 2
  · rw [if_pos h3]
    have e : lvl k = 1 ∨ lvl k = 2 := by rcases h3 with rfl | rfl <;> decide
    generalize lvl k = L at *
    clear h3
    rcases e with rfl | rfl
    · cases s
      · go_enter Tryd.func45, Tryd.ntmps45
        go_wp2_with fail
        refine (hl _).mono ?_
        rintro e w1 ⟨rfl, rfl⟩
        go_wp2_with fail
        go_ret
        exact ⟨by simp; omega, (Qt.refl w).alloc _⟩
      · go_enter Tryd.func45, Tryd.ntmps45
        go_wp2_with fail
        refine (hl _).mono ?_
        rintro e w1 ⟨rfl, rfl⟩
        go_wp2_with fail
        go_ret
        exact ⟨rfl, (Qt.refl w).alloc _⟩
    · cases s
      · go_enter Tryd.func45, Tryd.ntmps45
        go_wp2_with fail
        refine (hl _).mono ?_
        rintro e w1 ⟨rfl, rfl⟩
        go_wp2_with fail
        go_ret
        exact ⟨by simp; omega, (Qt.refl w).alloc _⟩
      · go_enter Tryd.func45, Tryd.ntmps45
        go_wp2_with fail
        refine (hl _).mono ?_
        rintro e w1 ⟨rfl, rfl⟩
        go_wp2_with fail
        go_ret
        exact ⟨rfl, (Qt.refl w).alloc _⟩
  rw [if_neg h3]
  by_cases h4 : k = 4 ∨ k = 5 ∨ k = 6
  · rw [if_pos h4]
    have e : lvl k = 3 := by rcases h4 with rfl | rfl | rfl <;> decide
    rw [e] at hl
    clear h3 h4 e
    cases s
    · go_enter Tryd.func45, Tryd.ntmps45
      go_wp2_with fail
      refine (hl _).mono ?_
      rintro e w1 ⟨rfl, rfl⟩
      go_wp2_with fail
      go_ret
      exact ⟨by rw [int_nat n 1]; rfl, (Qt.refl w).alloc _⟩
    · go_enter Tryd.func45, Tryd.ntmps45
      go_wp2_with fail
      refine (hl _).mono ?_
      rintro e w1 ⟨rfl, rfl⟩
      go_wp2_with fail
      go_ret
      exact ⟨rfl, (Qt.refl w).alloc _⟩
  rw [if_neg h4]
  by_cases h1 : k = 1
  · rw [if_pos h1]
    have e : lvl k = 4 := by rw [h1]; decide
    rw [e] at hl
    clear h3 h4 h1 e
    cases s
    · go_enter Tryd.func45, Tryd.ntmps45
      go_wp2_with fail
      refine (hl _).mono ?_
      rintro e w1 ⟨rfl, rfl⟩
      go_wp2_with fail
      go_ret
      exact ⟨rfl, (Qt.refl w).alloc _⟩
    · go_enter Tryd.func45, Tryd.ntmps45
      go_wp2_with fail
      refine (hl _).mono ?_
      rintro e w1 ⟨rfl, rfl⟩
      go_wp2_with fail
      go_ret
      exact ⟨by rw [int_nat n 0]; rfl, (Qt.refl w).alloc _⟩
  rw [if_neg h1]
  have e : lvl k = 0 := by unfold lvl; rw [if_neg (by omega), if_neg (by omega), if_neg h4, if_neg h1]
  rw [e] at hl
  clear h3 h4 h1 e
  cases s
  · go_enter Tryd.func45, Tryd.ntmps45
    go_wp2_with fail
    refine (hl _).mono ?_
    rintro e w1 ⟨rfl, rfl⟩
    go_wp2_with fail
    go_ret
    exact ⟨rfl, (Qt.refl w).alloc _⟩
  · go_enter Tryd.func45, Tryd.ntmps45
    go_wp2_with fail
    refine (hl _).mono ?_
    rintro e w1 ⟨rfl, rfl⟩
    go_wp2_with fail
    go_ret
    exact ⟨rfl, (Qt.refl w).alloc _⟩

end Go.Proofs.YtojbakkbmfgoaaaDoor

namespace Go.Proofs.YtojbakkbmfgoaaaDoor
open Go.RowKit
set_option linter.unusedVariables false

/-- Within so many nodes and so deep? -/
def fits (x : RX) (d L : Nat) : Bool := decide (x.nodes ≤ L ∧ x.depth ≤ d)
/-- The nodes of the first i parts. -/
def used (l : List RX) (i : Nat) : Nat := ((l.take i).map RX.nodes).sum
theorem used_succ {l : List RX} {i : Nat} {x : RX} (h : l[i]? = some x) : used l (i + 1) = used l i + x.nodes := by
  unfold used
  rw [List.take_add_one, h]
  simp
theorem used_all (l : List RX) : used l l.length = (l.map RX.nodes).sum := by unfold used; rw [List.take_length]
theorem used_le (l : List RX) (i : Nat) : used l i ≤ (l.map RX.nodes).sum := by
  unfold used
  conv => rhs; rw [← List.take_append_drop i l]
  rw [List.map_append, List.sum_append]
  omega
/-- While nodes are counted off. -/
structure Cnt (q : Nat) (l : List RX) (d L i : Nat) (w0 w : World) : Prop where
  mv : Mv (fun k => k = q) w0 w
  at_ : w.cell? ⟨q, 0, none⟩ = some (.int .i64 ((L - used l i : Nat) : Int))
  fz : w.frozen? ⟨q, 0, none⟩ = false
  le : used l i ≤ L
  deep : ∀ x ∈ l.take i, x.depth ≤ d

set_option maxHeartbeats 1000000 in
theorem takes_any (q : Nat) : ∀ (x : RX) (K : Nat → Prop) (cs : List Value) (d L : Nat) (w : World), x.lies K w cs → (∀ j, K j → j ≠ q) → w.cell? ⟨q, 0, none⟩ = some (.int .i64 (L : Int)) → w.frozen? ⟨q, 0, none⟩ = false → L < 1000000 → d < 1000000 →
    Calls Tryd.prog 48 #[.agg cs.toArray, .int .i64 (d : Int), .pointer (some ⟨q, 0, none⟩)] w fun e w' => e = .returned (.bool (fits x d L)) ∧ Hid (Mv (fun k => k = q) w w') ∧ Hid (w'.frozen? ⟨q, 0, none⟩ = false ∧ (fits x d L = true → w'.cell? ⟨q, 0, none⟩ = some (.int .i64 ((L - x.nodes : Nat) : Int)))) := by
  refine RX.ind ?_
  intro k p l ih K cs d L w hx hK hc hf hL hd
  obtain ⟨a, c, rfl, hp⟩ := RX.lies_iff.1 hx
  have IH : Hid _ := ih
  have HP : Hid (Parts l K w a c) := hp
  have HK : Hid _ := hK
  have hlen : l.length < 140737488355328 := by obtain ⟨_, _, _, h, _⟩ := HP.out; exact h.1
  have hn1 : RX.nodes ⟨k, p, l⟩ = 1 + (l.map RX.nodes).sum := nodes_eq k p l
  have hd1 : RX.depth ⟨k, p, l⟩ = maxl (l.map RX.depth) + 1 := depth_eq k p l
  have HQ : Hid (q < w.heap.size) := World.block_lt_of_cell? w _ hc
  generalize hX : RX.mk k p l = X at *
  clear hx hp ih hK hX
  unfold cells6
  generalize limb p 0 = x0 at *
  generalize limb p 1 = x1 at *
  generalize limb p 2 = x2 at *
  generalize limb p 3 = x3 at *
  have hc2 : (w.alloc (.cells #[.int .i64 k, .int .u64 x0, .int .u64 x1, .int .u64 x2, .int .u64 x3, .slice a l.length c] 29)).cell? ⟨q, 0, none⟩ = some (.int .i64 (L : Int)) := (Mv.alloc (fun _ => False) w _).cell hc (fun h => h)
  have hf2 : (w.alloc (.cells #[.int .i64 k, .int .u64 x0, .int .u64 x1, .int .u64 x2, .int .u64 x3, .slice a l.length c] 29)).frozen? ⟨q, 0, none⟩ = false := by rw [(Mv.alloc (fun _ => False) w _).frozen (p := ⟨q, 0, none⟩) HQ.out (fun h => h)]; exact hf
  have HP2 : Hid (Parts l K (w.alloc (.cells #[.int .i64 k, .int .u64 x0, .int .u64 x1, .int .u64 x2, .int .u64 x3, .slice a l.length c] 29)) a c) := HP.out.mv (Mv.alloc (fun _ => False) w _) (fun _ _ h => h)
  have HM0 : Hid (Mv (fun k => k = q) w (w.alloc (.cells #[.int .i64 k, .int .u64 x0, .int .u64 x1, .int .u64 x2, .int .u64 x3, .slice a l.length c] 29))) := Mv.alloc _ _ _
  by_cases hd0 : d = 0
  · subst hd0
    have hF : fits X 0 L = false := by unfold fits; simp; omega
    rw [hF]
    clear hd
    go_enter Tryd.func48, Tryd.ntmps48
    go_wp2_with fail
    go_ret
    exact ⟨rfl, Mv.alloc _ _ _, hf2, fun h => by cases h⟩
  by_cases hL0 : L = 0
  · subst hL0
    have hF : fits X d 0 = false := by unfold fits; simp; omega
    rw [hF]
    have hz : ((d : Int) == 0) = false := by simp; omega
    generalize (d : Int) = d1 at *
    go_enter Tryd.func48, Tryd.ntmps48
    go_wp2_with fail
    go_ret
    exact ⟨rfl, Mv.alloc _ _ _, hf2, fun h => by cases h⟩
  obtain ⟨M, rfl⟩ : ∃ M, L = M + 1 := ⟨L - 1, by omega⟩
  obtain ⟨e, rfl⟩ : ∃ e, d = e + 1 := ⟨d - 1, by omega⟩
  have hz : (((e + 1 : Nat) : Int) == 0) = false := by simp; omega
  have hz2 : (((M + 1 : Nat) : Int) == 0) = false := by simp; omega
  have e1 : ((e + 1 : Nat) : Int) - 1 = (e : Int) := by omega
  have e2 : ((M + 1 : Nat) : Int) - 1 = (M : Int) := by omega
  have b1 : -1000000 ≤ ((e + 1 : Nat) : Int) ∧ ((e + 1 : Nat) : Int) ≤ 1000000 := by omega
  have b2 : -1000000 ≤ ((M + 1 : Nat) : Int) ∧ ((M + 1 : Nat) : Int) ≤ 1000000 := by omega
  generalize ((M + 1 : Nat) : Int) = M1 at *
  generalize ((e + 1 : Nat) : Int) = d1 at *
  have HD : Hid (e < 999999) := by show _ < _; omega
  have HM : Hid (M < 999999) := by show _ < _; omega
  have H1 : Hid _ := hn1
  have H2 : Hid _ := hd1
  clear hn1 hd1 hc hf hL hd hL0 hd0
  have HA : Hid (w.cell? ⟨q, 0, none⟩ = w.cell? ⟨q, 0, none⟩) := rfl
  go_enter Tryd.func48, Tryd.ntmps48
  go_wp2_with fail
  have B0 : Hid (Cnt q l e M 0 w ((w.alloc (.cells #[.int .i64 k, .int .u64 x0, .int .u64 x1, .int .u64 x2, .int .u64 x3, .slice a l.length c] 29)).setCell ⟨q, 0, none⟩ (.int .i64 M))) := by
    refine ⟨HM0.out.trans (Mv.setCell _ _ _) (fun _ _ h => h), World.cell?_setCell_same _ _ _ hc2, by rw [World.frozen?_setCell]; exact hf2, by unfold used; simp, fun x hx => by simp at hx⟩
  have P0 : Hid (Parts l K ((w.alloc (.cells #[.int .i64 k, .int .u64 x0, .int .u64 x1, .int .u64 x2, .int .u64 x3, .slice a l.length c] 29)).setCell ⟨q, 0, none⟩ (.int .i64 M)) a c) := HP2.out.mv (Mv.setCell _ _ _) HK.out
  clear hc2 hf2 HP2 HM0
  generalize (w.alloc (.cells #[.int .i64 k, .int .u64 x0, .int .u64 x1, .int .u64 x2, .int .u64 x3, .slice a l.length c] 29)).setCell ⟨q, 0, none⟩ (.int .i64 M) = W at *
  go_loopw [25] (fun s25 wr => ∃ i : Nat, i ≤ l.length ∧ s25 = .int .i64 i ∧ Hid (Cnt q l e M i w wr)) (fun s25 _ => l.length - (intOf s25).toNat)
  case atStart => exact ⟨0, by omega, rfl, B0⟩
  case round =>
    obtain ⟨i, hi, rfl, B⟩ := hrel
    by_cases hlt : i < l.length
    · obtain ⟨x, hx⟩ : ∃ x, l[i]? = some x := ⟨_, List.getElem?_eq_getElem hlt⟩
      have PW := HP.out.mv B.out.mv HK.out
      obtain ⟨b, o, a', c', ha, hp', q0, q1, q2, q3, q4, q5⟩ := PW.at hx
      subst ha
      have hmem : x ∈ l := List.mem_of_getElem? hx
      have HX : Hid (l[i]? = some x) := hx
      have hle := B.out.le
      have HT : Hid _ := IH.out x hmem K _ e (M - used l i) (wr.alloc (.cells #[.int .i64 x.kind, .int .u64 (limb x.set 0), .int .u64 (limb x.set 1), .int .u64 (limb x.set 2), .int .u64 (limb x.set 3), .slice a' x.args.length c'] 29)) (lies_of (hp'.mv (Mv.alloc (fun _ => False) wr _) (fun _ _ h => h))) HK.out ((Mv.alloc (fun _ => False) wr _).cell B.out.at_ (fun h => h)) (by rw [(Mv.alloc (fun _ => False) wr _).frozen (p := ⟨q, 0, none⟩) (World.block_lt_of_cell? wr _ B.out.at_) (fun h => h)]; exact B.out.fz) (by have := HM.out; omega) (by have := HD.out; omega)
      have QA : Hid (Mv (fun k => k = q) wr (wr.alloc (.cells #[.int .i64 x.kind, .int .u64 (limb x.set 0), .int .u64 (limb x.set 1), .int .u64 (limb x.set 2), .int .u64 (limb x.set 3), .slice a' x.args.length c'] 29))) := Mv.alloc _ _ _
      clear PW hmem hx hp' hle
      go_wp2_with fail
      refine Calls.mono HT.out ?_
      rintro e3 w3 ⟨rfl, m3, t3⟩
      have MW : Hid (Mv (fun k => k = q) w w3) := (B.out.mv.trans QA.out (fun _ _ h => h)).trans m3.out (fun _ _ h => h)
      clear QA HT q0 q1 q2 q3 q4 q5
      cases hF : fits x e (M - used l i) with
      | true =>
        have T3 : Hid (fits x e (M - used l i) = true) := hF
        have hc3 := t3.out.2 hF
        clear hF
        go_wp2_with fail
        have T4 : x.nodes ≤ M - used l i ∧ x.depth ≤ e := of_decide_eq_true T3.out
        have hle := B.out.le
        refine ⟨⟨i + 1, by omega, by go_num, ⟨MW.out, ?_, ?_, ?_, ?_⟩⟩, by simp [intOf]; omega⟩
        · rw [hc3, used_succ HX.out]; congr 3; omega
        · exact t3.out.1
        · rw [used_succ HX.out]; omega
        · intro y hy
          rw [List.take_add_one, HX.out] at hy
          rcases List.mem_append.1 hy with hy | hy
          · exact B.out.deep y hy
          · simp at hy; rw [hy]; exact T4.2
      | false =>
        have T3 : Hid (fits x e (M - used l i) = false) := hF
        clear hF
        go_wp2_with fail
        go_ret
        have hF : fits X (e + 1) (M + 1) = false := by
          have T4 : ¬ (x.nodes ≤ M - used l i ∧ x.depth ≤ e) := of_decide_eq_false T3.out
          unfold fits
          refine decide_eq_false ?_
          rw [H1.out, H2.out]
          rintro ⟨g1, g2⟩
          have hu := used_le l (i + 1)
          rw [used_succ HX.out] at hu
          have hm : x.depth ≤ maxl (l.map RX.depth) := le_maxl (List.mem_map_of_mem (List.mem_of_getElem? HX.out))
          exact T4 ⟨by omega, by omega⟩
        exact ⟨by rw [hF]; rfl, MW.out, t3.out.1, fun h => by rw [hF] at h; cases h⟩
    · obtain rfl : i = l.length := by omega
      go_wp2_with fail
      go_ret
      have hle := B.out.le
      rw [used_all] at hle
      have hF : fits X (e + 1) (M + 1) = true := by
        unfold fits
        refine decide_eq_true ?_
        rw [H1.out, H2.out]
        refine ⟨by omega, ?_⟩
        have : maxl (l.map RX.depth) ≤ e := by
          rw [maxl_le]
          intro n hn
          obtain ⟨y, hy, rfl⟩ := List.mem_map.1 hn
          exact B.out.deep y (by rw [List.take_length]; exact hy)
        omega
      refine ⟨by rw [hF]; rfl, B.out.mv, B.out.fz, fun _ => ?_⟩
      rw [B.out.at_, used_all, H1.out]
      congr 3
      omega

end Go.Proofs.YtojbakkbmfgoaaaDoor
