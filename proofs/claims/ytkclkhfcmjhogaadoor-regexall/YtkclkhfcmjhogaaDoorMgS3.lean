/- Show. -/
import Derived.Test.YtkclkhfcmjhogaaDoorMgS1
import Derived.Test.YtkclkhfcmjhogaaDoorMgS2
import Derived.Test.YtkclkhfcmjhogaaDoorMgL
import Derived.Test.YtkclkhfcmjhogaaDoorMgA2
import Derived.Test.YtkclkhfcmjhogaaDoorMgA
namespace Go.Proofs.YtkclkhfcmjhogaaDoor
open Go.RowKit
set_option linter.unusedVariables false

/-- What Show tells. -/
def Sw (p : Nat → Bool) (w : World) (e : Ending) (w' : World) : Prop := ∃ R, Runs p 0 R ∧ e = .returned (.string (str (shw R))) ∧ Qt w w'
abbrev cs4 (p : Nat → Bool) : Array Value := #[.int .u64 (limb p 0), .int .u64 (limb p 1), .int .u64 (limb p 2), .int .u64 (limb p 3)]
theorem same_none2 (p : Nat → Bool) : same p (fun _ => false) = !any p := by rw [← same_none]; simp
theorem eql_none (p : Nat → Bool) (W : World) : (binOp .eql 25 (.agg #[.int .u64 (limb p 0), .int .u64 (limb p 1), .int .u64 (limb p 2), .int .u64 (limb p 3)]) (.agg #[.int .u64 0, .int .u64 0, .int .u64 0, .int .u64 0])).run Tryd.prog W = .ok (.bool (!any p)) W := by
  have := eql_run p (fun _ => false) W
  rwa [sv_none, sv_cells, same_none2] at this
theorem sv_all : sv (fun _ => true) = .agg #[.int .u64 18446744073709551615, .int .u64 18446744073709551615, .int .u64 18446744073709551615, .int .u64 18446744073709551615] := by
  rw [sv_cells, limb_all, limb_all, limb_all, limb_all]; rfl
theorem eql_all (p : Nat → Bool) (W : World) : (binOp .eql 25 (.agg #[.int .u64 (limb p 0), .int .u64 (limb p 1), .int .u64 (limb p 2), .int .u64 (limb p 3)]) (.agg #[.int .u64 18446744073709551615, .int .u64 18446744073709551615, .int .u64 18446744073709551615, .int .u64 18446744073709551615])).run Tryd.prog W = .ok (.bool (same p (fun _ => true))) W := by
  have := eql_run p (fun _ => true) W
  rwa [sv_cells p, sv_all] at this

set_option maxHeartbeats 1000000 in
theorem show_empty (p : Nat → Bool) (h : any p = false) (w : World) : Calls Tryd.prog 57 #[sv p] w fun e w' => Sw p w e w' := by
  have he := eql_none p
  rw [h] at he
  have HR : Hid (Runs p 0 []) := fun b _ hb => any_false.1 h b hb
  clear h
  rw [sv_cells]
  go_enter Tryd.func57, Tryd.ntmps57
  go_wp2_with fail
  go_ret
  exact ⟨[], HR.out, rfl, (Qt.refl w).alloc _⟩

/-- What a region may read of W, and that nothing has turned since. -/
theorem hold4 {W w' : World} {g : Nat} {u0 u1 u2 u3 : Value} (c0 : Hid (W.cell? ⟨g, 0, none⟩ = some u0)) (c1 : Hid (W.cell? ⟨g, 1, none⟩ = some u1)) (c2 : Hid (W.cell? ⟨g, 2, none⟩ = some u2)) (c3 : Hid (W.cell? ⟨g, 3, none⟩ = some u3)) (q : Hid (Qt W w')) :
    w'.cell? ⟨g, 0, none⟩ = some u0 ∧ w'.cell? ⟨g, 1, none⟩ = some u1 ∧ w'.cell? ⟨g, 2, none⟩ = some u2 ∧ w'.cell? ⟨g, 3, none⟩ = some u3 ∧ Hid (Qt W w') :=
  ⟨Qt.keep q c0.out, Qt.keep q c1.out, Qt.keep q c2.out, Qt.keep q c3.out, q⟩
theorem hold4q {W w' w'' : World} {A B C D : Prop} (q : Hid (Qt w' w'')) (h : A ∧ B ∧ C ∧ D ∧ Hid (Qt W w')) : Hid (Qt W w'') := h.2.2.2.2.out.comp q.out
theorem c4 (w : World) (p : Nat → Bool) : (w.alloc (.cells (cs4 p) 25)).cell? ⟨w.heap.size, 0, none⟩ = some (.int .u64 (limb p 0)) ∧ (w.alloc (.cells (cs4 p) 25)).cell? ⟨w.heap.size, 1, none⟩ = some (.int .u64 (limb p 1)) ∧ (w.alloc (.cells (cs4 p) 25)).cell? ⟨w.heap.size, 2, none⟩ = some (.int .u64 (limb p 2)) ∧ (w.alloc (.cells (cs4 p) 25)).cell? ⟨w.heap.size, 3, none⟩ = some (.int .u64 (limb p 3)) := ⟨by simp, by simp, by simp, by simp⟩

set_option maxHeartbeats 1000000 in
theorem show_all (p : Nat → Bool) (h : any p = true) (hs : same p (fun _ => true) = true) (w : World) : Calls Tryd.prog 57 #[sv p] w fun e w' => Sw p w e w' := by
  have he := eql_none p
  have he2 := eql_all p
  rw [h] at he
  rw [hs] at he2
  have HR : Hid (Runs p 0 [(0, 255)]) := by
    have := same_like.1 hs
    exact ⟨by omega, by omega, by omega, fun c _ h => by omega, fun c _ h => this c (by omega), fun h => by omega, fun b h1 h2 => by omega⟩
  clear h hs
  rw [sv_cells]
  go_enter Tryd.func57, Tryd.ntmps57
  go_wp2_with fail
  obtain ⟨k0, k1, k2, k3⟩ := c4 w p
  have Q0 : Hid (Qt w (w.alloc (.cells (cs4 p) 25))) := (Qt.refl w).alloc _
  generalize w.alloc (.cells (cs4 p) 25) = W at *
  have C0 : Hid _ := k0
  have C1 : Hid _ := k1
  have C2 : Hid _ := k2
  have C3 : Hid _ := k3
  have DQ : Hid (Qt W W.drew) := Mv.drewN _ W 1
  go_region_held3 (fun w' => w'.cell? ⟨w.heap.size, 0, none⟩ = some (.int .u64 (limb p 0)) ∧ w'.cell? ⟨w.heap.size, 1, none⟩ = some (.int .u64 (limb p 1)) ∧ w'.cell? ⟨w.heap.size, 2, none⟩ = some (.int .u64 (limb p 2)) ∧ w'.cell? ⟨w.heap.size, 3, none⟩ = some (.int .u64 (limb p 3)) ∧ Hid (Qt W w'))
    (first | (refine hold4 C0 C1 C2 C3 ?_; first | exact hold4q (by assumption) (by assumption) | exact DQ | exact Qt.comp DQ.out (Hid.out (by assumption))))
    ((first | (go_at_call 74; with_reducible refine (not_none _).mono ?_; rintro e4 w4 ⟨rfl, q4⟩; rw [sv_all])))
  go_wp2_with fail
  go_ret
  exact ⟨_, HR.out, rfl, (Q0.out.comp DQ.out).comp q4.out⟩

end Go.Proofs.YtkclkhfcmjhogaaDoor

namespace Go.Proofs.YtkclkhfcmjhogaaDoor
open Go.RowKit
set_option linter.unusedVariables false

theorem rtx_lt {r : Nat × Nat} (h : r.1 ≤ r.2 ∧ r.2 < 256) : (∀ c ∈ rtx r, c < 256) ∧ (rtx r).length ≤ 9 := by
  have hs : ∀ x, x < 256 → (∀ c ∈ shn x, c < 256) := by
    intro x hx c hc
    unfold shn hexd at hc
    split at hc
    · simp at hc; omega
    · split at hc
      · simp at hc; omega
      · simp at hc
        rcases hc with rfl | rfl | rfl | rfl
        · omega
        · omega
        · split <;> omega
        · split <;> omega
  have h1 := hs r.1 (by omega)
  have h2 := hs r.2 (by omega)
  have l1 := shn_le r.1
  have l2 := shn_le r.2
  unfold rtx
  split
  · exact ⟨h1, by omega⟩
  · split
    · refine ⟨fun c hc => ?_, by simp; omega⟩
      rcases List.mem_append.1 hc with hc | hc
      · exact h1 c hc
      · exact h2 c hc
    · refine ⟨fun c hc => ?_, by simp; omega⟩
      rcases List.mem_append.1 hc with hc | hc
      · exact h1 c hc
      · rcases List.mem_cons.1 hc with rfl | hc
        · omega
        · exact h2 c hc
theorem flat_lt {R : List (Nat × Nat)} (h : Goodr R) : (∀ c ∈ R.flatMap rtx, c < 256) ∧ (R.flatMap rtx).length ≤ 9 * R.length := by
  induction R with
  | nil => exact ⟨by simp, by simp⟩
  | cons r R ih =>
    obtain ⟨a, b⟩ := ih (fun x hx => h x (List.mem_cons_of_mem _ hx))
    obtain ⟨c, d⟩ := rtx_lt (h r (List.mem_cons_self ..))
    rw [List.flatMap_cons]
    refine ⟨fun x hx => ?_, by rw [List.length_append, List.length_cons]; omega⟩
    rcases List.mem_append.1 hx with hx | hx
    · exact c x hx
    · exact a x hx
theorem rc_at {R : List (Nat × Nat)} {i : Nat} (h : i < R.length) : (rc R)[i * 2]? = some (.int .u8 ((R[i]).1 : Int)) ∧ (rc R)[i * 2 + 1]? = some (.int .u8 ((R[i]).2 : Int)) := by
  induction R generalizing i with
  | nil => simp at h
  | cons r R ih =>
    have e : rc (r :: R) = .int .u8 (r.1 : Int) :: .int .u8 (r.2 : Int) :: rc R := by unfold rc; rw [List.flatMap_cons]; rfl
    rw [e]
    cases i with
    | zero => exact ⟨rfl, rfl⟩
    | succ i =>
      obtain ⟨a, b⟩ := ih (i := i) (by simp at h; omega)
      rw [show (i + 1) * 2 = i * 2 + 1 + 1 from by omega]
      exact ⟨by simpa using a, by simpa using b⟩
theorem take_flat {R : List (Nat × Nat)} {i : Nat} (h : i < R.length) : (R.take (i + 1)).flatMap rtx = (R.take i).flatMap rtx ++ rtx (R[i]) := by
  rw [List.take_succ_eq_append_getElem h, List.flatMap_append]
  simp
theorem Below.ls {B : Nat} {w w' : World} (h : Below B w w') {a : Option Addr} {xs : List Value} (hl : Ls w a xs) (hb : ∀ p, a = some p → p.block < B) : Ls w' a xs := by
  intro j u hj
  obtain ⟨b, off, e, hlt, hc⟩ := hl j u hj
  exact ⟨b, off, e, Nat.lt_of_lt_of_le hlt h.size, (h.cell (p := ⟨b, off + j, none⟩) (hb ⟨b, off, none⟩ e)).trans hc⟩

/-- A text while its runs are shown. -/
structure Bw (w W wr : World) (b : Nat) (R : List (Nat × Nat)) (i : Nat) : Prop where
  bu : Bu b (91 :: (R.take i).flatMap rtx) wr
  be : Below b W wr

theorem Bu.qt {b : Nat} {l : List Nat} {w w' : World} (h : Hid (Bu b l w)) (k : Hid (Qt w w')) : Hid (Bu b l w') := by
  obtain ⟨h1, v, h2, h3, h4⟩ := h.out
  refine ⟨h1, v, ?_, k.out.owns h3 (fun _ _ h => h), h4⟩
  rw [k.out.block b (Array.getElem?_eq_some_iff.1 h2).1 (fun h => h)]; exact h2
theorem Bu.lt {b : Nat} {l : List Nat} {w : World} (h : Bu b l w) : b < w.heap.size := by
  obtain ⟨h1, v, h2, h3, h4⟩ := h
  exact (Array.getElem?_eq_some_iff.1 h2).1
theorem Bw.step {w W wr w1 w2 : World} {b : Nat} {R : List (Nat × Nat)} {i : Nat} (hi : i < R.length) (B : Hid (Bw w W wr b R i)) (q : Hid (Qt wr w1)) (h : Hid (Bu b ((91 :: (R.take i).flatMap rtx) ++ rtx (R[i])) w2 ∧ Below b w1 w2)) : Hid (Bw w W w2 b R (i + 1)) := by
  refine ⟨?_, (B.out.be.trans (q.out.below (Nat.le_of_lt B.out.bu.lt) (fun _ _ h => h))).trans h.out.2⟩
  rw [take_flat hi]
  exact h.out.1

set_option maxHeartbeats 4000000 in
theorem show_rest (p : Nat → Bool) (h : any p = true) (hs : same p (fun _ => true) = false) (w : World) (hT : Hid (Tab w)) : Calls Tryd.prog 57 #[sv p] w fun e w' => Sw p w e w' := by
  have he := eql_none p
  have he2 := eql_all p
  rw [h] at he
  rw [hs] at he2
  have HA : Hid (any p = true) := h
  have HS : Hid (same p (fun _ => true) = false) := hs
  clear h hs
  rw [sv_cells]
  go_enter Tryd.func57, Tryd.ntmps57
  go_wp2_with fail
  obtain ⟨k0, k1, k2, k3⟩ := c4 w p
  have Q0 : Hid (Qt w (w.alloc (.cells (cs4 p) 25))) := (Qt.refl w).alloc _
  generalize w.alloc (.cells (cs4 p) 25) = W at *
  have C0 : Hid _ := k0
  have C1 : Hid _ := k1
  have C2 : Hid _ := k2
  have C3 : Hid _ := k3
  have DQ : Hid (Qt W W.drew) := Mv.drewN _ W 1
  go_region_held3 (fun w' => w'.cell? ⟨w.heap.size, 0, none⟩ = some (.int .u64 (limb p 0)) ∧ w'.cell? ⟨w.heap.size, 1, none⟩ = some (.int .u64 (limb p 1)) ∧ w'.cell? ⟨w.heap.size, 2, none⟩ = some (.int .u64 (limb p 2)) ∧ w'.cell? ⟨w.heap.size, 3, none⟩ = some (.int .u64 (limb p 3)) ∧ Hid (Qt W w'))
    (first | (refine hold4 C0 C1 C2 C3 ?_; first | exact hold4q (by assumption) (by assumption) | exact DQ | exact Qt.comp DQ.out (Hid.out (by assumption))))
    ((first | (go_at_call 74; with_reducible refine (not_none _).mono ?_; rintro e4 w4 ⟨rfl, q4⟩; rw [sv_all])))
  have Q4 : Hid (Qt W w4) := DQ.out.comp q4.out
  obtain ⟨j0, j1, j2, j3, _⟩ := hold4 C0 C1 C2 C3 Q4
  clear k0 k1 k2 k3 C0 C1 C2 C3
  have hRu := runs_any p w4 (hT.out.qt (Q0.out.comp Q4.out))
  rw [sv_cells] at hRu
  go_wp2_with fail
  refine hRu.mono ?_
  rintro e5 w5 hR
  obtain ⟨R, v, rfl, hR1, hR2, hR3, hR4⟩ := hR
  clear hRu j0 j1 j2 j3 he he2
  obtain ⟨ra, rcap, rfl, hLs, hrc, hrn, hrb⟩ := ow_ls hR2
  have HR : Hid (Runs p 0 R) := hR1
  have Q5 : Hid (Qt w w5) := (Q0.out.comp Q4.out).comp hR3
  have HL : Hid (Ls w5 ra (rc R)) := hLs
  have HB : Hid (∀ p, ra = some p → p.block < w5.heap.size) := fun q hq => (ow_blk hR2 _ (hrb q hq)).2
  clear hR1 hR2 hR3 hLs hrb hrn
  by_cases hone : ∃ a, R = [(a, a)]
  · obtain ⟨a, rfl⟩ := hone
    have hg := HR.out.good (a, a) (List.mem_cons_self ..)
    have ha : a < 256 := hg.2
    obtain ⟨rb, ro, rfl, _, c0⟩ := HL.out 0 _ rfl
    obtain ⟨_, _, e9, _, c1⟩ := HL.out 1 _ rfl
    cases e9
    rw [Nat.add_zero] at c0
    simp only at c0 c1
    clear hg HL HB
    go_wp2_with fail
    go_quiet (fail)
    have c2 : (w5.drewN nq).cell? ⟨rb, ro, none⟩ = some (.int .u8 (a : Int)) := c0
    have QD : Hid (Qt w (w5.drewN nq)) := Q5.out.comp (Mv.drewN _ _ _)
    obtain ⟨W6, hW6⟩ : ∃ W6, W6 = w5.drewN nq := ⟨_, rfl⟩
    rw [← hW6] at c2 QD
    rw [← hW6]
    clear hW6 c0 c1
    go_wp2_with fail
    refine (signOf_any a ha _).mono ?_
    rintro e7 w7 ⟨rfl, n7, rfl⟩
    go_wp2_with fail
    go_ret
    exact ⟨_, HR.out, by simp [shw], QD.out.comp (Mv.drewN _ _ _)⟩
  · have hshw : Hid (shw R = 91 :: (R.flatMap rtx ++ [93])) := by
      show _ = _
      match R, HR, hone with
      | [], HR, hone =>
        exfalso
        obtain ⟨b, hb, hp⟩ := any_true.1 HA.out
        rw [HR.out b (by omega) hb] at hp
        cases hp
      | [(a, b)], HR, hone =>
        have hab : ¬ a = b := fun h => hone ⟨a, by rw [h]⟩
        have hall : ¬ (a = 0 ∧ b = 255) := by
          rintro ⟨rfl, rfl⟩
          have : same p (fun _ => true) = true := same_like.2 (fun c hc => HR.out.2.2.2.2.1 c (by omega) (by omega))
          rw [HS.out] at this
          cases this
        simp [shw, hab, hall]
      | r1 :: r2 :: R, HR, hone => rfl
    have hne1 : R.length = 1 ∨ ¬ R.length = 1 := by omega
    have HG : Hid (Goodr R) := HR.out.good
    rcases hne1 with h1 | h1
    · obtain ⟨a, b, hab⟩ : ∃ a b, R = [(a, b)] := by
        match R, h1 with
        | [(a, b)], _ => exact ⟨a, b, rfl⟩
      have hne : ((a : Int) == (b : Int)) = false := by
        have : a ≠ b := fun h => hone ⟨a, by rw [hab, h]⟩
        simp; omega
      obtain ⟨rb0, ro0, hra, _, c0⟩ := HL.out 0 (.int .u8 (a : Int)) (by rw [hab]; rfl)
      obtain ⟨_, _, e9, _, c1⟩ := HL.out 1 (.int .u8 (b : Int)) (by rw [hab]; rfl)
      rw [hra] at e9
      cases e9
      subst hra
      rw [Nat.add_zero] at c0
      have hd : ((R.length : Int) == 1) = true := by simp; omega
      have hd2 : (R.length == 1) = true := by simp; omega
      have hpos : 0 < R.length := by omega
      clear hab
      obtain ⟨n, hn⟩ : ∃ n, n = R.length := ⟨_, rfl⟩
      have HN : Hid (n = R.length) := hn
      rw [← hn] at hR4 hrc hd hd2 hpos
      rw [← hn]
      clear hn hone h1
      go_wp2_with fail
      go_quiet (fail)
      have QD : Hid (Qt w (w5.drewN nq)) := Q5.out.comp (Mv.drewN _ _ _)
      have HLD : Hid (Ls (w5.drewN nq) (some ⟨rb0, ro0, none⟩) (rc R)) := HL.out
      have HBD : Hid (∀ p : Addr, some ⟨rb0, ro0, none⟩ = some p → p.block < (w5.drewN nq).heap.size) := HB.out
      obtain ⟨W6, hW6⟩ : ∃ W6, W6 = w5.drewN nq := ⟨_, rfl⟩
      rw [← hW6] at QD HLD HBD
      rw [← hW6]
      clear hW6 HL HB Q5 c0 c1 hne
      go_wp2_with fail
      have I0 : Hid (Lib.IsBuilder 102 5 W6.heap.size W6.heap.size (nc []) (W6.alloc (.cells #[.pointer none, .slice none 0 0] 102))) := .inl ⟨Nat.le_refl _, _, heap_alloc_new _ _, ow_nil _ _ _ _, by simp [Value.ownBlock]⟩
      have hS6 : (W6.alloc (.cells #[.pointer none, .slice none 0 0] 102)).heap.size = W6.heap.size + 1 := by simp
      refine (write_byte W6.heap.size [] 91 _ I0 (by simp) (by simp)).mono ?_
      rintro e7 w7 ⟨rfl, h7⟩
      have B0 : Hid (Bw w W6 w7 W6.heap.size R 0) := ⟨h7.out.1, (Below.refl _ _).alloc (Nat.le_refl _) _ |>.trans h7.out.2⟩
      clear I0 hS6 h7
      go_wp2_with fail
      go_loopw [38] (fun s38 wr => ∃ i : Nat, i ≤ n ∧ s38 = .int .i64 i ∧ Hid (Bw w W6 wr W6.heap.size R i)) (fun s38 _ => n - (intOf s38).toNat)
      case atStart => exact ⟨0, by omega, rfl, B0⟩
      case round =>
        clear B0
        obtain ⟨i, hi, rfl, B⟩ := hrel
        by_cases hlt : i < n
        · have hiR : i < R.length := by rw [← HN.out]; exact hlt
          have hL := Below.ls B.out.be HLD.out HBD.out
          obtain ⟨rb, ro, e8, _, c0⟩ := hL _ _ (rc_at hiR).1
          cases e8
          obtain ⟨_, _, e9, _, c1⟩ := hL _ _ (rc_at hiR).2
          cases e9
          obtain ⟨ha, hb⟩ := HG.out _ (List.getElem_mem hiR)
          obtain ⟨hm1, hm2⟩ := rtx_lt (HG.out _ (List.getElem_mem hiR))
          have hfl : Hid ((91 :: (R.take i).flatMap rtx).length < 1000000) := by
            have h1 := (flat_lt (R := R.take i) (fun x hx => HG.out x (List.mem_of_mem_take hx))).2
            have h2 : (R.take i).length ≤ i := by rw [List.length_take]; omega
            show _ < _
            rw [List.length_cons]; omega
          have HX : Hid (∀ w1 w2, Hid (Qt wr w1) → Hid (Bu W6.heap.size ((91 :: (R.take i).flatMap rtx) ++ rtx (R[i])) w2 ∧ Below W6.heap.size w1 w2) → Hid (Bw w W6 w2 W6.heap.size R (i + 1))) := fun w1 w2 q h => Bw.step hiR B q h
          have HM1 : Hid (∀ c ∈ rtx (R[i]), c < 256) := hm1
          have HM2 : Hid ((rtx (R[i])).length < 1000) := Nat.lt_of_le_of_lt hm2 (by decide)
          have hsh := fun W => show_any (R[i]).1 (R[i]).2 ha hb W
          rw [show ((R[i]).1, (R[i]).2) = R[i] from rfl] at hsh
          clear hm1 hm2 hL
          rw [← Nat.add_assoc] at c1
          generalize R[i] = r at *
          obtain ⟨ra1, rb1⟩ := r
          simp only at c0 c1 ha hb hsh
          go_wp2_with fail
          refine (hsh _).mono ?_
          rintro e8 w8 ⟨rfl, q8⟩
          have Q8 : Hid (Qt wr w8) := (Qt.alloc (Qt.refl wr) _).comp q8.out
          go_wp2_with fail
          refine (write_string W6.heap.size _ _ _ (Bu.qt B.out.bu Q8) hfl.out HM2.out HM1.out).mono ?_
          rintro e9 w9 ⟨rfl, h9⟩
          have B9 := HX.out _ _ Q8 h9
          clear c0 c1 hsh
          go_wp2_with fail
          exact ⟨⟨i + 1, by omega, by go_num, B9⟩, by simp [intOf]; omega⟩
        · obtain rfl : i = n := by omega
          go_wp2_with fail
          have hfl : (91 :: R.flatMap rtx).length < 1000000 := by
            have h1 := (flat_lt HG.out).2
            rw [← HN.out] at h1
            rw [List.length_cons]; omega
          have hbu := B.out.bu
          rw [HN.out, List.take_length] at hbu
          refine (write_byte W6.heap.size (91 :: R.flatMap rtx) 93 _ (.inr hbu) hfl (Nat.le_of_lt hbu.lt)).mono ?_
          rintro e8 w8 ⟨rfl, h8⟩
          go_wp2_with fail
          have hlt2 : ∀ c ∈ (91 :: R.flatMap rtx) ++ [93], c < 256 := by
            intro c hc
            rcases List.mem_append.1 hc with hc | hc
            · rcases List.mem_cons.1 hc with rfl | hc
              · omega
              · exact (flat_lt HG.out).1 c hc
            · simp at hc; omega
          have hb8 : Lib.IsBuilder 102 5 W6.heap.size W6.heap.size (Lib.byteCells (((91 :: R.flatMap rtx) ++ [93]).map UInt8.ofNat)) w8 := by
            rw [nc_bytes _ hlt2]; exact .inr h8.out.1
          refine (bstring W6.heap.size W6.heap.size _ w8 hb8 (by simp)).mono ?_
          rintro e9 w9 ⟨rfl, h9⟩
          clear hb8 hlt2 hfl hbu
          go_wp2_with fail
          go_ret
          refine ⟨R, HR.out, ?_, QD.out.comp (Mv.mono (Mv.of_below ((B.out.be.trans h8.out.2).trans h9)) (fun j hj h => by omega))⟩
          rw [hshw.out]
          simp [str]
    · have hd : ((R.length : Int) == 1) = false := by simp; omega
      have hd2 : (R.length == 1) = false := by simp; omega
      obtain ⟨n, hn⟩ : ∃ n, n = R.length := ⟨_, rfl⟩
      have HN : Hid (n = R.length) := hn
      rw [← hn] at hR4 hrc h1 hd hd2
      rw [← hn]
      clear hn hone
      go_wp2_with fail
      go_quiet (fail)
      have QD : Hid (Qt w (w5.drewN nq)) := Q5.out.comp (Mv.drewN _ _ _)
      have HLD : Hid (Ls (w5.drewN nq) ra (rc R)) := HL.out
      have HBD : Hid (∀ p, ra = some p → p.block < (w5.drewN nq).heap.size) := HB.out
      obtain ⟨W6, hW6⟩ : ∃ W6, W6 = w5.drewN nq := ⟨_, rfl⟩
      rw [← hW6] at QD HLD HBD
      rw [← hW6]
      clear hW6 HL HB Q5
      go_wp2_with fail
      have I0 : Hid (Lib.IsBuilder 102 5 W6.heap.size W6.heap.size (nc []) (W6.alloc (.cells #[.pointer none, .slice none 0 0] 102))) := .inl ⟨Nat.le_refl _, _, heap_alloc_new _ _, ow_nil _ _ _ _, by simp [Value.ownBlock]⟩
      have hS6 : (W6.alloc (.cells #[.pointer none, .slice none 0 0] 102)).heap.size = W6.heap.size + 1 := by simp
      refine (write_byte W6.heap.size [] 91 _ I0 (by simp) (by simp)).mono ?_
      rintro e7 w7 ⟨rfl, h7⟩
      have B0 : Hid (Bw w W6 w7 W6.heap.size R 0) := ⟨h7.out.1, (Below.refl _ _).alloc (Nat.le_refl _) _ |>.trans h7.out.2⟩
      clear I0 hS6 h7
      go_wp2_with fail
      go_loopw [38] (fun s38 wr => ∃ i : Nat, i ≤ n ∧ s38 = .int .i64 i ∧ Hid (Bw w W6 wr W6.heap.size R i)) (fun s38 _ => n - (intOf s38).toNat)
      case atStart => exact ⟨0, by omega, rfl, B0⟩
      case round =>
        clear B0
        obtain ⟨i, hi, rfl, B⟩ := hrel
        by_cases hlt : i < n
        · have hiR : i < R.length := by rw [← HN.out]; exact hlt
          have hL := Below.ls B.out.be HLD.out HBD.out
          obtain ⟨rb, ro, rfl, _, c0⟩ := hL _ _ (rc_at hiR).1
          obtain ⟨_, _, e9, _, c1⟩ := hL _ _ (rc_at hiR).2
          cases e9
          obtain ⟨ha, hb⟩ := HG.out _ (List.getElem_mem hiR)
          obtain ⟨hm1, hm2⟩ := rtx_lt (HG.out _ (List.getElem_mem hiR))
          have hfl : Hid ((91 :: (R.take i).flatMap rtx).length < 1000000) := by
            have h1 := (flat_lt (R := R.take i) (fun x hx => HG.out x (List.mem_of_mem_take hx))).2
            have h2 : (R.take i).length ≤ i := by rw [List.length_take]; omega
            show _ < _
            rw [List.length_cons]; omega
          have HX : Hid (∀ w1 w2, Hid (Qt wr w1) → Hid (Bu W6.heap.size ((91 :: (R.take i).flatMap rtx) ++ rtx (R[i])) w2 ∧ Below W6.heap.size w1 w2) → Hid (Bw w W6 w2 W6.heap.size R (i + 1))) := fun w1 w2 q h => Bw.step hiR B q h
          have HM1 : Hid (∀ c ∈ rtx (R[i]), c < 256) := hm1
          have HM2 : Hid ((rtx (R[i])).length < 1000) := Nat.lt_of_le_of_lt hm2 (by decide)
          have hsh := fun W => show_any (R[i]).1 (R[i]).2 ha hb W
          rw [show ((R[i]).1, (R[i]).2) = R[i] from rfl] at hsh
          clear hm1 hm2 hL
          rw [← Nat.add_assoc] at c1
          generalize R[i] = r at *
          obtain ⟨ra1, rb1⟩ := r
          simp only at c0 c1 ha hb hsh
          go_wp2_with fail
          refine (hsh _).mono ?_
          rintro e8 w8 ⟨rfl, q8⟩
          have Q8 : Hid (Qt wr w8) := (Qt.alloc (Qt.refl wr) _).comp q8.out
          go_wp2_with fail
          refine (write_string W6.heap.size _ _ _ (Bu.qt B.out.bu Q8) hfl.out HM2.out HM1.out).mono ?_
          rintro e9 w9 ⟨rfl, h9⟩
          have B9 := HX.out _ _ Q8 h9
          clear c0 c1 hsh
          go_wp2_with fail
          exact ⟨⟨i + 1, by omega, by go_num, B9⟩, by simp [intOf]; omega⟩
        · obtain rfl : i = n := by omega
          go_wp2_with fail
          have hfl : (91 :: R.flatMap rtx).length < 1000000 := by
            have h1 := (flat_lt HG.out).2
            rw [← HN.out] at h1
            rw [List.length_cons]; omega
          have hbu := B.out.bu
          rw [HN.out, List.take_length] at hbu
          refine (write_byte W6.heap.size (91 :: R.flatMap rtx) 93 _ (.inr hbu) hfl (Nat.le_of_lt hbu.lt)).mono ?_
          rintro e8 w8 ⟨rfl, h8⟩
          go_wp2_with fail
          have hlt2 : ∀ c ∈ (91 :: R.flatMap rtx) ++ [93], c < 256 := by
            intro c hc
            rcases List.mem_append.1 hc with hc | hc
            · rcases List.mem_cons.1 hc with rfl | hc
              · omega
              · exact (flat_lt HG.out).1 c hc
            · simp at hc; omega
          have hb8 : Lib.IsBuilder 102 5 W6.heap.size W6.heap.size (Lib.byteCells (((91 :: R.flatMap rtx) ++ [93]).map UInt8.ofNat)) w8 := by
            rw [nc_bytes _ hlt2]; exact .inr h8.out.1
          refine (bstring W6.heap.size W6.heap.size _ w8 hb8 (by simp)).mono ?_
          rintro e9 w9 ⟨rfl, h9⟩
          clear hb8 hlt2 hfl hbu
          go_wp2_with fail
          go_ret
          refine ⟨R, HR.out, ?_, QD.out.comp (Mv.mono (Mv.of_below ((B.out.be.trans h8.out.2).trans h9)) (fun j hj h => by omega))⟩
          rw [hshw.out]
          simp [str]

theorem show_set (p : Nat → Bool) (w : World) (hT : Hid (Tab w)) : Calls Tryd.prog 57 #[sv p] w fun e w' => Sw p w e w' := by
  cases h : any p with
  | false => exact show_empty p h w
  | true =>
    cases hs : same p (fun _ => true) with
    | true => exact show_all p h hs w
    | false => exact show_rest p h hs w hT

end Go.Proofs.YtkclkhfcmjhogaaDoor

namespace Go.Proofs.YtkclkhfcmjhogaaDoor
open Go.RowKit
set_option linter.unusedVariables false

def et (p q : Nat → Bool) : Nat → Bool := fun b => p b && q b
def ou (p q : Nat → Bool) : Nat → Bool := fun b => p b || q b
/-- A set, as the walk has it. -/
abbrev Ag (p : Nat → Bool) : Value := .agg #[.int .u64 (limb p 0), .int .u64 (limb p 1), .int .u64 (limb p 2), .int .u64 (limb p 3)]
theorem notA (p : Nat → Bool) (w : World) : Calls Tryd.prog 74 #[.agg #[.int .u64 (limb p 0), .int .u64 (limb p 1), .int .u64 (limb p 2), .int .u64 (limb p 3)]] w fun e w' => e = .returned (.agg #[.int .u64 (limb (no p) 0), .int .u64 (limb (no p) 1), .int .u64 (limb (no p) 2), .int .u64 (limb (no p) 3)]) ∧ Hid (Qt w w') := not_any p w
theorem andA (p q : Nat → Bool) (w : World) : Calls Tryd.prog 91 #[.agg #[.int .u64 (limb p 0), .int .u64 (limb p 1), .int .u64 (limb p 2), .int .u64 (limb p 3)], .agg #[.int .u64 (limb q 0), .int .u64 (limb q 1), .int .u64 (limb q 2), .int .u64 (limb q 3)]] w fun e w' => e = .returned (.agg #[.int .u64 (limb (et p q) 0), .int .u64 (limb (et p q) 1), .int .u64 (limb (et p q) 2), .int .u64 (limb (et p q) 3)]) ∧ Hid (Qt w w') := and_any p q w
theorem orA (p q : Nat → Bool) (w : World) : Calls Tryd.prog 119 #[.agg #[.int .u64 (limb p 0), .int .u64 (limb p 1), .int .u64 (limb p 2), .int .u64 (limb p 3)], .agg #[.int .u64 (limb q 0), .int .u64 (limb q 1), .int .u64 (limb q 2), .int .u64 (limb q 3)]] w fun e w' => e = .returned (.agg #[.int .u64 (limb (ou p q) 0), .int .u64 (limb (ou p q) 1), .int .u64 (limb (ou p q) 2), .int .u64 (limb (ou p q) 3)]) ∧ Hid (Qt w w') := or_any p q w
theorem eqlA (p q : Nat → Bool) (b : Bool) (h : same p q = b) (W : World) : (binOp .eql 25 (.agg #[.int .u64 (limb p 0), .int .u64 (limb p 1), .int .u64 (limb p 2), .int .u64 (limb p 3)]) (.agg #[.int .u64 (limb q 0), .int .u64 (limb q 1), .int .u64 (limb q 2), .int .u64 (limb q 3)])).run Tryd.prog W = .ok (.bool b) W := by
  rw [← h]; exact eql_run p q W
theorem same_of {p q : Nat → Bool} (h : ∀ b, p b = q b) : same p q = true := same_like.2 (fun b _ => h b)
theorem hold12 {W w' : World} {g0 g1 g2 : Nat} {u00 u01 u02 u03 u10 u11 u12 u13 u20 u21 u22 u23 : Value} (c00 : Hid (W.cell? ⟨g0, 0, none⟩ = some u00)) (c01 : Hid (W.cell? ⟨g0, 1, none⟩ = some u01)) (c02 : Hid (W.cell? ⟨g0, 2, none⟩ = some u02)) (c03 : Hid (W.cell? ⟨g0, 3, none⟩ = some u03)) (c10 : Hid (W.cell? ⟨g1, 0, none⟩ = some u10)) (c11 : Hid (W.cell? ⟨g1, 1, none⟩ = some u11)) (c12 : Hid (W.cell? ⟨g1, 2, none⟩ = some u12)) (c13 : Hid (W.cell? ⟨g1, 3, none⟩ = some u13)) (c20 : Hid (W.cell? ⟨g2, 0, none⟩ = some u20)) (c21 : Hid (W.cell? ⟨g2, 1, none⟩ = some u21)) (c22 : Hid (W.cell? ⟨g2, 2, none⟩ = some u22)) (c23 : Hid (W.cell? ⟨g2, 3, none⟩ = some u23)) (q : Hid (Qt W w')) :
    w'.cell? ⟨g0, 0, none⟩ = some u00 ∧ w'.cell? ⟨g0, 1, none⟩ = some u01 ∧ w'.cell? ⟨g0, 2, none⟩ = some u02 ∧ w'.cell? ⟨g0, 3, none⟩ = some u03 ∧ w'.cell? ⟨g1, 0, none⟩ = some u10 ∧ w'.cell? ⟨g1, 1, none⟩ = some u11 ∧ w'.cell? ⟨g1, 2, none⟩ = some u12 ∧ w'.cell? ⟨g1, 3, none⟩ = some u13 ∧ w'.cell? ⟨g2, 0, none⟩ = some u20 ∧ w'.cell? ⟨g2, 1, none⟩ = some u21 ∧ w'.cell? ⟨g2, 2, none⟩ = some u22 ∧ w'.cell? ⟨g2, 3, none⟩ = some u23 ∧ Hid (Qt W w') :=
  ⟨Qt.keep q c00.out, Qt.keep q c01.out, Qt.keep q c02.out, Qt.keep q c03.out, Qt.keep q c10.out, Qt.keep q c11.out, Qt.keep q c12.out, Qt.keep q c13.out, Qt.keep q c20.out, Qt.keep q c21.out, Qt.keep q c22.out, Qt.keep q c23.out, q⟩
theorem hold12q {W w' w'' : World} {A0 A1 A2 A3 A4 A5 A6 A7 A8 A9 A10 A11 : Prop} (q : Hid (Qt w' w'')) (h : A0 ∧ A1 ∧ A2 ∧ A3 ∧ A4 ∧ A5 ∧ A6 ∧ A7 ∧ A8 ∧ A9 ∧ A10 ∧ A11 ∧ Hid (Qt W w')) : Hid (Qt W w'') := h.2.2.2.2.2.2.2.2.2.2.2.2.out.comp q.out

end Go.Proofs.YtkclkhfcmjhogaaDoor

namespace Go.Proofs.YtkclkhfcmjhogaaDoor
open Go.RowKit
set_option linter.unusedVariables false

theorem txt_str (f : Nat → Int) (l : List Nat) (n : Nat) (hn : n = l.length) (h : ∀ i (hi : i < l.length), f i = (l[i] : Int)) : txt f n = str l := by
  subst hn
  unfold txt strOfNums str
  congr 2
  rw [List.map_map]
  apply List.ext_getElem
  · simp
  · intro i h1 h2
    simp at h1
    simp [h i h1]
/-- The text of a new row of bytes. -/
theorem conv_new (W : World) (l : List Nat) (n c : Nat) (hn : n = l.length) : (convert 37 9 (.slice (some ⟨W.heap.size, 0, none⟩) n c)).run Tryd.prog (W.alloc (.cells (l.map fun (x : Nat) => Value.int .u8 (x : Int)).toArray 5)) = .ok (.string (str l)) (W.alloc (.cells (l.map fun (x : Nat) => Value.int .u8 (x : Int)).toArray 5)) := by
  have hs : Sl (W.alloc (.cells (l.map fun (x : Nat) => Value.int .u8 (x : Int)).toArray 5)) (some ⟨W.heap.size, 0, none⟩) n (By (fun i => ((l.getD i 0 : Nat) : Int))) := by
    intro i hi
    refine ⟨_, _, rfl, by simp, ?_⟩
    rw [Nat.zero_add]
    refine (alloc_new W _ 5 i _ ?_).1
    simp [By, List.getD, show i < l.length from by omega]
  rw [conv_any _ _ _ _ _ hs, txt_str _ l n hn]
  intro i hi
  simp [List.getD, hi]
theorem idx_at (S : ByteArray) (i : Nat) (hi : i < (bs S).length) (w : World) : (Instr.index 9 (.string S) (.int .i64 (i : Int))).run Tryd.prog w = .ok (.int .u8 (((bs S)[i] : Nat) : Int)) w := by
  have h := index_run S ((bs S).take i) ((bs S).drop (i + 1)) ((bs S)[i]) (by rw [List.getElem_cons_drop, List.take_append_drop]) w
  rw [List.length_take, Nat.min_eq_left (by omega)] at h
  exact h
theorem idx_u8 (S : ByteArray) (i : Nat) (hi : i < (bs S).length) (w : World) : (Instr.index 9 (.string S) (.int .u8 (i : Int))).run Tryd.prog w = .ok (.int .u8 (((bs S)[i] : Nat) : Int)) w := by
  have hl : i < S.size := by rw [← bs_length]; exact hi
  rw [run_index_string w 9 S .u8 _ Tryd.underlying9, dif_pos (by omega)]
  have h := idx_at S i hi w
  rw [run_index_string w 9 S .i64 _ Tryd.underlying9, dif_pos (by omega)] at h
  exact h
/-- What Parse tells of a text of these bytes. -/
theorem parse_str (l : List Nat) (hl : ∀ c ∈ l, c < 256) (hn : l.length < 1000000) (w : World) :
    Calls Tryd.prog 105 #[.string (str l)] w fun e w' => e = .returned (.tuple #[sv (match cls l with | none => fun _ => false | some (p, _) => p), .int .i64 ((match cls l with | none => 0 | some (_, t) => l.length - t.length : Nat) : Int), .int .i64 (match cls l with | none => 2 | some _ => 0)]) ∧ Hid (Qt w w') := by
  have h := parse_any (str l) w (by rw [str_size]; exact hn)
  unfold pset plen perr at h
  rw [bs_str l hl, str_size] at h
  exact h
theorem parse_some {l t : List Nat} {p : Nat → Bool} (hc : cls l = some (p, t)) (hl : ∀ c ∈ l, c < 256) (hn : l.length < 1000000) (w : World) :
    Calls Tryd.prog 105 #[.string (str l)] w fun e w' => e = .returned (.tuple #[.agg #[.int .u64 (limb p 0), .int .u64 (limb p 1), .int .u64 (limb p 2), .int .u64 (limb p 3)], .int .i64 ((l.length - t.length : Nat) : Int), .int .i64 0]) ∧ Hid (Qt w w') := by
  have h := parse_str l hl hn w
  rw [hc] at h
  exact h
theorem parse_none {l : List Nat} (hc : cls l = none) (hl : ∀ c ∈ l, c < 256) (hn : l.length < 1000000) (w : World) :
    Calls Tryd.prog 105 #[.string (str l)] w fun e w' => e = .returned (.tuple #[.agg #[.int .u64 0, .int .u64 0, .int .u64 0, .int .u64 0], .int .i64 0, .int .i64 2]) ∧ Hid (Qt w w') := by
  have h := parse_str l hl hn w
  rw [hc] at h
  rw [← sv_none]
  exact h

end Go.Proofs.YtkclkhfcmjhogaaDoor

namespace Go.Proofs.YtkclkhfcmjhogaaDoor
open Go.RowKit
set_option linter.unusedVariables false

theorem cellB {w : World} {o : Obj} {g i : Nat} {v : Value} (h : w.cell? ⟨g, i, none⟩ = some v) : (w.alloc o).cell? ⟨g, i, none⟩ = some v := (Mv.alloc (fun _ => False) w o).cell (p := ⟨g, i, none⟩) h (fun h => h)
set_option maxHeartbeats 1000000 in
theorem empty_any (p : Nat → Bool) (b : Bool) (hb : (!any p) = b) (w : World) : Calls Tryd.prog 54 #[.agg #[.int .u64 (limb p 0), .int .u64 (limb p 1), .int .u64 (limb p 2), .int .u64 (limb p 3)]] w fun e w' => e = .returned (.bool b) ∧ Hid (Qt w w') := by
  have he := eql_none p
  rw [hb] at he
  clear hb
  go_enter Tryd.func54, Tryd.ntmps54
  go_wp2_with fail
  go_ret
  exact ⟨rfl, (Qt.refl w).alloc _⟩

theorem shw_len {p : Nat → Bool} {R : List (Nat × Nat)} (h : Runs p 0 R) (hl : R.length ≤ 256) : (shw R).length ≤ 3000 ∧ ∀ c ∈ shw R, c < 256 := by
  have hg := h.good
  obtain ⟨f1, f2⟩ := flat_lt hg
  have hb : (91 :: (R.flatMap rtx ++ [93])).length ≤ 3000 ∧ ∀ c ∈ 91 :: (R.flatMap rtx ++ [93]), c < 256 := by
    refine ⟨by simp only [List.length_cons, List.length_append, List.length_nil]; omega, fun c hc => ?_⟩
    rcases List.mem_cons.1 hc with rfl | hc
    · omega
    · rcases List.mem_append.1 hc with hc | hc
      · exact f1 c hc
      · simp at hc; omega
  match R, hb, hg with
  | [], _, _ => exact ⟨by simp [shw], by simp [shw]⟩
  | [(a, b)], hb, hg =>
    unfold shw
    simp only
    by_cases h1 : a = b
    · rw [if_pos h1]
      have := rtx_lt (hg (a, b) (List.mem_cons_self ..))
      have e : rtx (a, b) = shn a := by unfold rtx; simp [h1]
      rw [e] at this
      exact ⟨by omega, this.1⟩
    · rw [if_neg h1]
      by_cases h2 : a = 0 ∧ b = 255
      · rw [if_pos h2]; exact ⟨by simp, by simp⟩
      · rw [if_neg h2]; simpa using hb
  | r :: s :: R, hb, _ => exact hb
theorem Runs.len {p : Nat → Bool} : ∀ {n : Nat} {R : List (Nat × Nat)}, Runs p n R → n ≤ 256 → R.length ≤ 256 - n
  | n, [], _, _ => by simp
  | n, (a, b) :: R, h, hn => by
    have := Runs.len h.2.2.2.2.2.2 (by have := h.2.2.1; omega)
    have := h.1; have := h.2.1; have := h.2.2.1
    simp; omega

end Go.Proofs.YtkclkhfcmjhogaaDoor

namespace Go.Proofs.YtkclkhfcmjhogaaDoor
open Go.RowKit
set_option linter.unusedVariables false

def hxs (c : Nat) : List Nat := [92, 120, hexd (c / 16), hexd (c % 16)]
theorem hexd_at (k : Nat) (h : k < 16) : (bs ⟨#[48, 49, 50, 51, 52, 53, 54, 55, 56, 57, 97, 98, 99, 100, 101, 102]⟩)[k]'h = hexd k := by
  have hx : ∀ k : Fin 16, (bs ⟨#[48, 49, 50, 51, 52, 53, 54, 55, 56, 57, 97, 98, 99, 100, 101, 102]⟩)[k.val]'k.isLt = hexd k.val := by decide +kernel
  exact hx ⟨k, h⟩
theorem hexd_lt {k : Nat} (h : k < 16) : hexd k < 256 := by unfold hexd; split <;> omega
theorem hxs_lt {c : Nat} (hc : c < 256) : ∀ x ∈ hxs c, x < 256 := by
  intro x hx
  have h1 := hexd_lt (show c / 16 < 16 by omega)
  have h2 := hexd_lt (show c % 16 < 16 by omega)
  simp [hxs] at hx
  omega

end Go.Proofs.YtkclkhfcmjhogaaDoor
