/- The reference: Class, brackets. -/
import Derived.Test.YtkclkhfcmjhogaaDoorMgR
import Derived.Test.YtkclkhfcmjhogaaDoorMgS3
namespace Go.Proofs.YtkclkhfcmjhogaaDoor
open Go.RowKit
set_option linter.unusedVariables false
set_option linter.unusedSimpArgs false

theorem inl_part (l : List Nat) (a b : Nat) : inl (l ++ List.range' a (b + 1 - a)) = fun x => inl l x || btw a b x := by
  funext x
  rw [Bool.eq_iff_iff]
  unfold inl btw
  simp only [List.contains_iff_mem, List.mem_append, List.mem_range'_1, Bool.or_eq_true, Bool.and_eq_true, decide_eq_true_eq]
  constructor
  · rintro (h | h)
    · exact .inl h
    · exact .inr (by omega)
  · rintro (h | h)
    · exact .inl h
    · exact .inr (by omega)
theorem inl_nil : inl [] = fun _ => false := by funext x; simp [inl]

/-- Brackets while the reference reads them: T0 what stood behind the first sign. -/
structure Rbk (W0 wr : World) (B : Nat) (v : Value) (l : List Nat) (S : ByteArray) (T0 : List Nat) (k : Nat) (t : List Nat) : Prop where
  rn : Rn W0 wr B v l
  sf : Sf S k t
  lt : ∀ c ∈ l, c < 256
  len : l.length + 256 * t.length ≤ 256 * S.size
  spec : (l = [] ∧ t = T0) ∨ (l ≠ [] ∧ ∃ f, t.length < f ∧ brk T0 = prs f (inl l) t)
theorem Rbk.fail {W0 wr : World} {B : Nat} {v : Value} {l : List Nat} {S : ByteArray} {T0 : List Nat} {k : Nat} {t : List Nat} (h : Rbk W0 wr B v l S T0 k t) (hp : prt t = none) (ht : ∀ u, t ≠ 93 :: u) : brk T0 = none := by
  rcases h.spec with ⟨rfl, rfl⟩ | ⟨_, f, hf, e⟩
  · unfold brk; rw [hp]
  · rw [e]
    obtain ⟨f, rfl⟩ : ∃ g, f = g + 1 := ⟨f - 1, by omega⟩
    match t, hp, ht with
    | [], _, _ => rfl
    | c :: t, hp, ht => rw [prs, if_neg (fun h => ht t (by rw [h])), hp]
theorem Rbk.done {W0 wr : World} {B : Nat} {v : Value} {l : List Nat} {S : ByteArray} {T0 : List Nat} {k : Nat} {u : List Nat} (h : Rbk W0 wr B v l S T0 k (93 :: u)) : brk T0 = if l = [] then none else some (inl l, u) := by
  rcases h.spec with ⟨rfl, e⟩ | ⟨hl, f, hf, e⟩
  · rw [if_pos rfl, ← e]; rfl
  · rw [if_neg hl, e]
    obtain ⟨f, rfl⟩ : ∃ g, f = g + 1 := ⟨f - 1, by omega⟩
    rw [prs, if_pos rfl]
theorem Rbk.next {W0 wr wr' : World} {B : Nat} {v v' : Value} {l : List Nat} {S : ByteArray} {T0 : List Nat} {k k' : Nat} {t t' : List Nat} {a b : Nat} (h : Rbk W0 wr B v l S T0 k t) (hp : prt t = some ((a, b), t')) (ht : ∀ u, t ≠ 93 :: u) (hs : Sf S k' t') (hr : Rn W0 wr' B v' (l ++ List.range' a (b + 1 - a))) : Rbk W0 wr' B v' (l ++ List.range' a (b + 1 - a)) S T0 k' t' := by
  obtain ⟨h1, h2, h3⟩ := prt_len hp
  refine ⟨hr, hs, fun c hc => ?_, ?_, .inr ⟨?_, ?_⟩⟩
  · rcases List.mem_append.1 hc with hc | hc
    · exact h.lt c hc
    · rw [List.mem_range'_1] at hc; omega
  · have := h.len
    rw [List.length_append, List.length_range']; omega
  · intro e
    have := congrArg List.length e
    rw [List.length_append, List.length_range'] at this
    simp at this; omega
  · rw [inl_part]
    rcases h.spec with ⟨rfl, rfl⟩ | ⟨_, f, hf, e⟩
    · refine ⟨t'.length + 1, by omega, ?_⟩
      rw [inl_nil]
      unfold brk
      rw [hp]
      simp
    · obtain ⟨f, rfl⟩ : ∃ g, f = g + 1 := ⟨f - 1, by omega⟩
      refine ⟨f, by omega, ?_⟩
      rw [e]
      match t, hp, ht, hf with
      | c :: t, hp, ht, hf => exact prs_step ⟨c, t, rfl, fun h => ht t (by rw [h])⟩ hp

theorem sgn_sufr {l t : List Nat} {c : Nat} (h : sgn l = some (c, t)) : ∃ pre, l = pre ++ t := by
  unfold sgn at h
  split at h
  · cases h
  · rename_i x l
    split at h
    · unfold esc at h
      split at h
      · cases h
      · rename_i y l
        split at h
        · unfold hx at h
          split at h
          · rename_i a b l
            split at h
            · cases h; exact ⟨[_, _, _, _], rfl⟩
            · cases h
          · cases h
        · split at h
          · cases h; exact ⟨[_, _], rfl⟩
          · cases h
    · split at h
      · cases h; exact ⟨[_], rfl⟩
      · cases h
theorem Sf.suf {S : ByteArray} {k c : Nat} {l t : List Nat} (F : Sf S k l) (h : sgn l = some (c, t)) : Sf S (S.size - t.length) t := by
  obtain ⟨pre, rfl⟩ := sgn_sufr h
  have hz := F.size
  obtain ⟨p0, h1, h2⟩ := F
  refine ⟨p0 ++ pre, by rw [h1, List.append_assoc], ?_⟩
  rw [List.length_append] at *
  omega
theorem rsign_n {S : ByteArray} {k : Nat} {l : List Nat} (F : Hid (Sf S k l)) (hs : S.size < 1000000) (h : sgn l = none) (w : World) : Calls Tryd.prog 107 #[.string S, .int .i64 (k : Int)] w fun e w' => e = .returned (.tuple #[.int .u8 0, .int .i64 (-1)]) ∧ Hid (Qt w w') := by
  have := rsign_any S k l w F hs
  rw [h] at this
  exact this
theorem rsign_s {S : ByteArray} {k a n : Nat} {l t : List Nat} (F : Hid (Sf S k l)) (hs : S.size < 1000000) (h : sgn l = some (a, t)) (hn : n = S.size - t.length) (w : World) : Calls Tryd.prog 107 #[.string S, .int .i64 (k : Int)] w fun e w' => e = .returned (.tuple #[.int .u8 (a : Int), .int .i64 (n : Int)]) ∧ Hid (Qt w w') := by
  have := rsign_any S k l w F hs
  rw [h] at this
  rw [hn]
  exact this

set_option maxRecDepth 20000 in
set_option maxHeartbeats 16000000 in
theorem rclass_bt (S : ByteArray) (T0 : List Nat) (F : Hid (Sf S 0 (91 :: 94 :: T0))) (hs : S.size ≤ 120) (w : World) (R : Option ((Nat → Bool) × List Nat)) (HR : Hid (R = (match brk T0 with | none => none | some (p, u) => if any (no p) then some (no p, u) else none))) :
    Calls Tryd.prog 100 #[.string S] w fun e w' => e = .returned (ptv S R) ∧ Hid (Qt w w') := by
  obtain ⟨ic, _⟩ := F.out.at
  have ic2 : ∀ w, (Instr.index 9 (.string S) (.int .i64 0)).run Tryd.prog w = .ok (.int .u8 91) w := ic
  have hz := F.out.size
  simp only [List.length_cons] at hz
  have hs6 : S.size < 1000000 := by omega
  have g0 : (0 : Int) < (S.size : Int) := by omega
  have g1 : ((S.size : Int) == 0) = false := beq_eq_false_iff_ne.2 (by omega)
  clear ic
  obtain ⟨id, _⟩ := F.out.tail.at
  have id2 : ∀ w, (Instr.index 9 (.string S) (.int .i64 1)).run Tryd.prog w = .ok (.int .u8 94) w := id
  have g2 : (1 : Int) < (S.size : Int) := by omega
  have F0 : Hid (Sf S 2 T0) := F.out.tail.tail
  clear id hz
  go_enter Tryd.func100, Tryd.ntmps100
  go_wp2_with fail
  have HZ : Hid (Zr w.heap.size (w.alloc (.cells #[.int .u64 0, .int .u64 0, .int .u64 0, .int .u64 0] 25))) := heap_alloc_new _ _
  have HQ : Hid (Qt w (w.alloc (.cells #[.int .u64 0, .int .u64 0, .int .u64 0, .int .u64 0] 25))) := (Qt.refl w).alloc _
  have HS : Hid (w.heap.size + 1 ≤ (w.alloc (.cells #[.int .u64 0, .int .u64 0, .int .u64 0, .int .u64 0] 25)).heap.size) := by show _ ≤ _; simp
  generalize w.alloc (.cells #[.int .u64 0, .int .u64 0, .int .u64 0, .int .u64 0] 25) = W0 at *
  go_loopw [7, 9] (fun s7 s9 wr => ∃ (k : Nat) (t l : List Nat), s7 = .int .i64 k ∧ Hid (Rbk W0 wr (w.heap.size + 1) s9 l S T0 k t)) (fun s7 _ _ => S.size - (intOf s7).toNat)
  case atStart => exact ⟨2, T0, [], rfl, ⟨(Ol.nil _ _).out, Mv.refl _ _⟩, F0.out, (by simp), (by have := F0.out.size; simp; omega), .inl ⟨rfl, rfl⟩⟩
  case round =>
    obtain ⟨k, t, l, rfl, B⟩ := hrel
    obtain ⟨v, hv⟩ : ∃ v, v = u9 := ⟨_, rfl⟩
    subst hv
    have hkz := B.out.sf.size
    match t, B, hkz with
    | [], B, hkz =>
      simp only [List.length_nil] at hkz
      have BR : Hid (brk T0 = none) := B.out.fail rfl (fun u h => by cases h)
      have q0 : ¬ (k : Int) < (S.size : Int) := by omega
      have q1 : (S.size : Int) ≤ (k : Int) := by omega
      have Zf : Hid (Zr w.heap.size wr) := Zr.mv HZ B.out.rn.mv (by omega)
      obtain ⟨z0, z1, z2, z3, y0, y1, y2, y3⟩ := Zr.facts Zf
      have Qf : Hid (Qt w wr) := Mv.trans HQ.out B.out.rn.mv (fun j hj h => by omega)
      go_wp2_with fail
      refine bodyPost_ret (resA _ _ w.heap.size _ _ _ _ _ _ rfl rfl rfl (put4_heap Zf.out _ _ _ _)) rfl ?_
      exact ⟨by rw [HR.out, BR.out]; rfl, Qt.put Qf _ _ _ _⟩
    | c :: t, B, hkz =>
      simp only [List.length_cons] at hkz
      obtain ⟨ik, hc⟩ := B.out.sf.at
      have q0 : (k : Int) < (S.size : Int) := by omega
      have q1 : ¬ (S.size : Int) ≤ (k : Int) := by omega
      by_cases h93 : c = 93
      · subst h93
        have ik2 : ∀ w, (Instr.index 9 (.string S) (.int .i64 (k : Int))).run Tryd.prog w = .ok (.int .u8 93) w := ik
        have BD := B.out.done
        clear ik
        have kw : IntKind.i64.wrap ((k : Int) + 1) = (k : Int) + 1 := by rw [IntKind.wrap_i64]; omega
        obtain ⟨va, vc, rfl, vs, _, _⟩ := Ol.sl (show Hid (Ol wr (w.heap.size + 1) v l) from B.out.rn.own)
        by_cases hl0 : l = []
        · subst hl0
          have BR : Hid (brk T0 = none) := by show _ = _; rw [BD, if_pos rfl]
          clear BD vs
          have Zf : Hid (Zr w.heap.size wr) := Zr.mv HZ B.out.rn.mv (by omega)
          obtain ⟨z0, z1, z2, z3, y0, y1, y2, y3⟩ := Zr.facts Zf
          have Qf : Hid (Qt w wr) := Mv.trans HQ.out B.out.rn.mv (fun j hj h => by omega)
          go_wp2_with fail
          refine bodyPost_ret (resA _ _ w.heap.size _ _ _ _ _ _ rfl rfl rfl (put4_heap Zf.out _ _ _ _)) rfl ?_
          exact ⟨by rw [HR.out, BR.out]; rfl, Qt.put Qf _ _ _ _⟩
        · have BR : Hid (brk T0 = some (inl l, t)) := by show _ = _; rw [BD, if_neg hl0]
          have hne : ((l.length : Int) == 0) = false := beq_eq_false_iff_ne.2 (by have : l.length ≠ 0 := (fun h => hl0 (List.length_eq_zero_iff.1 h)); omega)
          have hll : l.length < 90000 := by have := B.out.len; omega
          have hof := rof_l (show Hid (Ol wr (w.heap.size + 1) (.slice va l.length vc) l) from B.out.rn.own) B.out.lt hll
          clear BD vs
          go_wp2_with fail
          refine hof.mono ?_
          rintro e2 w2 ⟨rfl, q2⟩
          rw [sv_cells]
          have M2 : Hid (Mv (fun j => w.heap.size + 1 ≤ j) W0 w2) := B.out.rn.mv.trans q2.out (fun _ _ h => h.elim)
          obtain ⟨j0, j1, j2, j3, _⟩ := Bk.facts (show Hid (Bk w2.heap.size (inl l) (w2.alloc (.cells #[.int .u64 (limb (inl l) 0), .int .u64 (limb (inl l) 1), .int .u64 (limb (inl l) 2), .int .u64 (limb (inl l) 3)] 25))) from heap_alloc_new _ _)
          go_wp2_with fail
          refine (rnot_any (inl l) _).mono ?_
          rintro e3 w3 ⟨rfl, q3⟩
          rw [sv_cells]
          have B3 : Hid (Bk w2.heap.size (inl l) w3) := Bk.mv (w := w2.alloc (.cells #[.int .u64 (limb (inl l) 0), .int .u64 (limb (inl l) 1), .int .u64 (limb (inl l) 2), .int .u64 (limb (inl l) 3)] 25)) (heap_alloc_new _ _) q3.out (fun h => h)
          have M3 : Hid (Mv (fun j => w.heap.size + 1 ≤ j) W0 w3) := (M2.out.trans (Mv.alloc (fun _ => False) w2 _) (fun _ _ h => h.elim)).trans q3.out (fun _ _ h => h.elim)
          clear j0 j1 j2 j3
          obtain ⟨j0, j1, j2, j3, o0, o1, o2, o3⟩ := Bk.facts B3
          have B4 : Hid (Bk w2.heap.size (no (inl l)) (put4 w3 w2.heap.size (.int .u64 (limb (no (inl l)) 0)) (.int .u64 (limb (no (inl l)) 1)) (.int .u64 (limb (no (inl l)) 2)) (.int .u64 (limb (no (inl l)) 3)))) := put4_heap B3.out _ _ _ _
          have M4 : Hid (Mv (fun j => w.heap.size + 1 ≤ j) W0 (put4 w3 w2.heap.size (.int .u64 (limb (no (inl l)) 0)) (.int .u64 (limb (no (inl l)) 1)) (.int .u64 (limb (no (inl l)) 2)) (.int .u64 (limb (no (inl l)) 3)))) := M3.out.trans (put4_mv w3 w2.heap.size _ _ _ _) (fun j hj e => by have h1 := HS.out; have h2 := M2.out.size; omega)
          cases hany : any (no (inl l)) with
          | false =>
            have hE := empty_any (no (inl l)) true (by rw [hany]; rfl)
            have HN : Hid (R = none) := by show _ = _; rw [HR.out, BR.out]; simp [hany]
            clear hany
            go_wp2_with fail
            refine (hE _).mono ?_
            rintro e5 w5 ⟨rfl, q5⟩
            have M5 : Hid (Mv (fun j => w.heap.size + 1 ≤ j) W0 w5) := M4.out.trans q5.out (fun _ _ h => h.elim)
            have Zf : Hid (Zr w.heap.size w5) := Zr.mv HZ M5.out (by omega)
            obtain ⟨z0, z1, z2, z3, y0, y1, y2, y3⟩ := Zr.facts Zf
            have Qf : Hid (Qt w w5) := Mv.trans HQ.out M5.out (fun j hj h => by omega)
            go_wp2_with fail
            refine bodyPost_ret (resA _ _ w.heap.size _ _ _ _ _ _ rfl rfl rfl (put4_heap Zf.out _ _ _ _)) rfl ?_
            exact ⟨by rw [HN.out]; rfl, Qt.put Qf _ _ _ _⟩
          | true =>
            have hE := empty_any (no (inl l)) false (by rw [hany]; rfl)
            have HN : Hid (R = some (no (inl l), t)) := by show _ = _; rw [HR.out, BR.out]; simp [hany]
            have HK : Hid ((k : Int) + 1 = ((S.size - t.length : Nat) : Int)) := by show _ = _; omega
            clear hany
            go_wp2_with fail
            refine (hE _).mono ?_
            rintro e5 w5 ⟨rfl, q5⟩
            have M5 : Hid (Mv (fun j => w.heap.size + 1 ≤ j) W0 w5) := M4.out.trans q5.out (fun _ _ h => h.elim)
            have Zf : Hid (Zr w.heap.size w5) := Zr.mv HZ M5.out (by omega)
            obtain ⟨z0, z1, z2, z3, y0, y1, y2, y3⟩ := Zr.facts Zf
            obtain ⟨x0, x1, x2, x3, _⟩ := Bk.facts (Bk.mv B4 q5.out (fun h => h))
            have Qf : Hid (Qt w w5) := Mv.trans HQ.out M5.out (fun j hj h => by omega)
            go_wp2_with fail
            refine bodyPost_ret (resA _ _ w.heap.size _ _ _ _ _ _ rfl rfl rfl (put4_heap Zf.out _ _ _ _)) rfl ?_
            refine ⟨?_, Qt.put Qf _ _ _ _⟩
            rw [HN.out]
            unfold ptv
            simp only
            rw [← HK.out]
            rfl
      · have i93 : ((c : Int) != 93) = true := by have h : ((c : Int) == 93) = false := (by simp; omega); rw [bne, h]; rfl
        have n93 : Hid (∀ u, c :: t ≠ 93 :: u) := fun u h => h93 (List.cons.inj h).1
        have HLn : Hid (l.length ≤ 30720) := by have := B.out.len; show _ ≤ _; omega
        cases hsg : sgn (c :: t) with
        | none =>
          have BR : Hid (brk T0 = none) := B.out.fail (by unfold prt; rw [hsg]) n93.out
          have hR := rsign_n (show Hid (Sf S k (c :: t)) from B.out.sf) hs6 hsg
          clear hsg
          go_wp2_with fail
          refine (hR _).mono ?_
          rintro e2 w2 ⟨rfl, q2⟩
          have M2 : Hid (Mv (fun j => w.heap.size + 1 ≤ j) W0 w2) := B.out.rn.mv.trans q2.out (fun _ _ h => h.elim)
          have Zf : Hid (Zr w.heap.size w2) := Zr.mv HZ M2.out (by omega)
          obtain ⟨z0, z1, z2, z3, y0, y1, y2, y3⟩ := Zr.facts Zf
          have Qf : Hid (Qt w w2) := Mv.trans HQ.out M2.out (fun j hj h => by omega)
          go_wp2_with fail
          refine bodyPost_ret (resA _ _ w.heap.size _ _ _ _ _ _ rfl rfl rfl (put4_heap Zf.out _ _ _ _)) rfl ?_
          exact ⟨by rw [HR.out, BR.out]; rfl, Qt.put Qf _ _ _ _⟩
        | some r =>
          obtain ⟨a, t1⟩ := r
          obtain ⟨hl1, ha⟩ := sgn_len hsg
          obtain ⟨n1, hn1⟩ : ∃ n1, n1 = S.size - t1.length := ⟨_, rfl⟩
          have F1 : Hid (Sf S n1 t1) := by rw [hn1]; exact B.out.sf.suf hsg
          have hz1 := F1.out.size
          have hR := rsign_s (show Hid (Sf S k (c :: t)) from B.out.sf) hs6 hsg hn1
          have HSG : Hid (sgn (c :: t) = some (a, t1)) := hsg
          simp only [List.length_cons] at hl1
          clear hsg hn1
          have n1p : ¬ (n1 : Int) < 0 := by omega
          match t1, F1, hz1, HSG, hl1 with
          | [], F1, hz1, HSG, hl1 =>
            simp only [List.length_nil] at hz1
            have HP : Hid (prt (c :: t) = some ((a, a), [])) := by show _ = _; unfold prt; rw [HSG.out]; rfl
            have r0 : ¬ (n1 : Int) < (S.size : Int) := by omega
            go_wp2_with fail
            refine (hR _).mono ?_
            rintro e2 w2 ⟨rfl, q2⟩
            have BI : Hid (Rn W0 w2 (w.heap.size + 1) v l) := Rn.qt (show Hid (Rn W0 wr (w.heap.size + 1) v l) from B.out.rn) q2
            have lw1 : IntKind.i64.wrap (a : Int) = (a : Int) := by rw [IntKind.wrap_i64]; omega
            have lw2 : IntKind.i64.wrap (a : Int) = (a : Int) := by rw [IntKind.wrap_i64]; omega
            go_wp2_with fail
            go_loopw [9, 13] (fun s9 s13 wi => ∃ x : Nat, a ≤ x ∧ x ≤ a + 1 ∧ s13 = .int .i64 x ∧ Hid (Rn W0 wi (w.heap.size + 1) s9 (l ++ List.range' a (x - a)))) (fun _ s13 _ => a + 1 - (intOf s13).toNat)
            case atStart => exact ⟨a, by omega, by omega, rfl, by rw [Nat.sub_self, List.range'_zero, List.append_nil]; exact BI⟩
            case round =>
              clear BI
              obtain ⟨x, hx1, hx2, rfl, BX⟩ := hrel
              obtain ⟨vx, hvx⟩ : ∃ vx, vx = u9 := ⟨_, rfl⟩
              subst hvx
              by_cases hxl : x ≤ a
              · have xw : IntKind.u8.wrap (x : Int) = (x : Int) := by rw [IntKind.wrap_u8]; omega
                have hLx : (l ++ List.range' a (x - a)).length < 90000 := by rw [List.length_append, List.length_range']; have := HLn.out; omega
                obtain ⟨v2, W2, hr, B2⟩ := Rn.push BX HS.out hLx x
                have B3 : Hid (Rn W0 W2 (w.heap.size + 1) v2 (l ++ List.range' a (x + 1 - a))) := by
                  rw [show x + 1 - a = (x - a) + 1 from by omega, List.range'_concat, Nat.one_mul, show a + (x - a) = x from by omega, ← List.append_assoc]; exact B2
                clear B2 hLx
                go_wp2_with (at_builtin; first | (refine wpList_append_given rfl _ _ 37 rfl _ _ _ W2 rfl rfl hr ?_))
                go_roundw
                case rel => exact ⟨x + 1, by omega, by omega, by go_num, B3⟩
                case measure => simp [intOf]; omega
              · obtain rfl : x = a + 1 := by omega
                have BN := B.out.next HP.out n93.out F1.out BX.out
                have hz9 := F1.out.size
                go_wp2_with fail
                exact ⟨⟨_, _, _, rfl, BN⟩, by simp [intOf]; omega⟩
          | d :: t2, F1, hz1, HSG, hl1 =>
            simp only [List.length_cons] at hz1 hl1
            obtain ⟨i1, hd⟩ := F1.out.at
            have r0 : (n1 : Int) < (S.size : Int) := by omega
            by_cases h45 : d = 45
            · subst h45
              have i2 : ∀ w, (Instr.index 9 (.string S) (.int .i64 (n1 : Int))).run Tryd.prog w = .ok (.int .u8 45) w := i1
              have nw : IntKind.i64.wrap ((n1 : Int) + 1) = (n1 : Int) + 1 := by rw [IntKind.wrap_i64]; omega
              clear i1
              cases hsg2 : sgn t2 with
              | none =>
                have BR : Hid (brk T0 = none) := B.out.fail (by unfold prt; rw [HSG.out]; simp [prt2, hsg2]) n93.out
                have hR2 := rsign_n (show Hid (Sf S (n1 + 1) t2) from F1.out.tail) hs6 hsg2
                rw [show ((n1 + 1 : Nat) : Int) = (n1 : Int) + 1 from by omega] at hR2
                clear hsg2
                go_wp2_with fail
                refine (hR _).mono ?_
                rintro e2 w2 ⟨rfl, q2⟩
                go_wp2_with fail
                refine (hR2 _).mono ?_
                rintro e3 w3 ⟨rfl, q3⟩
                have M3 : Hid (Mv (fun j => w.heap.size + 1 ≤ j) W0 w3) := (B.out.rn.mv.trans q2.out (fun _ _ h => h.elim)).trans q3.out (fun _ _ h => h.elim)
                have Zf : Hid (Zr w.heap.size w3) := Zr.mv HZ M3.out (by omega)
                obtain ⟨z0, z1, z2, z3, y0, y1, y2, y3⟩ := Zr.facts Zf
                have Qf : Hid (Qt w w3) := Mv.trans HQ.out M3.out (fun j hj h => by omega)
                go_wp2_with fail
                refine bodyPost_ret (resA _ _ w.heap.size _ _ _ _ _ _ rfl rfl rfl (put4_heap Zf.out _ _ _ _)) rfl ?_
                exact ⟨by rw [HR.out, BR.out]; rfl, Qt.put Qf _ _ _ _⟩
              | some r2 =>
                obtain ⟨b, t3⟩ := r2
                obtain ⟨hl3, hb⟩ := sgn_len hsg2
                obtain ⟨n3, hn3⟩ : ∃ n3, n3 = S.size - t3.length := ⟨_, rfl⟩
                have F3 : Hid (Sf S n3 t3) := by rw [hn3]; exact F1.out.tail.suf hsg2
                have hz3 := F3.out.size
                have hR2 := rsign_s (show Hid (Sf S (n1 + 1) t2) from F1.out.tail) hs6 hsg2 hn3
                rw [show ((n1 + 1 : Nat) : Int) = (n1 : Int) + 1 from by omega] at hR2
                have n3p : ¬ (n3 : Int) < 0 := by omega
                by_cases hab : a ≤ b
                · have HP : Hid (prt (c :: t) = some ((a, b), t3)) := by show _ = _; unfold prt; rw [HSG.out]; simp [prt2, hsg2, hab]
                  have r1 : ¬ (b : Int) < (a : Int) := by omega
                  have r2 : decide (b < a) = false := by simp; omega
                  clear hsg2 hn3
                  go_wp2_with fail
                  refine (hR _).mono ?_
                  rintro e2 w2 ⟨rfl, q2⟩
                  go_wp2_with fail
                  refine (hR2 _).mono ?_
                  rintro e3 w3 ⟨rfl, q3⟩
                  have BI : Hid (Rn W0 w3 (w.heap.size + 1) v l) := Rn.qt (Rn.qt (show Hid (Rn W0 wr (w.heap.size + 1) v l) from B.out.rn) q2) q3
                  have lw1 : IntKind.i64.wrap (a : Int) = (a : Int) := by rw [IntKind.wrap_i64]; omega
                  have lw2 : IntKind.i64.wrap (b : Int) = (b : Int) := by rw [IntKind.wrap_i64]; omega
                  go_wp2_with fail
                  go_loopw [9, 13] (fun s9 s13 wi => ∃ x : Nat, a ≤ x ∧ x ≤ b + 1 ∧ s13 = .int .i64 x ∧ Hid (Rn W0 wi (w.heap.size + 1) s9 (l ++ List.range' a (x - a)))) (fun _ s13 _ => b + 1 - (intOf s13).toNat)
                  case atStart => exact ⟨a, by omega, by omega, rfl, by rw [Nat.sub_self, List.range'_zero, List.append_nil]; exact BI⟩
                  case round =>
                    clear BI
                    obtain ⟨x, hx1, hx2, rfl, BX⟩ := hrel
                    obtain ⟨vx, hvx⟩ : ∃ vx, vx = u9 := ⟨_, rfl⟩
                    subst hvx
                    by_cases hxl : x ≤ b
                    · have xw : IntKind.u8.wrap (x : Int) = (x : Int) := by rw [IntKind.wrap_u8]; omega
                      have hLx : (l ++ List.range' a (x - a)).length < 90000 := by rw [List.length_append, List.length_range']; have := HLn.out; omega
                      obtain ⟨v2, W2, hr, B2⟩ := Rn.push BX HS.out hLx x
                      have B3 : Hid (Rn W0 W2 (w.heap.size + 1) v2 (l ++ List.range' a (x + 1 - a))) := by
                        rw [show x + 1 - a = (x - a) + 1 from by omega, List.range'_concat, Nat.one_mul, show a + (x - a) = x from by omega, ← List.append_assoc]; exact B2
                      clear B2 hLx
                      go_wp2_with (at_builtin; first | (refine wpList_append_given rfl _ _ 37 rfl _ _ _ W2 rfl rfl hr ?_))
                      go_roundw
                      case rel => exact ⟨x + 1, by omega, by omega, by go_num, B3⟩
                      case measure => simp [intOf]; omega
                    · obtain rfl : x = b + 1 := by omega
                      have BN := B.out.next HP.out n93.out F3.out BX.out
                      have hz9 := F3.out.size
                      go_wp2_with fail
                      exact ⟨⟨_, _, _, rfl, BN⟩, by simp [intOf]; omega⟩
                · have BR : Hid (brk T0 = none) := B.out.fail (by unfold prt; rw [HSG.out]; simp [prt2, hsg2, hab]) n93.out
                  have r1 : (b : Int) < (a : Int) := by omega
                  clear hsg2 hn3
                  go_wp2_with fail
                  refine (hR _).mono ?_
                  rintro e2 w2 ⟨rfl, q2⟩
                  go_wp2_with fail
                  refine (hR2 _).mono ?_
                  rintro e3 w3 ⟨rfl, q3⟩
                  have M3 : Hid (Mv (fun j => w.heap.size + 1 ≤ j) W0 w3) := (B.out.rn.mv.trans q2.out (fun _ _ h => h.elim)).trans q3.out (fun _ _ h => h.elim)
                  have Zf : Hid (Zr w.heap.size w3) := Zr.mv HZ M3.out (by omega)
                  obtain ⟨z0, z1, z2, z3, y0, y1, y2, y3⟩ := Zr.facts Zf
                  have Qf : Hid (Qt w w3) := Mv.trans HQ.out M3.out (fun j hj h => by omega)
                  go_wp2_with fail
                  refine bodyPost_ret (resA _ _ w.heap.size _ _ _ _ _ _ rfl rfl rfl (put4_heap Zf.out _ _ _ _)) rfl ?_
                  exact ⟨by rw [HR.out, BR.out]; rfl, Qt.put Qf _ _ _ _⟩
            · have i45 : ((d : Int) == 45) = false := beq_eq_false_iff_ne.2 (by omega)
              have HP : Hid (prt (c :: t) = some ((a, a), d :: t2)) := by show _ = _; unfold prt; rw [HSG.out]; simp [prt2, h45]
              go_wp2_with fail
              refine (hR _).mono ?_
              rintro e2 w2 ⟨rfl, q2⟩
              have BI : Hid (Rn W0 w2 (w.heap.size + 1) v l) := Rn.qt (show Hid (Rn W0 wr (w.heap.size + 1) v l) from B.out.rn) q2
              have lw1 : IntKind.i64.wrap (a : Int) = (a : Int) := by rw [IntKind.wrap_i64]; omega
              have lw2 : IntKind.i64.wrap (a : Int) = (a : Int) := by rw [IntKind.wrap_i64]; omega
              go_wp2_with fail
              go_loopw [9, 13] (fun s9 s13 wi => ∃ x : Nat, a ≤ x ∧ x ≤ a + 1 ∧ s13 = .int .i64 x ∧ Hid (Rn W0 wi (w.heap.size + 1) s9 (l ++ List.range' a (x - a)))) (fun _ s13 _ => a + 1 - (intOf s13).toNat)
              case atStart => exact ⟨a, by omega, by omega, rfl, by rw [Nat.sub_self, List.range'_zero, List.append_nil]; exact BI⟩
              case round =>
                clear BI
                obtain ⟨x, hx1, hx2, rfl, BX⟩ := hrel
                obtain ⟨vx, hvx⟩ : ∃ vx, vx = u9 := ⟨_, rfl⟩
                subst hvx
                by_cases hxl : x ≤ a
                · have xw : IntKind.u8.wrap (x : Int) = (x : Int) := by rw [IntKind.wrap_u8]; omega
                  have hLx : (l ++ List.range' a (x - a)).length < 90000 := by rw [List.length_append, List.length_range']; have := HLn.out; omega
                  obtain ⟨v2, W2, hr, B2⟩ := Rn.push BX HS.out hLx x
                  have B3 : Hid (Rn W0 W2 (w.heap.size + 1) v2 (l ++ List.range' a (x + 1 - a))) := by
                    rw [show x + 1 - a = (x - a) + 1 from by omega, List.range'_concat, Nat.one_mul, show a + (x - a) = x from by omega, ← List.append_assoc]; exact B2
                  clear B2 hLx
                  go_wp2_with (at_builtin; first | (refine wpList_append_given rfl _ _ 37 rfl _ _ _ W2 rfl rfl hr ?_))
                  go_roundw
                  case rel => exact ⟨x + 1, by omega, by omega, by go_num, B3⟩
                  case measure => simp [intOf]; omega
                · obtain rfl : x = a + 1 := by omega
                  have BN := B.out.next HP.out n93.out F1.out BX.out
                  have hz9 := F1.out.size
                  go_wp2_with fail
                  exact ⟨⟨_, _, _, rfl, BN⟩, by simp [intOf]; omega⟩

end Go.Proofs.YtkclkhfcmjhogaaDoor

namespace Go.Proofs.YtkclkhfcmjhogaaDoor
open Go.RowKit
set_option linter.unusedVariables false
set_option linter.unusedSimpArgs false

set_option maxRecDepth 20000 in
set_option maxHeartbeats 16000000 in
theorem rclass_bf (S : ByteArray) (T0 : List Nat) (c0 : Nat) (T1 : List Nat) (hT : T0 = c0 :: T1) (h94 : c0 ≠ 94) (F : Hid (Sf S 0 (91 :: T0))) (hs : S.size ≤ 120) (w : World) (R : Option ((Nat → Bool) × List Nat)) (HR : Hid (R = (match brk T0 with | none => none | some (p, u) => if any p then some (p, u) else none))) :
    Calls Tryd.prog 100 #[.string S] w fun e w' => e = .returned (ptv S R) ∧ Hid (Qt w w') := by
  obtain ⟨ic, _⟩ := F.out.at
  have ic2 : ∀ w, (Instr.index 9 (.string S) (.int .i64 0)).run Tryd.prog w = .ok (.int .u8 91) w := ic
  have hz := F.out.size
  simp only [List.length_cons] at hz
  have hs6 : S.size < 1000000 := by omega
  have g0 : (0 : Int) < (S.size : Int) := by omega
  have g1 : ((S.size : Int) == 0) = false := beq_eq_false_iff_ne.2 (by omega)
  have F0 : Hid (Sf S 1 T0) := F.out.tail
  clear ic
  rw [hT] at hz
  simp only [List.length_cons] at hz
  obtain ⟨id, _⟩ := (show Sf S 1 (c0 :: T1) from by rw [← hT]; exact F0.out).at
  have id2 : ∀ w, (Instr.index 9 (.string S) (.int .i64 1)).run Tryd.prog w = .ok (.int .u8 (c0 : Int)) w := id
  have g2 : (1 : Int) < (S.size : Int) := by omega
  have g3 : ((c0 : Int) == 94) = false := beq_eq_false_iff_ne.2 (by omega)
  clear id hz hT
  go_enter Tryd.func100, Tryd.ntmps100
  go_wp2_with fail
  have HZ : Hid (Zr w.heap.size (w.alloc (.cells #[.int .u64 0, .int .u64 0, .int .u64 0, .int .u64 0] 25))) := heap_alloc_new _ _
  have HQ : Hid (Qt w (w.alloc (.cells #[.int .u64 0, .int .u64 0, .int .u64 0, .int .u64 0] 25))) := (Qt.refl w).alloc _
  have HS : Hid (w.heap.size + 1 ≤ (w.alloc (.cells #[.int .u64 0, .int .u64 0, .int .u64 0, .int .u64 0] 25)).heap.size) := by show _ ≤ _; simp
  generalize w.alloc (.cells #[.int .u64 0, .int .u64 0, .int .u64 0, .int .u64 0] 25) = W0 at *
  go_loopw [7, 9] (fun s7 s9 wr => ∃ (k : Nat) (t l : List Nat), s7 = .int .i64 k ∧ Hid (Rbk W0 wr (w.heap.size + 1) s9 l S T0 k t)) (fun s7 _ _ => S.size - (intOf s7).toNat)
  case atStart => exact ⟨1, T0, [], rfl, ⟨(Ol.nil _ _).out, Mv.refl _ _⟩, F0.out, (by simp), (by have := F0.out.size; simp; omega), .inl ⟨rfl, rfl⟩⟩
  case round =>
    obtain ⟨k, t, l, rfl, B⟩ := hrel
    obtain ⟨v, hv⟩ : ∃ v, v = u9 := ⟨_, rfl⟩
    subst hv
    have hkz := B.out.sf.size
    match t, B, hkz with
    | [], B, hkz =>
      simp only [List.length_nil] at hkz
      have BR : Hid (brk T0 = none) := B.out.fail rfl (fun u h => by cases h)
      have q0 : ¬ (k : Int) < (S.size : Int) := by omega
      have q1 : (S.size : Int) ≤ (k : Int) := by omega
      have Zf : Hid (Zr w.heap.size wr) := Zr.mv HZ B.out.rn.mv (by omega)
      obtain ⟨z0, z1, z2, z3, y0, y1, y2, y3⟩ := Zr.facts Zf
      have Qf : Hid (Qt w wr) := Mv.trans HQ.out B.out.rn.mv (fun j hj h => by omega)
      go_wp2_with fail
      refine bodyPost_ret (resA _ _ w.heap.size _ _ _ _ _ _ rfl rfl rfl (put4_heap Zf.out _ _ _ _)) rfl ?_
      exact ⟨by rw [HR.out, BR.out]; rfl, Qt.put Qf _ _ _ _⟩
    | c :: t, B, hkz =>
      simp only [List.length_cons] at hkz
      obtain ⟨ik, hc⟩ := B.out.sf.at
      have q0 : (k : Int) < (S.size : Int) := by omega
      have q1 : ¬ (S.size : Int) ≤ (k : Int) := by omega
      by_cases h93 : c = 93
      · subst h93
        have ik2 : ∀ w, (Instr.index 9 (.string S) (.int .i64 (k : Int))).run Tryd.prog w = .ok (.int .u8 93) w := ik
        have BD := B.out.done
        clear ik
        have kw : IntKind.i64.wrap ((k : Int) + 1) = (k : Int) + 1 := by rw [IntKind.wrap_i64]; omega
        obtain ⟨va, vc, rfl, vs, _, _⟩ := Ol.sl (show Hid (Ol wr (w.heap.size + 1) v l) from B.out.rn.own)
        by_cases hl0 : l = []
        · subst hl0
          have BR : Hid (brk T0 = none) := by show _ = _; rw [BD, if_pos rfl]
          clear BD vs
          have Zf : Hid (Zr w.heap.size wr) := Zr.mv HZ B.out.rn.mv (by omega)
          obtain ⟨z0, z1, z2, z3, y0, y1, y2, y3⟩ := Zr.facts Zf
          have Qf : Hid (Qt w wr) := Mv.trans HQ.out B.out.rn.mv (fun j hj h => by omega)
          go_wp2_with fail
          refine bodyPost_ret (resA _ _ w.heap.size _ _ _ _ _ _ rfl rfl rfl (put4_heap Zf.out _ _ _ _)) rfl ?_
          exact ⟨by rw [HR.out, BR.out]; rfl, Qt.put Qf _ _ _ _⟩
        · have BR : Hid (brk T0 = some (inl l, t)) := by show _ = _; rw [BD, if_neg hl0]
          have hne : ((l.length : Int) == 0) = false := beq_eq_false_iff_ne.2 (by have : l.length ≠ 0 := (fun h => hl0 (List.length_eq_zero_iff.1 h)); omega)
          have hll : l.length < 90000 := by have := B.out.len; omega
          have hof := rof_l (show Hid (Ol wr (w.heap.size + 1) (.slice va l.length vc) l) from B.out.rn.own) B.out.lt hll
          clear BD vs
          go_wp2_with fail
          refine hof.mono ?_
          rintro e2 w2 ⟨rfl, q2⟩
          rw [sv_cells]
          have M2 : Hid (Mv (fun j => w.heap.size + 1 ≤ j) W0 w2) := B.out.rn.mv.trans q2.out (fun _ _ h => h.elim)
          have B4 : Hid (Bk w2.heap.size (inl l) (w2.alloc (.cells #[.int .u64 (limb (inl l) 0), .int .u64 (limb (inl l) 1), .int .u64 (limb (inl l) 2), .int .u64 (limb (inl l) 3)] 25))) := heap_alloc_new _ _
          have M4 : Hid (Mv (fun j => w.heap.size + 1 ≤ j) W0 (w2.alloc (.cells #[.int .u64 (limb (inl l) 0), .int .u64 (limb (inl l) 1), .int .u64 (limb (inl l) 2), .int .u64 (limb (inl l) 3)] 25))) := M2.out.trans (Mv.alloc (fun _ => False) w2 _) (fun _ _ h => h.elim)
          cases hany : any (inl l) with
          | false =>
            have hE := empty_any (inl l) true (by rw [hany]; rfl)
            have HN : Hid (R = none) := by show _ = _; rw [HR.out, BR.out]; simp [hany]
            clear hany
            go_wp2_with fail
            refine (hE _).mono ?_
            rintro e5 w5 ⟨rfl, q5⟩
            have M5 : Hid (Mv (fun j => w.heap.size + 1 ≤ j) W0 w5) := M4.out.trans q5.out (fun _ _ h => h.elim)
            have Zf : Hid (Zr w.heap.size w5) := Zr.mv HZ M5.out (by omega)
            obtain ⟨z0, z1, z2, z3, y0, y1, y2, y3⟩ := Zr.facts Zf
            have Qf : Hid (Qt w w5) := Mv.trans HQ.out M5.out (fun j hj h => by omega)
            go_wp2_with fail
            refine bodyPost_ret (resA _ _ w.heap.size _ _ _ _ _ _ rfl rfl rfl (put4_heap Zf.out _ _ _ _)) rfl ?_
            exact ⟨by rw [HN.out]; rfl, Qt.put Qf _ _ _ _⟩
          | true =>
            have hE := empty_any (inl l) false (by rw [hany]; rfl)
            have HN : Hid (R = some (inl l, t)) := by show _ = _; rw [HR.out, BR.out]; simp [hany]
            have HK : Hid ((k : Int) + 1 = ((S.size - t.length : Nat) : Int)) := by show _ = _; omega
            clear hany
            go_wp2_with fail
            refine (hE _).mono ?_
            rintro e5 w5 ⟨rfl, q5⟩
            have M5 : Hid (Mv (fun j => w.heap.size + 1 ≤ j) W0 w5) := M4.out.trans q5.out (fun _ _ h => h.elim)
            have Zf : Hid (Zr w.heap.size w5) := Zr.mv HZ M5.out (by omega)
            obtain ⟨z0, z1, z2, z3, y0, y1, y2, y3⟩ := Zr.facts Zf
            obtain ⟨x0, x1, x2, x3, _⟩ := Bk.facts (Bk.mv B4 q5.out (fun h => h))
            have Qf : Hid (Qt w w5) := Mv.trans HQ.out M5.out (fun j hj h => by omega)
            go_wp2_with fail
            refine bodyPost_ret (resA _ _ w.heap.size _ _ _ _ _ _ rfl rfl rfl (put4_heap Zf.out _ _ _ _)) rfl ?_
            refine ⟨?_, Qt.put Qf _ _ _ _⟩
            rw [HN.out]
            unfold ptv
            simp only
            rw [← HK.out]
            rfl
      · have i93 : ((c : Int) != 93) = true := by have h : ((c : Int) == 93) = false := (by simp; omega); rw [bne, h]; rfl
        have n93 : Hid (∀ u, c :: t ≠ 93 :: u) := fun u h => h93 (List.cons.inj h).1
        have HLn : Hid (l.length ≤ 30720) := by have := B.out.len; show _ ≤ _; omega
        cases hsg : sgn (c :: t) with
        | none =>
          have BR : Hid (brk T0 = none) := B.out.fail (by unfold prt; rw [hsg]) n93.out
          have hR := rsign_n (show Hid (Sf S k (c :: t)) from B.out.sf) hs6 hsg
          clear hsg
          go_wp2_with fail
          refine (hR _).mono ?_
          rintro e2 w2 ⟨rfl, q2⟩
          have M2 : Hid (Mv (fun j => w.heap.size + 1 ≤ j) W0 w2) := B.out.rn.mv.trans q2.out (fun _ _ h => h.elim)
          have Zf : Hid (Zr w.heap.size w2) := Zr.mv HZ M2.out (by omega)
          obtain ⟨z0, z1, z2, z3, y0, y1, y2, y3⟩ := Zr.facts Zf
          have Qf : Hid (Qt w w2) := Mv.trans HQ.out M2.out (fun j hj h => by omega)
          go_wp2_with fail
          refine bodyPost_ret (resA _ _ w.heap.size _ _ _ _ _ _ rfl rfl rfl (put4_heap Zf.out _ _ _ _)) rfl ?_
          exact ⟨by rw [HR.out, BR.out]; rfl, Qt.put Qf _ _ _ _⟩
        | some r =>
          obtain ⟨a, t1⟩ := r
          obtain ⟨hl1, ha⟩ := sgn_len hsg
          obtain ⟨n1, hn1⟩ : ∃ n1, n1 = S.size - t1.length := ⟨_, rfl⟩
          have F1 : Hid (Sf S n1 t1) := by rw [hn1]; exact B.out.sf.suf hsg
          have hz1 := F1.out.size
          have hR := rsign_s (show Hid (Sf S k (c :: t)) from B.out.sf) hs6 hsg hn1
          have HSG : Hid (sgn (c :: t) = some (a, t1)) := hsg
          simp only [List.length_cons] at hl1
          clear hsg hn1
          have n1p : ¬ (n1 : Int) < 0 := by omega
          match t1, F1, hz1, HSG, hl1 with
          | [], F1, hz1, HSG, hl1 =>
            simp only [List.length_nil] at hz1
            have HP : Hid (prt (c :: t) = some ((a, a), [])) := by show _ = _; unfold prt; rw [HSG.out]; rfl
            have r0 : ¬ (n1 : Int) < (S.size : Int) := by omega
            go_wp2_with fail
            refine (hR _).mono ?_
            rintro e2 w2 ⟨rfl, q2⟩
            have BI : Hid (Rn W0 w2 (w.heap.size + 1) v l) := Rn.qt (show Hid (Rn W0 wr (w.heap.size + 1) v l) from B.out.rn) q2
            have lw1 : IntKind.i64.wrap (a : Int) = (a : Int) := by rw [IntKind.wrap_i64]; omega
            have lw2 : IntKind.i64.wrap (a : Int) = (a : Int) := by rw [IntKind.wrap_i64]; omega
            go_wp2_with fail
            go_loopw [9, 13] (fun s9 s13 wi => ∃ x : Nat, a ≤ x ∧ x ≤ a + 1 ∧ s13 = .int .i64 x ∧ Hid (Rn W0 wi (w.heap.size + 1) s9 (l ++ List.range' a (x - a)))) (fun _ s13 _ => a + 1 - (intOf s13).toNat)
            case atStart => exact ⟨a, by omega, by omega, rfl, by rw [Nat.sub_self, List.range'_zero, List.append_nil]; exact BI⟩
            case round =>
              clear BI
              obtain ⟨x, hx1, hx2, rfl, BX⟩ := hrel
              obtain ⟨vx, hvx⟩ : ∃ vx, vx = u9 := ⟨_, rfl⟩
              subst hvx
              by_cases hxl : x ≤ a
              · have xw : IntKind.u8.wrap (x : Int) = (x : Int) := by rw [IntKind.wrap_u8]; omega
                have hLx : (l ++ List.range' a (x - a)).length < 90000 := by rw [List.length_append, List.length_range']; have := HLn.out; omega
                obtain ⟨v2, W2, hr, B2⟩ := Rn.push BX HS.out hLx x
                have B3 : Hid (Rn W0 W2 (w.heap.size + 1) v2 (l ++ List.range' a (x + 1 - a))) := by
                  rw [show x + 1 - a = (x - a) + 1 from by omega, List.range'_concat, Nat.one_mul, show a + (x - a) = x from by omega, ← List.append_assoc]; exact B2
                clear B2 hLx
                go_wp2_with (at_builtin; first | (refine wpList_append_given rfl _ _ 37 rfl _ _ _ W2 rfl rfl hr ?_))
                go_roundw
                case rel => exact ⟨x + 1, by omega, by omega, by go_num, B3⟩
                case measure => simp [intOf]; omega
              · obtain rfl : x = a + 1 := by omega
                have BN := B.out.next HP.out n93.out F1.out BX.out
                have hz9 := F1.out.size
                go_wp2_with fail
                exact ⟨⟨_, _, _, rfl, BN⟩, by simp [intOf]; omega⟩
          | d :: t2, F1, hz1, HSG, hl1 =>
            simp only [List.length_cons] at hz1 hl1
            obtain ⟨i1, hd⟩ := F1.out.at
            have r0 : (n1 : Int) < (S.size : Int) := by omega
            by_cases h45 : d = 45
            · subst h45
              have i2 : ∀ w, (Instr.index 9 (.string S) (.int .i64 (n1 : Int))).run Tryd.prog w = .ok (.int .u8 45) w := i1
              have nw : IntKind.i64.wrap ((n1 : Int) + 1) = (n1 : Int) + 1 := by rw [IntKind.wrap_i64]; omega
              clear i1
              cases hsg2 : sgn t2 with
              | none =>
                have BR : Hid (brk T0 = none) := B.out.fail (by unfold prt; rw [HSG.out]; simp [prt2, hsg2]) n93.out
                have hR2 := rsign_n (show Hid (Sf S (n1 + 1) t2) from F1.out.tail) hs6 hsg2
                rw [show ((n1 + 1 : Nat) : Int) = (n1 : Int) + 1 from by omega] at hR2
                clear hsg2
                go_wp2_with fail
                refine (hR _).mono ?_
                rintro e2 w2 ⟨rfl, q2⟩
                go_wp2_with fail
                refine (hR2 _).mono ?_
                rintro e3 w3 ⟨rfl, q3⟩
                have M3 : Hid (Mv (fun j => w.heap.size + 1 ≤ j) W0 w3) := (B.out.rn.mv.trans q2.out (fun _ _ h => h.elim)).trans q3.out (fun _ _ h => h.elim)
                have Zf : Hid (Zr w.heap.size w3) := Zr.mv HZ M3.out (by omega)
                obtain ⟨z0, z1, z2, z3, y0, y1, y2, y3⟩ := Zr.facts Zf
                have Qf : Hid (Qt w w3) := Mv.trans HQ.out M3.out (fun j hj h => by omega)
                go_wp2_with fail
                refine bodyPost_ret (resA _ _ w.heap.size _ _ _ _ _ _ rfl rfl rfl (put4_heap Zf.out _ _ _ _)) rfl ?_
                exact ⟨by rw [HR.out, BR.out]; rfl, Qt.put Qf _ _ _ _⟩
              | some r2 =>
                obtain ⟨b, t3⟩ := r2
                obtain ⟨hl3, hb⟩ := sgn_len hsg2
                obtain ⟨n3, hn3⟩ : ∃ n3, n3 = S.size - t3.length := ⟨_, rfl⟩
                have F3 : Hid (Sf S n3 t3) := by rw [hn3]; exact F1.out.tail.suf hsg2
                have hz3 := F3.out.size
                have hR2 := rsign_s (show Hid (Sf S (n1 + 1) t2) from F1.out.tail) hs6 hsg2 hn3
                rw [show ((n1 + 1 : Nat) : Int) = (n1 : Int) + 1 from by omega] at hR2
                have n3p : ¬ (n3 : Int) < 0 := by omega
                by_cases hab : a ≤ b
                · have HP : Hid (prt (c :: t) = some ((a, b), t3)) := by show _ = _; unfold prt; rw [HSG.out]; simp [prt2, hsg2, hab]
                  have r1 : ¬ (b : Int) < (a : Int) := by omega
                  have r2 : decide (b < a) = false := by simp; omega
                  clear hsg2 hn3
                  go_wp2_with fail
                  refine (hR _).mono ?_
                  rintro e2 w2 ⟨rfl, q2⟩
                  go_wp2_with fail
                  refine (hR2 _).mono ?_
                  rintro e3 w3 ⟨rfl, q3⟩
                  have BI : Hid (Rn W0 w3 (w.heap.size + 1) v l) := Rn.qt (Rn.qt (show Hid (Rn W0 wr (w.heap.size + 1) v l) from B.out.rn) q2) q3
                  have lw1 : IntKind.i64.wrap (a : Int) = (a : Int) := by rw [IntKind.wrap_i64]; omega
                  have lw2 : IntKind.i64.wrap (b : Int) = (b : Int) := by rw [IntKind.wrap_i64]; omega
                  go_wp2_with fail
                  go_loopw [9, 13] (fun s9 s13 wi => ∃ x : Nat, a ≤ x ∧ x ≤ b + 1 ∧ s13 = .int .i64 x ∧ Hid (Rn W0 wi (w.heap.size + 1) s9 (l ++ List.range' a (x - a)))) (fun _ s13 _ => b + 1 - (intOf s13).toNat)
                  case atStart => exact ⟨a, by omega, by omega, rfl, by rw [Nat.sub_self, List.range'_zero, List.append_nil]; exact BI⟩
                  case round =>
                    clear BI
                    obtain ⟨x, hx1, hx2, rfl, BX⟩ := hrel
                    obtain ⟨vx, hvx⟩ : ∃ vx, vx = u9 := ⟨_, rfl⟩
                    subst hvx
                    by_cases hxl : x ≤ b
                    · have xw : IntKind.u8.wrap (x : Int) = (x : Int) := by rw [IntKind.wrap_u8]; omega
                      have hLx : (l ++ List.range' a (x - a)).length < 90000 := by rw [List.length_append, List.length_range']; have := HLn.out; omega
                      obtain ⟨v2, W2, hr, B2⟩ := Rn.push BX HS.out hLx x
                      have B3 : Hid (Rn W0 W2 (w.heap.size + 1) v2 (l ++ List.range' a (x + 1 - a))) := by
                        rw [show x + 1 - a = (x - a) + 1 from by omega, List.range'_concat, Nat.one_mul, show a + (x - a) = x from by omega, ← List.append_assoc]; exact B2
                      clear B2 hLx
                      go_wp2_with (at_builtin; first | (refine wpList_append_given rfl _ _ 37 rfl _ _ _ W2 rfl rfl hr ?_))
                      go_roundw
                      case rel => exact ⟨x + 1, by omega, by omega, by go_num, B3⟩
                      case measure => simp [intOf]; omega
                    · obtain rfl : x = b + 1 := by omega
                      have BN := B.out.next HP.out n93.out F3.out BX.out
                      have hz9 := F3.out.size
                      go_wp2_with fail
                      exact ⟨⟨_, _, _, rfl, BN⟩, by simp [intOf]; omega⟩
                · have BR : Hid (brk T0 = none) := B.out.fail (by unfold prt; rw [HSG.out]; simp [prt2, hsg2, hab]) n93.out
                  have r1 : (b : Int) < (a : Int) := by omega
                  clear hsg2 hn3
                  go_wp2_with fail
                  refine (hR _).mono ?_
                  rintro e2 w2 ⟨rfl, q2⟩
                  go_wp2_with fail
                  refine (hR2 _).mono ?_
                  rintro e3 w3 ⟨rfl, q3⟩
                  have M3 : Hid (Mv (fun j => w.heap.size + 1 ≤ j) W0 w3) := (B.out.rn.mv.trans q2.out (fun _ _ h => h.elim)).trans q3.out (fun _ _ h => h.elim)
                  have Zf : Hid (Zr w.heap.size w3) := Zr.mv HZ M3.out (by omega)
                  obtain ⟨z0, z1, z2, z3, y0, y1, y2, y3⟩ := Zr.facts Zf
                  have Qf : Hid (Qt w w3) := Mv.trans HQ.out M3.out (fun j hj h => by omega)
                  go_wp2_with fail
                  refine bodyPost_ret (resA _ _ w.heap.size _ _ _ _ _ _ rfl rfl rfl (put4_heap Zf.out _ _ _ _)) rfl ?_
                  exact ⟨by rw [HR.out, BR.out]; rfl, Qt.put Qf _ _ _ _⟩
            · have i45 : ((d : Int) == 45) = false := beq_eq_false_iff_ne.2 (by omega)
              have HP : Hid (prt (c :: t) = some ((a, a), d :: t2)) := by show _ = _; unfold prt; rw [HSG.out]; simp [prt2, h45]
              go_wp2_with fail
              refine (hR _).mono ?_
              rintro e2 w2 ⟨rfl, q2⟩
              have BI : Hid (Rn W0 w2 (w.heap.size + 1) v l) := Rn.qt (show Hid (Rn W0 wr (w.heap.size + 1) v l) from B.out.rn) q2
              have lw1 : IntKind.i64.wrap (a : Int) = (a : Int) := by rw [IntKind.wrap_i64]; omega
              have lw2 : IntKind.i64.wrap (a : Int) = (a : Int) := by rw [IntKind.wrap_i64]; omega
              go_wp2_with fail
              go_loopw [9, 13] (fun s9 s13 wi => ∃ x : Nat, a ≤ x ∧ x ≤ a + 1 ∧ s13 = .int .i64 x ∧ Hid (Rn W0 wi (w.heap.size + 1) s9 (l ++ List.range' a (x - a)))) (fun _ s13 _ => a + 1 - (intOf s13).toNat)
              case atStart => exact ⟨a, by omega, by omega, rfl, by rw [Nat.sub_self, List.range'_zero, List.append_nil]; exact BI⟩
              case round =>
                clear BI
                obtain ⟨x, hx1, hx2, rfl, BX⟩ := hrel
                obtain ⟨vx, hvx⟩ : ∃ vx, vx = u9 := ⟨_, rfl⟩
                subst hvx
                by_cases hxl : x ≤ a
                · have xw : IntKind.u8.wrap (x : Int) = (x : Int) := by rw [IntKind.wrap_u8]; omega
                  have hLx : (l ++ List.range' a (x - a)).length < 90000 := by rw [List.length_append, List.length_range']; have := HLn.out; omega
                  obtain ⟨v2, W2, hr, B2⟩ := Rn.push BX HS.out hLx x
                  have B3 : Hid (Rn W0 W2 (w.heap.size + 1) v2 (l ++ List.range' a (x + 1 - a))) := by
                    rw [show x + 1 - a = (x - a) + 1 from by omega, List.range'_concat, Nat.one_mul, show a + (x - a) = x from by omega, ← List.append_assoc]; exact B2
                  clear B2 hLx
                  go_wp2_with (at_builtin; first | (refine wpList_append_given rfl _ _ 37 rfl _ _ _ W2 rfl rfl hr ?_))
                  go_roundw
                  case rel => exact ⟨x + 1, by omega, by omega, by go_num, B3⟩
                  case measure => simp [intOf]; omega
                · obtain rfl : x = a + 1 := by omega
                  have BN := B.out.next HP.out n93.out F1.out BX.out
                  have hz9 := F1.out.size
                  go_wp2_with fail
                  exact ⟨⟨_, _, _, rfl, BN⟩, by simp [intOf]; omega⟩

set_option maxRecDepth 20000 in
set_option maxHeartbeats 16000000 in
theorem rclass_be (S : ByteArray) (T0 : List Nat) (hT : T0 = []) (F : Hid (Sf S 0 (91 :: T0))) (hs : S.size ≤ 120) (w : World) (R : Option ((Nat → Bool) × List Nat)) (HR : Hid (R = (match brk T0 with | none => none | some (p, u) => if any p then some (p, u) else none))) :
    Calls Tryd.prog 100 #[.string S] w fun e w' => e = .returned (ptv S R) ∧ Hid (Qt w w') := by
  obtain ⟨ic, _⟩ := F.out.at
  have ic2 : ∀ w, (Instr.index 9 (.string S) (.int .i64 0)).run Tryd.prog w = .ok (.int .u8 91) w := ic
  have hz := F.out.size
  simp only [List.length_cons] at hz
  have hs6 : S.size < 1000000 := by omega
  have g0 : (0 : Int) < (S.size : Int) := by omega
  have g1 : ((S.size : Int) == 0) = false := beq_eq_false_iff_ne.2 (by omega)
  have F0 : Hid (Sf S 1 T0) := F.out.tail
  clear ic
  rw [hT] at hz
  simp only [List.length_nil] at hz
  have g2 : ¬ (1 : Int) < (S.size : Int) := by omega
  clear hz
  have BR : Hid (brk T0 = none) := by show _ = _; rw [hT]; rfl
  have g4 : (S.size : Int) ≤ 1 := by omega
  have HZ : Hid (Zr w.heap.size (w.alloc (.cells #[.int .u64 0, .int .u64 0, .int .u64 0, .int .u64 0] 25))) := heap_alloc_new _ _
  clear hT F0
  go_enter Tryd.func100, Tryd.ntmps100
  go_wp2_with fail
  refine wp_loop_rounds 1 ?_
  rw [rounds_succ]
  go_wp2_with fail
  refine bodyPost_ret (resA _ _ w.heap.size _ _ _ _ _ _ rfl rfl rfl (heap_alloc_new _ _)) rfl ?_
  exact ⟨by rw [HR.out, BR.out]; rfl, (Qt.refl w).alloc _⟩

theorem cls_br (l : List Nat) : cls (91 :: l) = (match bks l with | none => none | some (p, u) => if any p then some (p, u) else none) := rfl
theorem rclass_any (S : ByteArray) (hs : S.size ≤ 120) (w : World) : Calls Tryd.prog 100 #[.string S] w fun e w' => e = .returned (ptv S (cls (bs S))) ∧ Hid (Qt w w') := by
  have F : Hid (Sf S 0 (bs S)) := Sf.zero S
  have hs6 : S.size < 1000000 := by omega
  generalize bs S = l at *
  match l, F with
  | [], F => exact rclass_e S F hs6 w
  | c :: t, F =>
    by_cases h46 : c = 46
    · subst h46
      have e : cls (46 :: t) = some (fun _ => true, t) := by
        unfold cls cls0
        simp [show any (fun _ => true) = true from any_true.2 ⟨0, by omega, rfl⟩]
      rw [e]
      exact rclass_dot S t F hs6 w
    · by_cases h91 : c = 91
      · subst h91
        rw [cls_br]
        match t, F with
        | [], F => exact rclass_be S [] rfl F hs w _ rfl
        | d :: t, F =>
          by_cases h94 : d = 94
          · subst h94
            refine rclass_bt S t F hs w _ ?_
            show _ = _
            rw [bks, if_pos rfl]
            cases brk t with
            | none => rfl
            | some r => rfl
          · refine rclass_bf S (d :: t) d t rfl h94 F hs w _ ?_
            show _ = _
            rw [bks, if_neg h94]
      · cases hg : sgn (c :: t) with
        | none =>
          have e : cls (c :: t) = none := by unfold cls cls0; simp [h46, h91, hg]
          rw [e]
          exact rclass_sn S c t h46 h91 hg F hs6 w
        | some r =>
          obtain ⟨a, u⟩ := r
          have e : cls (c :: t) = some (btw a a, u) := by
            unfold cls cls0
            simp [h46, h91, hg, show any (btw a a) = true from any_true.2 ⟨a, (sgn_len hg).2, by unfold btw; simp⟩]
          rw [e]
          exact rclass_ss S c a t u h46 h91 hg F hs6 w
theorem ptv_parse (S : ByteArray) : ptv S (cls (bs S)) = .tuple #[sv (pset S), .int .i64 (plen S : Int), .int .i64 (perr S)] := by
  unfold ptv pset plen perr
  cases cls (bs S) with
  | none => simp only; rw [sv_none]; rfl
  | some r => rfl

end Go.Proofs.YtkclkhfcmjhogaaDoor
