/- The play's Rx: any one. -/
import Derived.Test.YtkclkhfcmjhogaaDoorMgQ
namespace Go.Proofs.YtkclkhfcmjhogaaDoor
open Go.RowKit
set_option linter.unusedVariables false

/-- What the play's Rx tells at one depth. -/
def RxC (d : Nat) : Prop := ∀ (g : Nat) (a : Option Addr) (len cap : Nat) (f : Nat → Nat) (n : Nat) (w : World), Hid (Pk w g a len cap f n) → Calls Tryd.prog 21 #[.pointer (some ⟨g, 0, none⟩), .int .i64 (d : Int)] w fun e w' => RxP d w g a len cap f e w'
theorem Plr.start {w w2 : World} {g : Nat} {a : Option Addr} {len cap : Nat} {f : Nat → Nat} {k : Int} {d : Nat} {n' : Nat} (hg : g < w.heap.size) (hs : Sl w a len (Bn f)) (m : Mv (fun j => j = g) (w.alloc zeros6) w2) (p : Pk w2 g a len cap f n') :
    Hid (Plr w g a len cap f w2.heap.size k d (w2.alloc (.cells #[.int .i64 k, .int .u64 0, .int .u64 0, .int .u64 0, .int .u64 0, .slice none 0 0] 28)) (.slice none 0 0) []) := by
  have qa := Mv.alloc (fun _ => False) w2 (.cells #[.int .i64 k, .int .u64 0, .int .u64 0, .int .u64 0, .int .u64 0, .slice none 0 0] 28)
  have hz := m.size
  have hz2 : (w.alloc zeros6).heap.size = w.heap.size + 1 := by simp
  have hZ : B6 w.heap.size (.int .i64 0) (.int .u64 0) (.int .u64 0) (.int .u64 0) (.int .u64 0) (.slice none 0 0) (w.alloc zeros6) := heap_alloc_new w zeros6
  have m1 : Mv (fun j => j = g) w w2 := Mv.trans (Mv.alloc _ w zeros6) m (fun _ _ h => h)
  exact ⟨⟨⟨[], ow_nil _ _ _ _, rfl⟩, (fun j hj e => nomatch e)⟩, ⟨n', p.mv qa⟩, (B6.mv (B6.mv hZ m (by omega)).out qa (fun h => h)).out, heap_alloc_new w2 _, m1.trans qa (fun _ _ h => h.elim), (fun x hx => nomatch hx), hs, hg, by omega⟩

set_option maxRecDepth 20000 in
set_option maxHeartbeats 8000000 in
theorem rx_node4 (d : Nat) (hd : d < 100) (ih : RxC d) (D : Int) (hD : D - 1 = (d : Int)) (hD0 : 0 < D) (g : Nat) (a : Option Addr) (len cap : Nat) (f : Nat → Nat) (n : Nat) (w : World) (h : Hid (Pk w g a len cap f n)) (hm : numS f len n 9 = 4) :
    Calls Tryd.prog 21 #[.pointer (some ⟨g, 0, none⟩), .int .i64 D] w fun e w' => RxP (d + 1) w g a len cap f e w' := by
  have HQ : Hid (g < w.heap.size) := (Array.getElem?_eq_some_iff.1 h.out.at_).1
  have HS : Hid (Hid (Sl w a len (Bn f))) := h.out.row
  have h0 : Hid (Pk (w.alloc zeros6) g a len cap f n) := h.out.mv (Mv.alloc (fun _ => False) w zeros6)
  have h9 := num_any 9 (by decide) (by decide) g a len cap f n (w.alloc zeros6) h0
  have hset := fun n' W (P : Hid (Pk W g a len cap f n')) => pset_any g a len cap f n' W P
  have h2 := fun n' W (P : Hid (Pk W g a len cap f n')) => num_any 2 (by decide) (by decide) g a len cap f n' W P
  have hl2 := fun n' => numS_lt f len n' 2 (by decide)
  have IH : Hid (RxC d) := ih
  have hdi : (d : Int) < 100 := by omega
  rw [hm] at h9
  generalize numN len n = n1 at h9
  clear h h0 hm ih
  go_enter Tryd.func21, Tryd.ntmps21
  go_wp2_with fail
  refine h9.mono ?_
  rintro e w1 ⟨rfl, p1, m1⟩
  go_wp2_with fail
  have hm2 := hl2 n1
  refine (h2 _ _ p1).mono ?_
  rintro e w2 ⟨rfl, p2, m2'⟩
  have M2 : Hid (Mv (fun k => k = g) (w.alloc zeros6) w2) := Mv.trans m1.out m2'.out (fun _ _ h => h)
  generalize numS f len n1 2 = m2 at *
  have hm2i : (m2 : Int) < 2 := by omega
  have B0 : Hid (Plr w g a len cap f w2.heap.size 2 d (w2.alloc (.cells #[.int .i64 2, .int .u64 0, .int .u64 0, .int .u64 0, .int .u64 0, .slice none 0 0] 28)) (.slice none 0 0) []) := Plr.start HQ.out HS.out.out M2.out p2.out
  clear h9 h2 hl2
  go_wp2_with fail
  generalize w2.alloc (.cells #[.int .i64 2, .int .u64 0, .int .u64 0, .int .u64 0, .int .u64 0, .slice none 0 0] 28) = W0 at *
  generalize w2.heap.size = gr at *
  go_loopw [9] (fun s9 wr => ∃ i va vc acc, i ≤ (2 + m2) ∧ s9 = .int .i64 (i : Nat) ∧ acc.length = i ∧ Hid (Plr w g a len cap f gr 2 d wr (.slice va i vc) acc)) (fun s9 _ => (2 + m2) - (intOf s9).toNat)
  case atStart => exact ⟨0, none, 0, [], by omega, rfl, rfl, B0⟩
  case round =>
    obtain ⟨i, va, vc, acc, hi, rfl, hacc, B⟩ := hrel
    have HA : Hid (acc.length = i) := hacc
    clear hacc B0
    by_cases hlt : i < (2 + m2)
    · have hli : (i : Int) < (2 + (m2 : Int)) := by omega
      obtain ⟨n5, p5⟩ := B.out.pk
      have hx := IH.out g a len cap f n5 wr p5
      go_wp2_with fail
      refine hx.mono ?_
      intro e3 w3 h3
      obtain ⟨x, pa, pc, n6, rfl, plx, px, p6, m6⟩ := h3
      have q7 := Mv.alloc (fun _ => False) w3 (.cells #[.int .i64 x.kind, .int .u64 (limb x.set 0), .int .u64 (limb x.set 1), .int .u64 (limb x.set 2), .int .u64 (limb x.set 3), .slice pa x.args.length pc] 28)
      have m7 : Mv (fun j => j = g) wr (w3.alloc (.cells #[.int .i64 x.kind, .int .u64 (limb x.set 0), .int .u64 (limb x.set 1), .int .u64 (limb x.set 2), .int .u64 (limb x.set 3), .slice pa x.args.length pc] 28)) := Mv.trans m6.out q7 (fun _ _ h => h.elim)
      have p7 : Hid (Pk (w3.alloc (.cells #[.int .i64 x.kind, .int .u64 (limb x.set 0), .int .u64 (limb x.set 1), .int .u64 (limb x.set 2), .int .u64 (limb x.set 3), .slice pa x.args.length pc] 28)) g a len cap f n6) := p6.out.mv q7
      have B7 := B.out.go m7 p7.out
      have BX : Hid (B6 w3.heap.size (.int .i64 x.kind) (.int .u64 (limb x.set 0)) (.int .u64 (limb x.set 1)) (.int .u64 (limb x.set 2)) (.int .u64 (limb x.set 3)) (.slice pa x.args.length pc) (w3.alloc (.cells #[.int .i64 x.kind, .int .u64 (limb x.set 0), .int .u64 (limb x.set 1), .int .u64 (limb x.set 2), .int .u64 (limb x.set 3), .slice pa x.args.length pc] 28))) := heap_alloc_new w3 _
      have px7 : Hid (Parts x.args (fun j => wr.heap.size ≤ j ∧ ¬ False) (w3.alloc (.cells #[.int .i64 x.kind, .int .u64 (limb x.set 0), .int .u64 (limb x.set 1), .int .u64 (limb x.set 2), .int .u64 (limb x.set 3), .slice pa x.args.length pc] 28)) pa pc) := (px.out.mv q7 (fun _ _ h => h)).mono (fun j hj => ⟨hj, id⟩)
      have HW3 : Hid (wr.heap.size ≤ w3.heap.size) := m6.out.size
      have hkind := plx.out.kind
      obtain ⟨xk, hxk⟩ : ∃ xk, xk = x.kind := ⟨_, rfl⟩
      obtain ⟨b0, b1, b2, b3, b4, b5, g0, g1, g2, g3, g4, g5⟩ := B6.facts BX
      obtain ⟨r0, r1, r2, r3, r4, r5, _, _, _, _, _, _⟩ := B6.facts (show Hid _ from B7.r)
      clear hx
      have HWw : Hid (w.heap.size ≤ wr.heap.size) := B.out.mv.size
      have hgi : (i : Int) < 1000 := by omega
      by_cases hk : x.kind = 2
      · have hkb : (x.kind == 2) = true := by rw [hk]; rfl
        clear hk hkind
        go_wp2_with fail
        refine (hset _ _ p7).mono ?_
        intro e4 w4 h4
        obtain ⟨p, n8, rfl, hp, p8, m8⟩ := h4
        rw [sv_cells]
        have BX4 := B6.mv BX.out m8.out (by have := HQ.out; have := HWw.out; have := HW3.out; omega)
        have mput := put6_mv w4 w3.heap.size (.int .i64 1) (.int .u64 (limb p 0)) (.int .u64 (limb p 1)) (.int .u64 (limb p 2)) (.int .u64 (limb p 3)) (.slice none 0 0)
        have M9 : Mv (fun j => j = g) wr (put6 w4 w3.heap.size (.int .i64 1) (.int .u64 (limb p 0)) (.int .u64 (limb p 1)) (.int .u64 (limb p 2)) (.int .u64 (limb p 3)) (.slice none 0 0)) := Mv.trans (Mv.trans m7 m8.out (fun _ _ h => h)) mput (fun j hj e => by have := HW3.out; omega)
        have P9 : Hid (Pk (put6 w4 w3.heap.size (.int .i64 1) (.int .u64 (limb p 0)) (.int .u64 (limb p 1)) (.int .u64 (limb p 2)) (.int .u64 (limb p 3)) (.slice none 0 0)) g a len cap f n8) := Pk.mv2 HQ.out HS.out.out p8.out mput (by have := HWw.out; have := HW3.out; have := q7.size; have := m8.out.size; omega) (fun j hj e => by have := HWw.out; have := HW3.out; omega)
        have B9 := B.out.go M9 P9.out
        have BX5 : Hid (B6 w3.heap.size (.int .i64 1) (.int .u64 (limb p 0)) (.int .u64 (limb p 1)) (.int .u64 (limb p 2)) (.int .u64 (limb p 3)) (.slice none 0 0) (put6 w4 w3.heap.size (.int .i64 1) (.int .u64 (limb p 0)) (.int .u64 (limb p 1)) (.int .u64 (limb p 2)) (.int .u64 (limb p 3)) (.slice none 0 0))) := put6_heap BX4.out _ _ _ _ _ _
        have px9 : Hid (Parts (⟨1, p, []⟩ : RX).args (fun j => wr.heap.size ≤ j ∧ ¬ False) (put6 w4 w3.heap.size (.int .i64 1) (.int .u64 (limb p 0)) (.int .u64 (limb p 1)) (.int .u64 (limb p 2)) (.int .u64 (limb p 3)) (.slice none 0 0)) none 0) := (parts_none _).mono (fun _ h => h.elim)
        obtain ⟨v', W, hr, hR, ⟨va', vc', hv'⟩, B'⟩ := Plr.step (x := ⟨1, p, []⟩) B px9 M9 P9 (show Hid _ from ⟨pl_set d hp, by show (1 : Int) ≠ 2; decide⟩) (by have := HA.out; omega)
        rw [HA.out] at hv'
        subst hv'
        rw [show (put6 w4 w3.heap.size (.int .i64 1) (.int .u64 (limb p 0)) (.int .u64 (limb p 1)) (.int .u64 (limb p 2)) (.int .u64 (limb p 3)) (.slice none 0 0)).heap.size = w4.heap.size from by simp [put6]] at hr
        clear b0 b1 b2 b3 b4 b5 g0 g1 g2 g3 g4 g5 r0 r1 r2 r3 r4 r5
        obtain ⟨b0, b1, b2, b3, b4, b5, g0, g1, g2, g3, g4, g5⟩ := B6.facts BX4
        obtain ⟨c0, c1, c2, c3, c4, c5, _, _, _, _, _, _⟩ := B6.facts BX5
        obtain ⟨_, _, _, _, _, r5, _, _, _, _, _, _⟩ := B6.facts (show Hid _ from B9.r)
        obtain ⟨_, _, _, _, _, y5, _, _, _, _, _, f5⟩ := B6.facts hR
        unfold put6 at c0 c1 c2 c3 c4 c5 r5 hr
        clear hset IH px9 B9 BX5 BX4 P9 B7 px7 px plx m7 q7 BX
        go_wp2_with (at_builtin; first | (refine wpList_append_given rfl _ _ 26 rfl _ _ _ W rfl rfl hr ?_))
        exact ⟨⟨i + 1, va', vc', acc ++ [⟨1, p, []⟩], by omega, by go_num, by rw [List.length_append, HA.out]; rfl, B'⟩, by simp [intOf]; omega⟩
      · have hkb : (x.kind == 2) = false := beq_false_of_ne hk
        have hk4 : x.kind < 4 ∨ x.kind = 4 := by omega
        have hkl : True := trivial
        obtain ⟨v', W, hr, hR, ⟨va', vc', hv'⟩, B'⟩ := Plr.step B px7 m7 p7 (show Hid _ from ⟨plx.out, hk⟩) (by have := HA.out; omega)
        rw [HA.out] at hv'
        subst hv'
        rw [show (w3.alloc (.cells #[.int .i64 x.kind, .int .u64 (limb x.set 0), .int .u64 (limb x.set 1), .int .u64 (limb x.set 2), .int .u64 (limb x.set 3), .slice pa x.args.length pc] 28)).heap.size = w3.heap.size + 1 from by simp] at hr
        obtain ⟨_, _, _, _, _, y5, _, _, _, _, _, f5⟩ := B6.facts hR
        clear hset IH hk hk4 B7 px7 px plx m7 q7 BX
        go_wp2_with (at_builtin; first | (refine wpList_append_given rfl _ _ 26 rfl _ _ _ W rfl rfl hr ?_))
        exact ⟨⟨i + 1, va', vc', acc ++ [x], by omega, by go_num, by rw [List.length_append, HA.out]; rfl, B'⟩, by simp [intOf]; omega⟩
    · have HN : Hid (i = (2 + m2)) := (by omega : i = (2 + m2))
      have hge : (2 + (m2 : Int)) ≤ (i : Int) := by omega
      obtain ⟨r0, r1, r2, r3, r4, r5, _, _, _, _, _, _⟩ := B6.facts (show Hid _ from B.out.r)
      obtain ⟨z0, z1, z2, z3, z4, z5, _, _, _, _, _, _⟩ := B6.facts (show Hid _ from B.out.z)
      go_wp2_with fail
      refine bodyPost_ret (results_cell_row (p := 4) (ty := 28) rfl _ _ w.heap.size 28 _ (0, 0) _ rfl (put6_heap B.out.z _ _ _ _ _ _) Tryd.underlying28 rfl (by kernel_rfl)) rfl ?_
      exact Plr.tell B HA.out (by decide) (by rw [if_neg (by decide)]; have := HN.out; omega) _ _ _ _ _ _

set_option maxRecDepth 20000 in
set_option maxHeartbeats 8000000 in
theorem rx_node5 (d : Nat) (hd : d < 100) (ih : RxC d) (D : Int) (hD : D - 1 = (d : Int)) (hD0 : 0 < D) (g : Nat) (a : Option Addr) (len cap : Nat) (f : Nat → Nat) (n : Nat) (w : World) (h : Hid (Pk w g a len cap f n)) (hm : numS f len n 9 = 5) :
    Calls Tryd.prog 21 #[.pointer (some ⟨g, 0, none⟩), .int .i64 D] w fun e w' => RxP (d + 1) w g a len cap f e w' := by
  have HQ : Hid (g < w.heap.size) := (Array.getElem?_eq_some_iff.1 h.out.at_).1
  have HS : Hid (Hid (Sl w a len (Bn f))) := h.out.row
  have h0 : Hid (Pk (w.alloc zeros6) g a len cap f n) := h.out.mv (Mv.alloc (fun _ => False) w zeros6)
  have h9 := num_any 9 (by decide) (by decide) g a len cap f n (w.alloc zeros6) h0
  have hset := fun n' W (P : Hid (Pk W g a len cap f n')) => pset_any g a len cap f n' W P
  have h2 := fun n' W (P : Hid (Pk W g a len cap f n')) => num_any 2 (by decide) (by decide) g a len cap f n' W P
  have hl2 := fun n' => numS_lt f len n' 2 (by decide)
  have IH : Hid (RxC d) := ih
  have hdi : (d : Int) < 100 := by omega
  rw [hm] at h9
  generalize numN len n = n1 at h9
  clear h h0 hm ih
  go_enter Tryd.func21, Tryd.ntmps21
  go_wp2_with fail
  refine h9.mono ?_
  rintro e w1 ⟨rfl, p1, m1⟩
  go_wp2_with fail
  have hm2 := hl2 n1
  refine (h2 _ _ p1).mono ?_
  rintro e w2 ⟨rfl, p2, m2'⟩
  have M2 : Hid (Mv (fun k => k = g) (w.alloc zeros6) w2) := Mv.trans m1.out m2'.out (fun _ _ h => h)
  generalize numS f len n1 2 = m2 at *
  have hm2i : (m2 : Int) < 2 := by omega
  have B0 : Hid (Plr w g a len cap f w2.heap.size 3 d (w2.alloc (.cells #[.int .i64 3, .int .u64 0, .int .u64 0, .int .u64 0, .int .u64 0, .slice none 0 0] 28)) (.slice none 0 0) []) := Plr.start HQ.out HS.out.out M2.out p2.out
  clear h9 h2 hl2
  go_wp2_with fail
  generalize w2.alloc (.cells #[.int .i64 3, .int .u64 0, .int .u64 0, .int .u64 0, .int .u64 0, .slice none 0 0] 28) = W0 at *
  generalize w2.heap.size = gr at *
  go_loopw [9] (fun s9 wr => ∃ i va vc acc, i ≤ (2 + m2) ∧ s9 = .int .i64 (i : Nat) ∧ acc.length = i ∧ Hid (Plr w g a len cap f gr 3 d wr (.slice va i vc) acc)) (fun s9 _ => (2 + m2) - (intOf s9).toNat)
  case atStart => exact ⟨0, none, 0, [], by omega, rfl, rfl, B0⟩
  case round =>
    obtain ⟨i, va, vc, acc, hi, rfl, hacc, B⟩ := hrel
    have HA : Hid (acc.length = i) := hacc
    clear hacc B0
    by_cases hlt : i < (2 + m2)
    · have hli : (i : Int) < (2 + (m2 : Int)) := by omega
      obtain ⟨n5, p5⟩ := B.out.pk
      have hx := IH.out g a len cap f n5 wr p5
      go_wp2_with fail
      refine hx.mono ?_
      intro e3 w3 h3
      obtain ⟨x, pa, pc, n6, rfl, plx, px, p6, m6⟩ := h3
      have q7 := Mv.alloc (fun _ => False) w3 (.cells #[.int .i64 x.kind, .int .u64 (limb x.set 0), .int .u64 (limb x.set 1), .int .u64 (limb x.set 2), .int .u64 (limb x.set 3), .slice pa x.args.length pc] 28)
      have m7 : Mv (fun j => j = g) wr (w3.alloc (.cells #[.int .i64 x.kind, .int .u64 (limb x.set 0), .int .u64 (limb x.set 1), .int .u64 (limb x.set 2), .int .u64 (limb x.set 3), .slice pa x.args.length pc] 28)) := Mv.trans m6.out q7 (fun _ _ h => h.elim)
      have p7 : Hid (Pk (w3.alloc (.cells #[.int .i64 x.kind, .int .u64 (limb x.set 0), .int .u64 (limb x.set 1), .int .u64 (limb x.set 2), .int .u64 (limb x.set 3), .slice pa x.args.length pc] 28)) g a len cap f n6) := p6.out.mv q7
      have B7 := B.out.go m7 p7.out
      have BX : Hid (B6 w3.heap.size (.int .i64 x.kind) (.int .u64 (limb x.set 0)) (.int .u64 (limb x.set 1)) (.int .u64 (limb x.set 2)) (.int .u64 (limb x.set 3)) (.slice pa x.args.length pc) (w3.alloc (.cells #[.int .i64 x.kind, .int .u64 (limb x.set 0), .int .u64 (limb x.set 1), .int .u64 (limb x.set 2), .int .u64 (limb x.set 3), .slice pa x.args.length pc] 28))) := heap_alloc_new w3 _
      have px7 : Hid (Parts x.args (fun j => wr.heap.size ≤ j ∧ ¬ False) (w3.alloc (.cells #[.int .i64 x.kind, .int .u64 (limb x.set 0), .int .u64 (limb x.set 1), .int .u64 (limb x.set 2), .int .u64 (limb x.set 3), .slice pa x.args.length pc] 28)) pa pc) := (px.out.mv q7 (fun _ _ h => h)).mono (fun j hj => ⟨hj, id⟩)
      have HW3 : Hid (wr.heap.size ≤ w3.heap.size) := m6.out.size
      have hkind := plx.out.kind
      obtain ⟨xk, hxk⟩ : ∃ xk, xk = x.kind := ⟨_, rfl⟩
      obtain ⟨b0, b1, b2, b3, b4, b5, g0, g1, g2, g3, g4, g5⟩ := B6.facts BX
      obtain ⟨r0, r1, r2, r3, r4, r5, _, _, _, _, _, _⟩ := B6.facts (show Hid _ from B7.r)
      clear hx
      have HWw : Hid (w.heap.size ≤ wr.heap.size) := B.out.mv.size
      have hgi : (i : Int) < 1000 := by omega
      by_cases hk : x.kind = 3
      · have hkb : (x.kind == 3) = true := by rw [hk]; rfl
        clear hk hkind
        go_wp2_with fail
        refine (hset _ _ p7).mono ?_
        intro e4 w4 h4
        obtain ⟨p, n8, rfl, hp, p8, m8⟩ := h4
        rw [sv_cells]
        have BX4 := B6.mv BX.out m8.out (by have := HQ.out; have := HWw.out; have := HW3.out; omega)
        have mput := put6_mv w4 w3.heap.size (.int .i64 1) (.int .u64 (limb p 0)) (.int .u64 (limb p 1)) (.int .u64 (limb p 2)) (.int .u64 (limb p 3)) (.slice none 0 0)
        have M9 : Mv (fun j => j = g) wr (put6 w4 w3.heap.size (.int .i64 1) (.int .u64 (limb p 0)) (.int .u64 (limb p 1)) (.int .u64 (limb p 2)) (.int .u64 (limb p 3)) (.slice none 0 0)) := Mv.trans (Mv.trans m7 m8.out (fun _ _ h => h)) mput (fun j hj e => by have := HW3.out; omega)
        have P9 : Hid (Pk (put6 w4 w3.heap.size (.int .i64 1) (.int .u64 (limb p 0)) (.int .u64 (limb p 1)) (.int .u64 (limb p 2)) (.int .u64 (limb p 3)) (.slice none 0 0)) g a len cap f n8) := Pk.mv2 HQ.out HS.out.out p8.out mput (by have := HWw.out; have := HW3.out; have := q7.size; have := m8.out.size; omega) (fun j hj e => by have := HWw.out; have := HW3.out; omega)
        have B9 := B.out.go M9 P9.out
        have BX5 : Hid (B6 w3.heap.size (.int .i64 1) (.int .u64 (limb p 0)) (.int .u64 (limb p 1)) (.int .u64 (limb p 2)) (.int .u64 (limb p 3)) (.slice none 0 0) (put6 w4 w3.heap.size (.int .i64 1) (.int .u64 (limb p 0)) (.int .u64 (limb p 1)) (.int .u64 (limb p 2)) (.int .u64 (limb p 3)) (.slice none 0 0))) := put6_heap BX4.out _ _ _ _ _ _
        have px9 : Hid (Parts (⟨1, p, []⟩ : RX).args (fun j => wr.heap.size ≤ j ∧ ¬ False) (put6 w4 w3.heap.size (.int .i64 1) (.int .u64 (limb p 0)) (.int .u64 (limb p 1)) (.int .u64 (limb p 2)) (.int .u64 (limb p 3)) (.slice none 0 0)) none 0) := (parts_none _).mono (fun _ h => h.elim)
        obtain ⟨v', W, hr, hR, ⟨va', vc', hv'⟩, B'⟩ := Plr.step (x := ⟨1, p, []⟩) B px9 M9 P9 (show Hid _ from ⟨pl_set d hp, by show (1 : Int) ≠ 3; decide⟩) (by have := HA.out; omega)
        rw [HA.out] at hv'
        subst hv'
        rw [show (put6 w4 w3.heap.size (.int .i64 1) (.int .u64 (limb p 0)) (.int .u64 (limb p 1)) (.int .u64 (limb p 2)) (.int .u64 (limb p 3)) (.slice none 0 0)).heap.size = w4.heap.size from by simp [put6]] at hr
        clear b0 b1 b2 b3 b4 b5 g0 g1 g2 g3 g4 g5 r0 r1 r2 r3 r4 r5
        obtain ⟨b0, b1, b2, b3, b4, b5, g0, g1, g2, g3, g4, g5⟩ := B6.facts BX4
        obtain ⟨c0, c1, c2, c3, c4, c5, _, _, _, _, _, _⟩ := B6.facts BX5
        obtain ⟨_, _, _, _, _, r5, _, _, _, _, _, _⟩ := B6.facts (show Hid _ from B9.r)
        obtain ⟨_, _, _, _, _, y5, _, _, _, _, _, f5⟩ := B6.facts hR
        unfold put6 at c0 c1 c2 c3 c4 c5 r5 hr
        clear hset IH px9 B9 BX5 BX4 P9 B7 px7 px plx m7 q7 BX
        go_wp2_with (at_builtin; first | (refine wpList_append_given rfl _ _ 26 rfl _ _ _ W rfl rfl hr ?_))
        exact ⟨⟨i + 1, va', vc', acc ++ [⟨1, p, []⟩], by omega, by go_num, by rw [List.length_append, HA.out]; rfl, B'⟩, by simp [intOf]; omega⟩
      · have hkb : (x.kind == 3) = false := beq_false_of_ne hk
        have hk4 : x.kind < 4 ∨ x.kind = 4 := by omega
        have hkl : True := trivial
        obtain ⟨v', W, hr, hR, ⟨va', vc', hv'⟩, B'⟩ := Plr.step B px7 m7 p7 (show Hid _ from ⟨plx.out, hk⟩) (by have := HA.out; omega)
        rw [HA.out] at hv'
        subst hv'
        rw [show (w3.alloc (.cells #[.int .i64 x.kind, .int .u64 (limb x.set 0), .int .u64 (limb x.set 1), .int .u64 (limb x.set 2), .int .u64 (limb x.set 3), .slice pa x.args.length pc] 28)).heap.size = w3.heap.size + 1 from by simp] at hr
        obtain ⟨_, _, _, _, _, y5, _, _, _, _, _, f5⟩ := B6.facts hR
        clear hset IH hk hk4 B7 px7 px plx m7 q7 BX
        go_wp2_with (at_builtin; first | (refine wpList_append_given rfl _ _ 26 rfl _ _ _ W rfl rfl hr ?_))
        exact ⟨⟨i + 1, va', vc', acc ++ [x], by omega, by go_num, by rw [List.length_append, HA.out]; rfl, B'⟩, by simp [intOf]; omega⟩
    · have HN : Hid (i = (2 + m2)) := (by omega : i = (2 + m2))
      have hge : (2 + (m2 : Int)) ≤ (i : Int) := by omega
      obtain ⟨r0, r1, r2, r3, r4, r5, _, _, _, _, _, _⟩ := B6.facts (show Hid _ from B.out.r)
      obtain ⟨z0, z1, z2, z3, z4, z5, _, _, _, _, _, _⟩ := B6.facts (show Hid _ from B.out.z)
      go_wp2_with fail
      refine bodyPost_ret (results_cell_row (p := 4) (ty := 28) rfl _ _ w.heap.size 28 _ (0, 0) _ rfl (put6_heap B.out.z _ _ _ _ _ _) Tryd.underlying28 rfl (by kernel_rfl)) rfl ?_
      exact Plr.tell B HA.out (by decide) (by rw [if_neg (by decide)]; have := HN.out; omega) _ _ _ _ _ _

set_option maxRecDepth 20000 in
set_option maxHeartbeats 8000000 in
theorem rx_node6 (d : Nat) (hd : d < 100) (ih : RxC d) (D : Int) (hD : D - 1 = (d : Int)) (hD0 : 0 < D) (g : Nat) (a : Option Addr) (len cap : Nat) (f : Nat → Nat) (n : Nat) (w : World) (h : Hid (Pk w g a len cap f n)) (hm : numS f len n 9 = 6) :
    Calls Tryd.prog 21 #[.pointer (some ⟨g, 0, none⟩), .int .i64 D] w fun e w' => RxP (d + 1) w g a len cap f e w' := by
  have HQ : Hid (g < w.heap.size) := (Array.getElem?_eq_some_iff.1 h.out.at_).1
  have HS : Hid (Hid (Sl w a len (Bn f))) := h.out.row
  have h0 : Hid (Pk (w.alloc zeros6) g a len cap f n) := h.out.mv (Mv.alloc (fun _ => False) w zeros6)
  have h9 := num_any 9 (by decide) (by decide) g a len cap f n (w.alloc zeros6) h0
  have hset := fun n' W (P : Hid (Pk W g a len cap f n')) => pset_any g a len cap f n' W P
  have h2 := fun n' W (P : Hid (Pk W g a len cap f n')) => num_any 2 (by decide) (by decide) g a len cap f n' W P
  have hl2 := fun n' => numS_lt f len n' 2 (by decide)
  have IH : Hid (RxC d) := ih
  have hdi : (d : Int) < 100 := by omega
  rw [hm] at h9
  generalize numN len n = n1 at h9
  clear h h0 hm ih
  go_enter Tryd.func21, Tryd.ntmps21
  go_wp2_with fail
  refine h9.mono ?_
  rintro e w1 ⟨rfl, p1, m1⟩
  go_wp2_with fail
  have B0 : Hid (Plr w g a len cap f w1.heap.size 4 d (w1.alloc (.cells #[.int .i64 4, .int .u64 0, .int .u64 0, .int .u64 0, .int .u64 0, .slice none 0 0] 28)) (.slice none 0 0) []) := Plr.start HQ.out HS.out.out m1.out p1.out
  clear h9 h2 hl2
  generalize w1.alloc (.cells #[.int .i64 4, .int .u64 0, .int .u64 0, .int .u64 0, .int .u64 0, .slice none 0 0] 28) = W0 at *
  generalize w1.heap.size = gr at *
  go_loopw [9] (fun s9 wr => ∃ i va vc acc, i ≤ 1 ∧ s9 = .int .i64 (i : Nat) ∧ acc.length = i ∧ Hid (Plr w g a len cap f gr 4 d wr (.slice va i vc) acc)) (fun s9 _ => 1 - (intOf s9).toNat)
  case atStart => exact ⟨0, none, 0, [], by omega, rfl, rfl, B0⟩
  case round =>
    obtain ⟨i, va, vc, acc, hi, rfl, hacc, B⟩ := hrel
    have HA : Hid (acc.length = i) := hacc
    clear hacc B0
    by_cases hlt : i < 1
    · have hli : (i : Int) < 1 := by omega
      obtain ⟨n5, p5⟩ := B.out.pk
      have hx := IH.out g a len cap f n5 wr p5
      go_wp2_with fail
      refine hx.mono ?_
      intro e3 w3 h3
      obtain ⟨x, pa, pc, n6, rfl, plx, px, p6, m6⟩ := h3
      have q7 := Mv.alloc (fun _ => False) w3 (.cells #[.int .i64 x.kind, .int .u64 (limb x.set 0), .int .u64 (limb x.set 1), .int .u64 (limb x.set 2), .int .u64 (limb x.set 3), .slice pa x.args.length pc] 28)
      have m7 : Mv (fun j => j = g) wr (w3.alloc (.cells #[.int .i64 x.kind, .int .u64 (limb x.set 0), .int .u64 (limb x.set 1), .int .u64 (limb x.set 2), .int .u64 (limb x.set 3), .slice pa x.args.length pc] 28)) := Mv.trans m6.out q7 (fun _ _ h => h.elim)
      have p7 : Hid (Pk (w3.alloc (.cells #[.int .i64 x.kind, .int .u64 (limb x.set 0), .int .u64 (limb x.set 1), .int .u64 (limb x.set 2), .int .u64 (limb x.set 3), .slice pa x.args.length pc] 28)) g a len cap f n6) := p6.out.mv q7
      have B7 := B.out.go m7 p7.out
      have BX : Hid (B6 w3.heap.size (.int .i64 x.kind) (.int .u64 (limb x.set 0)) (.int .u64 (limb x.set 1)) (.int .u64 (limb x.set 2)) (.int .u64 (limb x.set 3)) (.slice pa x.args.length pc) (w3.alloc (.cells #[.int .i64 x.kind, .int .u64 (limb x.set 0), .int .u64 (limb x.set 1), .int .u64 (limb x.set 2), .int .u64 (limb x.set 3), .slice pa x.args.length pc] 28))) := heap_alloc_new w3 _
      have px7 : Hid (Parts x.args (fun j => wr.heap.size ≤ j ∧ ¬ False) (w3.alloc (.cells #[.int .i64 x.kind, .int .u64 (limb x.set 0), .int .u64 (limb x.set 1), .int .u64 (limb x.set 2), .int .u64 (limb x.set 3), .slice pa x.args.length pc] 28)) pa pc) := (px.out.mv q7 (fun _ _ h => h)).mono (fun j hj => ⟨hj, id⟩)
      have HW3 : Hid (wr.heap.size ≤ w3.heap.size) := m6.out.size
      have hkind := plx.out.kind
      obtain ⟨xk, hxk⟩ : ∃ xk, xk = x.kind := ⟨_, rfl⟩
      obtain ⟨b0, b1, b2, b3, b4, b5, g0, g1, g2, g3, g4, g5⟩ := B6.facts BX
      obtain ⟨r0, r1, r2, r3, r4, r5, _, _, _, _, _, _⟩ := B6.facts (show Hid _ from B7.r)
      clear hx
      have HWw : Hid (w.heap.size ≤ wr.heap.size) := B.out.mv.size
      have hgi : (i : Int) < 1000 := by omega
      by_cases hk : x.kind = 4
      · have hkb : (x.kind == 4) = true := by rw [hk]; rfl
        clear hk hkind
        go_wp2_with fail
        refine (hset _ _ p7).mono ?_
        intro e4 w4 h4
        obtain ⟨p, n8, rfl, hp, p8, m8⟩ := h4
        rw [sv_cells]
        have BX4 := B6.mv BX.out m8.out (by have := HQ.out; have := HWw.out; have := HW3.out; omega)
        have mput := put6_mv w4 w3.heap.size (.int .i64 1) (.int .u64 (limb p 0)) (.int .u64 (limb p 1)) (.int .u64 (limb p 2)) (.int .u64 (limb p 3)) (.slice none 0 0)
        have M9 : Mv (fun j => j = g) wr (put6 w4 w3.heap.size (.int .i64 1) (.int .u64 (limb p 0)) (.int .u64 (limb p 1)) (.int .u64 (limb p 2)) (.int .u64 (limb p 3)) (.slice none 0 0)) := Mv.trans (Mv.trans m7 m8.out (fun _ _ h => h)) mput (fun j hj e => by have := HW3.out; omega)
        have P9 : Hid (Pk (put6 w4 w3.heap.size (.int .i64 1) (.int .u64 (limb p 0)) (.int .u64 (limb p 1)) (.int .u64 (limb p 2)) (.int .u64 (limb p 3)) (.slice none 0 0)) g a len cap f n8) := Pk.mv2 HQ.out HS.out.out p8.out mput (by have := HWw.out; have := HW3.out; have := q7.size; have := m8.out.size; omega) (fun j hj e => by have := HWw.out; have := HW3.out; omega)
        have B9 := B.out.go M9 P9.out
        have BX5 : Hid (B6 w3.heap.size (.int .i64 1) (.int .u64 (limb p 0)) (.int .u64 (limb p 1)) (.int .u64 (limb p 2)) (.int .u64 (limb p 3)) (.slice none 0 0) (put6 w4 w3.heap.size (.int .i64 1) (.int .u64 (limb p 0)) (.int .u64 (limb p 1)) (.int .u64 (limb p 2)) (.int .u64 (limb p 3)) (.slice none 0 0))) := put6_heap BX4.out _ _ _ _ _ _
        have px9 : Hid (Parts (⟨1, p, []⟩ : RX).args (fun j => wr.heap.size ≤ j ∧ ¬ False) (put6 w4 w3.heap.size (.int .i64 1) (.int .u64 (limb p 0)) (.int .u64 (limb p 1)) (.int .u64 (limb p 2)) (.int .u64 (limb p 3)) (.slice none 0 0)) none 0) := (parts_none _).mono (fun _ h => h.elim)
        obtain ⟨v', W, hr, hR, ⟨va', vc', hv'⟩, B'⟩ := Plr.step (x := ⟨1, p, []⟩) B px9 M9 P9 (show Hid _ from ⟨pl_set d hp, by show (1 : Int) ≠ 4; decide⟩) (by have := HA.out; omega)
        rw [HA.out] at hv'
        subst hv'
        rw [show (put6 w4 w3.heap.size (.int .i64 1) (.int .u64 (limb p 0)) (.int .u64 (limb p 1)) (.int .u64 (limb p 2)) (.int .u64 (limb p 3)) (.slice none 0 0)).heap.size = w4.heap.size from by simp [put6]] at hr
        clear b0 b1 b2 b3 b4 b5 g0 g1 g2 g3 g4 g5 r0 r1 r2 r3 r4 r5
        obtain ⟨b0, b1, b2, b3, b4, b5, g0, g1, g2, g3, g4, g5⟩ := B6.facts BX4
        obtain ⟨c0, c1, c2, c3, c4, c5, _, _, _, _, _, _⟩ := B6.facts BX5
        obtain ⟨_, _, _, _, _, r5, _, _, _, _, _, _⟩ := B6.facts (show Hid _ from B9.r)
        obtain ⟨_, _, _, _, _, y5, _, _, _, _, _, f5⟩ := B6.facts hR
        unfold put6 at c0 c1 c2 c3 c4 c5 r5 hr
        clear hset IH px9 B9 BX5 BX4 P9 B7 px7 px plx m7 q7 BX
        go_wp2_with (at_builtin; first | (refine wpList_append_given rfl _ _ 26 rfl _ _ _ W rfl rfl hr ?_))
        exact ⟨⟨i + 1, va', vc', acc ++ [⟨1, p, []⟩], by omega, by go_num, by rw [List.length_append, HA.out]; rfl, B'⟩, by simp [intOf]; omega⟩
      · have hkb : (x.kind == 4) = false := beq_false_of_ne hk
        have hk4 : x.kind < 4 ∨ x.kind = 4 := by omega
        have hkl : x.kind < 4 := by omega
        obtain ⟨v', W, hr, hR, ⟨va', vc', hv'⟩, B'⟩ := Plr.step B px7 m7 p7 (show Hid _ from ⟨plx.out, hk⟩) (by have := HA.out; omega)
        rw [HA.out] at hv'
        subst hv'
        rw [show (w3.alloc (.cells #[.int .i64 x.kind, .int .u64 (limb x.set 0), .int .u64 (limb x.set 1), .int .u64 (limb x.set 2), .int .u64 (limb x.set 3), .slice pa x.args.length pc] 28)).heap.size = w3.heap.size + 1 from by simp] at hr
        obtain ⟨_, _, _, _, _, y5, _, _, _, _, _, f5⟩ := B6.facts hR
        clear hset IH hk hk4 B7 px7 px plx m7 q7 BX
        go_wp2_with (at_builtin; first | (refine wpList_append_given rfl _ _ 26 rfl _ _ _ W rfl rfl hr ?_))
        exact ⟨⟨i + 1, va', vc', acc ++ [x], by omega, by go_num, by rw [List.length_append, HA.out]; rfl, B'⟩, by simp [intOf]; omega⟩
    · have HN : Hid (i = 1) := (by omega : i = 1)
      have hge : 1 ≤ (i : Int) := by omega
      obtain ⟨r0, r1, r2, r3, r4, r5, _, _, _, _, _, _⟩ := B6.facts (show Hid _ from B.out.r)
      obtain ⟨z0, z1, z2, z3, z4, z5, _, _, _, _, _, _⟩ := B6.facts (show Hid _ from B.out.z)
      go_wp2_with fail
      refine bodyPost_ret (results_cell_row (p := 4) (ty := 28) rfl _ _ w.heap.size 28 _ (0, 0) _ rfl (put6_heap B.out.z _ _ _ _ _ _) Tryd.underlying28 rfl (by kernel_rfl)) rfl ?_
      exact Plr.tell B HA.out (by decide) (by rw [if_pos rfl]; exact HN.out) _ _ _ _ _ _

set_option maxRecDepth 20000 in
set_option maxHeartbeats 8000000 in
theorem rx_node7 (d : Nat) (hd : d < 100) (ih : RxC d) (D : Int) (hD : D - 1 = (d : Int)) (hD0 : 0 < D) (g : Nat) (a : Option Addr) (len cap : Nat) (f : Nat → Nat) (n : Nat) (w : World) (h : Hid (Pk w g a len cap f n)) (hm : numS f len n 9 = 7) :
    Calls Tryd.prog 21 #[.pointer (some ⟨g, 0, none⟩), .int .i64 D] w fun e w' => RxP (d + 1) w g a len cap f e w' := by
  have HQ : Hid (g < w.heap.size) := (Array.getElem?_eq_some_iff.1 h.out.at_).1
  have HS : Hid (Hid (Sl w a len (Bn f))) := h.out.row
  have h0 : Hid (Pk (w.alloc zeros6) g a len cap f n) := h.out.mv (Mv.alloc (fun _ => False) w zeros6)
  have h9 := num_any 9 (by decide) (by decide) g a len cap f n (w.alloc zeros6) h0
  have hset := fun n' W (P : Hid (Pk W g a len cap f n')) => pset_any g a len cap f n' W P
  have h2 := fun n' W (P : Hid (Pk W g a len cap f n')) => num_any 2 (by decide) (by decide) g a len cap f n' W P
  have hl2 := fun n' => numS_lt f len n' 2 (by decide)
  have IH : Hid (RxC d) := ih
  have hdi : (d : Int) < 100 := by omega
  rw [hm] at h9
  generalize numN len n = n1 at h9
  clear h h0 hm ih
  go_enter Tryd.func21, Tryd.ntmps21
  go_wp2_with fail
  refine h9.mono ?_
  rintro e w1 ⟨rfl, p1, m1⟩
  go_wp2_with fail
  have hm2 := hl2 n1
  refine (h2 _ _ p1).mono ?_
  rintro e w2 ⟨rfl, p2, m2'⟩
  have M2 : Hid (Mv (fun k => k = g) (w.alloc zeros6) w2) := Mv.trans m1.out m2'.out (fun _ _ h => h)
  generalize numS f len n1 2 = m2 at *
  have hm2i : (m2 : Int) < 2 := by omega
  have B0 : Hid (Plr w g a len cap f w2.heap.size 2 d (w2.alloc (.cells #[.int .i64 2, .int .u64 0, .int .u64 0, .int .u64 0, .int .u64 0, .slice none 0 0] 28)) (.slice none 0 0) []) := Plr.start HQ.out HS.out.out M2.out p2.out
  clear h9 h2 hl2
  go_wp2_with fail
  generalize w2.alloc (.cells #[.int .i64 2, .int .u64 0, .int .u64 0, .int .u64 0, .int .u64 0, .slice none 0 0] 28) = W0 at *
  generalize w2.heap.size = gr at *
  go_loopw [9] (fun s9 wr => ∃ i va vc acc, i ≤ (2 + m2) ∧ s9 = .int .i64 (i : Nat) ∧ acc.length = i ∧ Hid (Plr w g a len cap f gr 2 d wr (.slice va i vc) acc)) (fun s9 _ => (2 + m2) - (intOf s9).toNat)
  case atStart => exact ⟨0, none, 0, [], by omega, rfl, rfl, B0⟩
  case round =>
    obtain ⟨i, va, vc, acc, hi, rfl, hacc, B⟩ := hrel
    have HA : Hid (acc.length = i) := hacc
    clear hacc B0
    by_cases hlt : i < (2 + m2)
    · have hli : (i : Int) < (2 + (m2 : Int)) := by omega
      obtain ⟨n5, p5⟩ := B.out.pk
      have hx := IH.out g a len cap f n5 wr p5
      go_wp2_with fail
      refine hx.mono ?_
      intro e3 w3 h3
      obtain ⟨x, pa, pc, n6, rfl, plx, px, p6, m6⟩ := h3
      have q7 := Mv.alloc (fun _ => False) w3 (.cells #[.int .i64 x.kind, .int .u64 (limb x.set 0), .int .u64 (limb x.set 1), .int .u64 (limb x.set 2), .int .u64 (limb x.set 3), .slice pa x.args.length pc] 28)
      have m7 : Mv (fun j => j = g) wr (w3.alloc (.cells #[.int .i64 x.kind, .int .u64 (limb x.set 0), .int .u64 (limb x.set 1), .int .u64 (limb x.set 2), .int .u64 (limb x.set 3), .slice pa x.args.length pc] 28)) := Mv.trans m6.out q7 (fun _ _ h => h.elim)
      have p7 : Hid (Pk (w3.alloc (.cells #[.int .i64 x.kind, .int .u64 (limb x.set 0), .int .u64 (limb x.set 1), .int .u64 (limb x.set 2), .int .u64 (limb x.set 3), .slice pa x.args.length pc] 28)) g a len cap f n6) := p6.out.mv q7
      have B7 := B.out.go m7 p7.out
      have BX : Hid (B6 w3.heap.size (.int .i64 x.kind) (.int .u64 (limb x.set 0)) (.int .u64 (limb x.set 1)) (.int .u64 (limb x.set 2)) (.int .u64 (limb x.set 3)) (.slice pa x.args.length pc) (w3.alloc (.cells #[.int .i64 x.kind, .int .u64 (limb x.set 0), .int .u64 (limb x.set 1), .int .u64 (limb x.set 2), .int .u64 (limb x.set 3), .slice pa x.args.length pc] 28))) := heap_alloc_new w3 _
      have px7 : Hid (Parts x.args (fun j => wr.heap.size ≤ j ∧ ¬ False) (w3.alloc (.cells #[.int .i64 x.kind, .int .u64 (limb x.set 0), .int .u64 (limb x.set 1), .int .u64 (limb x.set 2), .int .u64 (limb x.set 3), .slice pa x.args.length pc] 28)) pa pc) := (px.out.mv q7 (fun _ _ h => h)).mono (fun j hj => ⟨hj, id⟩)
      have HW3 : Hid (wr.heap.size ≤ w3.heap.size) := m6.out.size
      have hkind := plx.out.kind
      obtain ⟨xk, hxk⟩ : ∃ xk, xk = x.kind := ⟨_, rfl⟩
      obtain ⟨b0, b1, b2, b3, b4, b5, g0, g1, g2, g3, g4, g5⟩ := B6.facts BX
      obtain ⟨r0, r1, r2, r3, r4, r5, _, _, _, _, _, _⟩ := B6.facts (show Hid _ from B7.r)
      clear hx
      have HWw : Hid (w.heap.size ≤ wr.heap.size) := B.out.mv.size
      have hgi : (i : Int) < 1000 := by omega
      by_cases hk : x.kind = 2
      · have hkb : (x.kind == 2) = true := by rw [hk]; rfl
        clear hk hkind
        go_wp2_with fail
        refine (hset _ _ p7).mono ?_
        intro e4 w4 h4
        obtain ⟨p, n8, rfl, hp, p8, m8⟩ := h4
        rw [sv_cells]
        have BX4 := B6.mv BX.out m8.out (by have := HQ.out; have := HWw.out; have := HW3.out; omega)
        have mput := put6_mv w4 w3.heap.size (.int .i64 1) (.int .u64 (limb p 0)) (.int .u64 (limb p 1)) (.int .u64 (limb p 2)) (.int .u64 (limb p 3)) (.slice none 0 0)
        have M9 : Mv (fun j => j = g) wr (put6 w4 w3.heap.size (.int .i64 1) (.int .u64 (limb p 0)) (.int .u64 (limb p 1)) (.int .u64 (limb p 2)) (.int .u64 (limb p 3)) (.slice none 0 0)) := Mv.trans (Mv.trans m7 m8.out (fun _ _ h => h)) mput (fun j hj e => by have := HW3.out; omega)
        have P9 : Hid (Pk (put6 w4 w3.heap.size (.int .i64 1) (.int .u64 (limb p 0)) (.int .u64 (limb p 1)) (.int .u64 (limb p 2)) (.int .u64 (limb p 3)) (.slice none 0 0)) g a len cap f n8) := Pk.mv2 HQ.out HS.out.out p8.out mput (by have := HWw.out; have := HW3.out; have := q7.size; have := m8.out.size; omega) (fun j hj e => by have := HWw.out; have := HW3.out; omega)
        have B9 := B.out.go M9 P9.out
        have BX5 : Hid (B6 w3.heap.size (.int .i64 1) (.int .u64 (limb p 0)) (.int .u64 (limb p 1)) (.int .u64 (limb p 2)) (.int .u64 (limb p 3)) (.slice none 0 0) (put6 w4 w3.heap.size (.int .i64 1) (.int .u64 (limb p 0)) (.int .u64 (limb p 1)) (.int .u64 (limb p 2)) (.int .u64 (limb p 3)) (.slice none 0 0))) := put6_heap BX4.out _ _ _ _ _ _
        have px9 : Hid (Parts (⟨1, p, []⟩ : RX).args (fun j => wr.heap.size ≤ j ∧ ¬ False) (put6 w4 w3.heap.size (.int .i64 1) (.int .u64 (limb p 0)) (.int .u64 (limb p 1)) (.int .u64 (limb p 2)) (.int .u64 (limb p 3)) (.slice none 0 0)) none 0) := (parts_none _).mono (fun _ h => h.elim)
        obtain ⟨v', W, hr, hR, ⟨va', vc', hv'⟩, B'⟩ := Plr.step (x := ⟨1, p, []⟩) B px9 M9 P9 (show Hid _ from ⟨pl_set d hp, by show (1 : Int) ≠ 2; decide⟩) (by have := HA.out; omega)
        rw [HA.out] at hv'
        subst hv'
        rw [show (put6 w4 w3.heap.size (.int .i64 1) (.int .u64 (limb p 0)) (.int .u64 (limb p 1)) (.int .u64 (limb p 2)) (.int .u64 (limb p 3)) (.slice none 0 0)).heap.size = w4.heap.size from by simp [put6]] at hr
        clear b0 b1 b2 b3 b4 b5 g0 g1 g2 g3 g4 g5 r0 r1 r2 r3 r4 r5
        obtain ⟨b0, b1, b2, b3, b4, b5, g0, g1, g2, g3, g4, g5⟩ := B6.facts BX4
        obtain ⟨c0, c1, c2, c3, c4, c5, _, _, _, _, _, _⟩ := B6.facts BX5
        obtain ⟨_, _, _, _, _, r5, _, _, _, _, _, _⟩ := B6.facts (show Hid _ from B9.r)
        obtain ⟨_, _, _, _, _, y5, _, _, _, _, _, f5⟩ := B6.facts hR
        unfold put6 at c0 c1 c2 c3 c4 c5 r5 hr
        clear hset IH px9 B9 BX5 BX4 P9 B7 px7 px plx m7 q7 BX
        go_wp2_with (at_builtin; first | (refine wpList_append_given rfl _ _ 26 rfl _ _ _ W rfl rfl hr ?_))
        exact ⟨⟨i + 1, va', vc', acc ++ [⟨1, p, []⟩], by omega, by go_num, by rw [List.length_append, HA.out]; rfl, B'⟩, by simp [intOf]; omega⟩
      · have hkb : (x.kind == 2) = false := beq_false_of_ne hk
        have hk4 : x.kind < 4 ∨ x.kind = 4 := by omega
        have hkl : True := trivial
        obtain ⟨v', W, hr, hR, ⟨va', vc', hv'⟩, B'⟩ := Plr.step B px7 m7 p7 (show Hid _ from ⟨plx.out, hk⟩) (by have := HA.out; omega)
        rw [HA.out] at hv'
        subst hv'
        rw [show (w3.alloc (.cells #[.int .i64 x.kind, .int .u64 (limb x.set 0), .int .u64 (limb x.set 1), .int .u64 (limb x.set 2), .int .u64 (limb x.set 3), .slice pa x.args.length pc] 28)).heap.size = w3.heap.size + 1 from by simp] at hr
        obtain ⟨_, _, _, _, _, y5, _, _, _, _, _, f5⟩ := B6.facts hR
        clear hset IH hk hk4 B7 px7 px plx m7 q7 BX
        go_wp2_with (at_builtin; first | (refine wpList_append_given rfl _ _ 26 rfl _ _ _ W rfl rfl hr ?_))
        exact ⟨⟨i + 1, va', vc', acc ++ [x], by omega, by go_num, by rw [List.length_append, HA.out]; rfl, B'⟩, by simp [intOf]; omega⟩
    · have HN : Hid (i = (2 + m2)) := (by omega : i = (2 + m2))
      have hge : (2 + (m2 : Int)) ≤ (i : Int) := by omega
      obtain ⟨r0, r1, r2, r3, r4, r5, _, _, _, _, _, _⟩ := B6.facts (show Hid _ from B.out.r)
      obtain ⟨z0, z1, z2, z3, z4, z5, _, _, _, _, _, _⟩ := B6.facts (show Hid _ from B.out.z)
      go_wp2_with fail
      refine bodyPost_ret (results_cell_row (p := 4) (ty := 28) rfl _ _ w.heap.size 28 _ (0, 0) _ rfl (put6_heap B.out.z _ _ _ _ _ _) Tryd.underlying28 rfl (by kernel_rfl)) rfl ?_
      exact Plr.tell B HA.out (by decide) (by rw [if_neg (by decide)]; have := HN.out; omega) _ _ _ _ _ _

set_option maxRecDepth 20000 in
set_option maxHeartbeats 8000000 in
theorem rx_node8 (d : Nat) (hd : d < 100) (ih : RxC d) (D : Int) (hD : D - 1 = (d : Int)) (hD0 : 0 < D) (g : Nat) (a : Option Addr) (len cap : Nat) (f : Nat → Nat) (n : Nat) (w : World) (h : Hid (Pk w g a len cap f n)) (hm : numS f len n 9 = 8) :
    Calls Tryd.prog 21 #[.pointer (some ⟨g, 0, none⟩), .int .i64 D] w fun e w' => RxP (d + 1) w g a len cap f e w' := by
  have HQ : Hid (g < w.heap.size) := (Array.getElem?_eq_some_iff.1 h.out.at_).1
  have HS : Hid (Hid (Sl w a len (Bn f))) := h.out.row
  have h0 : Hid (Pk (w.alloc zeros6) g a len cap f n) := h.out.mv (Mv.alloc (fun _ => False) w zeros6)
  have h9 := num_any 9 (by decide) (by decide) g a len cap f n (w.alloc zeros6) h0
  have hset := fun n' W (P : Hid (Pk W g a len cap f n')) => pset_any g a len cap f n' W P
  have h2 := fun n' W (P : Hid (Pk W g a len cap f n')) => num_any 2 (by decide) (by decide) g a len cap f n' W P
  have hl2 := fun n' => numS_lt f len n' 2 (by decide)
  have IH : Hid (RxC d) := ih
  have hdi : (d : Int) < 100 := by omega
  rw [hm] at h9
  generalize numN len n = n1 at h9
  clear h h0 hm ih
  go_enter Tryd.func21, Tryd.ntmps21
  go_wp2_with fail
  refine h9.mono ?_
  rintro e w1 ⟨rfl, p1, m1⟩
  go_wp2_with fail
  have hm2 := hl2 n1
  refine (h2 _ _ p1).mono ?_
  rintro e w2 ⟨rfl, p2, m2'⟩
  have M2 : Hid (Mv (fun k => k = g) (w.alloc zeros6) w2) := Mv.trans m1.out m2'.out (fun _ _ h => h)
  generalize numS f len n1 2 = m2 at *
  have hm2i : (m2 : Int) < 2 := by omega
  have B0 : Hid (Plr w g a len cap f w2.heap.size 2 d (w2.alloc (.cells #[.int .i64 2, .int .u64 0, .int .u64 0, .int .u64 0, .int .u64 0, .slice none 0 0] 28)) (.slice none 0 0) []) := Plr.start HQ.out HS.out.out M2.out p2.out
  clear h9 h2 hl2
  go_wp2_with fail
  generalize w2.alloc (.cells #[.int .i64 2, .int .u64 0, .int .u64 0, .int .u64 0, .int .u64 0, .slice none 0 0] 28) = W0 at *
  generalize w2.heap.size = gr at *
  go_loopw [9] (fun s9 wr => ∃ i va vc acc, i ≤ (2 + m2) ∧ s9 = .int .i64 (i : Nat) ∧ acc.length = i ∧ Hid (Plr w g a len cap f gr 2 d wr (.slice va i vc) acc)) (fun s9 _ => (2 + m2) - (intOf s9).toNat)
  case atStart => exact ⟨0, none, 0, [], by omega, rfl, rfl, B0⟩
  case round =>
    obtain ⟨i, va, vc, acc, hi, rfl, hacc, B⟩ := hrel
    have HA : Hid (acc.length = i) := hacc
    clear hacc B0
    by_cases hlt : i < (2 + m2)
    · have hli : (i : Int) < (2 + (m2 : Int)) := by omega
      obtain ⟨n5, p5⟩ := B.out.pk
      have hx := IH.out g a len cap f n5 wr p5
      go_wp2_with fail
      refine hx.mono ?_
      intro e3 w3 h3
      obtain ⟨x, pa, pc, n6, rfl, plx, px, p6, m6⟩ := h3
      have q7 := Mv.alloc (fun _ => False) w3 (.cells #[.int .i64 x.kind, .int .u64 (limb x.set 0), .int .u64 (limb x.set 1), .int .u64 (limb x.set 2), .int .u64 (limb x.set 3), .slice pa x.args.length pc] 28)
      have m7 : Mv (fun j => j = g) wr (w3.alloc (.cells #[.int .i64 x.kind, .int .u64 (limb x.set 0), .int .u64 (limb x.set 1), .int .u64 (limb x.set 2), .int .u64 (limb x.set 3), .slice pa x.args.length pc] 28)) := Mv.trans m6.out q7 (fun _ _ h => h.elim)
      have p7 : Hid (Pk (w3.alloc (.cells #[.int .i64 x.kind, .int .u64 (limb x.set 0), .int .u64 (limb x.set 1), .int .u64 (limb x.set 2), .int .u64 (limb x.set 3), .slice pa x.args.length pc] 28)) g a len cap f n6) := p6.out.mv q7
      have B7 := B.out.go m7 p7.out
      have BX : Hid (B6 w3.heap.size (.int .i64 x.kind) (.int .u64 (limb x.set 0)) (.int .u64 (limb x.set 1)) (.int .u64 (limb x.set 2)) (.int .u64 (limb x.set 3)) (.slice pa x.args.length pc) (w3.alloc (.cells #[.int .i64 x.kind, .int .u64 (limb x.set 0), .int .u64 (limb x.set 1), .int .u64 (limb x.set 2), .int .u64 (limb x.set 3), .slice pa x.args.length pc] 28))) := heap_alloc_new w3 _
      have px7 : Hid (Parts x.args (fun j => wr.heap.size ≤ j ∧ ¬ False) (w3.alloc (.cells #[.int .i64 x.kind, .int .u64 (limb x.set 0), .int .u64 (limb x.set 1), .int .u64 (limb x.set 2), .int .u64 (limb x.set 3), .slice pa x.args.length pc] 28)) pa pc) := (px.out.mv q7 (fun _ _ h => h)).mono (fun j hj => ⟨hj, id⟩)
      have HW3 : Hid (wr.heap.size ≤ w3.heap.size) := m6.out.size
      have hkind := plx.out.kind
      obtain ⟨xk, hxk⟩ : ∃ xk, xk = x.kind := ⟨_, rfl⟩
      obtain ⟨b0, b1, b2, b3, b4, b5, g0, g1, g2, g3, g4, g5⟩ := B6.facts BX
      obtain ⟨r0, r1, r2, r3, r4, r5, _, _, _, _, _, _⟩ := B6.facts (show Hid _ from B7.r)
      clear hx
      have HWw : Hid (w.heap.size ≤ wr.heap.size) := B.out.mv.size
      have hgi : (i : Int) < 1000 := by omega
      by_cases hk : x.kind = 2
      · have hkb : (x.kind == 2) = true := by rw [hk]; rfl
        clear hk hkind
        go_wp2_with fail
        refine (hset _ _ p7).mono ?_
        intro e4 w4 h4
        obtain ⟨p, n8, rfl, hp, p8, m8⟩ := h4
        rw [sv_cells]
        have BX4 := B6.mv BX.out m8.out (by have := HQ.out; have := HWw.out; have := HW3.out; omega)
        have mput := put6_mv w4 w3.heap.size (.int .i64 1) (.int .u64 (limb p 0)) (.int .u64 (limb p 1)) (.int .u64 (limb p 2)) (.int .u64 (limb p 3)) (.slice none 0 0)
        have M9 : Mv (fun j => j = g) wr (put6 w4 w3.heap.size (.int .i64 1) (.int .u64 (limb p 0)) (.int .u64 (limb p 1)) (.int .u64 (limb p 2)) (.int .u64 (limb p 3)) (.slice none 0 0)) := Mv.trans (Mv.trans m7 m8.out (fun _ _ h => h)) mput (fun j hj e => by have := HW3.out; omega)
        have P9 : Hid (Pk (put6 w4 w3.heap.size (.int .i64 1) (.int .u64 (limb p 0)) (.int .u64 (limb p 1)) (.int .u64 (limb p 2)) (.int .u64 (limb p 3)) (.slice none 0 0)) g a len cap f n8) := Pk.mv2 HQ.out HS.out.out p8.out mput (by have := HWw.out; have := HW3.out; have := q7.size; have := m8.out.size; omega) (fun j hj e => by have := HWw.out; have := HW3.out; omega)
        have B9 := B.out.go M9 P9.out
        have BX5 : Hid (B6 w3.heap.size (.int .i64 1) (.int .u64 (limb p 0)) (.int .u64 (limb p 1)) (.int .u64 (limb p 2)) (.int .u64 (limb p 3)) (.slice none 0 0) (put6 w4 w3.heap.size (.int .i64 1) (.int .u64 (limb p 0)) (.int .u64 (limb p 1)) (.int .u64 (limb p 2)) (.int .u64 (limb p 3)) (.slice none 0 0))) := put6_heap BX4.out _ _ _ _ _ _
        have px9 : Hid (Parts (⟨1, p, []⟩ : RX).args (fun j => wr.heap.size ≤ j ∧ ¬ False) (put6 w4 w3.heap.size (.int .i64 1) (.int .u64 (limb p 0)) (.int .u64 (limb p 1)) (.int .u64 (limb p 2)) (.int .u64 (limb p 3)) (.slice none 0 0)) none 0) := (parts_none _).mono (fun _ h => h.elim)
        obtain ⟨v', W, hr, hR, ⟨va', vc', hv'⟩, B'⟩ := Plr.step (x := ⟨1, p, []⟩) B px9 M9 P9 (show Hid _ from ⟨pl_set d hp, by show (1 : Int) ≠ 2; decide⟩) (by have := HA.out; omega)
        rw [HA.out] at hv'
        subst hv'
        rw [show (put6 w4 w3.heap.size (.int .i64 1) (.int .u64 (limb p 0)) (.int .u64 (limb p 1)) (.int .u64 (limb p 2)) (.int .u64 (limb p 3)) (.slice none 0 0)).heap.size = w4.heap.size from by simp [put6]] at hr
        clear b0 b1 b2 b3 b4 b5 g0 g1 g2 g3 g4 g5 r0 r1 r2 r3 r4 r5
        obtain ⟨b0, b1, b2, b3, b4, b5, g0, g1, g2, g3, g4, g5⟩ := B6.facts BX4
        obtain ⟨c0, c1, c2, c3, c4, c5, _, _, _, _, _, _⟩ := B6.facts BX5
        obtain ⟨_, _, _, _, _, r5, _, _, _, _, _, _⟩ := B6.facts (show Hid _ from B9.r)
        obtain ⟨_, _, _, _, _, y5, _, _, _, _, _, f5⟩ := B6.facts hR
        unfold put6 at c0 c1 c2 c3 c4 c5 r5 hr
        clear hset IH px9 B9 BX5 BX4 P9 B7 px7 px plx m7 q7 BX
        go_wp2_with (at_builtin; first | (refine wpList_append_given rfl _ _ 26 rfl _ _ _ W rfl rfl hr ?_))
        exact ⟨⟨i + 1, va', vc', acc ++ [⟨1, p, []⟩], by omega, by go_num, by rw [List.length_append, HA.out]; rfl, B'⟩, by simp [intOf]; omega⟩
      · have hkb : (x.kind == 2) = false := beq_false_of_ne hk
        have hk4 : x.kind < 4 ∨ x.kind = 4 := by omega
        have hkl : True := trivial
        obtain ⟨v', W, hr, hR, ⟨va', vc', hv'⟩, B'⟩ := Plr.step B px7 m7 p7 (show Hid _ from ⟨plx.out, hk⟩) (by have := HA.out; omega)
        rw [HA.out] at hv'
        subst hv'
        rw [show (w3.alloc (.cells #[.int .i64 x.kind, .int .u64 (limb x.set 0), .int .u64 (limb x.set 1), .int .u64 (limb x.set 2), .int .u64 (limb x.set 3), .slice pa x.args.length pc] 28)).heap.size = w3.heap.size + 1 from by simp] at hr
        obtain ⟨_, _, _, _, _, y5, _, _, _, _, _, f5⟩ := B6.facts hR
        clear hset IH hk hk4 B7 px7 px plx m7 q7 BX
        go_wp2_with (at_builtin; first | (refine wpList_append_given rfl _ _ 26 rfl _ _ _ W rfl rfl hr ?_))
        exact ⟨⟨i + 1, va', vc', acc ++ [x], by omega, by go_num, by rw [List.length_append, HA.out]; rfl, B'⟩, by simp [intOf]; omega⟩
    · have HN : Hid (i = (2 + m2)) := (by omega : i = (2 + m2))
      have hge : (2 + (m2 : Int)) ≤ (i : Int) := by omega
      obtain ⟨r0, r1, r2, r3, r4, r5, _, _, _, _, _, _⟩ := B6.facts (show Hid _ from B.out.r)
      obtain ⟨z0, z1, z2, z3, z4, z5, _, _, _, _, _, _⟩ := B6.facts (show Hid _ from B.out.z)
      go_wp2_with fail
      refine bodyPost_ret (results_cell_row (p := 4) (ty := 28) rfl _ _ w.heap.size 28 _ (0, 0) _ rfl (put6_heap B.out.z _ _ _ _ _ _) Tryd.underlying28 rfl (by kernel_rfl)) rfl ?_
      exact Plr.tell B HA.out (by decide) (by rw [if_neg (by decide)]; have := HN.out; omega) _ _ _ _ _ _

theorem numS_small (f : Nat → Nat) (len n : Nat) : numS f len n 9 < 4 ∨ numS f len n 9 = 4 ∨ numS f len n 9 = 5 ∨ numS f len n 9 = 6 ∨ numS f len n 9 = 7 ∨ numS f len n 9 = 8 := by
  have := numS_lt f len n 9 (by decide)
  omega
theorem rx_any : ∀ d, d < 100 → RxC d
  | 0, _ => fun g a len cap f n w h => rx_leaf 0 _ g a len cap f n w h (.inl (by simp))
  | d + 1, hd => fun g a len cap f n w h => by
    have ih := rx_any d (by omega)
    have h1 : ((d + 1 : Nat) : Int) - 1 = (d : Int) := by omega
    have h2 : (0 : Int) < ((d + 1 : Nat) : Int) := by omega
    rcases numS_small f len n with hm | hm | hm | hm | hm | hm
    · exact rx_leaf (d + 1) _ g a len cap f n w h (.inr ⟨h2, hm⟩)
    · exact rx_node4 d (by omega) ih _ h1 h2 g a len cap f n w h hm
    · exact rx_node5 d (by omega) ih _ h1 h2 g a len cap f n w h hm
    · exact rx_node6 d (by omega) ih _ h1 h2 g a len cap f n w h hm
    · exact rx_node7 d (by omega) ih _ h1 h2 g a len cap f n w h hm
    · exact rx_node8 d (by omega) ih _ h1 h2 g a len cap f n w h hm

end Go.Proofs.YtkclkhfcmjhogaaDoor
