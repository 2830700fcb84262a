/- A tree's sets from the left; first and last ones. -/
import Derived.Test.YtojbakkbmfgoaaaDoorSA
import Derived.Test.YtojbakkbmfgoaaaDoorMg28
namespace Go.Proofs.YtojbakkbmfgoaaaDoor
open Go.RowKit
set_option linter.unusedVariables false
set_option linter.unusedSimpArgs false

/-- Sets of the first i parts. -/
def JS (l : List RX) (i : Nat) : List (Nat → Bool) := (l.take i).flatMap fun y => y.pla.sets
theorem JS_succ {l : List RX} {i : Nat} {y : RX} (h : l[i]? = some y) : JS l (i + 1) = JS l i ++ y.pla.sets := by
  unfold JS
  rw [List.take_add_one, h, List.flatMap_append]
  simp
theorem foldl_sets {g : Pla → Pla → Pla} (hg : ∀ p q : Pla, (g p q).sets = p.sets ++ q.sets) : ∀ (l : List RX) (p : Pla), ((l.map RX.pla).foldl g p).sets = p.sets ++ l.flatMap fun y => y.pla.sets
  | [], p => by simp
  | y :: l, p => by rw [List.map_cons, List.foldl_cons, foldl_sets hg l, hg, List.flatMap_cons, List.append_assoc]
theorem JS_all {x : RX} (hf : x.formed = true) (hk : x.kind ≠ 1) : x.pla.sets = JS x.args x.args.length := by
  have hfk := formed_kind hf
  have hnode := hf
  rw [formed_at, Bool.and_eq_true] at hnode
  have hn := hnode.1
  unfold RX.node node at hn
  unfold JS
  rw [List.take_length, pla_at]
  unfold plaK
  rw [if_neg hk]
  by_cases h2 : x.kind = 2
  · rw [if_pos h2, foldl_sets (fun _ _ => rfl)]; rfl
  · rw [if_neg h2]
    by_cases h3 : x.kind = 3
    · rw [if_pos h3, foldl_sets (fun _ _ => rfl)]; rfl
    · rw [if_neg h3]
      rw [if_neg (by omega), if_pos (by omega)] at hn
      have h1 : x.args.length = 1 := by simp at hn; exact hn.2
      match hl : x.args, h1 with
      | [y], _ =>
        show (signP x.kind y.pla).sets = _
        simp only [List.flatMap_cons, List.flatMap_nil, List.append_nil]
        unfold signP
        split
        · rfl
        · split <;> rfl
theorem JS_len (l : List RX) (i : Nat) : (JS l i).length ≤ used l i := by
  unfold JS used
  generalize l.take i = m
  induction m with
  | nil => simp
  | cons y m ih =>
    rw [List.flatMap_cons, List.length_append, List.map_cons, List.sum_cons, (pla_fine y).len]
    have := cnt_le y
    omega

/-- Something may come first, and something last. -/
def Pla.Ne (p : Pla) : Prop := (∀ k, ∃ n, p.fst k n = true) ∧ ∀ k, ∃ n, p.lst k n = true
theorem ne_fold {g : Pla → Pla → Pla} (hg : ∀ {p q : Pla}, p.Ne → q.Ne → (g p q).Ne) : ∀ (l : List RX) (p : Pla), p.Ne → (∀ x ∈ l, x.pla.Ne) → ((l.map RX.pla).foldl g p).Ne
  | [], p, h, _ => h
  | x :: l, p, h, hl => ne_fold hg l (g p x.pla) (hg h (hl x (by simp))) (fun y hy => hl y (by simp [hy]))
theorem pla_ne : ∀ x : RX, x.formed = true → x.pla.Ne := by
  refine RX.ind ?_
  intro k p l ih hf
  have hfk := formed_kind hf
  have hnn := hf
  rw [formed_eq, Bool.and_eq_true] at hnn
  have hnode := hnn.1
  unfold node at hnode
  have hall : ∀ y ∈ l, y.pla.Ne := fun y hy => ih y hy (formed_part hf (show y ∈ (⟨k, p, l⟩ : RX).args from hy)).1
  rw [pla_eq]
  unfold plaK
  simp only at hfk
  by_cases h1 : k = 1
  · rw [if_pos h1]; exact ⟨fun k => ⟨k, by simp [oneP]⟩, fun k => ⟨k, by simp [oneP]⟩⟩
  · rw [if_neg h1]
    cases l with
    | nil =>
      exfalso
      revert hnode
      by_cases h2 : k = 3 ∨ k = 2
      · rw [if_pos h2]; simp
      · rw [if_neg h2, if_pos (by omega)]; simp
    | cons x l =>
      have hx := hall x (by simp)
      have hl : ∀ y ∈ l, y.pla.Ne := fun y hy => hall y (by simp [hy])
      by_cases h2 : k = 2
      · rw [if_pos h2, List.map_cons, List.foldl_cons, thenP_eP]
        refine ne_fold (fun {p q} hp hq => ⟨fun k => ?_, fun k => ?_⟩) l _ hx hl
        · obtain ⟨n, hn⟩ := hp.1 k; exact ⟨n, by simp [thenP, hn]⟩
        · obtain ⟨n, hn⟩ := hq.2 (k + p.cnt); exact ⟨n, by simp [thenP, hn]⟩
      · rw [if_neg h2]
        by_cases h3 : k = 3
        · rw [if_pos h3, List.map_cons, List.foldl_cons, orP_oP]
          refine ne_fold (fun {p q} hp hq => ⟨fun k => ?_, fun k => ?_⟩) l _ hx hl
          · obtain ⟨n, hn⟩ := hp.1 k; exact ⟨n, by simp [orP, hn]⟩
          · obtain ⟨n, hn⟩ := hp.2 k; exact ⟨n, by simp [orP, hn]⟩
        · rw [if_neg h3]
          show (signP k x.pla).Ne
          unfold signP
          split
          · exact hx
          · split <;> exact hx
theorem asc_some {p : Nat → Bool} {m : Nat} (hm : m < 64) (h : p m = true) : 0 < (asc 64 p).length := List.length_pos_of_mem (asc_mem.2 ⟨hm, h⟩)
theorem fst_some {x : RX} (hf : x.formed = true) (hc : x.pla.cnt ≤ 40) : 0 < (asc 64 (x.pla.fst 0)).length := by
  obtain ⟨n, hn⟩ := (pla_ne x hf).1 0
  have := (pla_fine x).fst 0 n hn
  exact asc_some (by omega) hn
theorem lst_some {x : RX} (hf : x.formed = true) (hc : x.pla.cnt ≤ 40) : 0 < (asc 64 (x.pla.lst 0)).length := by
  obtain ⟨n, hn⟩ := (pla_ne x hf).2 0
  have := (pla_fine x).lst 0 n hn
  exact asc_some (by omega) hn

/-- What count tells. -/
def CoP (w : World) (base : Nat) (v : Value) (T : List (Nat → Bool)) (e : Ending) (w' : World) : Prop :=
  ∃ v', e = .returned v' ∧ Hid (Os w' base v' T) ∧ Hid (Mv (fun j => v.ownBlock = some j) w w') ∧ Hid (v'.ownBlock = v.ownBlock ∨ ∃ g, v'.ownBlock = some g ∧ w.heap.size ≤ g)
def CoC (x : RX) : Prop := ∀ (K : Nat → Prop) (a : Option Addr) (c : Nat) (w : World) (base : Nat) (v : Value) (S : List (Nat → Bool)), Hid (Parts x.args K w a c) → Hid (∀ j, K j → j < base) → base ≤ w.heap.size → Hid (Os w base v S) → S.length + x.nodes < 80000 →
  Calls Tryd.prog 16 #[.agg #[.int .i64 x.kind, .int .u64 (limb x.set 0), .int .u64 (limb x.set 1), .int .u64 (limb x.set 2), .int .u64 (limb x.set 3), .slice a x.args.length c], v] w fun e w' => CoP w base v (S ++ x.pla.sets) e w'
theorem Os.blk {w : World} {base : Nat} {v : Value} {S : List (Nat → Bool)} (h : Os w base v S) : ∀ j, v.ownBlock = some j → base ≤ j ∧ j < w.heap.size := ow_blk h
theorem Os.mv {X : Nat → Prop} {w w' : World} {base : Nat} {v : Value} {S : List (Nat → Bool)} (h : Os w base v S) (m : Mv X w w') (hs : ∀ j, v.ownBlock = some j → ¬ X j) : Os w' base v S := m.owns h hs
/-- While count goes through the parts. -/
structure Cl (w wr : World) (base : Nat) (v vr : Value) (T : List (Nat → Bool)) : Prop where
  os : Os wr base vr T
  mv : Mv (fun j => v.ownBlock = some j) w wr
  nb : vr.ownBlock = v.ownBlock ∨ ∃ g, vr.ownBlock = some g ∧ w.heap.size ≤ g
theorem Cl.next {w wr w9 : World} {base : Nat} {v vr v9 : Value} {T U : List (Nat → Bool)} (h : Hid (Cl w wr base v vr T)) (o : Hid (Os w9 base v9 U)) (m : Hid (Mv (fun j => vr.ownBlock = some j) wr w9)) (nb : Hid (v9.ownBlock = vr.ownBlock ∨ ∃ g, v9.ownBlock = some g ∧ wr.heap.size ≤ g)) : Hid (Cl w w9 base v v9 U) := by
  have hz := h.out.mv.size
  refine ⟨o.out, Mv.trans h.out.mv m.out (fun j hj e => ?_), ?_⟩
  · rcases h.out.nb with e1 | ⟨g, e1, e2⟩
    · rw [← e1]; exact e
    · rw [e1] at e
      have : g = j := Option.some.inj e
      omega
  · rcases nb.out with e1 | ⟨g, e1, e2⟩
    · rw [e1]; exact h.out.nb
    · exact .inr ⟨g, e1, by omega⟩

set_option maxRecDepth 20000 in
set_option maxHeartbeats 4000000 in
theorem count_step (x : RX) (hf : x.formed = true) (IH : ∀ z ∈ x.args, CoC z) : CoC x := by
  intro K a c w base v S HX HK hb HO hn
  have HI : Hid _ := IH
  have HL : Hid (∀ i, used x.args i + 1 ≤ x.nodes) := fun i => by have := used_le x.args i; rw [nodes_at]; omega
  have HB : Hid (S.length + x.nodes < 80000) := hn
  have hbig : x.args.length < 140737488355328 := by obtain ⟨_, _, _, h, _⟩ := HX.out; exact h.1
  have Q0 : Hid (Qt w (w.alloc (.cells #[.int .i64 x.kind, .int .u64 (limb x.set 0), .int .u64 (limb x.set 1), .int .u64 (limb x.set 2), .int .u64 (limb x.set 3), .slice a x.args.length c] 29))) := (Qt.refl w).alloc _
  have PX : Hid (B6 w.heap.size (.int .i64 x.kind) (.int .u64 (limb x.set 0)) (.int .u64 (limb x.set 1)) (.int .u64 (limb x.set 2)) (.int .u64 (limb x.set 3)) (.slice a x.args.length c) (w.alloc (.cells #[.int .i64 x.kind, .int .u64 (limb x.set 0), .int .u64 (limb x.set 1), .int .u64 (limb x.set 2), .int .u64 (limb x.set 3), .slice a x.args.length c] 29))) := heap_alloc_new w _
  have HSZ : Hid (base ≤ w.heap.size) := hb
  clear IH hn hb
  obtain ⟨va, vc, rfl⟩ := HO.out.form
  by_cases hk : x.kind = 1
  · have hpl : Hid (x.pla.sets = [x.set]) := by show _ = _; rw [pla_at, hk]; rfl
    have hke : (x.kind == 1) = true := by rw [hk]; rfl
    have Q1 : Hid (Qt w (w.alloc (.cells #[.int .i64 x.kind, .int .u64 (limb x.set 0), .int .u64 (limb x.set 1), .int .u64 (limb x.set 2), .int .u64 (limb x.set 3), .slice a x.args.length c] 29))) := Q0
    obtain ⟨v', W, hr, hO, hM, hN⟩ := Os.push (HO.out.mv Q0.out (fun _ _ h => h)) (by have := HB.out; omega) (Nat.le_trans HSZ.out Q0.out.size) x.set
    have HO2 : Hid (Os W base v' (S ++ x.pla.sets)) := by show Os _ _ _ _; rw [hpl.out]; exact hO
    have HM : Hid (Mv (fun j => (Value.slice va S.length vc).ownBlock = some j) w W) := Mv.trans (Q0.out.mono (fun _ _ h => h.elim)) hM (fun _ _ h => h)
    have HN : Hid (v'.ownBlock = (Value.slice va S.length vc).ownBlock ∨ ∃ g, v'.ownBlock = some g ∧ w.heap.size ≤ g) := hN.imp id (fun ⟨g, e1, e2⟩ => ⟨g, e1, Nat.le_trans Q0.out.size e2⟩)
    obtain ⟨k0, k1, k2, k3, k4, k5, _⟩ := B6.facts PX
    rw [show (w.alloc (.cells #[.int .i64 x.kind, .int .u64 (limb x.set 0), .int .u64 (limb x.set 1), .int .u64 (limb x.set 2), .int .u64 (limb x.set 3), .slice a x.args.length c] 29)).heap.size = w.heap.size + 1 from by simp] at hr
    clear hO hM hN hpl HI HL HX HK hk
    go_enter Tryd.func16, Tryd.ntmps16
    go_wp2_with (at_builtin; refine wpList_append_given rfl _ _ 33 rfl _ _ _ W rfl rfl hr ?_)
    go_ret
    exact ⟨_, rfl, HO2, HM, HN⟩
  · have hpl : Hid (x.pla.sets = JS x.args x.args.length) := JS_all hf hk
    have hke : (x.kind == 1) = false := by simpa using hk
    obtain ⟨k0, k1, k2, k3, k4, k5, _⟩ := B6.facts PX
    have C0 : Hid (Cl (w.alloc (.cells #[.int .i64 x.kind, .int .u64 (limb x.set 0), .int .u64 (limb x.set 1), .int .u64 (limb x.set 2), .int .u64 (limb x.set 3), .slice a x.args.length c] 29)) (w.alloc (.cells #[.int .i64 x.kind, .int .u64 (limb x.set 0), .int .u64 (limb x.set 1), .int .u64 (limb x.set 2), .int .u64 (limb x.set 3), .slice a x.args.length c] 29)) base (.slice va S.length vc) (.slice va S.length vc) (S ++ JS x.args 0)) := ⟨by rw [show JS x.args 0 = [] from rfl, List.append_nil]; exact HO.out.mv Q0.out (fun _ _ h => h), Mv.refl _ _, .inl rfl⟩
    have HVB : Hid (∀ j, (Value.slice va S.length vc).ownBlock = some j → base ≤ j ∧ j < w.heap.size) := HO.out.blk
    clear hk hf
    go_enter Tryd.func16, Tryd.ntmps16
    go_wp2_with fail
    generalize w.alloc (.cells #[.int .i64 x.kind, .int .u64 (limb x.set 0), .int .u64 (limb x.set 1), .int .u64 (limb x.set 2), .int .u64 (limb x.set 3), .slice a x.args.length c] 29) = W0 at *
    go_loopw [1, 5] (fun s1 s5 wr => ∃ (i : Nat) (ra : Option Addr) (rn rc : Nat), i ≤ x.args.length ∧ s5 = .int .i64 i ∧ s1 = .slice ra rn rc ∧ Hid (Cl W0 wr base (.slice va S.length vc) (.slice ra rn rc) (S ++ JS x.args i))) (fun _ s5 _ => x.args.length - (intOf s5).toNat)
    case atStart => exact ⟨0, _, _, _, by omega, rfl, rfl, C0⟩
    case round =>
      obtain ⟨i, ra, rn, rc, hi, rfl, rfl, C⟩ := hrel
      have CM : Hid (Mv (fun j => (Value.slice va S.length vc).ownBlock = some j) w wr) := Mv.trans (Q0.out.mono (fun _ _ h => h.elim)) C.out.mv (fun _ _ h => h)
      obtain ⟨_, _, _, _, _, k5, _⟩ := B6.facts (B6.mv PX.out C.out.mv (fun h => by have := (HVB.out _ h).2; omega))
      by_cases hlt : i < x.args.length
      · obtain ⟨u, hu⟩ : ∃ u, x.args[i]? = some u := ⟨_, List.getElem?_eq_getElem hlt⟩
        have hMK : ∀ j, K j → ¬ (Value.slice va S.length vc).ownBlock = some j := fun j hj e => by have := HK.out j hj; have := (HVB.out j e).1; omega
        obtain ⟨bu, ou, au, cu, ea, pu, e0, e1, e2, e3, e4, e5⟩ := (HX.out.mv CM.out hMK).at hu
        subst ea
        have hJ := JS_succ hu
        have hcall := HI.out u (List.mem_of_getElem? hu) K au cu wr base (.slice ra rn rc) (S ++ JS x.args i) (show Hid _ from pu) HK (Nat.le_trans HSZ.out CM.out.size) (show Hid _ from C.out.os) (by
          have h1 := JS_len x.args i
          have h2 := HL.out (i + 1)
          have h3 := used_succ hu
          have h4 := HB.out
          rw [List.length_append]; omega)
        rw [List.append_assoc, ← hJ] at hcall
        clear hu pu hJ hMK
        go_wp2_with fail
        refine hcall.mono ?_
        rintro e9 w9 ⟨v9, rfl, o9, m9, n9⟩
        have C9 := Cl.next C o9 m9 n9
        obtain ⟨a9, c9, rfl⟩ := o9.out.form
        generalize (S ++ JS x.args (i + 1)).length = l9 at *
        go_wp2_with fail
        exact ⟨⟨i + 1, a9, _, c9, by omega, by go_num, rfl, C9⟩, by simp [intOf]; omega⟩
      · obtain rfl : i = x.args.length := by omega
        go_wp2_with fail
        go_ret
        exact ⟨_, rfl, by show Os _ _ _ _; rw [hpl.out]; exact C.out.os, CM, C.out.nb.imp id (fun ⟨g, e1, e2⟩ => ⟨g, e1, Nat.le_trans Q0.out.size e2⟩)⟩

theorem count_any : ∀ x : RX, x.formed = true → CoC x := by
  refine RX.ind ?_
  intro k p l ih hf
  exact count_step ⟨k, p, l⟩ hf (fun z hz => ih z hz (formed_part hf hz).1)

end Go.Proofs.YtojbakkbmfgoaaaDoor
