/- The reference's reader: form of what is read. -/
import Derived.Test.YtkclkhfcmjhogaaDoorMgX
import Derived.Test.YtkclkhfcmjhogaaDoorMgT2
import Derived.Test.YtkclkhfcmjhogaaDoorMgB
namespace Go.Proofs.YtkclkhfcmjhogaaDoor
open Go.RowKit
set_option linter.unusedVariables false

/-- Every node has what its kind asks for. -/
def RX.noded : RX → Bool := RX.fold (fun k p l R => Proofs.YtkclkhfcmjhogaaDoor.node k p l.length && R.all id)
theorem noded_eq (k : Int) (p : Nat → Bool) (l : List RX) : RX.noded ⟨k, p, l⟩ = (node k p l.length && l.all RX.noded) := by
  rw [RX.noded, RX.fold_eq, List.all_map]; rfl
theorem noded_set {p : Nat → Bool} (h : any p = true) : RX.noded ⟨1, p, []⟩ = true := by rw [noded_eq]; simp [node, h]
theorem any_eset : any eset = false := by unfold any eset; simp
def Nod (f : List Nat → Res) : Prop := ∀ l x t, f l = .ok (x, t) → x.noded = true
theorem atomS_nod {f : List Nat → Res} (h : Nod f) : Nod (atomS f) := by
  intro l x t e
  unfold atomS at e
  split at e
  · cases e
  · split at e
    · split at e
      · cases e
      · cases e
      · rename_i x' d v hi
        split at e
        · cases e; exact h _ _ _ hi
        · cases e
    · split at e
      · cases e
      · rename_i p u hc
        cases e
        exact noded_set (cls_suf hc).2
theorem signS_noded {x : RX} (h : x.noded = true) (l : List Nat) : (signS x l).1.noded = true := by
  unfold signS
  split
  · exact h
  · rename_i c u
    unfold signK
    split
    · next k hk =>
      have h4 : k = 4 ∨ k = 5 ∨ k = 6 := by
        split at hk
        · cases hk; exact .inl rfl
        · split at hk
          · cases hk; exact .inr (.inl rfl)
          · split at hk
            · cases hk; exact .inr (.inr rfl)
            · cases hk
      show RX.noded ⟨k, eset, [x]⟩ = true
      rw [noded_eq]
      simp only [List.all_cons, List.all_nil, h, List.length_cons, List.length_nil]
      rcases h4 with rfl | rfl | rfl <;> simp [node, any_eset]
    · exact h
theorem repS_nod {f : List Nat → Res} (h : Nod f) : Nod (repS f) := by
  intro l x t e
  unfold repS at e
  split at e
  · cases e
  · rename_i y u ha
    have e2 := Except.ok.inj e
    have e3 : x = (signS y u).1 := by rw [e2]
    rw [e3]
    exact signS_noded (atomS_nod h _ _ _ ha) u
theorem catL_nod {f : List Nat → Res} (h : Nod f) : ∀ (n : Nat) (acc xs : List RX) (l t : List Nat), (∀ x ∈ acc, x.noded = true) → acc ≠ [] → catL f n acc l = .ok (xs, t) → (∀ x ∈ xs, x.noded = true) ∧ xs ≠ []
  | 0, acc, xs, l, t, ha, hn, e => by cases e; exact ⟨ha, hn⟩
  | n + 1, acc, xs, l, t, ha, hn, e => by
    unfold catL at e
    split at e
    · cases e; exact ⟨ha, hn⟩
    · split at e
      · cases e
      · rename_i y u hr
        exact catL_nod h n _ _ _ _ (fun x hx => by
          rcases List.mem_append.1 hx with hx | hx
          · exact ha x hx
          · rw [List.mem_singleton.1 hx]; exact repS_nod h _ _ _ hr) (by simp) e
theorem one_nod {k : Int} (hk : k = 2 ∨ k = 3) : ∀ {xs : List RX}, (∀ x ∈ xs, x.noded = true) → xs ≠ [] → (one k xs).noded = true
  | [], _, h => absurd rfl h
  | [x], h, _ => h x (by simp)
  | x :: y :: l, h, _ => by
    show RX.noded ⟨k, eset, x :: y :: l⟩ = true
    rw [noded_eq, Bool.and_eq_true, List.all_eq_true]
    refine ⟨?_, h⟩
    unfold node
    rw [if_pos (by omega), any_eset]
    simp
theorem catS_nod {f : List Nat → Res} (h : Nod f) : Nod (catS f) := by
  intro l x t e
  unfold catS at e
  split at e
  · cases e
  · rename_i y u hr
    obtain ⟨xs, hc, rfl⟩ := oneR_ok e
    obtain ⟨h1, h2⟩ := catL_nod h _ _ _ _ _ (fun x hx => by rw [List.mem_singleton.1 hx]; exact repS_nod h _ _ _ hr) (by simp) hc
    exact one_nod (.inl rfl) h1 h2
theorem altL_nod {f : List Nat → Res} (h : Nod f) : ∀ (n : Nat) (acc xs : List RX) (l t : List Nat), (∀ x ∈ acc, x.noded = true) → acc ≠ [] → altL f n acc l = .ok (xs, t) → (∀ x ∈ xs, x.noded = true) ∧ xs ≠ []
  | 0, acc, xs, l, t, ha, hn, e => by cases e; exact ⟨ha, hn⟩
  | n + 1, acc, xs, [], t, ha, hn, e => by cases e; exact ⟨ha, hn⟩
  | n + 1, acc, xs, c :: l, t, ha, hn, e => by
    unfold altL at e
    split at e
    · split at e
      · cases e
      · rename_i y u hr
        exact altL_nod h n _ _ _ _ (fun x hx => by
          rcases List.mem_append.1 hx with hx | hx
          · exact ha x hx
          · rw [List.mem_singleton.1 hx]; exact catS_nod h _ _ _ hr) (by simp) e
    · cases e; exact ⟨ha, hn⟩
theorem altS_nod {f : List Nat → Res} (h : Nod f) : Nod (altS f) := by
  intro l x t e
  unfold altS at e
  split at e
  · cases e
  · rename_i y u hr
    obtain ⟨xs, hc, rfl⟩ := oneR_ok e
    obtain ⟨h1, h2⟩ := altL_nod h _ _ _ _ _ (fun x hx => by rw [List.mem_singleton.1 hx]; exact catS_nod h _ _ _ hr) (by simp) hc
    exact one_nod (.inr rfl) h1 h2
theorem altN_nod : ∀ n, Nod (altN n)
  | 0 => altS_nod (fun _ _ _ h => by cases h)
  | n + 1 => altS_nod (altN_nod n)

end Go.Proofs.YtkclkhfcmjhogaaDoor

namespace Go.Proofs.YtkclkhfcmjhogaaDoor
open Go.RowKit
set_option linter.unusedVariables false

theorem takeV {P : Program} {ops : Array Oper} {Q : Exit → Act → World → Prop} {md : Region.Mode} {S : World → Prop} {i : Nat} (oi : Oper) (d : Option Tmp) (v : Value) {fuel : Nat} {listed : Array Bool} {a : Act} {w : World} (hi : ops[i]? = some oi) (hd : oi.dst = d)
    (hs : Region.noSelect ops = true) (hf : Region.free md ops listed i = true) (hr : (Region.ready md ops listed).contains i = true)
    (hQ : ∀ c a w, Q (.panic c) (a.put d v) w → Q (.panic c) a w) (hy : YieldsIf P ops S oi v a) (hS : S w)
    (h : wpAnyH P md ops Q S fuel (listed.setIfInBounds i true) (a.put d v) w) : wpAnyH P md ops Q S (fuel + 1) listed a w := by
  subst hd
  exact wpAnyH_take hi hs hf hr hQ hy hS h

theorem may_of0 {x : RX} (h1 : x.formed = true) (h2 : x.nodes ≤ 40) (h3 : x.depth ≤ 12) : may x = 0 := by
  unfold may
  rw [h1, if_neg (by simp), if_pos ⟨h2, h3⟩]

def FoG (x : RX) : Prop := ∀ (K : Nat → Prop) (a : Option Addr) (c : Nat) (w : World), Hid (Parts x.args K w a c) → x.noded = true → Calls Tryd.prog 37 #[.agg #[.int .i64 x.kind, .int .u64 (limb x.set 0), .int .u64 (limb x.set 1), .int .u64 (limb x.set 2), .int .u64 (limb x.set 3), .slice a x.args.length c]] w fun e w' => e = .returned (.bool x.formed) ∧ Hid (Qt w w')
theorem noded_pts {x : RX} (h : x.noded = true) : node x.kind x.set x.args.length = true ∧ ∀ u ∈ x.args, u.noded = true := by
  obtain ⟨k, p, l⟩ := x
  rw [noded_eq, Bool.and_eq_true, List.all_eq_true] at h
  exact h
theorem node_kd {k : Int} {p : Nat → Bool} {n : Nat} (h1 : node k p n = true) : (k = 1 ∨ k = 2 ∨ k = 3 ∨ k = 4 ∨ k = 5 ∨ k = 6) ∧ (k = 1 → any p = true ∧ n = 0) ∧ (k ≠ 1 → any p = false) ∧ (k = 2 ∨ k = 3 → 2 ≤ n) ∧ (4 ≤ k → n = 1) := by
  unfold node at h1
  split at h1
  · next hk => simp at h1; exact ⟨by omega, fun e => by omega, fun _ => h1.1, fun _ => h1.2, fun e => by omega⟩
  · next hk =>
    split at h1
    · next hk2 => simp at h1; exact ⟨by omega, fun e => by omega, fun _ => h1.1, fun e => by omega, fun _ => h1.2⟩
    · next hk2 =>
      split at h1
      · next hk3 => simp at h1; exact ⟨by omega, fun _ => ⟨h1.1, h1.2⟩, fun e => by omega, fun e => by omega, fun e => by omega⟩
      · cases h1
theorem formed_no {x u : RX} {i : Nat} (hu : x.args[i]? = some u) (h : u.formed = false ∨ lvl u.kind = lvl x.kind) : x.formed = false := by
  cases hf : x.formed with
  | false => rfl
  | true =>
    have := (formed_pts hf).2 u (List.mem_of_getElem? hu)
    rcases h with h | h
    · rw [h] at this; exact absurd this.1 (by simp)
    · exact absurd h this.2
theorem formed_yes {x : RX} (hn : x.noded = true) (h : ∀ (j : Nat) (u : RX), x.args[j]? = some u → u.formed = true ∧ lvl u.kind ≠ lvl x.kind) : x.formed = true := by
  obtain ⟨k, p, l⟩ := x
  rw [formed_eq, Bool.and_eq_true, Bool.and_eq_true, List.all_eq_true, List.all_eq_true]
  refine ⟨(noded_pts hn).1, fun a ha => ?_, fun a ha => ?_⟩
  · obtain ⟨j, hj⟩ := List.getElem?_of_mem ha
    exact decide_eq_true (h j a hj).2
  · obtain ⟨j, hj⟩ := List.getElem?_of_mem ha
    exact (h j a hj).1

set_option maxRecDepth 20000 in
set_option maxHeartbeats 4000000 in
theorem formg_set (x : RX) (hk : x.kind = 1) : FoG x := by
  intro K a c w HX hn
  have hfk := node_kd (noded_pts hn).1
  have hfy : x.formed = true := formed_yes hn (fun j u hu => by
    have := (List.getElem?_eq_some_iff.1 hu).1
    have := (hfk.2.1 hk).2
    omega)
  rw [hfy]
  have hemp := empty_any x.set false (by rw [(hfk.2.1 hk).1]; rfl) (w.alloc (.cells #[.int .i64 x.kind, .int .u64 (limb x.set 0), .int .u64 (limb x.set 1), .int .u64 (limb x.set 2), .int .u64 (limb x.set 3), .slice a x.args.length c] 28))
  have hl : ((x.args.length : Int) == 0) = true := by rw [(hfk.2.1 hk).2]; rfl
  have PX : Hid (B6 w.heap.size (.int .i64 x.kind) (.int .u64 (limb x.set 0)) (.int .u64 (limb x.set 1)) (.int .u64 (limb x.set 2)) (.int .u64 (limb x.set 3)) (.slice a x.args.length c) (w.alloc (.cells #[.int .i64 x.kind, .int .u64 (limb x.set 0), .int .u64 (limb x.set 1), .int .u64 (limb x.set 2), .int .u64 (limb x.set 3), .slice a x.args.length c] 28))) := heap_alloc_new w _
  obtain ⟨k0, k1, k2, k3, k4, k5, _⟩ := B6.facts PX
  have hkb : (x.kind == 1) = true := by rw [hk]; rfl
  clear hn hfk hk hfy
  go_enter Tryd.func37, Tryd.ntmps37
  go_wp2_with fail
  refine hemp.mono ?_
  rintro e1 w1 ⟨rfl, q1⟩
  go_wp2_with fail
  go_ret
  exact ⟨rfl, ((Qt.refl w).alloc _).comp q1.out⟩

set_option maxRecDepth 20000 in
set_option maxHeartbeats 8000000 in
theorem formg_k2 (x : RX) (hk : x.kind = 2) (IH : ∀ z ∈ x.args, FoG z) : FoG x := by
  intro K a c w HX hn
  have hfk := node_kd (noded_pts hn).1
  have HI : Hid _ := IH
  have HF : Hid _ := (noded_pts hn).2
  have HND : Hid (x.noded = true) := hn
  have HK : Hid (x.kind = 2) := hk
  have HLV : Hid (∀ u : RX, u.noded = true → u.kind ≠ 2 → lvl u.kind ≠ lvl x.kind) := fun u hu hne => by
    have h1 := lvl_of (node_kd (noded_pts hu).1).1
    have h2 := lvl_of (k := x.kind) (by omega)
    omega
  have hemp := fun W => empty_any x.set true (by rw [hfk.2.2.1 (by omega)]; rfl) W
  have hbig : x.args.length < 140737488355328 := by obtain ⟨_, _, _, h, _⟩ := HX.out; exact h.1
  have hk1 : (x.kind == 1) = false := by rw [hk]; rfl
  have hk2 : (x.kind == 2) = true := by rw [hk]; rfl
  have hk3 : (x.kind == 3) = false := by rw [hk]; rfl
  have hk4 : (x.kind == 4) = false := by rw [hk]; rfl
  have hk5 : (x.kind == 5) = false := by rw [hk]; rfl
  have hk6 : (x.kind == 6) = false := by rw [hk]; rfl
  have hl : (2 : Int) ≤ (x.args.length : Int) := by have := hfk.2.2.2.1 (by omega); omega
  have Q0 : Hid (Qt w (w.alloc (.cells #[.int .i64 x.kind, .int .u64 (limb x.set 0), .int .u64 (limb x.set 1), .int .u64 (limb x.set 2), .int .u64 (limb x.set 3), .slice a x.args.length c] 28))) := (Qt.refl w).alloc _
  have PX : Hid (B6 w.heap.size (.int .i64 x.kind) (.int .u64 (limb x.set 0)) (.int .u64 (limb x.set 1)) (.int .u64 (limb x.set 2)) (.int .u64 (limb x.set 3)) (.slice a x.args.length c) (w.alloc (.cells #[.int .i64 x.kind, .int .u64 (limb x.set 0), .int .u64 (limb x.set 1), .int .u64 (limb x.set 2), .int .u64 (limb x.set 3), .slice a x.args.length c] 28))) := heap_alloc_new w _
  obtain ⟨k0, k1, k2, k3, k4, k5, _⟩ := B6.facts PX
  clear IH hn hfk hk
  generalize hfm : x.formed = F
  have HFm : Hid (x.formed = F) := hfm
  clear hfm
  go_enter Tryd.func37, Tryd.ntmps37
  go_wp2_with fail
  generalize w.alloc (.cells #[.int .i64 x.kind, .int .u64 (limb x.set 0), .int .u64 (limb x.set 1), .int .u64 (limb x.set 2), .int .u64 (limb x.set 3), .slice a x.args.length c] 28) = W0 at *
  clear k0 k1 k2 k3 k4 k5 
  go_loopw [3] (fun s3 wr => ∃ i : Nat, i ≤ x.args.length ∧ s3 = .int .i64 i ∧ Hid (Qt W0 wr ∧ ∀ (j : Nat) (u : RX), j < i → x.args[j]? = some u → u.formed = true ∧ lvl u.kind ≠ lvl x.kind)) (fun s3 _ => x.args.length - (intOf s3).toNat)
  case atStart => exact ⟨0, by omega, rfl, Qt.refl W0, fun j u h => by omega⟩
  case round =>
    obtain ⟨i, hi, rfl, B⟩ := hrel
    have PW := B6.mv PX.out B.out.1 (fun h => h)
    obtain ⟨k0, k1, k2, k3, k4, k5, _⟩ := B6.facts PW
    by_cases hlt : i < x.args.length
    · obtain ⟨u, hu⟩ : ∃ u, x.args[i]? = some u := ⟨_, List.getElem?_eq_getElem hlt⟩
      have QW : Hid (Qt w wr) := Q0.out.comp B.out.1
      obtain ⟨bu, ou, au, cu, ea, pu, e0, e1, e2, e3, e4, e5⟩ := (HX.out.mv QW.out (fun _ _ h => h)).at hu
      subst ea
      have hnu := HF.out u (List.mem_of_getElem? hu)
      have HUu : Hid (x.args[i]? = some u) := hu
      have HNu : Hid (u.noded = true) := hnu
      have hcall := fun W (q : Hid (Qt wr W)) => HI.out u (List.mem_of_getElem? hu) K au cu W (show Hid _ from pu.mv q.out (fun _ _ h => h)) hnu
      have DQ : Hid (Qt wr wr.drew) := Mv.drewN _ wr 1
      have C0 : Hid _ := k0
      have C1 : Hid _ := k5
      have C2 : Hid _ := e0
      have C3 : Hid _ := e1
      have C4 : Hid _ := e2
      have C5 : Hid _ := e3
      have C6 : Hid _ := e4
      have C7 : Hid _ := e5
      clear hu pu hnu
      cases huf : u.formed with
      | false =>
        rw [huf] at hcall
        have HUF : Hid (u.formed = false) := huf
        clear huf
        go_wp2_with fail
        refine wp_region_held_drew (S := (fun w' => w'.cell? ⟨w.heap.size, 0, none⟩ = some (.int .i64 x.kind) ∧ w'.cell? ⟨w.heap.size, 5, none⟩ = some (.slice (some ⟨bu, ou, none⟩) x.args.length c) ∧ w'.cell? ⟨bu, ou + i * 6, none⟩ = some (.int .i64 u.kind) ∧ w'.cell? ⟨bu, ou + i * 6 + 1, none⟩ = some (.int .u64 (limb u.set 0)) ∧ w'.cell? ⟨bu, ou + i * 6 + 2, none⟩ = some (.int .u64 (limb u.set 1)) ∧ w'.cell? ⟨bu, ou + i * 6 + 3, none⟩ = some (.int .u64 (limb u.set 2)) ∧ w'.cell? ⟨bu, ou + i * 6 + 4, none⟩ = some (.int .u64 (limb u.set 3)) ∧ w'.cell? ⟨bu, ou + i * 6 + 5, none⟩ = some (.slice au u.args.length cu) ∧ Hid (Qt wr w'))) (by kernel_rfl) (hold8x C0 C1 C2 C3 C4 C5 C6 C7 DQ) (fun hHeld => ?_)
        refine takeV (i := 0) _ (some 48) ?_ rfl rfl (by kernel_rfl) (by kernel_rfl) (by kernel_rfl) (fun _ _ _ h => h) (Or.inl ⟨by rfl, ?_⟩) (by assumption) ?_
        rotate_left
        · (intro w hSw; (try dsimp only at hSw); go_simp; try with_reducible rfl)
        try simp only [Act.put, List.setIfInBounds_toArray, List.set_cons_zero, List.set_cons_succ]
        refine takeV (i := 1) _ (some 49) ?_ rfl rfl (by kernel_rfl) (by kernel_rfl) (by kernel_rfl) (fun _ _ _ h => h) (Or.inl ⟨by rfl, ?_⟩) (by assumption) ?_
        rotate_left
        · (intro w hSw; (try dsimp only at hSw); go_simp; try with_reducible rfl)
        try simp only [Act.put, List.setIfInBounds_toArray, List.set_cons_zero, List.set_cons_succ]
        refine takeV (i := 2) _ (some 50) ?_ rfl rfl (by kernel_rfl) (by kernel_rfl) (by kernel_rfl) (fun _ _ _ h => h) (Or.inl ⟨by rfl, ?_⟩) (by assumption) ?_
        rotate_left
        · (intro w hSw; (try dsimp only at hSw); go_simp; try with_reducible rfl)
        try simp only [Act.put, List.setIfInBounds_toArray, List.set_cons_zero, List.set_cons_succ]
        refine takeV (i := 3) _ (some 51) ?_ rfl rfl (by kernel_rfl) (by kernel_rfl) (by kernel_rfl) (fun _ _ _ h => h) (Or.inl ⟨by rfl, ?_⟩) (by assumption) ?_
        rotate_left
        · (intro w hSw; (try dsimp only at hSw); go_simp; try with_reducible rfl)
        try simp only [Act.put, List.setIfInBounds_toArray, List.set_cons_zero, List.set_cons_succ]
        refine takeV (i := 4) _ (some 52) ?_ rfl rfl (by kernel_rfl) (by kernel_rfl) (by kernel_rfl) (fun _ _ _ h => h) (Or.inl ⟨by rfl, ?_⟩) (by assumption) ?_
        rotate_left
        · (intro w hSw; (try dsimp only at hSw); go_simp; try with_reducible rfl)
        try simp only [Act.put, List.setIfInBounds_toArray, List.set_cons_zero, List.set_cons_succ]
        refine wpAnyH_ready (rs := [5]) (by kernel_rfl) (by simp) ?_
        refine AllReadyH.cons (o := _) rfl (fun K hK => ?_) AllReadyH.nil
        go_simp
        with_reducible refine (hcall _ DQ).mono ?_
        rintro e9 w9 ⟨rfl, q9⟩
        refine hK.out _ _ (hold8x C0 C1 C2 C3 C4 C5 C6 C7 (show Hid _ from DQ.out.comp q9.out)) (fun hHeld => ?_)
        try simp only [Act.put, List.setIfInBounds_toArray, List.set_cons_zero, List.set_cons_succ]
        refine takeV (i := 6) _ (some 54) ?_ rfl rfl (by kernel_rfl) (by kernel_rfl) (by kernel_rfl) (fun _ _ _ h => h) (Or.inl ⟨by rfl, ?_⟩) (by assumption) ?_
        rotate_left
        · (intro w hSw; (try dsimp only at hSw); go_simp; try with_reducible rfl)
        try simp only [Act.put, List.setIfInBounds_toArray, List.set_cons_zero, List.set_cons_succ]
        refine takeV (i := 7) _ (some 55) ?_ rfl rfl (by kernel_rfl) (by kernel_rfl) (by kernel_rfl) (fun _ _ _ h => h) (Or.inl ⟨by rfl, ?_⟩) (by assumption) ?_
        rotate_left
        · (intro w hSw; (try dsimp only at hSw); go_simp; try with_reducible rfl)
        try simp only [Act.put, List.setIfInBounds_toArray, List.set_cons_zero, List.set_cons_succ]
        refine takeV (i := 8) _ (some 56) undef rfl rfl (by kernel_rfl) (by kernel_rfl) (by kernel_rfl) (fun _ _ _ h => h) (Or.inr ⟨by rfl, rfl⟩) (by assumption) ?_
        try simp only [Act.put, List.setIfInBounds_toArray, List.set_cons_zero, List.set_cons_succ]
        refine takeV (i := 9) _ (some 57) undef rfl rfl (by kernel_rfl) (by kernel_rfl) (by kernel_rfl) (fun _ _ _ h => h) (Or.inr ⟨by rfl, rfl⟩) (by assumption) ?_
        try simp only [Act.put, List.setIfInBounds_toArray, List.set_cons_zero, List.set_cons_succ]
        refine takeV (i := 10) _ (some 58) undef rfl rfl (by kernel_rfl) (by kernel_rfl) (by kernel_rfl) (fun _ _ _ h => h) (Or.inr ⟨by rfl, rfl⟩) (by assumption) ?_
        try simp only [Act.put, List.setIfInBounds_toArray, List.set_cons_zero, List.set_cons_succ]
        refine takeV (i := 11) _ (some 59) undef rfl rfl (by kernel_rfl) (by kernel_rfl) (by kernel_rfl) (fun _ _ _ h => h) (Or.inr ⟨by rfl, rfl⟩) (by assumption) ?_
        try simp only [Act.put, List.setIfInBounds_toArray, List.set_cons_zero, List.set_cons_succ]
        refine takeV (i := 12) _ (some 60) undef rfl rfl (by kernel_rfl) (by kernel_rfl) (by kernel_rfl) (fun _ _ _ h => h) (Or.inr ⟨by rfl, rfl⟩) (by assumption) ?_
        try simp only [Act.put, List.setIfInBounds_toArray, List.set_cons_zero, List.set_cons_succ]
        refine takeV (i := 13) _ (some 61) undef rfl rfl (by kernel_rfl) (by kernel_rfl) (by kernel_rfl) (fun _ _ _ h => h) (Or.inr ⟨by rfl, rfl⟩) (by assumption) ?_
        try simp only [Act.put, List.setIfInBounds_toArray, List.set_cons_zero, List.set_cons_succ]
        refine takeV (i := 14) _ (some 62) undef rfl rfl (by kernel_rfl) (by kernel_rfl) (by kernel_rfl) (fun _ _ _ h => h) (Or.inr ⟨by rfl, rfl⟩) (by assumption) ?_
        try simp only [Act.put, List.setIfInBounds_toArray, List.set_cons_zero, List.set_cons_succ]
        refine takeV (i := 15) _ (some 63) undef rfl rfl (by kernel_rfl) (by kernel_rfl) (by kernel_rfl) (fun _ _ _ h => h) (Or.inr ⟨by rfl, rfl⟩) (by assumption) ?_
        try simp only [Act.put, List.setIfInBounds_toArray, List.set_cons_zero, List.set_cons_succ]
        refine takeV (i := 16) _ (some 64) undef rfl rfl (by kernel_rfl) (by kernel_rfl) (by kernel_rfl) (fun _ _ _ h => h) (Or.inr ⟨by rfl, rfl⟩) (by assumption) ?_
        try simp only [Act.put, List.setIfInBounds_toArray, List.set_cons_zero, List.set_cons_succ]
        refine takeV (i := 17) _ (some 65) ?_ rfl rfl (by kernel_rfl) (by kernel_rfl) (by kernel_rfl) (fun _ _ _ h => h) (Or.inl ⟨by rfl, ?_⟩) (by assumption) ?_
        rotate_left
        · (intro w hSw; (try dsimp only at hSw); go_simp; try with_reducible rfl)
        try simp only [Act.put, List.setIfInBounds_toArray, List.set_cons_zero, List.set_cons_succ]
        refine wpAnyH_done (by kernel_rfl) ?_ _
        go_wp2_with fail
        go_ret
        exact ⟨by rw [← HFm.out, formed_no HUu.out (.inl HUF.out)]; rfl, (QW.out.comp DQ.out).comp q9.out⟩
      | true =>
        rw [huf] at hcall
        have HUF : Hid (u.formed = true) := huf
        clear huf
        by_cases hke : u.kind = 2
        · have hne : (u.kind == x.kind) = true := by rw [hke, HK.out]; rfl
          have HKE : Hid (u.kind = 2) := hke
          clear hke
          go_wp2_with fail
          go_region_held3 (fun w' => w'.cell? ⟨w.heap.size, 0, none⟩ = some (.int .i64 x.kind) ∧ w'.cell? ⟨w.heap.size, 5, none⟩ = some (.slice (some ⟨bu, ou, none⟩) x.args.length c) ∧ w'.cell? ⟨bu, ou + i * 6, none⟩ = some (.int .i64 u.kind) ∧ w'.cell? ⟨bu, ou + i * 6 + 1, none⟩ = some (.int .u64 (limb u.set 0)) ∧ w'.cell? ⟨bu, ou + i * 6 + 2, none⟩ = some (.int .u64 (limb u.set 1)) ∧ w'.cell? ⟨bu, ou + i * 6 + 3, none⟩ = some (.int .u64 (limb u.set 2)) ∧ w'.cell? ⟨bu, ou + i * 6 + 4, none⟩ = some (.int .u64 (limb u.set 3)) ∧ w'.cell? ⟨bu, ou + i * 6 + 5, none⟩ = some (.slice au u.args.length cu) ∧ Hid (Qt wr w'))
          (first | (refine hold8x C0 C1 C2 C3 C4 C5 C6 C7 ?_; first | exact hold8xq (by assumption) (by assumption) | exact DQ | exact Qt.comp DQ.out (Hid.out (by assumption))))
          ((first | (go_at_call 37; with_reducible refine (hcall _ DQ).mono ?_; rintro e9 w9 ⟨rfl, q9⟩)))
          go_wp2_with fail
          go_ret
          exact ⟨by rw [← HFm.out, formed_no HUu.out (.inr (by rw [HKE.out, HK.out]))]; rfl, (QW.out.comp DQ.out).comp q9.out⟩
        · have hne : (u.kind == x.kind) = false := beq_false_of_ne (by rw [HK.out]; exact hke)
          have BN : ∀ w9, Qt wr w9 → Hid (Qt W0 w9 ∧ ∀ (j : Nat) (u : RX), j < i + 1 → x.args[j]? = some u → u.formed = true ∧ lvl u.kind ≠ lvl x.kind) := fun w9 q => by
            refine ⟨B.out.1.comp q, fun j u' hj h1 => ?_⟩
            rcases Nat.lt_succ_iff_lt_or_eq.1 hj with h | rfl
            · exact B.out.2 j u' h h1
            · rw [HUu.out] at h1; cases h1
              exact ⟨HUF.out, HLV.out u HNu.out hke⟩
          clear hke
          go_wp2_with fail
          go_region_held3 (fun w' => w'.cell? ⟨w.heap.size, 0, none⟩ = some (.int .i64 x.kind) ∧ w'.cell? ⟨w.heap.size, 5, none⟩ = some (.slice (some ⟨bu, ou, none⟩) x.args.length c) ∧ w'.cell? ⟨bu, ou + i * 6, none⟩ = some (.int .i64 u.kind) ∧ w'.cell? ⟨bu, ou + i * 6 + 1, none⟩ = some (.int .u64 (limb u.set 0)) ∧ w'.cell? ⟨bu, ou + i * 6 + 2, none⟩ = some (.int .u64 (limb u.set 1)) ∧ w'.cell? ⟨bu, ou + i * 6 + 3, none⟩ = some (.int .u64 (limb u.set 2)) ∧ w'.cell? ⟨bu, ou + i * 6 + 4, none⟩ = some (.int .u64 (limb u.set 3)) ∧ w'.cell? ⟨bu, ou + i * 6 + 5, none⟩ = some (.slice au u.args.length cu) ∧ Hid (Qt wr w'))
          (first | (refine hold8x C0 C1 C2 C3 C4 C5 C6 C7 ?_; first | exact hold8xq (by assumption) (by assumption) | exact DQ | exact Qt.comp DQ.out (Hid.out (by assumption))))
          ((first | (go_at_call 37; with_reducible refine (hcall _ DQ).mono ?_; rintro e9 w9 ⟨rfl, q9⟩)))
          go_wp2_with fail
          exact ⟨⟨i + 1, by omega, by go_num, BN _ (DQ.out.comp q9.out)⟩, by simp [intOf]; omega⟩
    · obtain rfl : i = x.args.length := by omega
      have he := hemp wr
      have HT : Hid (F = true) := by
        show _ = _
        rw [← HFm.out]
        exact formed_yes HND.out (fun j u hj => B.out.2 j u (List.getElem?_eq_some_iff.1 hj).1 hj)
      clear hemp
      go_wp2_with fail
      refine he.mono ?_
      rintro e9 w9 ⟨rfl, q9⟩
      go_wp2_with fail
      go_ret
      exact ⟨by rw [HT.out]; rfl, (Q0.out.comp B.out.1).comp q9.out⟩

set_option maxRecDepth 20000 in
set_option maxHeartbeats 8000000 in
theorem formg_k3 (x : RX) (hk : x.kind = 3) (IH : ∀ z ∈ x.args, FoG z) : FoG x := by
  intro K a c w HX hn
  have hfk := node_kd (noded_pts hn).1
  have HI : Hid _ := IH
  have HF : Hid _ := (noded_pts hn).2
  have HND : Hid (x.noded = true) := hn
  have HK : Hid (x.kind = 3) := hk
  have HLV : Hid (∀ u : RX, u.noded = true → u.kind ≠ 3 → lvl u.kind ≠ lvl x.kind) := fun u hu hne => by
    have h1 := lvl_of (node_kd (noded_pts hu).1).1
    have h2 := lvl_of (k := x.kind) (by omega)
    omega
  have hemp := fun W => empty_any x.set true (by rw [hfk.2.2.1 (by omega)]; rfl) W
  have hbig : x.args.length < 140737488355328 := by obtain ⟨_, _, _, h, _⟩ := HX.out; exact h.1
  have hk1 : (x.kind == 1) = false := by rw [hk]; rfl
  have hk2 : (x.kind == 2) = false := by rw [hk]; rfl
  have hk3 : (x.kind == 3) = true := by rw [hk]; rfl
  have hk4 : (x.kind == 4) = false := by rw [hk]; rfl
  have hk5 : (x.kind == 5) = false := by rw [hk]; rfl
  have hk6 : (x.kind == 6) = false := by rw [hk]; rfl
  have hl : (2 : Int) ≤ (x.args.length : Int) := by have := hfk.2.2.2.1 (by omega); omega
  have Q0 : Hid (Qt w (w.alloc (.cells #[.int .i64 x.kind, .int .u64 (limb x.set 0), .int .u64 (limb x.set 1), .int .u64 (limb x.set 2), .int .u64 (limb x.set 3), .slice a x.args.length c] 28))) := (Qt.refl w).alloc _
  have PX : Hid (B6 w.heap.size (.int .i64 x.kind) (.int .u64 (limb x.set 0)) (.int .u64 (limb x.set 1)) (.int .u64 (limb x.set 2)) (.int .u64 (limb x.set 3)) (.slice a x.args.length c) (w.alloc (.cells #[.int .i64 x.kind, .int .u64 (limb x.set 0), .int .u64 (limb x.set 1), .int .u64 (limb x.set 2), .int .u64 (limb x.set 3), .slice a x.args.length c] 28))) := heap_alloc_new w _
  obtain ⟨k0, k1, k2, k3, k4, k5, _⟩ := B6.facts PX
  clear IH hn hfk hk
  generalize hfm : x.formed = F
  have HFm : Hid (x.formed = F) := hfm
  clear hfm
  go_enter Tryd.func37, Tryd.ntmps37
  go_wp2_with fail
  generalize w.alloc (.cells #[.int .i64 x.kind, .int .u64 (limb x.set 0), .int .u64 (limb x.set 1), .int .u64 (limb x.set 2), .int .u64 (limb x.set 3), .slice a x.args.length c] 28) = W0 at *
  clear k0 k1 k2 k3 k4 k5 
  go_loopw [3] (fun s3 wr => ∃ i : Nat, i ≤ x.args.length ∧ s3 = .int .i64 i ∧ Hid (Qt W0 wr ∧ ∀ (j : Nat) (u : RX), j < i → x.args[j]? = some u → u.formed = true ∧ lvl u.kind ≠ lvl x.kind)) (fun s3 _ => x.args.length - (intOf s3).toNat)
  case atStart => exact ⟨0, by omega, rfl, Qt.refl W0, fun j u h => by omega⟩
  case round =>
    obtain ⟨i, hi, rfl, B⟩ := hrel
    have PW := B6.mv PX.out B.out.1 (fun h => h)
    obtain ⟨k0, k1, k2, k3, k4, k5, _⟩ := B6.facts PW
    by_cases hlt : i < x.args.length
    · obtain ⟨u, hu⟩ : ∃ u, x.args[i]? = some u := ⟨_, List.getElem?_eq_getElem hlt⟩
      have QW : Hid (Qt w wr) := Q0.out.comp B.out.1
      obtain ⟨bu, ou, au, cu, ea, pu, e0, e1, e2, e3, e4, e5⟩ := (HX.out.mv QW.out (fun _ _ h => h)).at hu
      subst ea
      have hnu := HF.out u (List.mem_of_getElem? hu)
      have HUu : Hid (x.args[i]? = some u) := hu
      have HNu : Hid (u.noded = true) := hnu
      have hcall := fun W (q : Hid (Qt wr W)) => HI.out u (List.mem_of_getElem? hu) K au cu W (show Hid _ from pu.mv q.out (fun _ _ h => h)) hnu
      have DQ : Hid (Qt wr wr.drew) := Mv.drewN _ wr 1
      have C0 : Hid _ := k0
      have C1 : Hid _ := k5
      have C2 : Hid _ := e0
      have C3 : Hid _ := e1
      have C4 : Hid _ := e2
      have C5 : Hid _ := e3
      have C6 : Hid _ := e4
      have C7 : Hid _ := e5
      clear hu pu hnu
      cases huf : u.formed with
      | false =>
        rw [huf] at hcall
        have HUF : Hid (u.formed = false) := huf
        clear huf
        go_wp2_with fail
        refine wp_region_held_drew (S := (fun w' => w'.cell? ⟨w.heap.size, 0, none⟩ = some (.int .i64 x.kind) ∧ w'.cell? ⟨w.heap.size, 5, none⟩ = some (.slice (some ⟨bu, ou, none⟩) x.args.length c) ∧ w'.cell? ⟨bu, ou + i * 6, none⟩ = some (.int .i64 u.kind) ∧ w'.cell? ⟨bu, ou + i * 6 + 1, none⟩ = some (.int .u64 (limb u.set 0)) ∧ w'.cell? ⟨bu, ou + i * 6 + 2, none⟩ = some (.int .u64 (limb u.set 1)) ∧ w'.cell? ⟨bu, ou + i * 6 + 3, none⟩ = some (.int .u64 (limb u.set 2)) ∧ w'.cell? ⟨bu, ou + i * 6 + 4, none⟩ = some (.int .u64 (limb u.set 3)) ∧ w'.cell? ⟨bu, ou + i * 6 + 5, none⟩ = some (.slice au u.args.length cu) ∧ Hid (Qt wr w'))) (by kernel_rfl) (hold8x C0 C1 C2 C3 C4 C5 C6 C7 DQ) (fun hHeld => ?_)
        refine takeV (i := 0) _ (some 48) ?_ rfl rfl (by kernel_rfl) (by kernel_rfl) (by kernel_rfl) (fun _ _ _ h => h) (Or.inl ⟨by rfl, ?_⟩) (by assumption) ?_
        rotate_left
        · (intro w hSw; (try dsimp only at hSw); go_simp; try with_reducible rfl)
        try simp only [Act.put, List.setIfInBounds_toArray, List.set_cons_zero, List.set_cons_succ]
        refine takeV (i := 1) _ (some 49) ?_ rfl rfl (by kernel_rfl) (by kernel_rfl) (by kernel_rfl) (fun _ _ _ h => h) (Or.inl ⟨by rfl, ?_⟩) (by assumption) ?_
        rotate_left
        · (intro w hSw; (try dsimp only at hSw); go_simp; try with_reducible rfl)
        try simp only [Act.put, List.setIfInBounds_toArray, List.set_cons_zero, List.set_cons_succ]
        refine takeV (i := 2) _ (some 50) ?_ rfl rfl (by kernel_rfl) (by kernel_rfl) (by kernel_rfl) (fun _ _ _ h => h) (Or.inl ⟨by rfl, ?_⟩) (by assumption) ?_
        rotate_left
        · (intro w hSw; (try dsimp only at hSw); go_simp; try with_reducible rfl)
        try simp only [Act.put, List.setIfInBounds_toArray, List.set_cons_zero, List.set_cons_succ]
        refine takeV (i := 3) _ (some 51) ?_ rfl rfl (by kernel_rfl) (by kernel_rfl) (by kernel_rfl) (fun _ _ _ h => h) (Or.inl ⟨by rfl, ?_⟩) (by assumption) ?_
        rotate_left
        · (intro w hSw; (try dsimp only at hSw); go_simp; try with_reducible rfl)
        try simp only [Act.put, List.setIfInBounds_toArray, List.set_cons_zero, List.set_cons_succ]
        refine takeV (i := 4) _ (some 52) ?_ rfl rfl (by kernel_rfl) (by kernel_rfl) (by kernel_rfl) (fun _ _ _ h => h) (Or.inl ⟨by rfl, ?_⟩) (by assumption) ?_
        rotate_left
        · (intro w hSw; (try dsimp only at hSw); go_simp; try with_reducible rfl)
        try simp only [Act.put, List.setIfInBounds_toArray, List.set_cons_zero, List.set_cons_succ]
        refine wpAnyH_ready (rs := [5]) (by kernel_rfl) (by simp) ?_
        refine AllReadyH.cons (o := _) rfl (fun K hK => ?_) AllReadyH.nil
        go_simp
        with_reducible refine (hcall _ DQ).mono ?_
        rintro e9 w9 ⟨rfl, q9⟩
        refine hK.out _ _ (hold8x C0 C1 C2 C3 C4 C5 C6 C7 (show Hid _ from DQ.out.comp q9.out)) (fun hHeld => ?_)
        try simp only [Act.put, List.setIfInBounds_toArray, List.set_cons_zero, List.set_cons_succ]
        refine takeV (i := 6) _ (some 54) ?_ rfl rfl (by kernel_rfl) (by kernel_rfl) (by kernel_rfl) (fun _ _ _ h => h) (Or.inl ⟨by rfl, ?_⟩) (by assumption) ?_
        rotate_left
        · (intro w hSw; (try dsimp only at hSw); go_simp; try with_reducible rfl)
        try simp only [Act.put, List.setIfInBounds_toArray, List.set_cons_zero, List.set_cons_succ]
        refine takeV (i := 7) _ (some 55) ?_ rfl rfl (by kernel_rfl) (by kernel_rfl) (by kernel_rfl) (fun _ _ _ h => h) (Or.inl ⟨by rfl, ?_⟩) (by assumption) ?_
        rotate_left
        · (intro w hSw; (try dsimp only at hSw); go_simp; try with_reducible rfl)
        try simp only [Act.put, List.setIfInBounds_toArray, List.set_cons_zero, List.set_cons_succ]
        refine takeV (i := 8) _ (some 56) undef rfl rfl (by kernel_rfl) (by kernel_rfl) (by kernel_rfl) (fun _ _ _ h => h) (Or.inr ⟨by rfl, rfl⟩) (by assumption) ?_
        try simp only [Act.put, List.setIfInBounds_toArray, List.set_cons_zero, List.set_cons_succ]
        refine takeV (i := 9) _ (some 57) undef rfl rfl (by kernel_rfl) (by kernel_rfl) (by kernel_rfl) (fun _ _ _ h => h) (Or.inr ⟨by rfl, rfl⟩) (by assumption) ?_
        try simp only [Act.put, List.setIfInBounds_toArray, List.set_cons_zero, List.set_cons_succ]
        refine takeV (i := 10) _ (some 58) undef rfl rfl (by kernel_rfl) (by kernel_rfl) (by kernel_rfl) (fun _ _ _ h => h) (Or.inr ⟨by rfl, rfl⟩) (by assumption) ?_
        try simp only [Act.put, List.setIfInBounds_toArray, List.set_cons_zero, List.set_cons_succ]
        refine takeV (i := 11) _ (some 59) undef rfl rfl (by kernel_rfl) (by kernel_rfl) (by kernel_rfl) (fun _ _ _ h => h) (Or.inr ⟨by rfl, rfl⟩) (by assumption) ?_
        try simp only [Act.put, List.setIfInBounds_toArray, List.set_cons_zero, List.set_cons_succ]
        refine takeV (i := 12) _ (some 60) undef rfl rfl (by kernel_rfl) (by kernel_rfl) (by kernel_rfl) (fun _ _ _ h => h) (Or.inr ⟨by rfl, rfl⟩) (by assumption) ?_
        try simp only [Act.put, List.setIfInBounds_toArray, List.set_cons_zero, List.set_cons_succ]
        refine takeV (i := 13) _ (some 61) undef rfl rfl (by kernel_rfl) (by kernel_rfl) (by kernel_rfl) (fun _ _ _ h => h) (Or.inr ⟨by rfl, rfl⟩) (by assumption) ?_
        try simp only [Act.put, List.setIfInBounds_toArray, List.set_cons_zero, List.set_cons_succ]
        refine takeV (i := 14) _ (some 62) undef rfl rfl (by kernel_rfl) (by kernel_rfl) (by kernel_rfl) (fun _ _ _ h => h) (Or.inr ⟨by rfl, rfl⟩) (by assumption) ?_
        try simp only [Act.put, List.setIfInBounds_toArray, List.set_cons_zero, List.set_cons_succ]
        refine takeV (i := 15) _ (some 63) undef rfl rfl (by kernel_rfl) (by kernel_rfl) (by kernel_rfl) (fun _ _ _ h => h) (Or.inr ⟨by rfl, rfl⟩) (by assumption) ?_
        try simp only [Act.put, List.setIfInBounds_toArray, List.set_cons_zero, List.set_cons_succ]
        refine takeV (i := 16) _ (some 64) undef rfl rfl (by kernel_rfl) (by kernel_rfl) (by kernel_rfl) (fun _ _ _ h => h) (Or.inr ⟨by rfl, rfl⟩) (by assumption) ?_
        try simp only [Act.put, List.setIfInBounds_toArray, List.set_cons_zero, List.set_cons_succ]
        refine takeV (i := 17) _ (some 65) ?_ rfl rfl (by kernel_rfl) (by kernel_rfl) (by kernel_rfl) (fun _ _ _ h => h) (Or.inl ⟨by rfl, ?_⟩) (by assumption) ?_
        rotate_left
        · (intro w hSw; (try dsimp only at hSw); go_simp; try with_reducible rfl)
        try simp only [Act.put, List.setIfInBounds_toArray, List.set_cons_zero, List.set_cons_succ]
        refine wpAnyH_done (by kernel_rfl) ?_ _
        go_wp2_with fail
        go_ret
        exact ⟨by rw [← HFm.out, formed_no HUu.out (.inl HUF.out)]; rfl, (QW.out.comp DQ.out).comp q9.out⟩
      | true =>
        rw [huf] at hcall
        have HUF : Hid (u.formed = true) := huf
        clear huf
        by_cases hke : u.kind = 3
        · have hne : (u.kind == x.kind) = true := by rw [hke, HK.out]; rfl
          have HKE : Hid (u.kind = 3) := hke
          clear hke
          go_wp2_with fail
          go_region_held3 (fun w' => w'.cell? ⟨w.heap.size, 0, none⟩ = some (.int .i64 x.kind) ∧ w'.cell? ⟨w.heap.size, 5, none⟩ = some (.slice (some ⟨bu, ou, none⟩) x.args.length c) ∧ w'.cell? ⟨bu, ou + i * 6, none⟩ = some (.int .i64 u.kind) ∧ w'.cell? ⟨bu, ou + i * 6 + 1, none⟩ = some (.int .u64 (limb u.set 0)) ∧ w'.cell? ⟨bu, ou + i * 6 + 2, none⟩ = some (.int .u64 (limb u.set 1)) ∧ w'.cell? ⟨bu, ou + i * 6 + 3, none⟩ = some (.int .u64 (limb u.set 2)) ∧ w'.cell? ⟨bu, ou + i * 6 + 4, none⟩ = some (.int .u64 (limb u.set 3)) ∧ w'.cell? ⟨bu, ou + i * 6 + 5, none⟩ = some (.slice au u.args.length cu) ∧ Hid (Qt wr w'))
          (first | (refine hold8x C0 C1 C2 C3 C4 C5 C6 C7 ?_; first | exact hold8xq (by assumption) (by assumption) | exact DQ | exact Qt.comp DQ.out (Hid.out (by assumption))))
          ((first | (go_at_call 37; with_reducible refine (hcall _ DQ).mono ?_; rintro e9 w9 ⟨rfl, q9⟩)))
          go_wp2_with fail
          go_ret
          exact ⟨by rw [← HFm.out, formed_no HUu.out (.inr (by rw [HKE.out, HK.out]))]; rfl, (QW.out.comp DQ.out).comp q9.out⟩
        · have hne : (u.kind == x.kind) = false := beq_false_of_ne (by rw [HK.out]; exact hke)
          have BN : ∀ w9, Qt wr w9 → Hid (Qt W0 w9 ∧ ∀ (j : Nat) (u : RX), j < i + 1 → x.args[j]? = some u → u.formed = true ∧ lvl u.kind ≠ lvl x.kind) := fun w9 q => by
            refine ⟨B.out.1.comp q, fun j u' hj h1 => ?_⟩
            rcases Nat.lt_succ_iff_lt_or_eq.1 hj with h | rfl
            · exact B.out.2 j u' h h1
            · rw [HUu.out] at h1; cases h1
              exact ⟨HUF.out, HLV.out u HNu.out hke⟩
          clear hke
          go_wp2_with fail
          go_region_held3 (fun w' => w'.cell? ⟨w.heap.size, 0, none⟩ = some (.int .i64 x.kind) ∧ w'.cell? ⟨w.heap.size, 5, none⟩ = some (.slice (some ⟨bu, ou, none⟩) x.args.length c) ∧ w'.cell? ⟨bu, ou + i * 6, none⟩ = some (.int .i64 u.kind) ∧ w'.cell? ⟨bu, ou + i * 6 + 1, none⟩ = some (.int .u64 (limb u.set 0)) ∧ w'.cell? ⟨bu, ou + i * 6 + 2, none⟩ = some (.int .u64 (limb u.set 1)) ∧ w'.cell? ⟨bu, ou + i * 6 + 3, none⟩ = some (.int .u64 (limb u.set 2)) ∧ w'.cell? ⟨bu, ou + i * 6 + 4, none⟩ = some (.int .u64 (limb u.set 3)) ∧ w'.cell? ⟨bu, ou + i * 6 + 5, none⟩ = some (.slice au u.args.length cu) ∧ Hid (Qt wr w'))
          (first | (refine hold8x C0 C1 C2 C3 C4 C5 C6 C7 ?_; first | exact hold8xq (by assumption) (by assumption) | exact DQ | exact Qt.comp DQ.out (Hid.out (by assumption))))
          ((first | (go_at_call 37; with_reducible refine (hcall _ DQ).mono ?_; rintro e9 w9 ⟨rfl, q9⟩)))
          go_wp2_with fail
          exact ⟨⟨i + 1, by omega, by go_num, BN _ (DQ.out.comp q9.out)⟩, by simp [intOf]; omega⟩
    · obtain rfl : i = x.args.length := by omega
      have he := hemp wr
      have HT : Hid (F = true) := by
        show _ = _
        rw [← HFm.out]
        exact formed_yes HND.out (fun j u hj => B.out.2 j u (List.getElem?_eq_some_iff.1 hj).1 hj)
      clear hemp
      go_wp2_with fail
      refine he.mono ?_
      rintro e9 w9 ⟨rfl, q9⟩
      go_wp2_with fail
      go_ret
      exact ⟨by rw [HT.out]; rfl, (Q0.out.comp B.out.1).comp q9.out⟩

set_option maxRecDepth 20000 in
set_option maxHeartbeats 8000000 in
theorem formg_k4 (x : RX) (hk : x.kind = 4) (IH : ∀ z ∈ x.args, FoG z) : FoG x := by
  intro K a c w HX hn
  have hfk := node_kd (noded_pts hn).1
  have HI : Hid _ := IH
  have HF : Hid _ := (noded_pts hn).2
  have HND : Hid (x.noded = true) := hn
  have HK : Hid (x.kind = 4) := hk
  have HLV : Hid (∀ u : RX, u.noded = true → u.kind < 4 → u.kind ≠ 4 → lvl u.kind ≠ lvl x.kind) := fun u hu h4 hne => by
    have h1 := lvl_of (node_kd (noded_pts hu).1).1
    have h2 := lvl_of (k := x.kind) (by omega)
    omega
  have hemp := fun W => empty_any x.set true (by rw [hfk.2.2.1 (by omega)]; rfl) W
  have hbig : x.args.length < 140737488355328 := by obtain ⟨_, _, _, h, _⟩ := HX.out; exact h.1
  have hk1 : (x.kind == 1) = false := by rw [hk]; rfl
  have hk2 : (x.kind == 2) = false := by rw [hk]; rfl
  have hk3 : (x.kind == 3) = false := by rw [hk]; rfl
  have hk4 : (x.kind == 4) = true := by rw [hk]; rfl
  have hk5 : (x.kind == 5) = false := by rw [hk]; rfl
  have hk6 : (x.kind == 6) = false := by rw [hk]; rfl
  have hl : x.args.length = 1 := hfk.2.2.2.2 (by omega)
  obtain ⟨u0, hu0⟩ : ∃ u, x.args[0]? = some u := ⟨_, List.getElem?_eq_getElem (by omega)⟩
  have hlu := HF.out u0 (List.mem_of_getElem? hu0)
  obtain ⟨bv, ov, av, cv, ea, pv, v0, v1, v2, v3, v4, v5⟩ := (HX.out.mv (Mv.alloc (fun _ => False) w (.cells #[.int .i64 x.kind, .int .u64 (limb x.set 0), .int .u64 (limb x.set 1), .int .u64 (limb x.set 2), .int .u64 (limb x.set 3), .slice a x.args.length c] 28)) (fun _ _ h => h)).at hu0
  subst ea
  simp only [Nat.zero_mul, Nat.add_zero] at v0
  have hln : ((x.args.length : Int) != 1) = false := by rw [hl]; rfl
  have hl0 : (0 : Int) < (x.args.length : Int) := by omega
  have hl1 : 0 < x.args.length := by omega
  have HU0 : Hid (x.args[0]? = some u0) := hu0
  have HL1 : Hid (x.args.length = 1) := hl
  have PX : Hid (B6 w.heap.size (.int .i64 x.kind) (.int .u64 (limb x.set 0)) (.int .u64 (limb x.set 1)) (.int .u64 (limb x.set 2)) (.int .u64 (limb x.set 3)) (.slice (some ⟨bv, ov, none⟩) x.args.length c) (w.alloc (.cells #[.int .i64 x.kind, .int .u64 (limb x.set 0), .int .u64 (limb x.set 1), .int .u64 (limb x.set 2), .int .u64 (limb x.set 3), .slice (some ⟨bv, ov, none⟩) x.args.length c] 28))) := heap_alloc_new w _
  obtain ⟨k0, k1, k2, k3, k4, k5, _⟩ := B6.facts PX
  have Q0 : Hid (Qt w (w.alloc (.cells #[.int .i64 x.kind, .int .u64 (limb x.set 0), .int .u64 (limb x.set 1), .int .u64 (limb x.set 2), .int .u64 (limb x.set 3), .slice (some ⟨bv, ov, none⟩) x.args.length c] 28))) := (Qt.refl w).alloc _
  have hkd0 := lvl_of (node_kd (noded_pts hlu).1).1
  have hxl := lvl_of (k := x.kind) (by omega)
  clear IH hn hfk
  by_cases hu4 : u0.kind < 4
  rotate_left
  · have hge : u0.kind ≥ 4 := by omega
    rw [formed_no hu0 (.inr (by omega))]
    clear hu0 hlu pv v1 v2 v3 v4 v5 hl hk hkd0 hxl hu4
    go_enter Tryd.func37, Tryd.ntmps37
    go_wp2_with fail
    go_ret
    exact ⟨rfl, Q0.out⟩
  have HU4 : Hid (u0.kind < 4) := hu4
  clear hu0 hlu pv v1 v2 v3 v4 v5 hl hk hkd0 hxl
  generalize hfm : x.formed = F
  have HFm : Hid (x.formed = F) := hfm
  clear hfm
  go_enter Tryd.func37, Tryd.ntmps37
  go_wp2_with fail
  generalize w.alloc (.cells #[.int .i64 x.kind, .int .u64 (limb x.set 0), .int .u64 (limb x.set 1), .int .u64 (limb x.set 2), .int .u64 (limb x.set 3), .slice (some ⟨bv, ov, none⟩) x.args.length c] 28) = W0 at *
  clear k0 k1 k2 k3 k4 k5 v0
  go_loopw [3] (fun s3 wr => ∃ i : Nat, i ≤ x.args.length ∧ s3 = .int .i64 i ∧ Hid (Qt W0 wr ∧ ∀ (j : Nat) (u : RX), j < i → x.args[j]? = some u → u.formed = true ∧ lvl u.kind ≠ lvl x.kind)) (fun s3 _ => x.args.length - (intOf s3).toNat)
  case atStart => exact ⟨0, by omega, rfl, Qt.refl W0, fun j u h => by omega⟩
  case round =>
    obtain ⟨i, hi, rfl, B⟩ := hrel
    have PW := B6.mv PX.out B.out.1 (fun h => h)
    obtain ⟨k0, k1, k2, k3, k4, k5, _⟩ := B6.facts PW
    by_cases hlt : i < x.args.length
    · obtain ⟨u, hu⟩ : ∃ u, x.args[i]? = some u := ⟨_, List.getElem?_eq_getElem hlt⟩
      have QW : Hid (Qt w wr) := Q0.out.comp B.out.1
      obtain ⟨bu, ou, au, cu, ea, pu, e0, e1, e2, e3, e4, e5⟩ := (HX.out.mv QW.out (fun _ _ h => h)).at hu
      cases ea
      have hnu := HF.out u (List.mem_of_getElem? hu)
      have HUu : Hid (x.args[i]? = some u) := hu
      have HNu : Hid (u.noded = true) := hnu
      have hcall := fun W (q : Hid (Qt wr W)) => HI.out u (List.mem_of_getElem? hu) K au cu W (show Hid _ from pu.mv q.out (fun _ _ h => h)) hnu
      have DQ : Hid (Qt wr wr.drew) := Mv.drewN _ wr 1
      have C0 : Hid _ := k0
      have C1 : Hid _ := k5
      have C2 : Hid _ := e0
      have C3 : Hid _ := e1
      have C4 : Hid _ := e2
      have C5 : Hid _ := e3
      have C6 : Hid _ := e4
      have C7 : Hid _ := e5
      clear hu pu hnu
      cases huf : u.formed with
      | false =>
        rw [huf] at hcall
        have HUF : Hid (u.formed = false) := huf
        clear huf
        go_wp2_with fail
        refine wp_region_held_drew (S := (fun w' => w'.cell? ⟨w.heap.size, 0, none⟩ = some (.int .i64 x.kind) ∧ w'.cell? ⟨w.heap.size, 5, none⟩ = some (.slice (some ⟨bv, ov, none⟩) x.args.length c) ∧ w'.cell? ⟨bv, ov + i * 6, none⟩ = some (.int .i64 u.kind) ∧ w'.cell? ⟨bv, ov + i * 6 + 1, none⟩ = some (.int .u64 (limb u.set 0)) ∧ w'.cell? ⟨bv, ov + i * 6 + 2, none⟩ = some (.int .u64 (limb u.set 1)) ∧ w'.cell? ⟨bv, ov + i * 6 + 3, none⟩ = some (.int .u64 (limb u.set 2)) ∧ w'.cell? ⟨bv, ov + i * 6 + 4, none⟩ = some (.int .u64 (limb u.set 3)) ∧ w'.cell? ⟨bv, ov + i * 6 + 5, none⟩ = some (.slice au u.args.length cu) ∧ Hid (Qt wr w'))) (by kernel_rfl) (hold8x C0 C1 C2 C3 C4 C5 C6 C7 DQ) (fun hHeld => ?_)
        refine takeV (i := 0) _ (some 48) ?_ rfl rfl (by kernel_rfl) (by kernel_rfl) (by kernel_rfl) (fun _ _ _ h => h) (Or.inl ⟨by rfl, ?_⟩) (by assumption) ?_
        rotate_left
        · (intro w hSw; (try dsimp only at hSw); go_simp; try with_reducible rfl)
        try simp only [Act.put, List.setIfInBounds_toArray, List.set_cons_zero, List.set_cons_succ]
        refine takeV (i := 1) _ (some 49) ?_ rfl rfl (by kernel_rfl) (by kernel_rfl) (by kernel_rfl) (fun _ _ _ h => h) (Or.inl ⟨by rfl, ?_⟩) (by assumption) ?_
        rotate_left
        · (intro w hSw; (try dsimp only at hSw); go_simp; try with_reducible rfl)
        try simp only [Act.put, List.setIfInBounds_toArray, List.set_cons_zero, List.set_cons_succ]
        refine takeV (i := 2) _ (some 50) ?_ rfl rfl (by kernel_rfl) (by kernel_rfl) (by kernel_rfl) (fun _ _ _ h => h) (Or.inl ⟨by rfl, ?_⟩) (by assumption) ?_
        rotate_left
        · (intro w hSw; (try dsimp only at hSw); go_simp; try with_reducible rfl)
        try simp only [Act.put, List.setIfInBounds_toArray, List.set_cons_zero, List.set_cons_succ]
        refine takeV (i := 3) _ (some 51) ?_ rfl rfl (by kernel_rfl) (by kernel_rfl) (by kernel_rfl) (fun _ _ _ h => h) (Or.inl ⟨by rfl, ?_⟩) (by assumption) ?_
        rotate_left
        · (intro w hSw; (try dsimp only at hSw); go_simp; try with_reducible rfl)
        try simp only [Act.put, List.setIfInBounds_toArray, List.set_cons_zero, List.set_cons_succ]
        refine takeV (i := 4) _ (some 52) ?_ rfl rfl (by kernel_rfl) (by kernel_rfl) (by kernel_rfl) (fun _ _ _ h => h) (Or.inl ⟨by rfl, ?_⟩) (by assumption) ?_
        rotate_left
        · (intro w hSw; (try dsimp only at hSw); go_simp; try with_reducible rfl)
        try simp only [Act.put, List.setIfInBounds_toArray, List.set_cons_zero, List.set_cons_succ]
        refine wpAnyH_ready (rs := [5]) (by kernel_rfl) (by simp) ?_
        refine AllReadyH.cons (o := _) rfl (fun K hK => ?_) AllReadyH.nil
        go_simp
        with_reducible refine (hcall _ DQ).mono ?_
        rintro e9 w9 ⟨rfl, q9⟩
        refine hK.out _ _ (hold8x C0 C1 C2 C3 C4 C5 C6 C7 (show Hid _ from DQ.out.comp q9.out)) (fun hHeld => ?_)
        try simp only [Act.put, List.setIfInBounds_toArray, List.set_cons_zero, List.set_cons_succ]
        refine takeV (i := 6) _ (some 54) ?_ rfl rfl (by kernel_rfl) (by kernel_rfl) (by kernel_rfl) (fun _ _ _ h => h) (Or.inl ⟨by rfl, ?_⟩) (by assumption) ?_
        rotate_left
        · (intro w hSw; (try dsimp only at hSw); go_simp; try with_reducible rfl)
        try simp only [Act.put, List.setIfInBounds_toArray, List.set_cons_zero, List.set_cons_succ]
        refine takeV (i := 7) _ (some 55) ?_ rfl rfl (by kernel_rfl) (by kernel_rfl) (by kernel_rfl) (fun _ _ _ h => h) (Or.inl ⟨by rfl, ?_⟩) (by assumption) ?_
        rotate_left
        · (intro w hSw; (try dsimp only at hSw); go_simp; try with_reducible rfl)
        try simp only [Act.put, List.setIfInBounds_toArray, List.set_cons_zero, List.set_cons_succ]
        refine takeV (i := 8) _ (some 56) undef rfl rfl (by kernel_rfl) (by kernel_rfl) (by kernel_rfl) (fun _ _ _ h => h) (Or.inr ⟨by rfl, rfl⟩) (by assumption) ?_
        try simp only [Act.put, List.setIfInBounds_toArray, List.set_cons_zero, List.set_cons_succ]
        refine takeV (i := 9) _ (some 57) undef rfl rfl (by kernel_rfl) (by kernel_rfl) (by kernel_rfl) (fun _ _ _ h => h) (Or.inr ⟨by rfl, rfl⟩) (by assumption) ?_
        try simp only [Act.put, List.setIfInBounds_toArray, List.set_cons_zero, List.set_cons_succ]
        refine takeV (i := 10) _ (some 58) undef rfl rfl (by kernel_rfl) (by kernel_rfl) (by kernel_rfl) (fun _ _ _ h => h) (Or.inr ⟨by rfl, rfl⟩) (by assumption) ?_
        try simp only [Act.put, List.setIfInBounds_toArray, List.set_cons_zero, List.set_cons_succ]
        refine takeV (i := 11) _ (some 59) undef rfl rfl (by kernel_rfl) (by kernel_rfl) (by kernel_rfl) (fun _ _ _ h => h) (Or.inr ⟨by rfl, rfl⟩) (by assumption) ?_
        try simp only [Act.put, List.setIfInBounds_toArray, List.set_cons_zero, List.set_cons_succ]
        refine takeV (i := 12) _ (some 60) undef rfl rfl (by kernel_rfl) (by kernel_rfl) (by kernel_rfl) (fun _ _ _ h => h) (Or.inr ⟨by rfl, rfl⟩) (by assumption) ?_
        try simp only [Act.put, List.setIfInBounds_toArray, List.set_cons_zero, List.set_cons_succ]
        refine takeV (i := 13) _ (some 61) undef rfl rfl (by kernel_rfl) (by kernel_rfl) (by kernel_rfl) (fun _ _ _ h => h) (Or.inr ⟨by rfl, rfl⟩) (by assumption) ?_
        try simp only [Act.put, List.setIfInBounds_toArray, List.set_cons_zero, List.set_cons_succ]
        refine takeV (i := 14) _ (some 62) undef rfl rfl (by kernel_rfl) (by kernel_rfl) (by kernel_rfl) (fun _ _ _ h => h) (Or.inr ⟨by rfl, rfl⟩) (by assumption) ?_
        try simp only [Act.put, List.setIfInBounds_toArray, List.set_cons_zero, List.set_cons_succ]
        refine takeV (i := 15) _ (some 63) undef rfl rfl (by kernel_rfl) (by kernel_rfl) (by kernel_rfl) (fun _ _ _ h => h) (Or.inr ⟨by rfl, rfl⟩) (by assumption) ?_
        try simp only [Act.put, List.setIfInBounds_toArray, List.set_cons_zero, List.set_cons_succ]
        refine takeV (i := 16) _ (some 64) undef rfl rfl (by kernel_rfl) (by kernel_rfl) (by kernel_rfl) (fun _ _ _ h => h) (Or.inr ⟨by rfl, rfl⟩) (by assumption) ?_
        try simp only [Act.put, List.setIfInBounds_toArray, List.set_cons_zero, List.set_cons_succ]
        refine takeV (i := 17) _ (some 65) ?_ rfl rfl (by kernel_rfl) (by kernel_rfl) (by kernel_rfl) (fun _ _ _ h => h) (Or.inl ⟨by rfl, ?_⟩) (by assumption) ?_
        rotate_left
        · (intro w hSw; (try dsimp only at hSw); go_simp; try with_reducible rfl)
        try simp only [Act.put, List.setIfInBounds_toArray, List.set_cons_zero, List.set_cons_succ]
        refine wpAnyH_done (by kernel_rfl) ?_ _
        go_wp2_with fail
        go_ret
        exact ⟨by rw [← HFm.out, formed_no HUu.out (.inl HUF.out)]; rfl, (QW.out.comp DQ.out).comp q9.out⟩
      | true =>
        rw [huf] at hcall
        have HUF : Hid (u.formed = true) := huf
        clear huf
        by_cases hke : u.kind = 4
        · have hne : (u.kind == x.kind) = true := by rw [hke, HK.out]; rfl
          have HKE : Hid (u.kind = 4) := hke
          clear hke
          go_wp2_with fail
          go_region_held3 (fun w' => w'.cell? ⟨w.heap.size, 0, none⟩ = some (.int .i64 x.kind) ∧ w'.cell? ⟨w.heap.size, 5, none⟩ = some (.slice (some ⟨bv, ov, none⟩) x.args.length c) ∧ w'.cell? ⟨bv, ov + i * 6, none⟩ = some (.int .i64 u.kind) ∧ w'.cell? ⟨bv, ov + i * 6 + 1, none⟩ = some (.int .u64 (limb u.set 0)) ∧ w'.cell? ⟨bv, ov + i * 6 + 2, none⟩ = some (.int .u64 (limb u.set 1)) ∧ w'.cell? ⟨bv, ov + i * 6 + 3, none⟩ = some (.int .u64 (limb u.set 2)) ∧ w'.cell? ⟨bv, ov + i * 6 + 4, none⟩ = some (.int .u64 (limb u.set 3)) ∧ w'.cell? ⟨bv, ov + i * 6 + 5, none⟩ = some (.slice au u.args.length cu) ∧ Hid (Qt wr w'))
          (first | (refine hold8x C0 C1 C2 C3 C4 C5 C6 C7 ?_; first | exact hold8xq (by assumption) (by assumption) | exact DQ | exact Qt.comp DQ.out (Hid.out (by assumption))))
          ((first | (go_at_call 37; with_reducible refine (hcall _ DQ).mono ?_; rintro e9 w9 ⟨rfl, q9⟩)))
          go_wp2_with fail
          go_ret
          exact ⟨by rw [← HFm.out, formed_no HUu.out (.inr (by rw [HKE.out, HK.out]))]; rfl, (QW.out.comp DQ.out).comp q9.out⟩
        · have hne : (u.kind == x.kind) = false := beq_false_of_ne (by rw [HK.out]; exact hke)
          have BN : ∀ w9, Qt wr w9 → Hid (Qt W0 w9 ∧ ∀ (j : Nat) (u : RX), j < i + 1 → x.args[j]? = some u → u.formed = true ∧ lvl u.kind ≠ lvl x.kind) := fun w9 q => by
            refine ⟨B.out.1.comp q, fun j u' hj h1 => ?_⟩
            rcases Nat.lt_succ_iff_lt_or_eq.1 hj with h | rfl
            · exact B.out.2 j u' h h1
            · rw [HUu.out] at h1; cases h1
              exact ⟨HUF.out, HLV.out u HNu.out (by have h1 := HL1.out; have h0 : j = 0 := (by omega); subst h0; have e := HU0.out; rw [HUu.out] at e; cases e; exact HU4.out) hke⟩
          clear hke
          go_wp2_with fail
          go_region_held3 (fun w' => w'.cell? ⟨w.heap.size, 0, none⟩ = some (.int .i64 x.kind) ∧ w'.cell? ⟨w.heap.size, 5, none⟩ = some (.slice (some ⟨bv, ov, none⟩) x.args.length c) ∧ w'.cell? ⟨bv, ov + i * 6, none⟩ = some (.int .i64 u.kind) ∧ w'.cell? ⟨bv, ov + i * 6 + 1, none⟩ = some (.int .u64 (limb u.set 0)) ∧ w'.cell? ⟨bv, ov + i * 6 + 2, none⟩ = some (.int .u64 (limb u.set 1)) ∧ w'.cell? ⟨bv, ov + i * 6 + 3, none⟩ = some (.int .u64 (limb u.set 2)) ∧ w'.cell? ⟨bv, ov + i * 6 + 4, none⟩ = some (.int .u64 (limb u.set 3)) ∧ w'.cell? ⟨bv, ov + i * 6 + 5, none⟩ = some (.slice au u.args.length cu) ∧ Hid (Qt wr w'))
          (first | (refine hold8x C0 C1 C2 C3 C4 C5 C6 C7 ?_; first | exact hold8xq (by assumption) (by assumption) | exact DQ | exact Qt.comp DQ.out (Hid.out (by assumption))))
          ((first | (go_at_call 37; with_reducible refine (hcall _ DQ).mono ?_; rintro e9 w9 ⟨rfl, q9⟩)))
          go_wp2_with fail
          exact ⟨⟨i + 1, by omega, by go_num, BN _ (DQ.out.comp q9.out)⟩, by simp [intOf]; omega⟩
    · obtain rfl : i = x.args.length := by omega
      have he := hemp wr
      have HT : Hid (F = true) := by
        show _ = _
        rw [← HFm.out]
        exact formed_yes HND.out (fun j u hj => B.out.2 j u (List.getElem?_eq_some_iff.1 hj).1 hj)
      clear hemp
      go_wp2_with fail
      refine he.mono ?_
      rintro e9 w9 ⟨rfl, q9⟩
      go_wp2_with fail
      go_ret
      exact ⟨by rw [HT.out]; rfl, (Q0.out.comp B.out.1).comp q9.out⟩

set_option maxRecDepth 20000 in
set_option maxHeartbeats 8000000 in
theorem formg_k5 (x : RX) (hk : x.kind = 5) (IH : ∀ z ∈ x.args, FoG z) : FoG x := by
  intro K a c w HX hn
  have hfk := node_kd (noded_pts hn).1
  have HI : Hid _ := IH
  have HF : Hid _ := (noded_pts hn).2
  have HND : Hid (x.noded = true) := hn
  have HK : Hid (x.kind = 5) := hk
  have HLV : Hid (∀ u : RX, u.noded = true → u.kind < 4 → u.kind ≠ 5 → lvl u.kind ≠ lvl x.kind) := fun u hu h4 hne => by
    have h1 := lvl_of (node_kd (noded_pts hu).1).1
    have h2 := lvl_of (k := x.kind) (by omega)
    omega
  have hemp := fun W => empty_any x.set true (by rw [hfk.2.2.1 (by omega)]; rfl) W
  have hbig : x.args.length < 140737488355328 := by obtain ⟨_, _, _, h, _⟩ := HX.out; exact h.1
  have hk1 : (x.kind == 1) = false := by rw [hk]; rfl
  have hk2 : (x.kind == 2) = false := by rw [hk]; rfl
  have hk3 : (x.kind == 3) = false := by rw [hk]; rfl
  have hk4 : (x.kind == 4) = false := by rw [hk]; rfl
  have hk5 : (x.kind == 5) = true := by rw [hk]; rfl
  have hk6 : (x.kind == 6) = false := by rw [hk]; rfl
  have hl : x.args.length = 1 := hfk.2.2.2.2 (by omega)
  obtain ⟨u0, hu0⟩ : ∃ u, x.args[0]? = some u := ⟨_, List.getElem?_eq_getElem (by omega)⟩
  have hlu := HF.out u0 (List.mem_of_getElem? hu0)
  obtain ⟨bv, ov, av, cv, ea, pv, v0, v1, v2, v3, v4, v5⟩ := (HX.out.mv (Mv.alloc (fun _ => False) w (.cells #[.int .i64 x.kind, .int .u64 (limb x.set 0), .int .u64 (limb x.set 1), .int .u64 (limb x.set 2), .int .u64 (limb x.set 3), .slice a x.args.length c] 28)) (fun _ _ h => h)).at hu0
  subst ea
  simp only [Nat.zero_mul, Nat.add_zero] at v0
  have hln : ((x.args.length : Int) != 1) = false := by rw [hl]; rfl
  have hl0 : (0 : Int) < (x.args.length : Int) := by omega
  have hl1 : 0 < x.args.length := by omega
  have HU0 : Hid (x.args[0]? = some u0) := hu0
  have HL1 : Hid (x.args.length = 1) := hl
  have PX : Hid (B6 w.heap.size (.int .i64 x.kind) (.int .u64 (limb x.set 0)) (.int .u64 (limb x.set 1)) (.int .u64 (limb x.set 2)) (.int .u64 (limb x.set 3)) (.slice (some ⟨bv, ov, none⟩) x.args.length c) (w.alloc (.cells #[.int .i64 x.kind, .int .u64 (limb x.set 0), .int .u64 (limb x.set 1), .int .u64 (limb x.set 2), .int .u64 (limb x.set 3), .slice (some ⟨bv, ov, none⟩) x.args.length c] 28))) := heap_alloc_new w _
  obtain ⟨k0, k1, k2, k3, k4, k5, _⟩ := B6.facts PX
  have Q0 : Hid (Qt w (w.alloc (.cells #[.int .i64 x.kind, .int .u64 (limb x.set 0), .int .u64 (limb x.set 1), .int .u64 (limb x.set 2), .int .u64 (limb x.set 3), .slice (some ⟨bv, ov, none⟩) x.args.length c] 28))) := (Qt.refl w).alloc _
  have hkd0 := lvl_of (node_kd (noded_pts hlu).1).1
  have hxl := lvl_of (k := x.kind) (by omega)
  clear IH hn hfk
  by_cases hu4 : u0.kind < 4
  rotate_left
  · have hge : u0.kind ≥ 4 := by omega
    rw [formed_no hu0 (.inr (by omega))]
    clear hu0 hlu pv v1 v2 v3 v4 v5 hl hk hkd0 hxl hu4
    go_enter Tryd.func37, Tryd.ntmps37
    go_wp2_with fail
    go_ret
    exact ⟨rfl, Q0.out⟩
  have HU4 : Hid (u0.kind < 4) := hu4
  clear hu0 hlu pv v1 v2 v3 v4 v5 hl hk hkd0 hxl
  generalize hfm : x.formed = F
  have HFm : Hid (x.formed = F) := hfm
  clear hfm
  go_enter Tryd.func37, Tryd.ntmps37
  go_wp2_with fail
  generalize w.alloc (.cells #[.int .i64 x.kind, .int .u64 (limb x.set 0), .int .u64 (limb x.set 1), .int .u64 (limb x.set 2), .int .u64 (limb x.set 3), .slice (some ⟨bv, ov, none⟩) x.args.length c] 28) = W0 at *
  clear k0 k1 k2 k3 k4 k5 v0
  go_loopw [3] (fun s3 wr => ∃ i : Nat, i ≤ x.args.length ∧ s3 = .int .i64 i ∧ Hid (Qt W0 wr ∧ ∀ (j : Nat) (u : RX), j < i → x.args[j]? = some u → u.formed = true ∧ lvl u.kind ≠ lvl x.kind)) (fun s3 _ => x.args.length - (intOf s3).toNat)
  case atStart => exact ⟨0, by omega, rfl, Qt.refl W0, fun j u h => by omega⟩
  case round =>
    obtain ⟨i, hi, rfl, B⟩ := hrel
    have PW := B6.mv PX.out B.out.1 (fun h => h)
    obtain ⟨k0, k1, k2, k3, k4, k5, _⟩ := B6.facts PW
    by_cases hlt : i < x.args.length
    · obtain ⟨u, hu⟩ : ∃ u, x.args[i]? = some u := ⟨_, List.getElem?_eq_getElem hlt⟩
      have QW : Hid (Qt w wr) := Q0.out.comp B.out.1
      obtain ⟨bu, ou, au, cu, ea, pu, e0, e1, e2, e3, e4, e5⟩ := (HX.out.mv QW.out (fun _ _ h => h)).at hu
      cases ea
      have hnu := HF.out u (List.mem_of_getElem? hu)
      have HUu : Hid (x.args[i]? = some u) := hu
      have HNu : Hid (u.noded = true) := hnu
      have hcall := fun W (q : Hid (Qt wr W)) => HI.out u (List.mem_of_getElem? hu) K au cu W (show Hid _ from pu.mv q.out (fun _ _ h => h)) hnu
      have DQ : Hid (Qt wr wr.drew) := Mv.drewN _ wr 1
      have C0 : Hid _ := k0
      have C1 : Hid _ := k5
      have C2 : Hid _ := e0
      have C3 : Hid _ := e1
      have C4 : Hid _ := e2
      have C5 : Hid _ := e3
      have C6 : Hid _ := e4
      have C7 : Hid _ := e5
      clear hu pu hnu
      cases huf : u.formed with
      | false =>
        rw [huf] at hcall
        have HUF : Hid (u.formed = false) := huf
        clear huf
        go_wp2_with fail
        refine wp_region_held_drew (S := (fun w' => w'.cell? ⟨w.heap.size, 0, none⟩ = some (.int .i64 x.kind) ∧ w'.cell? ⟨w.heap.size, 5, none⟩ = some (.slice (some ⟨bv, ov, none⟩) x.args.length c) ∧ w'.cell? ⟨bv, ov + i * 6, none⟩ = some (.int .i64 u.kind) ∧ w'.cell? ⟨bv, ov + i * 6 + 1, none⟩ = some (.int .u64 (limb u.set 0)) ∧ w'.cell? ⟨bv, ov + i * 6 + 2, none⟩ = some (.int .u64 (limb u.set 1)) ∧ w'.cell? ⟨bv, ov + i * 6 + 3, none⟩ = some (.int .u64 (limb u.set 2)) ∧ w'.cell? ⟨bv, ov + i * 6 + 4, none⟩ = some (.int .u64 (limb u.set 3)) ∧ w'.cell? ⟨bv, ov + i * 6 + 5, none⟩ = some (.slice au u.args.length cu) ∧ Hid (Qt wr w'))) (by kernel_rfl) (hold8x C0 C1 C2 C3 C4 C5 C6 C7 DQ) (fun hHeld => ?_)
        refine takeV (i := 0) _ (some 48) ?_ rfl rfl (by kernel_rfl) (by kernel_rfl) (by kernel_rfl) (fun _ _ _ h => h) (Or.inl ⟨by rfl, ?_⟩) (by assumption) ?_
        rotate_left
        · (intro w hSw; (try dsimp only at hSw); go_simp; try with_reducible rfl)
        try simp only [Act.put, List.setIfInBounds_toArray, List.set_cons_zero, List.set_cons_succ]
        refine takeV (i := 1) _ (some 49) ?_ rfl rfl (by kernel_rfl) (by kernel_rfl) (by kernel_rfl) (fun _ _ _ h => h) (Or.inl ⟨by rfl, ?_⟩) (by assumption) ?_
        rotate_left
        · (intro w hSw; (try dsimp only at hSw); go_simp; try with_reducible rfl)
        try simp only [Act.put, List.setIfInBounds_toArray, List.set_cons_zero, List.set_cons_succ]
        refine takeV (i := 2) _ (some 50) ?_ rfl rfl (by kernel_rfl) (by kernel_rfl) (by kernel_rfl) (fun _ _ _ h => h) (Or.inl ⟨by rfl, ?_⟩) (by assumption) ?_
        rotate_left
        · (intro w hSw; (try dsimp only at hSw); go_simp; try with_reducible rfl)
        try simp only [Act.put, List.setIfInBounds_toArray, List.set_cons_zero, List.set_cons_succ]
        refine takeV (i := 3) _ (some 51) ?_ rfl rfl (by kernel_rfl) (by kernel_rfl) (by kernel_rfl) (fun _ _ _ h => h) (Or.inl ⟨by rfl, ?_⟩) (by assumption) ?_
        rotate_left
        · (intro w hSw; (try dsimp only at hSw); go_simp; try with_reducible rfl)
        try simp only [Act.put, List.setIfInBounds_toArray, List.set_cons_zero, List.set_cons_succ]
        refine takeV (i := 4) _ (some 52) ?_ rfl rfl (by kernel_rfl) (by kernel_rfl) (by kernel_rfl) (fun _ _ _ h => h) (Or.inl ⟨by rfl, ?_⟩) (by assumption) ?_
        rotate_left
        · (intro w hSw; (try dsimp only at hSw); go_simp; try with_reducible rfl)
        try simp only [Act.put, List.setIfInBounds_toArray, List.set_cons_zero, List.set_cons_succ]
        refine wpAnyH_ready (rs := [5]) (by kernel_rfl) (by simp) ?_
        refine AllReadyH.cons (o := _) rfl (fun K hK => ?_) AllReadyH.nil
        go_simp
        with_reducible refine (hcall _ DQ).mono ?_
        rintro e9 w9 ⟨rfl, q9⟩
        refine hK.out _ _ (hold8x C0 C1 C2 C3 C4 C5 C6 C7 (show Hid _ from DQ.out.comp q9.out)) (fun hHeld => ?_)
        try simp only [Act.put, List.setIfInBounds_toArray, List.set_cons_zero, List.set_cons_succ]
        refine takeV (i := 6) _ (some 54) ?_ rfl rfl (by kernel_rfl) (by kernel_rfl) (by kernel_rfl) (fun _ _ _ h => h) (Or.inl ⟨by rfl, ?_⟩) (by assumption) ?_
        rotate_left
        · (intro w hSw; (try dsimp only at hSw); go_simp; try with_reducible rfl)
        try simp only [Act.put, List.setIfInBounds_toArray, List.set_cons_zero, List.set_cons_succ]
        refine takeV (i := 7) _ (some 55) ?_ rfl rfl (by kernel_rfl) (by kernel_rfl) (by kernel_rfl) (fun _ _ _ h => h) (Or.inl ⟨by rfl, ?_⟩) (by assumption) ?_
        rotate_left
        · (intro w hSw; (try dsimp only at hSw); go_simp; try with_reducible rfl)
        try simp only [Act.put, List.setIfInBounds_toArray, List.set_cons_zero, List.set_cons_succ]
        refine takeV (i := 8) _ (some 56) undef rfl rfl (by kernel_rfl) (by kernel_rfl) (by kernel_rfl) (fun _ _ _ h => h) (Or.inr ⟨by rfl, rfl⟩) (by assumption) ?_
        try simp only [Act.put, List.setIfInBounds_toArray, List.set_cons_zero, List.set_cons_succ]
        refine takeV (i := 9) _ (some 57) undef rfl rfl (by kernel_rfl) (by kernel_rfl) (by kernel_rfl) (fun _ _ _ h => h) (Or.inr ⟨by rfl, rfl⟩) (by assumption) ?_
        try simp only [Act.put, List.setIfInBounds_toArray, List.set_cons_zero, List.set_cons_succ]
        refine takeV (i := 10) _ (some 58) undef rfl rfl (by kernel_rfl) (by kernel_rfl) (by kernel_rfl) (fun _ _ _ h => h) (Or.inr ⟨by rfl, rfl⟩) (by assumption) ?_
        try simp only [Act.put, List.setIfInBounds_toArray, List.set_cons_zero, List.set_cons_succ]
        refine takeV (i := 11) _ (some 59) undef rfl rfl (by kernel_rfl) (by kernel_rfl) (by kernel_rfl) (fun _ _ _ h => h) (Or.inr ⟨by rfl, rfl⟩) (by assumption) ?_
        try simp only [Act.put, List.setIfInBounds_toArray, List.set_cons_zero, List.set_cons_succ]
        refine takeV (i := 12) _ (some 60) undef rfl rfl (by kernel_rfl) (by kernel_rfl) (by kernel_rfl) (fun _ _ _ h => h) (Or.inr ⟨by rfl, rfl⟩) (by assumption) ?_
        try simp only [Act.put, List.setIfInBounds_toArray, List.set_cons_zero, List.set_cons_succ]
        refine takeV (i := 13) _ (some 61) undef rfl rfl (by kernel_rfl) (by kernel_rfl) (by kernel_rfl) (fun _ _ _ h => h) (Or.inr ⟨by rfl, rfl⟩) (by assumption) ?_
        try simp only [Act.put, List.setIfInBounds_toArray, List.set_cons_zero, List.set_cons_succ]
        refine takeV (i := 14) _ (some 62) undef rfl rfl (by kernel_rfl) (by kernel_rfl) (by kernel_rfl) (fun _ _ _ h => h) (Or.inr ⟨by rfl, rfl⟩) (by assumption) ?_
        try simp only [Act.put, List.setIfInBounds_toArray, List.set_cons_zero, List.set_cons_succ]
        refine takeV (i := 15) _ (some 63) undef rfl rfl (by kernel_rfl) (by kernel_rfl) (by kernel_rfl) (fun _ _ _ h => h) (Or.inr ⟨by rfl, rfl⟩) (by assumption) ?_
        try simp only [Act.put, List.setIfInBounds_toArray, List.set_cons_zero, List.set_cons_succ]
        refine takeV (i := 16) _ (some 64) undef rfl rfl (by kernel_rfl) (by kernel_rfl) (by kernel_rfl) (fun _ _ _ h => h) (Or.inr ⟨by rfl, rfl⟩) (by assumption) ?_
        try simp only [Act.put, List.setIfInBounds_toArray, List.set_cons_zero, List.set_cons_succ]
        refine takeV (i := 17) _ (some 65) ?_ rfl rfl (by kernel_rfl) (by kernel_rfl) (by kernel_rfl) (fun _ _ _ h => h) (Or.inl ⟨by rfl, ?_⟩) (by assumption) ?_
        rotate_left
        · (intro w hSw; (try dsimp only at hSw); go_simp; try with_reducible rfl)
        try simp only [Act.put, List.setIfInBounds_toArray, List.set_cons_zero, List.set_cons_succ]
        refine wpAnyH_done (by kernel_rfl) ?_ _
        go_wp2_with fail
        go_ret
        exact ⟨by rw [← HFm.out, formed_no HUu.out (.inl HUF.out)]; rfl, (QW.out.comp DQ.out).comp q9.out⟩
      | true =>
        rw [huf] at hcall
        have HUF : Hid (u.formed = true) := huf
        clear huf
        by_cases hke : u.kind = 5
        · have hne : (u.kind == x.kind) = true := by rw [hke, HK.out]; rfl
          have HKE : Hid (u.kind = 5) := hke
          clear hke
          go_wp2_with fail
          go_region_held3 (fun w' => w'.cell? ⟨w.heap.size, 0, none⟩ = some (.int .i64 x.kind) ∧ w'.cell? ⟨w.heap.size, 5, none⟩ = some (.slice (some ⟨bv, ov, none⟩) x.args.length c) ∧ w'.cell? ⟨bv, ov + i * 6, none⟩ = some (.int .i64 u.kind) ∧ w'.cell? ⟨bv, ov + i * 6 + 1, none⟩ = some (.int .u64 (limb u.set 0)) ∧ w'.cell? ⟨bv, ov + i * 6 + 2, none⟩ = some (.int .u64 (limb u.set 1)) ∧ w'.cell? ⟨bv, ov + i * 6 + 3, none⟩ = some (.int .u64 (limb u.set 2)) ∧ w'.cell? ⟨bv, ov + i * 6 + 4, none⟩ = some (.int .u64 (limb u.set 3)) ∧ w'.cell? ⟨bv, ov + i * 6 + 5, none⟩ = some (.slice au u.args.length cu) ∧ Hid (Qt wr w'))
          (first | (refine hold8x C0 C1 C2 C3 C4 C5 C6 C7 ?_; first | exact hold8xq (by assumption) (by assumption) | exact DQ | exact Qt.comp DQ.out (Hid.out (by assumption))))
          ((first | (go_at_call 37; with_reducible refine (hcall _ DQ).mono ?_; rintro e9 w9 ⟨rfl, q9⟩)))
          go_wp2_with fail
          go_ret
          exact ⟨by rw [← HFm.out, formed_no HUu.out (.inr (by rw [HKE.out, HK.out]))]; rfl, (QW.out.comp DQ.out).comp q9.out⟩
        · have hne : (u.kind == x.kind) = false := beq_false_of_ne (by rw [HK.out]; exact hke)
          have BN : ∀ w9, Qt wr w9 → Hid (Qt W0 w9 ∧ ∀ (j : Nat) (u : RX), j < i + 1 → x.args[j]? = some u → u.formed = true ∧ lvl u.kind ≠ lvl x.kind) := fun w9 q => by
            refine ⟨B.out.1.comp q, fun j u' hj h1 => ?_⟩
            rcases Nat.lt_succ_iff_lt_or_eq.1 hj with h | rfl
            · exact B.out.2 j u' h h1
            · rw [HUu.out] at h1; cases h1
              exact ⟨HUF.out, HLV.out u HNu.out (by have h1 := HL1.out; have h0 : j = 0 := (by omega); subst h0; have e := HU0.out; rw [HUu.out] at e; cases e; exact HU4.out) hke⟩
          clear hke
          go_wp2_with fail
          go_region_held3 (fun w' => w'.cell? ⟨w.heap.size, 0, none⟩ = some (.int .i64 x.kind) ∧ w'.cell? ⟨w.heap.size, 5, none⟩ = some (.slice (some ⟨bv, ov, none⟩) x.args.length c) ∧ w'.cell? ⟨bv, ov + i * 6, none⟩ = some (.int .i64 u.kind) ∧ w'.cell? ⟨bv, ov + i * 6 + 1, none⟩ = some (.int .u64 (limb u.set 0)) ∧ w'.cell? ⟨bv, ov + i * 6 + 2, none⟩ = some (.int .u64 (limb u.set 1)) ∧ w'.cell? ⟨bv, ov + i * 6 + 3, none⟩ = some (.int .u64 (limb u.set 2)) ∧ w'.cell? ⟨bv, ov + i * 6 + 4, none⟩ = some (.int .u64 (limb u.set 3)) ∧ w'.cell? ⟨bv, ov + i * 6 + 5, none⟩ = some (.slice au u.args.length cu) ∧ Hid (Qt wr w'))
          (first | (refine hold8x C0 C1 C2 C3 C4 C5 C6 C7 ?_; first | exact hold8xq (by assumption) (by assumption) | exact DQ | exact Qt.comp DQ.out (Hid.out (by assumption))))
          ((first | (go_at_call 37; with_reducible refine (hcall _ DQ).mono ?_; rintro e9 w9 ⟨rfl, q9⟩)))
          go_wp2_with fail
          exact ⟨⟨i + 1, by omega, by go_num, BN _ (DQ.out.comp q9.out)⟩, by simp [intOf]; omega⟩
    · obtain rfl : i = x.args.length := by omega
      have he := hemp wr
      have HT : Hid (F = true) := by
        show _ = _
        rw [← HFm.out]
        exact formed_yes HND.out (fun j u hj => B.out.2 j u (List.getElem?_eq_some_iff.1 hj).1 hj)
      clear hemp
      go_wp2_with fail
      refine he.mono ?_
      rintro e9 w9 ⟨rfl, q9⟩
      go_wp2_with fail
      go_ret
      exact ⟨by rw [HT.out]; rfl, (Q0.out.comp B.out.1).comp q9.out⟩

set_option maxRecDepth 20000 in
set_option maxHeartbeats 8000000 in
theorem formg_k6 (x : RX) (hk : x.kind = 6) (IH : ∀ z ∈ x.args, FoG z) : FoG x := by
  intro K a c w HX hn
  have hfk := node_kd (noded_pts hn).1
  have HI : Hid _ := IH
  have HF : Hid _ := (noded_pts hn).2
  have HND : Hid (x.noded = true) := hn
  have HK : Hid (x.kind = 6) := hk
  have HLV : Hid (∀ u : RX, u.noded = true → u.kind < 4 → u.kind ≠ 6 → lvl u.kind ≠ lvl x.kind) := fun u hu h4 hne => by
    have h1 := lvl_of (node_kd (noded_pts hu).1).1
    have h2 := lvl_of (k := x.kind) (by omega)
    omega
  have hemp := fun W => empty_any x.set true (by rw [hfk.2.2.1 (by omega)]; rfl) W
  have hbig : x.args.length < 140737488355328 := by obtain ⟨_, _, _, h, _⟩ := HX.out; exact h.1
  have hk1 : (x.kind == 1) = false := by rw [hk]; rfl
  have hk2 : (x.kind == 2) = false := by rw [hk]; rfl
  have hk3 : (x.kind == 3) = false := by rw [hk]; rfl
  have hk4 : (x.kind == 4) = false := by rw [hk]; rfl
  have hk5 : (x.kind == 5) = false := by rw [hk]; rfl
  have hk6 : (x.kind == 6) = true := by rw [hk]; rfl
  have hl : x.args.length = 1 := hfk.2.2.2.2 (by omega)
  obtain ⟨u0, hu0⟩ : ∃ u, x.args[0]? = some u := ⟨_, List.getElem?_eq_getElem (by omega)⟩
  have hlu := HF.out u0 (List.mem_of_getElem? hu0)
  obtain ⟨bv, ov, av, cv, ea, pv, v0, v1, v2, v3, v4, v5⟩ := (HX.out.mv (Mv.alloc (fun _ => False) w (.cells #[.int .i64 x.kind, .int .u64 (limb x.set 0), .int .u64 (limb x.set 1), .int .u64 (limb x.set 2), .int .u64 (limb x.set 3), .slice a x.args.length c] 28)) (fun _ _ h => h)).at hu0
  subst ea
  simp only [Nat.zero_mul, Nat.add_zero] at v0
  have hln : ((x.args.length : Int) != 1) = false := by rw [hl]; rfl
  have hl0 : (0 : Int) < (x.args.length : Int) := by omega
  have hl1 : 0 < x.args.length := by omega
  have HU0 : Hid (x.args[0]? = some u0) := hu0
  have HL1 : Hid (x.args.length = 1) := hl
  have PX : Hid (B6 w.heap.size (.int .i64 x.kind) (.int .u64 (limb x.set 0)) (.int .u64 (limb x.set 1)) (.int .u64 (limb x.set 2)) (.int .u64 (limb x.set 3)) (.slice (some ⟨bv, ov, none⟩) x.args.length c) (w.alloc (.cells #[.int .i64 x.kind, .int .u64 (limb x.set 0), .int .u64 (limb x.set 1), .int .u64 (limb x.set 2), .int .u64 (limb x.set 3), .slice (some ⟨bv, ov, none⟩) x.args.length c] 28))) := heap_alloc_new w _
  obtain ⟨k0, k1, k2, k3, k4, k5, _⟩ := B6.facts PX
  have Q0 : Hid (Qt w (w.alloc (.cells #[.int .i64 x.kind, .int .u64 (limb x.set 0), .int .u64 (limb x.set 1), .int .u64 (limb x.set 2), .int .u64 (limb x.set 3), .slice (some ⟨bv, ov, none⟩) x.args.length c] 28))) := (Qt.refl w).alloc _
  have hkd0 := lvl_of (node_kd (noded_pts hlu).1).1
  have hxl := lvl_of (k := x.kind) (by omega)
  clear IH hn hfk
  by_cases hu4 : u0.kind < 4
  rotate_left
  · have hge : u0.kind ≥ 4 := by omega
    rw [formed_no hu0 (.inr (by omega))]
    clear hu0 hlu pv v1 v2 v3 v4 v5 hl hk hkd0 hxl hu4
    go_enter Tryd.func37, Tryd.ntmps37
    go_wp2_with fail
    go_ret
    exact ⟨rfl, Q0.out⟩
  have HU4 : Hid (u0.kind < 4) := hu4
  clear hu0 hlu pv v1 v2 v3 v4 v5 hl hk hkd0 hxl
  generalize hfm : x.formed = F
  have HFm : Hid (x.formed = F) := hfm
  clear hfm
  go_enter Tryd.func37, Tryd.ntmps37
  go_wp2_with fail
  generalize w.alloc (.cells #[.int .i64 x.kind, .int .u64 (limb x.set 0), .int .u64 (limb x.set 1), .int .u64 (limb x.set 2), .int .u64 (limb x.set 3), .slice (some ⟨bv, ov, none⟩) x.args.length c] 28) = W0 at *
  clear k0 k1 k2 k3 k4 k5 v0
  go_loopw [3] (fun s3 wr => ∃ i : Nat, i ≤ x.args.length ∧ s3 = .int .i64 i ∧ Hid (Qt W0 wr ∧ ∀ (j : Nat) (u : RX), j < i → x.args[j]? = some u → u.formed = true ∧ lvl u.kind ≠ lvl x.kind)) (fun s3 _ => x.args.length - (intOf s3).toNat)
  case atStart => exact ⟨0, by omega, rfl, Qt.refl W0, fun j u h => by omega⟩
  case round =>
    obtain ⟨i, hi, rfl, B⟩ := hrel
    have PW := B6.mv PX.out B.out.1 (fun h => h)
    obtain ⟨k0, k1, k2, k3, k4, k5, _⟩ := B6.facts PW
    by_cases hlt : i < x.args.length
    · obtain ⟨u, hu⟩ : ∃ u, x.args[i]? = some u := ⟨_, List.getElem?_eq_getElem hlt⟩
      have QW : Hid (Qt w wr) := Q0.out.comp B.out.1
      obtain ⟨bu, ou, au, cu, ea, pu, e0, e1, e2, e3, e4, e5⟩ := (HX.out.mv QW.out (fun _ _ h => h)).at hu
      cases ea
      have hnu := HF.out u (List.mem_of_getElem? hu)
      have HUu : Hid (x.args[i]? = some u) := hu
      have HNu : Hid (u.noded = true) := hnu
      have hcall := fun W (q : Hid (Qt wr W)) => HI.out u (List.mem_of_getElem? hu) K au cu W (show Hid _ from pu.mv q.out (fun _ _ h => h)) hnu
      have DQ : Hid (Qt wr wr.drew) := Mv.drewN _ wr 1
      have C0 : Hid _ := k0
      have C1 : Hid _ := k5
      have C2 : Hid _ := e0
      have C3 : Hid _ := e1
      have C4 : Hid _ := e2
      have C5 : Hid _ := e3
      have C6 : Hid _ := e4
      have C7 : Hid _ := e5
      clear hu pu hnu
      cases huf : u.formed with
      | false =>
        rw [huf] at hcall
        have HUF : Hid (u.formed = false) := huf
        clear huf
        go_wp2_with fail
        refine wp_region_held_drew (S := (fun w' => w'.cell? ⟨w.heap.size, 0, none⟩ = some (.int .i64 x.kind) ∧ w'.cell? ⟨w.heap.size, 5, none⟩ = some (.slice (some ⟨bv, ov, none⟩) x.args.length c) ∧ w'.cell? ⟨bv, ov + i * 6, none⟩ = some (.int .i64 u.kind) ∧ w'.cell? ⟨bv, ov + i * 6 + 1, none⟩ = some (.int .u64 (limb u.set 0)) ∧ w'.cell? ⟨bv, ov + i * 6 + 2, none⟩ = some (.int .u64 (limb u.set 1)) ∧ w'.cell? ⟨bv, ov + i * 6 + 3, none⟩ = some (.int .u64 (limb u.set 2)) ∧ w'.cell? ⟨bv, ov + i * 6 + 4, none⟩ = some (.int .u64 (limb u.set 3)) ∧ w'.cell? ⟨bv, ov + i * 6 + 5, none⟩ = some (.slice au u.args.length cu) ∧ Hid (Qt wr w'))) (by kernel_rfl) (hold8x C0 C1 C2 C3 C4 C5 C6 C7 DQ) (fun hHeld => ?_)
        refine takeV (i := 0) _ (some 48) ?_ rfl rfl (by kernel_rfl) (by kernel_rfl) (by kernel_rfl) (fun _ _ _ h => h) (Or.inl ⟨by rfl, ?_⟩) (by assumption) ?_
        rotate_left
        · (intro w hSw; (try dsimp only at hSw); go_simp; try with_reducible rfl)
        try simp only [Act.put, List.setIfInBounds_toArray, List.set_cons_zero, List.set_cons_succ]
        refine takeV (i := 1) _ (some 49) ?_ rfl rfl (by kernel_rfl) (by kernel_rfl) (by kernel_rfl) (fun _ _ _ h => h) (Or.inl ⟨by rfl, ?_⟩) (by assumption) ?_
        rotate_left
        · (intro w hSw; (try dsimp only at hSw); go_simp; try with_reducible rfl)
        try simp only [Act.put, List.setIfInBounds_toArray, List.set_cons_zero, List.set_cons_succ]
        refine takeV (i := 2) _ (some 50) ?_ rfl rfl (by kernel_rfl) (by kernel_rfl) (by kernel_rfl) (fun _ _ _ h => h) (Or.inl ⟨by rfl, ?_⟩) (by assumption) ?_
        rotate_left
        · (intro w hSw; (try dsimp only at hSw); go_simp; try with_reducible rfl)
        try simp only [Act.put, List.setIfInBounds_toArray, List.set_cons_zero, List.set_cons_succ]
        refine takeV (i := 3) _ (some 51) ?_ rfl rfl (by kernel_rfl) (by kernel_rfl) (by kernel_rfl) (fun _ _ _ h => h) (Or.inl ⟨by rfl, ?_⟩) (by assumption) ?_
        rotate_left
        · (intro w hSw; (try dsimp only at hSw); go_simp; try with_reducible rfl)
        try simp only [Act.put, List.setIfInBounds_toArray, List.set_cons_zero, List.set_cons_succ]
        refine takeV (i := 4) _ (some 52) ?_ rfl rfl (by kernel_rfl) (by kernel_rfl) (by kernel_rfl) (fun _ _ _ h => h) (Or.inl ⟨by rfl, ?_⟩) (by assumption) ?_
        rotate_left
        · (intro w hSw; (try dsimp only at hSw); go_simp; try with_reducible rfl)
        try simp only [Act.put, List.setIfInBounds_toArray, List.set_cons_zero, List.set_cons_succ]
        refine wpAnyH_ready (rs := [5]) (by kernel_rfl) (by simp) ?_
        refine AllReadyH.cons (o := _) rfl (fun K hK => ?_) AllReadyH.nil
        go_simp
        with_reducible refine (hcall _ DQ).mono ?_
        rintro e9 w9 ⟨rfl, q9⟩
        refine hK.out _ _ (hold8x C0 C1 C2 C3 C4 C5 C6 C7 (show Hid _ from DQ.out.comp q9.out)) (fun hHeld => ?_)
        try simp only [Act.put, List.setIfInBounds_toArray, List.set_cons_zero, List.set_cons_succ]
        refine takeV (i := 6) _ (some 54) ?_ rfl rfl (by kernel_rfl) (by kernel_rfl) (by kernel_rfl) (fun _ _ _ h => h) (Or.inl ⟨by rfl, ?_⟩) (by assumption) ?_
        rotate_left
        · (intro w hSw; (try dsimp only at hSw); go_simp; try with_reducible rfl)
        try simp only [Act.put, List.setIfInBounds_toArray, List.set_cons_zero, List.set_cons_succ]
        refine takeV (i := 7) _ (some 55) ?_ rfl rfl (by kernel_rfl) (by kernel_rfl) (by kernel_rfl) (fun _ _ _ h => h) (Or.inl ⟨by rfl, ?_⟩) (by assumption) ?_
        rotate_left
        · (intro w hSw; (try dsimp only at hSw); go_simp; try with_reducible rfl)
        try simp only [Act.put, List.setIfInBounds_toArray, List.set_cons_zero, List.set_cons_succ]
        refine takeV (i := 8) _ (some 56) undef rfl rfl (by kernel_rfl) (by kernel_rfl) (by kernel_rfl) (fun _ _ _ h => h) (Or.inr ⟨by rfl, rfl⟩) (by assumption) ?_
        try simp only [Act.put, List.setIfInBounds_toArray, List.set_cons_zero, List.set_cons_succ]
        refine takeV (i := 9) _ (some 57) undef rfl rfl (by kernel_rfl) (by kernel_rfl) (by kernel_rfl) (fun _ _ _ h => h) (Or.inr ⟨by rfl, rfl⟩) (by assumption) ?_
        try simp only [Act.put, List.setIfInBounds_toArray, List.set_cons_zero, List.set_cons_succ]
        refine takeV (i := 10) _ (some 58) undef rfl rfl (by kernel_rfl) (by kernel_rfl) (by kernel_rfl) (fun _ _ _ h => h) (Or.inr ⟨by rfl, rfl⟩) (by assumption) ?_
        try simp only [Act.put, List.setIfInBounds_toArray, List.set_cons_zero, List.set_cons_succ]
        refine takeV (i := 11) _ (some 59) undef rfl rfl (by kernel_rfl) (by kernel_rfl) (by kernel_rfl) (fun _ _ _ h => h) (Or.inr ⟨by rfl, rfl⟩) (by assumption) ?_
        try simp only [Act.put, List.setIfInBounds_toArray, List.set_cons_zero, List.set_cons_succ]
        refine takeV (i := 12) _ (some 60) undef rfl rfl (by kernel_rfl) (by kernel_rfl) (by kernel_rfl) (fun _ _ _ h => h) (Or.inr ⟨by rfl, rfl⟩) (by assumption) ?_
        try simp only [Act.put, List.setIfInBounds_toArray, List.set_cons_zero, List.set_cons_succ]
        refine takeV (i := 13) _ (some 61) undef rfl rfl (by kernel_rfl) (by kernel_rfl) (by kernel_rfl) (fun _ _ _ h => h) (Or.inr ⟨by rfl, rfl⟩) (by assumption) ?_
        try simp only [Act.put, List.setIfInBounds_toArray, List.set_cons_zero, List.set_cons_succ]
        refine takeV (i := 14) _ (some 62) undef rfl rfl (by kernel_rfl) (by kernel_rfl) (by kernel_rfl) (fun _ _ _ h => h) (Or.inr ⟨by rfl, rfl⟩) (by assumption) ?_
        try simp only [Act.put, List.setIfInBounds_toArray, List.set_cons_zero, List.set_cons_succ]
        refine takeV (i := 15) _ (some 63) undef rfl rfl (by kernel_rfl) (by kernel_rfl) (by kernel_rfl) (fun _ _ _ h => h) (Or.inr ⟨by rfl, rfl⟩) (by assumption) ?_
        try simp only [Act.put, List.setIfInBounds_toArray, List.set_cons_zero, List.set_cons_succ]
        refine takeV (i := 16) _ (some 64) undef rfl rfl (by kernel_rfl) (by kernel_rfl) (by kernel_rfl) (fun _ _ _ h => h) (Or.inr ⟨by rfl, rfl⟩) (by assumption) ?_
        try simp only [Act.put, List.setIfInBounds_toArray, List.set_cons_zero, List.set_cons_succ]
        refine takeV (i := 17) _ (some 65) ?_ rfl rfl (by kernel_rfl) (by kernel_rfl) (by kernel_rfl) (fun _ _ _ h => h) (Or.inl ⟨by rfl, ?_⟩) (by assumption) ?_
        rotate_left
        · (intro w hSw; (try dsimp only at hSw); go_simp; try with_reducible rfl)
        try simp only [Act.put, List.setIfInBounds_toArray, List.set_cons_zero, List.set_cons_succ]
        refine wpAnyH_done (by kernel_rfl) ?_ _
        go_wp2_with fail
        go_ret
        exact ⟨by rw [← HFm.out, formed_no HUu.out (.inl HUF.out)]; rfl, (QW.out.comp DQ.out).comp q9.out⟩
      | true =>
        rw [huf] at hcall
        have HUF : Hid (u.formed = true) := huf
        clear huf
        by_cases hke : u.kind = 6
        · have hne : (u.kind == x.kind) = true := by rw [hke, HK.out]; rfl
          have HKE : Hid (u.kind = 6) := hke
          clear hke
          go_wp2_with fail
          go_region_held3 (fun w' => w'.cell? ⟨w.heap.size, 0, none⟩ = some (.int .i64 x.kind) ∧ w'.cell? ⟨w.heap.size, 5, none⟩ = some (.slice (some ⟨bv, ov, none⟩) x.args.length c) ∧ w'.cell? ⟨bv, ov + i * 6, none⟩ = some (.int .i64 u.kind) ∧ w'.cell? ⟨bv, ov + i * 6 + 1, none⟩ = some (.int .u64 (limb u.set 0)) ∧ w'.cell? ⟨bv, ov + i * 6 + 2, none⟩ = some (.int .u64 (limb u.set 1)) ∧ w'.cell? ⟨bv, ov + i * 6 + 3, none⟩ = some (.int .u64 (limb u.set 2)) ∧ w'.cell? ⟨bv, ov + i * 6 + 4, none⟩ = some (.int .u64 (limb u.set 3)) ∧ w'.cell? ⟨bv, ov + i * 6 + 5, none⟩ = some (.slice au u.args.length cu) ∧ Hid (Qt wr w'))
          (first | (refine hold8x C0 C1 C2 C3 C4 C5 C6 C7 ?_; first | exact hold8xq (by assumption) (by assumption) | exact DQ | exact Qt.comp DQ.out (Hid.out (by assumption))))
          ((first | (go_at_call 37; with_reducible refine (hcall _ DQ).mono ?_; rintro e9 w9 ⟨rfl, q9⟩)))
          go_wp2_with fail
          go_ret
          exact ⟨by rw [← HFm.out, formed_no HUu.out (.inr (by rw [HKE.out, HK.out]))]; rfl, (QW.out.comp DQ.out).comp q9.out⟩
        · have hne : (u.kind == x.kind) = false := beq_false_of_ne (by rw [HK.out]; exact hke)
          have BN : ∀ w9, Qt wr w9 → Hid (Qt W0 w9 ∧ ∀ (j : Nat) (u : RX), j < i + 1 → x.args[j]? = some u → u.formed = true ∧ lvl u.kind ≠ lvl x.kind) := fun w9 q => by
            refine ⟨B.out.1.comp q, fun j u' hj h1 => ?_⟩
            rcases Nat.lt_succ_iff_lt_or_eq.1 hj with h | rfl
            · exact B.out.2 j u' h h1
            · rw [HUu.out] at h1; cases h1
              exact ⟨HUF.out, HLV.out u HNu.out (by have h1 := HL1.out; have h0 : j = 0 := (by omega); subst h0; have e := HU0.out; rw [HUu.out] at e; cases e; exact HU4.out) hke⟩
          clear hke
          go_wp2_with fail
          go_region_held3 (fun w' => w'.cell? ⟨w.heap.size, 0, none⟩ = some (.int .i64 x.kind) ∧ w'.cell? ⟨w.heap.size, 5, none⟩ = some (.slice (some ⟨bv, ov, none⟩) x.args.length c) ∧ w'.cell? ⟨bv, ov + i * 6, none⟩ = some (.int .i64 u.kind) ∧ w'.cell? ⟨bv, ov + i * 6 + 1, none⟩ = some (.int .u64 (limb u.set 0)) ∧ w'.cell? ⟨bv, ov + i * 6 + 2, none⟩ = some (.int .u64 (limb u.set 1)) ∧ w'.cell? ⟨bv, ov + i * 6 + 3, none⟩ = some (.int .u64 (limb u.set 2)) ∧ w'.cell? ⟨bv, ov + i * 6 + 4, none⟩ = some (.int .u64 (limb u.set 3)) ∧ w'.cell? ⟨bv, ov + i * 6 + 5, none⟩ = some (.slice au u.args.length cu) ∧ Hid (Qt wr w'))
          (first | (refine hold8x C0 C1 C2 C3 C4 C5 C6 C7 ?_; first | exact hold8xq (by assumption) (by assumption) | exact DQ | exact Qt.comp DQ.out (Hid.out (by assumption))))
          ((first | (go_at_call 37; with_reducible refine (hcall _ DQ).mono ?_; rintro e9 w9 ⟨rfl, q9⟩)))
          go_wp2_with fail
          exact ⟨⟨i + 1, by omega, by go_num, BN _ (DQ.out.comp q9.out)⟩, by simp [intOf]; omega⟩
    · obtain rfl : i = x.args.length := by omega
      have he := hemp wr
      have HT : Hid (F = true) := by
        show _ = _
        rw [← HFm.out]
        exact formed_yes HND.out (fun j u hj => B.out.2 j u (List.getElem?_eq_some_iff.1 hj).1 hj)
      clear hemp
      go_wp2_with fail
      refine he.mono ?_
      rintro e9 w9 ⟨rfl, q9⟩
      go_wp2_with fail
      go_ret
      exact ⟨by rw [HT.out]; rfl, (Q0.out.comp B.out.1).comp q9.out⟩

theorem formg_any : ∀ x : RX, FoG x := by
  refine RX.ind ?_
  intro k p l ih K a c w HX hn
  rcases (node_kd (noded_pts hn).1).1 with h | h | h | h | h | h
  · exact formg_set ⟨k, p, l⟩ h K a c w HX hn
  · exact formg_k2 ⟨k, p, l⟩ h ih K a c w HX hn
  · exact formg_k3 ⟨k, p, l⟩ h ih K a c w HX hn
  · exact formg_k4 ⟨k, p, l⟩ h ih K a c w HX hn
  · exact formg_k5 ⟨k, p, l⟩ h ih K a c w HX hn
  · exact formg_k6 ⟨k, p, l⟩ h ih K a c w HX hn

theorem depth_nodes : ∀ x : RX, x.depth ≤ x.nodes := by
  refine RX.ind ?_
  intro k p l ih
  rw [depth_eq, nodes_eq]
  have : maxl (l.map RX.depth) ≤ (l.map RX.nodes).sum := by
    induction l with
    | nil => simp [maxl]
    | cons x l ih2 =>
      have h1 := ih x (by simp)
      have h2 := ih2 (fun y hy => ih y (by simp [hy]))
      simp only [List.map_cons, maxl, List.sum_cons]
      omega
  omega

set_option maxRecDepth 20000 in
set_option maxHeartbeats 8000000 in
/-- The reference's May, of whatever is read. -/
theorem rmayg (x : RX) (K : Nat → Prop) (a : Option Addr) (c : Nat) (w : World) (HX : Hid (Parts x.args K w a c)) (hn : x.noded = true) (hm : x.nodes < 1000000) :
    Calls Tryd.prog 19 #[.agg #[.int .i64 x.kind, .int .u64 (limb x.set 0), .int .u64 (limb x.set 1), .int .u64 (limb x.set 2), .int .u64 (limb x.set 3), .slice a x.args.length c]] w fun e w' => e = .returned (.int .i64 (may x)) ∧ Hid (Qt w w') := by
  have q0 := Mv.alloc (fun _ => False) w (.cells #[.int .i64 x.kind, .int .u64 (limb x.set 0), .int .u64 (limb x.set 1), .int .u64 (limb x.set 2), .int .u64 (limb x.set 3), .slice a x.args.length c] 28)
  have HX0 : Hid (Parts x.args K (w.alloc (.cells #[.int .i64 x.kind, .int .u64 (limb x.set 0), .int .u64 (limb x.set 1), .int .u64 (limb x.set 2), .int .u64 (limb x.set 3), .slice a x.args.length c] 28)) a c) := HX.out.mv q0 (fun _ _ h => h)
  have hf := formg_any x K a c _ HX0 hn
  have hno := fun W (q : Hid (Qt (w.alloc (.cells #[.int .i64 x.kind, .int .u64 (limb x.set 0), .int .u64 (limb x.set 1), .int .u64 (limb x.set 2), .int .u64 (limb x.set 3), .slice a x.args.length c] 28)) W)) => nodes_any2 x K a c W (show Hid _ from HX0.out.mv q.out (fun _ _ h => h)) hm
  have hd := fun W (q : Hid (Qt (w.alloc (.cells #[.int .i64 x.kind, .int .u64 (limb x.set 0), .int .u64 (limb x.set 1), .int .u64 (limb x.set 2), .int .u64 (limb x.set 3), .slice a x.args.length c] 28)) W)) => depth_any2 x K a c W (show Hid _ from HX0.out.mv q.out (fun _ _ h => h)) (by have := depth_nodes x; omega)
  have PX : Hid (B6 w.heap.size (.int .i64 x.kind) (.int .u64 (limb x.set 0)) (.int .u64 (limb x.set 1)) (.int .u64 (limb x.set 2)) (.int .u64 (limb x.set 3)) (.slice a x.args.length c) (w.alloc (.cells #[.int .i64 x.kind, .int .u64 (limb x.set 0), .int .u64 (limb x.set 1), .int .u64 (limb x.set 2), .int .u64 (limb x.set 3), .slice a x.args.length c] 28))) := heap_alloc_new w _
  obtain ⟨k0, k1, k2, k3, k4, k5, _⟩ := B6.facts PX
  have Q0 : Hid (Qt w (w.alloc (.cells #[.int .i64 x.kind, .int .u64 (limb x.set 0), .int .u64 (limb x.set 1), .int .u64 (limb x.set 2), .int .u64 (limb x.set 3), .slice a x.args.length c] 28))) := q0
  cases hfm : x.formed with
  | false =>
    have hmy : may x = 2 := by unfold may; rw [hfm, if_pos rfl]
    rw [hfm] at hf
    rw [hmy]
    clear hfm hmy hno hd HX HX0 q0 hn hm
    go_enter Tryd.func19, Tryd.ntmps19
    go_wp2_with fail
    refine hf.mono ?_
    rintro e1 w1 ⟨rfl, q1⟩
    go_wp2_with fail
    go_ret
    exact ⟨rfl, Q0.out.comp q1.out⟩
  | true =>
    rw [hfm] at hf
    by_cases hn40 : x.nodes ≤ 40
    · have g1 : ((x.nodes : Nat) : Int) ≤ 40 := by omega
      by_cases hd12 : x.depth ≤ 12
      · have hmy : may x = 0 := may_of0 hfm hn40 hd12
        have g2 : ((x.depth : Nat) : Int) ≤ 12 := by omega
        rw [hmy]
        generalize ((x.nodes : Nat) : Int) = N at *
        generalize ((x.depth : Nat) : Int) = D at *
        clear hfm hmy HX HX0 q0 hn hm hn40 hd12
        go_enter Tryd.func19, Tryd.ntmps19
        go_wp2_with fail
        refine hf.mono ?_
        rintro e1 w1 ⟨rfl, q1⟩
        clear k0 k1 k2 k3 k4 k5
        obtain ⟨k0, k1, k2, k3, k4, k5, _⟩ := B6.facts (B6.mv PX.out q1.out (fun h => h))
        go_wp2_with fail
        refine (hno _ q1).mono ?_
        rintro e2 w2 ⟨rfl, q2⟩
        have Q2 := q1.out.comp q2.out
        clear k0 k1 k2 k3 k4 k5
        obtain ⟨k0, k1, k2, k3, k4, k5, _⟩ := B6.facts (B6.mv PX.out Q2 (fun h => h))
        go_wp2_with fail
        refine (hd _ Q2).mono ?_
        rintro e3 w3 ⟨rfl, q3⟩
        go_wp2_with fail
        go_ret
        exact ⟨rfl, (Q0.out.comp Q2).comp q3.out⟩
      · have hmy : may x = 6 := by unfold may; rw [hfm, if_neg (by simp), if_neg (fun h => hd12 h.2)]
        have g2 : (12 : Int) < ((x.depth : Nat) : Int) := by omega
        rw [hmy]
        generalize ((x.nodes : Nat) : Int) = N at *
        generalize ((x.depth : Nat) : Int) = D at *
        clear hfm hmy HX HX0 q0 hn hm hn40 hd12
        go_enter Tryd.func19, Tryd.ntmps19
        go_wp2_with fail
        refine hf.mono ?_
        rintro e1 w1 ⟨rfl, q1⟩
        clear k0 k1 k2 k3 k4 k5
        obtain ⟨k0, k1, k2, k3, k4, k5, _⟩ := B6.facts (B6.mv PX.out q1.out (fun h => h))
        go_wp2_with fail
        refine (hno _ q1).mono ?_
        rintro e2 w2 ⟨rfl, q2⟩
        have Q2 := q1.out.comp q2.out
        clear k0 k1 k2 k3 k4 k5
        obtain ⟨k0, k1, k2, k3, k4, k5, _⟩ := B6.facts (B6.mv PX.out Q2 (fun h => h))
        go_wp2_with fail
        refine (hd _ Q2).mono ?_
        rintro e3 w3 ⟨rfl, q3⟩
        go_wp2_with fail
        go_ret
        exact ⟨rfl, (Q0.out.comp Q2).comp q3.out⟩
    · have hmy : may x = 6 := by unfold may; rw [hfm, if_neg (by simp), if_neg (fun h => hn40 h.1)]
      have g1 : (40 : Int) < ((x.nodes : Nat) : Int) := by omega
      rw [hmy]
      generalize ((x.nodes : Nat) : Int) = N at *
      clear hfm hmy HX HX0 q0 hn hm hn40 hd
      go_enter Tryd.func19, Tryd.ntmps19
      go_wp2_with fail
      refine hf.mono ?_
      rintro e1 w1 ⟨rfl, q1⟩
      clear k0 k1 k2 k3 k4 k5
      obtain ⟨k0, k1, k2, k3, k4, k5, _⟩ := B6.facts (B6.mv PX.out q1.out (fun h => h))
      go_wp2_with fail
      refine (hno _ q1).mono ?_
      rintro e2 w2 ⟨rfl, q2⟩
      go_wp2_with fail
      go_ret
      exact ⟨rfl, (Q0.out.comp q1.out).comp q2.out⟩

end Go.Proofs.YtkclkhfcmjhogaaDoor
