/- The program's reader: brackets, atom. -/
import Derived.Test.YtkclkhfcmjhogaaDoorH2
namespace Go.Proofs.YtkclkhfcmjhogaaDoor
open Go.RowKit
set_option linter.unusedVariables false

/-- What stands behind a first bracket. -/
def brS (f : List Nat → Res) (l : List Nat) : Res := match f l with
  | .error e => .error e
  | .ok (x, []) => .error 2
  | .ok (x, d :: v) => if d = 41 then .ok (x, v) else .error 2
theorem brS_error {f : List Nat → Res} {l : List Nat} {e : Int} (h : f l = .error e) : brS f l = .error e := by unfold brS; rw [h]
theorem brS_bad {f : List Nat → Res} {l t : List Nat} {x : RX} (h : f l = .ok (x, t)) (ht : hd1 41 t = false) : brS f l = .error 2 := by
  unfold brS
  rw [h]
  cases t with
  | nil => rfl
  | cons d v =>
    have : d ≠ 41 := by intro e; rw [e] at ht; simp [hd1] at ht
    simp [this]
theorem brS_ok {f : List Nat → Res} {l v : List Nat} {x : RX} (h : f l = .ok (x, 41 :: v)) : brS f l = .ok (x, v) := by unfold brS; rw [h]; rfl
theorem Px.ok {q o : Nat} {w W : World} {x : RX} {t : List Nat} {a : Option Addr} {c : Nat} (hq : q < w.heap.size) (hp : Parts x.args (fun j => w.heap.size + 1 ≤ j) W a c) (g : Gx q t o w W) (v0 v1 v2 v3 v4 v5 : Value) :
    Px q o w (.ok (x, t)) (.returned (.agg #[.int .i64 x.kind, .int .u64 (limb x.set 0), .int .u64 (limb x.set 1), .int .u64 (limb x.set 2), .int .u64 (limb x.set 3), .slice a x.args.length c])) (put6 W w.heap.size v0 v1 v2 v3 v4 v5) :=
  ⟨a, c, rfl, (hp.mv (put6_mv W w.heap.size v0 v1 v2 v3 v4 v5) (fun j hj e => by omega)).mono (fun j hj => by omega), Gx.end (l := []) hq (Nat.le_refl _) g v0 v1 v2 v3 v4 v5⟩
def CAlt (n : Nat) : Prop := ∀ (q : Nat) (l : List Nat) (o : Nat) (w : World), o + n = 13 → Hid (Rx1 q l o w) → Calls Tryd.prog 47 #[.pointer (some ⟨q, 0, none⟩)] w fun e w' => Px q o w (altN n l) e w'
theorem eq41 : str [41] = ⟨#[41]⟩ := rfl
theorem eq40 : str [40] = ⟨#[40]⟩ := rfl
theorem Rx1.al {q o : Nat} {l : List Nat} {w : World} (h : Hid (Rx1 q l o w)) (x : Obj) : Hid (Rx1 q l o (w.alloc x)) := h.out.mv (Mv.alloc (fun _ => False) w x) (fun h => h)

set_option maxHeartbeats 1000000 in
theorem brackets_0 (q : Nat) (l : List Nat) (w : World) (R : Hid (Rx1 q l 13 w)) : Calls Tryd.prog 104 #[.pointer (some ⟨q, 0, none⟩)] w fun e w' => Px q 13 w (.error 6) e w' := by
  have R1 := Rx1.al R zeros6
  have ho := R1.out.open_
  have hf := R1.out.fz1
  rw [show ((13 : Nat) : Int) = 13 from rfl] at ho
  go_enter Tryd.func104, Tryd.ntmps104
  go_wp2_with fail
  exact ⟨rfl, rfl, Mv.alloc _ _ _⟩

set_option maxHeartbeats 2000000 in
theorem brackets_n (m : Nat) (hA : CAlt m) (q : Nat) (l : List Nat) (o : Nat) (w : World) (ho : o + (m + 1) = 13) (R : Hid (Rx1 q l o w)) : Calls Tryd.prog 104 #[.pointer (some ⟨q, 0, none⟩)] w fun e w' => Px q o w (brS (altN m) l) e w' := by
  have R1 := Rx1.al R zeros6
  have HQ : Hid (q < w.heap.size) := R.out.lt
  have hop := R1.out.open_
  have hf := R1.out.fz1
  have ho2 : ¬ (12 : Int) < (o : Int) := by omega
  have ho3 : decide ((12 : Int) < (o : Int)) = false := decide_eq_false ho2
  have ho4 : (o : Int) ≤ 12 := by omega
  have R2 : Hid (Rx1 q l (o + 1) ((w.alloc zeros6).setCell ⟨q, 1, none⟩ (.int .i64 ((o : Int) + 1)))) := by
    have := R1.out.opens (o + 1)
    rw [show ((o + 1 : Nat) : Int) = (o : Int) + 1 from by omega] at this
    exact this
  have M2 : Hid (Mv (fun k => k = q) w ((w.alloc zeros6).setCell ⟨q, 1, none⟩ (.int .i64 ((o : Int) + 1)))) := Mv.trans (Mv.alloc (fun _ => False) w zeros6 |>.mono (fun _ _ h => h.elim)) (Mv.setCell _ ⟨q, 1, none⟩ _) (fun _ _ h => h)
  have Z2 : Hid (B6 w.heap.size (.int .i64 0) (.int .u64 0) (.int .u64 0) (.int .u64 0) (.int .u64 0) (.slice none 0 0) ((w.alloc zeros6).setCell ⟨q, 1, none⟩ (.int .i64 ((o : Int) + 1)))) := B6.mv (heap_alloc_new w zeros6) (Mv.setCell _ ⟨q, 1, none⟩ _) (by have := HQ.out; simp; omega)
  have hA2 := hA q l (o + 1) _ (by omega) R2
  have HO : Hid (o ≤ 12) := by show _ ≤ _; omega
  clear R R1 hA ho
  obtain ⟨s, hs⟩ : ∃ s, s = brS (altN m) l := ⟨_, rfl⟩
  rw [← hs]
  have HS0 : Hid (s = brS (altN m) l) := hs
  clear hs
  obtain ⟨r, hr⟩ : ∃ r, r = altN m l := ⟨_, rfl⟩
  rw [← hr] at hA2
  have HR0 : Hid (altN m l = r) := hr.symm
  clear hr
  go_enter Tryd.func104, Tryd.ntmps104
  go_wp2_with fail
  refine hA2.mono ?_
  intro e w1 h1
  cases r with
  | error n =>
    obtain ⟨rfl, m1⟩ := h1
    refine ⟨rfl, ?_⟩
    rw [HS0.out, brS_error HR0.out]
    exact ⟨rfl, M2.out.trans m1.out (fun _ _ h => h)⟩
  | ok r =>
    obtain ⟨x, t⟩ := r
    obtain ⟨a, c, rfl, P1, G1⟩ := h1
    have Z3 := B6.mv Z2.out G1.out.mv (by have := HQ.out; omega)
    have HS : Hid (w.heap.size ≤ w1.heap.size) := Nat.le_trans M2.out.size G1.out.mv.size
    have PB : Hid (B6 w1.heap.size (.int .i64 x.kind) (.int .u64 (limb x.set 0)) (.int .u64 (limb x.set 1)) (.int .u64 (limb x.set 2)) (.int .u64 (limb x.set 3)) (.slice a x.args.length c) (w1.alloc (.cells #[.int .i64 x.kind, .int .u64 (limb x.set 0), .int .u64 (limb x.set 1), .int .u64 (limb x.set 2), .int .u64 (limb x.set 3), .slice a x.args.length c] 28))) := heap_alloc_new w1 _
    have R3 : Hid (Rx1 q t (o + 1) (w1.alloc (.cells #[.int .i64 x.kind, .int .u64 (limb x.set 0), .int .u64 (limb x.set 1), .int .u64 (limb x.set 2), .int .u64 (limb x.set 3), .slice a x.args.length c] 28))) := Rx1.al (show Hid _ from G1.out.rd) _
    have hk := rskip_any q 41 (by decide) t (o + 1) _ R3
    rw [eq41] at hk
    have MB : Hid (Mv (fun k => k = q) w (w1.alloc (.cells #[.int .i64 x.kind, .int .u64 (limb x.set 0), .int .u64 (limb x.set 1), .int .u64 (limb x.set 2), .int .u64 (limb x.set 3), .slice a x.args.length c] 28))) := (M2.out.trans G1.out.mv (fun _ _ h => h)).trans (Mv.alloc (fun _ => False) _ _) (fun _ _ h => h.elim)
    have ZB := B6.mv Z3.out (Mv.alloc (fun _ => False) w1 (.cells #[.int .i64 x.kind, .int .u64 (limb x.set 0), .int .u64 (limb x.set 1), .int .u64 (limb x.set 2), .int .u64 (limb x.set 3), .slice a x.args.length c] 28)) (fun h => h)
    have PP : Hid (Parts x.args (fun j => w.heap.size ≤ j ∧ j < w1.heap.size) w1 a c) := P1.out.lt.mono (fun j hj => ⟨by have := hj.1; simp [World.setCell] at this; omega, hj.2⟩)
    have PQ : Hid (Parts x.args (fun j => w.heap.size + 1 ≤ j ∧ j < w1.heap.size) w1 a c) := P1.out.lt.mono (fun j hj => ⟨by have := hj.1; simp [World.setCell] at this; omega, hj.2⟩)
    clear R2 M2 Z2 hA2 hop hf Z3 G1 P1
    cases hh : hd1 41 t with
    | false =>
      have HB : Hid (s = .error 2) := by show _ = _; rw [HS0.out]; exact brS_bad HR0.out hh
      rw [hh] at hk
      clear hh
      go_wp2_with fail
      refine hk.mono ?_
      rintro e2 w2 ⟨rfl, G2⟩
      go_wp2_with fail
      refine ⟨rfl, ?_⟩
      rw [HB.out]
      exact ⟨rfl, MB.out.trans G2.out.mv (fun _ _ h => h)⟩
    | true =>
      obtain ⟨v, rfl⟩ : ∃ v, t = 41 :: v := by
        cases t with
        | nil => cases hh
        | cons d v =>
          have hd : d = 41 := by simpa [hd1] using hh
          exact ⟨v, by rw [hd]⟩
      rw [hh] at hk
      rw [show tl1 41 (41 :: v) = v from rfl] at hk
      have HB : Hid (s = .ok (x, v)) := by show _ = _; rw [HS0.out]; exact brS_ok HR0.out
      clear hh
      go_wp2_with fail
      refine hk.mono ?_
      rintro e2 w2 ⟨rfl, G2⟩
      have hop := G2.out.rd.open_
      have hf := G2.out.rd.fz1
      rw [show ((o + 1 : Nat) : Int) = (o : Int) + 1 from by omega] at hop
      have RO := G2.out.rd.opens o
      have PB2 : Hid _ := B6.mv PB.out G2.out.mv (by have := HQ.out; have := HS.out; omega)
      have PB3 : Hid _ := B6.mv PB2.out (Mv.setCell w2 ⟨q, 1, none⟩ (.int .i64 (o : Int))) (by have := HQ.out; have := HS.out; simp; omega)
      have ZB3 : Hid _ := B6.mv (B6.mv ZB.out G2.out.mv (by have := HQ.out; omega)).out (Mv.setCell w2 ⟨q, 1, none⟩ (.int .i64 (o : Int))) (by have := HQ.out; simp; omega)
      have GG : Hid (Gx q v o w (w2.setCell ⟨q, 1, none⟩ (.int .i64 (o : Int)))) := ⟨RO, (MB.out.trans G2.out.mv (fun _ _ h => h)).trans (Mv.setCell w2 ⟨q, 1, none⟩ _) (fun _ _ h => h)⟩
      have PF : Hid (Parts x.args (fun j => w.heap.size + 1 ≤ j ∧ j < w1.heap.size) (w2.setCell ⟨q, 1, none⟩ (.int .i64 (o : Int))) a c) := ((PQ.out.mv (Mv.alloc (fun _ => False) w1 _) (fun _ _ h => h)).mv G2.out.mv (fun j hj e => by have := HQ.out; omega)).mv (Mv.setCell w2 ⟨q, 1, none⟩ _) (fun j hj e => by have := HQ.out; simp at e; omega)
      obtain ⟨p0, p1, p2, p3, p4, p5, _, _, _, _, _, _⟩ := B6.facts PB3
      obtain ⟨z0, z1, z2, z3, z4, z5, f0, f1, f2, f3, f4, f5⟩ := B6.facts ZB3
      have hsub : (o : Int) + 1 - 1 = (o : Int) := by omega
      have hso : wrap64 ((o : Int) + 1 - 1) = (o : Int) := by rw [hsub]; have := HO.out; simp [wrap64]; omega
      clear RO G2 PB PB2 PQ PP MB ZB hk R3
      go_wp2_with fail
      refine bodyPost_ret (results_cell_row (p := 2) (ty := 28) rfl _ _ w.heap.size 28 _ (0, 0) _ rfl (put6_heap ZB3.out _ _ _ _ _ _) Tryd.underlying28 rfl (by kernel_rfl)) rfl ?_
      rw [HB.out]
      exact Px.ok HQ.out (PF.out.mono (fun j hj => hj.1)) GG.out _ _ _ _ _ _

theorem rbr_any (n : Nat) (hA : ∀ m, n = m + 1 → CAlt m) (q : Nat) (l : List Nat) (o : Nat) (w : World) (ho : o + n = 13) (R : Hid (Rx1 q l o w)) : Calls Tryd.prog 104 #[.pointer (some ⟨q, 0, none⟩)] w fun e w' => Px q o w (brS (inn n) l) e w' := by
  cases n with
  | zero =>
    obtain rfl : o = 13 := by omega
    have e : brS (inn 0) l = .error 6 := brS_error rfl
    rw [e]
    exact brackets_0 q l w R
  | succ m => exact brackets_n m (hA m rfl) q l o w ho R

theorem rest_ext (l t : List Nat) (h : t <:+ l) : (str l).extract (l.length - t.length) l.length = str t := by
  obtain ⟨p, rfl⟩ := h
  rw [str_ext]
  congr 1
  rw [List.length_append, Nat.add_sub_cancel, List.drop_left']
  · exact List.take_of_length_le (by omega)
  · rfl
theorem pset_some {l t : List Nat} {p : Nat → Bool} (hb : ∀ c ∈ l, c < 256) (h : cls l = some (p, t)) : pset (str l) = p ∧ plen (str l) = l.length - t.length ∧ perr (str l) = 0 := by
  unfold pset plen perr
  rw [bs_str l hb, h, str_size]
  exact ⟨rfl, rfl, rfl⟩
theorem pset_none {l : List Nat} (hb : ∀ c ∈ l, c < 256) (h : cls l = none) : perr (str l) = 2 := by
  unfold perr
  rw [bs_str l hb, h]
theorem hd1_yes {b : Nat} {l : List Nat} (h : hd1 b l = true) : ∃ t, l = b :: t := by
  cases l with
  | nil => cases h
  | cons c t =>
    have : c = b := by simpa [hd1] using h
    exact ⟨t, by rw [this]⟩
theorem atomS_br (f : List Nat → Res) (t : List Nat) : atomS f (40 :: t) = brS f t := rfl
theorem atomS_cons (f : List Nat → Res) (c : Nat) (t : List Nat) : atomS f (c :: t) = if c = 40 then brS f t else (match cls (c :: t) with | none => .error 2 | some (p, u) => .ok (⟨1, p, []⟩, u)) := rfl
theorem atomS_none {f : List Nat → Res} {l : List Nat} (h : hd1 40 l = false) (hc : cls l = none) : atomS f l = .error 2 := by
  cases l with
  | nil => rfl
  | cons c t =>
    have : c ≠ 40 := by intro e; rw [e] at h; simp [hd1] at h
    rw [atomS_cons, if_neg this, hc]
theorem atomS_some {f : List Nat → Res} {l u : List Nat} {p : Nat → Bool} (h : hd1 40 l = false) (hc : cls l = some (p, u)) : atomS f l = .ok (⟨1, p, []⟩, u) := by
  cases l with
  | nil => cases hc
  | cons c t =>
    have : c ≠ 40 := by intro e; rw [e] at h; simp [hd1] at h
    rw [atomS_cons, if_neg this, hc]

set_option maxHeartbeats 2000000 in
theorem atom_any (n : Nat) (hA : ∀ m, n = m + 1 → CAlt m) (q : Nat) (l : List Nat) (o : Nat) (w : World) (ho : o + n = 13) (R : Hid (Rx1 q l o w)) : Calls Tryd.prog 98 #[.pointer (some ⟨q, 0, none⟩)] w fun e w' => Px q o w (atomS (inn n) l) e w' := by
  have R1 := Rx1.al R zeros6
  have HQ : Hid (q < w.heap.size) := R.out.lt
  have Z1 : Hid (B6 w.heap.size (.int .i64 0) (.int .u64 0) (.int .u64 0) (.int .u64 0) (.int .u64 0) (.slice none 0 0) (w.alloc zeros6)) := heap_alloc_new w zeros6
  have hk := rskip_any q 40 (by decide) l o _ R1
  rw [eq40] at hk
  have M1 : Hid (Mv (fun k => k = q) w (w.alloc zeros6)) := Mv.alloc _ _ _
  obtain ⟨s, hs⟩ : ∃ s, s = atomS (inn n) l := ⟨_, rfl⟩
  rw [← hs]
  have HS0 : Hid (s = atomS (inn n) l) := hs
  have HB0 : Hid (∀ c ∈ l, c < 256) := R.out.bytes
  have HSM : Hid (l.length < 1000000) := Nat.lt_trans R.out.small (by decide)
  have HA : Hid _ := hA
  have HO : Hid (o + n = 13) := ho
  clear hs R hA ho R1
  cases hh : hd1 40 l with
  | true =>
    obtain ⟨t, rfl⟩ := hd1_yes hh
    rw [hh] at hk
    rw [show tl1 40 (40 :: t) = t from rfl] at hk
    clear hh
    go_enter Tryd.func98, Tryd.ntmps98
    go_wp2_with fail
    refine hk.mono ?_
    rintro e1 w1 ⟨rfl, G1⟩
    have hb := rbr_any n HA.out q t o w1 HO.out (show Hid _ from G1.out.rd)
    have HM1 : Hid (Mv (fun k => k = q) w w1) := M1.out.trans G1.out.mv (fun _ _ h => h)
    have Z2 : Hid _ := B6.mv Z1.out G1.out.mv (by have := HQ.out; omega)
    rw [← atomS_br, ← HS0.out] at hb
    go_wp2_with fail
    refine hb.mono ?_
    intro e2 w2 h2
    cases s with
    | error n2 =>
      obtain ⟨rfl, m2⟩ := h2
      refine ⟨rfl, ?_⟩
      exact ⟨rfl, HM1.out.trans m2.out (fun _ _ h => h)⟩
    | ok r =>
      obtain ⟨x, u⟩ := r
      obtain ⟨a, c, rfl, P2, G2⟩ := h2
      have Z3 : Hid _ := B6.mv Z2.out G2.out.mv (by have := HQ.out; omega)
      have HW : Hid (w.heap.size + 1 ≤ w1.heap.size) := Z2.out.lt
      obtain ⟨z0, z1, z2, z3, z4, z5, f0, f1, f2, f3, f4, f5⟩ := B6.facts Z3
      have GG : Hid (Gx q u o w w2) := ⟨G2.out.rd, HM1.out.trans G2.out.mv (fun _ _ h => h)⟩
      clear hb hk
      go_wp2_with fail
      refine bodyPost_ret (results_cell_row (p := 2) (ty := 28) rfl _ _ w.heap.size 28 _ (0, 0) _ rfl (put6_heap Z3.out _ _ _ _ _ _) Tryd.underlying28 rfl (by kernel_rfl)) rfl ?_
      exact Px.ok HQ.out (P2.out.mono (fun j hj => by have := HW.out; omega)) GG.out _ _ _ _ _ _
  | false =>
    rw [hh] at hk
    have ht : tl1 40 l = l := by unfold tl1; rw [hh]; rfl
    rw [ht] at hk
    have HH : Hid (hd1 40 l = false) := hh
    clear hh ht
    go_enter Tryd.func98, Tryd.ntmps98
    go_wp2_with fail
    refine hk.mono ?_
    rintro e1 w1 ⟨rfl, G1⟩
    have htx := G1.out.rd.text
    have hfz := G1.out.rd.fz
    have hp := parse_any (str l) w1 (by rw [str_size]; exact HSM.out)
    have HM1 : Hid (Mv (fun k => k = q) w w1) := M1.out.trans G1.out.mv (fun _ _ h => h)
    have Z2 : Hid _ := B6.mv Z1.out G1.out.mv (by have := HQ.out; omega)
    cases hc : cls l with
    | none =>
      rw [pset_none HB0.out hc] at hp
      have HE : Hid (s = .error 2) := by show _ = _; rw [HS0.out]; exact atomS_none HH.out hc
      clear hc
      rw [sv_cells] at hp
      go_wp2_with fail
      refine hp.mono ?_
      rintro e2 w2 ⟨rfl, q2⟩
      go_wp2_with fail
      refine (rmust_bad 2 (by decide) _).mono ?_
      rintro e3 w3 ⟨rfl, hw3⟩
      obtain rfl := hw3.symm
      refine ⟨rfl, ?_⟩
      rw [HE.out]
      exact ⟨rfl, (HM1.out.trans q2.out (fun _ _ h => h.elim)).trans (Mv.alloc (fun _ => False) _ _) (fun _ _ h => h.elim)⟩
    | some r =>
      obtain ⟨p, u⟩ := r
      obtain ⟨hs1, hs2, hs3⟩ := pset_some HB0.out hc
      have HE : Hid (s = .ok (⟨1, p, []⟩, u)) := by show _ = _; rw [HS0.out]; exact atomS_some HH.out hc
      have hsuf := (cls_suf hc).1
      have hlen := hsuf.len
      have HSU : Hid (u <:+ l) := hsuf.suf
      have hex : Hid ((str l).extract (l.length - u.length) l.length = str u) := rest_ext l u hsuf.suf
      rw [hs1, hs2, hs3, sv_cells] at hp
      have hsz : (str l).size = l.length := str_size l
      obtain ⟨k, hk2⟩ : ∃ k, k = l.length - u.length := ⟨_, rfl⟩
      rw [← hk2] at hp hex
      have hkl : k ≤ l.length := by omega
      have HG : Hid (Rx1 q u o (w1.setCell ⟨q, 0, none⟩ (.string (str u)))) := G1.out.rd.put hsuf.suf
      clear hc hs1 hs2 hs3
      have hkz : (k : Int) ≤ (l.length : Int) := by omega
      have HK2 : Hid (k = l.length - u.length) := hk2
      have hex2 := hex.out
      clear hk2 hsuf hlen
      go_wp2_with fail
      refine hp.mono ?_
      rintro e2 w2 ⟨rfl, q2⟩
      go_wp2_with fail
      refine (rmust_ok _).mono ?_
      rintro e3 w3 ⟨rfl, hw3⟩
      have hq3 : Qt w1 w3 := by rw [hw3]; exact q2.out.alloc _
      have hset : w3.heap[w2.heap.size]? = some (.cells #[.int .u64 (limb p 0), .int .u64 (limb p 1), .int .u64 (limb p 2), .int .u64 (limb p 3)] 25 (0, 0)) := by rw [hw3]; exact heap_alloc_new _ _
      have HW2 : Hid (w1.heap.size ≤ w2.heap.size) := q2.out.size
      have Z3 : Hid _ := B6.mv Z2.out hq3 (fun h => h)
      have tx3 := Qt.keep (show Hid _ from hq3) htx
      have fz3 : w3.frozen? ⟨q, 0, none⟩ = false := by rw [hq3.frozen (p := ⟨q, 0, none⟩) (World.block_lt_of_cell? w1 _ htx) (fun h => h)]; exact hfz
      have R3 := G1.out.rd.mv hq3 (fun h => h)
      have hqs : ¬ w2.heap.size = q := by have := G1.out.rd.lt; have := HW2.out; omega
      have hset2 : (w3.setCell ⟨q, 0, none⟩ (.string (str u))).heap[w2.heap.size]? = some (.cells #[.int .u64 (limb p 0), .int .u64 (limb p 1), .int .u64 (limb p 2), .int .u64 (limb p 3)] 25 (0, 0)) := ((Mv.setCell w3 ⟨q, 0, none⟩ (.string (str u))).block _ (Array.getElem?_eq_some_iff.1 hset).1 hqs).trans hset
      have s0 : (w3.setCell ⟨q, 0, none⟩ (.string (str u))).cell? ⟨w2.heap.size, 0, none⟩ = some (.int .u64 (limb p 0)) := by simp only [World.cell?, hset2]; rfl
      have s1 : (w3.setCell ⟨q, 0, none⟩ (.string (str u))).cell? ⟨w2.heap.size, 1, none⟩ = some (.int .u64 (limb p 1)) := by simp only [World.cell?, hset2]; rfl
      have s2 : (w3.setCell ⟨q, 0, none⟩ (.string (str u))).cell? ⟨w2.heap.size, 2, none⟩ = some (.int .u64 (limb p 2)) := by simp only [World.cell?, hset2]; rfl
      have s3 : (w3.setCell ⟨q, 0, none⟩ (.string (str u))).cell? ⟨w2.heap.size, 3, none⟩ = some (.int .u64 (limb p 3)) := by simp only [World.cell?, hset2]; rfl
      have hsf := HS0
      have GG : Hid (Gx q u o w (w3.setCell ⟨q, 0, none⟩ (.string (str u)))) := ⟨R3.put (show u <:+ l from HSU.out), ((HM1.out.trans hq3 (fun _ _ h => h.elim)).trans (Mv.setCell w3 ⟨q, 0, none⟩ _) (fun _ _ h => h))⟩
      have Z4 : Hid _ := B6.mv Z3.out (Mv.setCell w3 ⟨q, 0, none⟩ (.string (str u))) (by have := HQ.out; simp; omega)
      obtain ⟨z0, z1, z2, z3, z4, z5, f0, f1, f2, f3, f4, f5⟩ := B6.facts Z4
      clear hw3 hset hset2 R3 htx hfz hp hk hqs Z3
      go_wp2_with fail
      refine bodyPost_ret (results_cell_row (p := 2) (ty := 28) rfl _ _ w.heap.size 28 _ (0, 0) _ rfl (put6_heap Z4.out _ _ _ _ _ _) Tryd.underlying28 rfl (by kernel_rfl)) rfl ?_
      rw [HE.out]
      exact Px.ok (x := ⟨1, p, []⟩) (c := 0) HQ.out ⟨[], fun q h => (by cases h), Nat.le_refl _, ⟨by simp, fun _ => ⟨rfl, rfl⟩⟩, Ls.nil _ _, rfl⟩ GG.out _ _ _ _ _ _

end Go.Proofs.YtkclkhfcmjhogaaDoor
