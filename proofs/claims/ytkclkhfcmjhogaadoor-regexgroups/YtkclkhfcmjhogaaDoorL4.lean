/- The reader: brackets. -/
import Derived.Test.YtkclkhfcmjhogaaDoorL3
import Derived.Deep.RegionWith
namespace Go.Proofs.YtkclkhfcmjhogaaDoor
open Go.RowKit
set_option linter.unusedVariables false

/-- What a part, brackets, a class tell. -/
def Cl (q : Nat) (S : ByteArray) (w : World) (o : Option ((Nat → Bool) × List Nat)) (e : Ending) (w' : World) : Prop :=
  match o with
  | none => e = .panicked badChain ∧ Hid (Mv (fun k => k = q) w w')
  | some (p, t) => e = .returned (sv p) ∧ Hid (Go1 q S t w w')

/-- A block that holds the set p. -/
def Bk (g : Nat) (p : Nat → Bool) (w : World) : Prop := w.heap[g]? = some (.cells #[.int .u64 (limb p 0), .int .u64 (limb p 1), .int .u64 (limb p 2), .int .u64 (limb p 3)] 25 (0, 0))
theorem Bk.lt {g : Nat} {p : Nat → Bool} {w : World} (h : Bk g p w) : g < w.heap.size := (Array.getElem?_eq_some_iff.1 h).1
theorem Bk.mv {g : Nat} {p : Nat → Bool} {w w' : World} {X : Nat → Prop} (h : Hid (Bk g p w)) (k : Mv X w w') (hx : ¬ X g) : Hid (Bk g p w') := by
  show w'.heap[g]? = _
  rw [k.block g h.out.lt hx]; exact h.out
theorem Bk.facts {g : Nat} {p : Nat → Bool} {w : World} (h : Hid (Bk g p w)) : w.cell? ⟨g, 0, none⟩ = some (.int .u64 (limb p 0)) ∧ w.cell? ⟨g, 1, none⟩ = some (.int .u64 (limb p 1)) ∧ w.cell? ⟨g, 2, none⟩ = some (.int .u64 (limb p 2)) ∧ w.cell? ⟨g, 3, none⟩ = some (.int .u64 (limb p 3)) ∧ w.frozen? ⟨g, 0, none⟩ = false ∧ w.frozen? ⟨g, 1, none⟩ = false ∧ w.frozen? ⟨g, 2, none⟩ = false ∧ w.frozen? ⟨g, 3, none⟩ = false := by
  have e : w.heap[g]? = some (.cells #[.int .u64 (limb p 0), .int .u64 (limb p 1), .int .u64 (limb p 2), .int .u64 (limb p 3)] 25 (0, 0)) := h.out
  exact ⟨by simp [World.cell?, e], by simp [World.cell?, e], by simp [World.cell?, e], by simp [World.cell?, e], by simp [World.frozen?, e], by simp [World.frozen?, e], by simp [World.frozen?, e], by simp [World.frozen?, e]⟩

/-- Brackets while they are read. -/
structure Br (w wr : World) (q g : Nat) (S : ByteArray) (p : Nat → Bool) (t : List Nat) : Prop where
  rd : Rd q S t wr
  bk : Bk g p wr
  zr : Zr w.heap.size wr
  mv : Mv (fun k => k = q) w wr
  hq : q < w.heap.size
  hg : w.heap.size < g
theorem Br.go {w wr w' : World} {q g : Nat} {S : ByteArray} {p : Nat → Bool} {t t' : List Nat} (b : Hid (Br w wr q g S p t)) (h : Hid (Go1 q S t' wr w')) : Hid (Br w w' q g S p t') :=
  ⟨h.out.rd, (Bk.mv b.out.bk h.out.mv (by have := b.out.hq; have := b.out.hg; omega)).out, (Zr.mv b.out.zr h.out.mv (by have := b.out.hq; omega)).out, b.out.mv.trans h.out.mv (fun _ _ h => h), b.out.hq, b.out.hg⟩
theorem Br.qt {w wr w' : World} {q g : Nat} {S : ByteArray} {p : Nat → Bool} {t : List Nat} (b : Hid (Br w wr q g S p t)) (h : Hid (Qt wr w')) : Hid (Br w w' q g S p t) :=
  ⟨b.out.rd.mv h.out (fun h => h), (Bk.mv b.out.bk h.out (fun h => h)).out, (Zr.mv b.out.zr h.out (fun h => h)).out, b.out.mv.trans h.out (fun _ _ h => h.elim), b.out.hq, b.out.hg⟩
theorem Br.put {w wr : World} {q g : Nat} {S : ByteArray} {p : Nat → Bool} {t : List Nat} (b : Hid (Br w wr q g S p t)) (p' : Nat → Bool) : Hid (Br w (put4 wr g (.int .u64 (limb p' 0)) (.int .u64 (limb p' 1)) (.int .u64 (limb p' 2)) (.int .u64 (limb p' 3))) q g S p' t) := by
  have hq := b.out.hq
  have hg := b.out.hg
  exact ⟨b.out.rd.mv (put4_mv wr g _ _ _ _) (by omega), put4_heap b.out.bk _ _ _ _, (Zr.mv b.out.zr (put4_mv wr g _ _ _ _) (by omega)).out, b.out.mv.trans (put4_mv wr g _ _ _ _) (fun j hj e => by omega), hq, hg⟩
theorem Br.end {w wr : World} {q g : Nat} {S : ByteArray} {p : Nat → Bool} {t : List Nat} (b : Hid (Br w wr q g S p t)) (v0 v1 v2 v3 : Value) : Hid (Go1 q S t w (put4 wr w.heap.size v0 v1 v2 v3)) := by
  have hq := b.out.hq
  exact ⟨b.out.rd.mv (put4_mv wr w.heap.size _ _ _ _) (by omega), b.out.mv.trans (put4_mv wr w.heap.size _ _ _ _) (fun j hj e => by omega)⟩

/-- How much is left to read. -/
def left (q : Nat) (S : ByteArray) (w : World) : Nat := match w.cell? ⟨q, 1, none⟩ with
  | some v => S.size - (intOf v).toNat
  | none => 0
theorem Rd.left {q : Nat} {S : ByteArray} {l : List Nat} {w : World} (h : Rd q S l w) : left q S w = l.length := by
  obtain ⟨pre, hp⟩ := h.suf
  have hl : pre.length + l.length = S.size := by rw [← bs_length, hp]; simp
  unfold Go.Proofs.YtkclkhfcmjhogaaDoor.left
  rw [h.at_]
  simp [intOf]; omega
theorem Br.facts {w wr : World} {q g : Nat} {S : ByteArray} {p : Nat → Bool} {t : List Nat} (b : Hid (Br w wr q g S p t)) : wr.cell? ⟨g, 0, none⟩ = some (.int .u64 (limb p 0)) ∧ wr.cell? ⟨g, 1, none⟩ = some (.int .u64 (limb p 1)) ∧ wr.cell? ⟨g, 2, none⟩ = some (.int .u64 (limb p 2)) ∧ wr.cell? ⟨g, 3, none⟩ = some (.int .u64 (limb p 3)) ∧ wr.frozen? ⟨g, 0, none⟩ = false ∧ wr.frozen? ⟨g, 1, none⟩ = false ∧ wr.frozen? ⟨g, 2, none⟩ = false ∧ wr.frozen? ⟨g, 3, none⟩ = false := Bk.facts b.out.bk

set_option maxHeartbeats 2000000 in
theorem brackets_loop (q : Nat) (S : ByteArray) (l t0 : List Nat) (ot : Bool) (w : World) (hs : skp 94 l = (ot, t0)) (R : Hid (Rd q S l w)) :
    Calls Tryd.prog 115 #[.pointer (some ⟨q, 0, none⟩)] w fun e w' => Cl q S w (match brk t0 with | none => none | some (p, t) => some (if ot then no p else p, t)) e w' := by
  have HQ : Hid (q < w.heap.size) := R.out.lt
  have hk := fun W R => skip_any q S 94 l W R
  rw [hs] at hk
  clear hs
  obtain ⟨o, ho⟩ : ∃ o, o = brk t0 := ⟨_, rfl⟩
  rw [← ho]
  have HO : Hid _ := ho
  clear ho
  cases hp : prt t0 with
  | none =>
    have HP : Hid _ := hp
    clear hp
    obtain rfl : o = none := by rw [HO.out, brk, HP.out]
    go_enter Tryd.func115, Tryd.ntmps115
    go_wp2_with fail
    refine (hk _ (Rd.al R _)).mono ?_
    rintro e w1 ⟨rfl, g1⟩
    go_wp2_with fail
    refine (part_none HP.out g1.out.rd).mono ?_
    rintro e w2 ⟨rfl, g2⟩
    exact ⟨rfl, rfl, up1 (bad2 (gm g1) g2)⟩
  | some r =>
    obtain ⟨⟨a, b⟩, t⟩ := r
    have HP : Hid _ := hp
    clear hp
    go_enter Tryd.func115, Tryd.ntmps115
    go_wp2_with fail
    refine (hk _ (Rd.al R _)).mono ?_
    rintro e w1 ⟨rfl, g1⟩
    go_wp2_with fail
    refine (part_some HP.out g1.out.rd).mono ?_
    rintro e w2 ⟨rfl, g2⟩
    rw [sv_cells]
    go_wp2_with fail
    have B0 : Hid (Br w (w2.alloc (.cells #[.int .u64 (limb (btw a b) 0), .int .u64 (limb (btw a b) 1), .int .u64 (limb (btw a b) 2), .int .u64 (limb (btw a b) 3)] 25)) q w2.heap.size S (btw a b) t) := by
      have M : Hid (Mv (fun k => k = q) (w.alloc zeros) w2) := bad2 (gm g1) (gm g2)
      have hq := HQ.out
      have hz : Hid (Zr w.heap.size w2) := Zr.mv (w := w.alloc zeros) (heap_alloc_new w zeros) M.out (by omega)
      refine ⟨(Rd.al g2.out.rd _).out, heap_alloc_new _ _, (Zr.mv hz (Mv.alloc (fun _ => False) w2 _) (fun h => h)).out, (up1 M).out.trans (Mv.alloc (fun _ => False) w2 _) (fun _ _ h => h.elim), hq, (Array.getElem?_eq_some_iff.1 hz.out).1⟩
    have F0 : Hid (o = prs (t.length + 1) (btw a b) t ∧ t.length < t.length + 1) := ⟨by rw [HO.out, brk, HP.out], by omega⟩
    generalize w2.alloc (.cells #[.int .u64 (limb (btw a b) 0), .int .u64 (limb (btw a b) 1), .int .u64 (limb (btw a b) 2), .int .u64 (limb (btw a b) 3)] 25) = W2 at *
    generalize w2.heap.size = g at *
    generalize t.length + 1 = f0 at *
    generalize btw a b = p0 at *
    clear g1 g2 hk R HO HP
    go_loopw [9] (fun u wr => ∃ (p : Nat → Bool) (t : List Nat) (f : Nat), Hid (Br w wr q g S p t) ∧ Hid (o = prs f p t ∧ t.length < f)) (fun u wr => left q S wr)
    case atStart => exact ⟨_, _, _, B0, F0⟩
    case round =>
      clear B0 F0
      obtain ⟨p, t, f, B, F⟩ := hrel
      match t, B, F with
      | [], B, F =>
        obtain rfl : o = none := by rw [F.out.1]; cases f <;> rfl
        go_wp2_with fail
        refine (skip_end q S 93 _ B.out.rd).mono ?_
        rintro e w1 ⟨rfl, g1⟩
        have B1 := Br.go B g1
        obtain ⟨k0, k1, k2, k3, l0, l1, l2, l3⟩ := Br.facts B1
        go_wp2_with fail
        go_region_dies
        all_goals
          refine (part_none (l := []) rfl (Br.qt B1 (Mv.drewN _ w1 1)).out.rd).mono ?_
          rintro e w2 ⟨rfl, g2⟩
          exact ⟨rfl, rfl, bad2 (Br.qt B1 (Mv.drewN _ w1 1)).out.mv g2⟩
      | c :: u, B, F =>
        by_cases hc : c = 93
        · subst hc
          obtain rfl : o = some (p, u) := by rw [F.out.1]; obtain ⟨f, rfl⟩ : ∃ g, f = g + 1 := ⟨f - 1, by have := F.out.2; simp at this; omega⟩; simp [prs]
          cases ot with
          | true =>
            go_wp2_with fail
            refine (skip_yes q S 93 u _ B.out.rd).mono ?_
            rintro e w1 ⟨rfl, g1⟩
            have B1 := Br.go B g1
            obtain ⟨k0, k1, k2, k3, l0, l1, l2, l3⟩ := Br.facts B1
            go_wp2_with fail
            refine (not_any p _).mono ?_
            rintro e w2 ⟨rfl, g2⟩
            rw [sv_cells]
            have B2 := Br.qt B1 g2
            clear k0 k1 k2 k3 l0 l1 l2 l3
            obtain ⟨k0, k1, k2, k3, l0, l1, l2, l3⟩ := Zr.facts B2.out.zr
            go_wp2_with fail
            refine bodyPost_ret (results_cell_row (p := 2) (ty := 25) rfl _ _ w.heap.size 25 _ (0, 0) _ rfl (put4_heap B2.out.zr _ _ _ _) Tryd.underlying25 rfl (by kernel_rfl)) rfl ?_
            exact ⟨rfl, Br.end B2 _ _ _ _⟩
          | false =>
            go_wp2_with fail
            refine (skip_yes q S 93 u _ B.out.rd).mono ?_
            rintro e w1 ⟨rfl, g1⟩
            have B1 := Br.go B g1
            obtain ⟨k0, k1, k2, k3, l0, l1, l2, l3⟩ := Br.facts B1
            obtain ⟨i0, i1, i2, i3, j0, j1, j2, j3⟩ := Zr.facts B1.out.zr
            go_wp2_with fail
            refine bodyPost_ret (results_cell_row (p := 2) (ty := 25) rfl _ _ w.heap.size 25 _ (0, 0) _ rfl (put4_heap B1.out.zr _ _ _ _) Tryd.underlying25 rfl (by kernel_rfl)) rfl ?_
            exact ⟨rfl, Br.end B1 _ _ _ _⟩
        · cases hp : prt (c :: u) with
          | none =>
            obtain rfl : o = none := by
              rw [F.out.1]
              obtain ⟨f, rfl⟩ : ∃ g, f = g + 1 := ⟨f - 1, by have := F.out.2; simp at this; omega⟩
              rw [prs, if_neg hc, hp]
            have HP : Hid _ := hp
            clear hp
            go_wp2_with fail
            refine (skip_no q S 93 c u _ hc B.out.rd).mono ?_
            rintro e w1 ⟨rfl, g1⟩
            have B1 := Br.go B g1
            obtain ⟨k0, k1, k2, k3, l0, l1, l2, l3⟩ := Br.facts B1
            go_wp2_with fail
            go_region_dies
            all_goals
              refine (part_none HP.out (Br.qt B1 (Mv.drewN _ w1 1)).out.rd).mono ?_
              rintro e w2 ⟨rfl, g2⟩
              exact ⟨rfl, rfl, bad2 (Br.qt B1 (Mv.drewN _ w1 1)).out.mv g2⟩
          | some r =>
            obtain ⟨⟨a2, b2⟩, t2⟩ := r
            have F2 : Hid (∃ f2, o = prs f2 (fun x => p x || btw a2 b2 x) t2 ∧ t2.length < f2) := by
              obtain ⟨f, rfl⟩ : ∃ g, f = g + 1 := ⟨f - 1, by have := F.out.2; simp at this; omega⟩
              refine ⟨f, ?_, ?_⟩
              · rw [F.out.1, prs, if_neg hc, hp]
              · have := (prt_len hp).1; have := F.out.2; simp at *; omega
            have HL : Hid (t2.length < (c :: u).length) := (prt_len hp).1
            have HP : Hid _ := hp
            clear hp
            go_wp2_with fail
            refine (skip_no q S 93 c u _ hc B.out.rd).mono ?_
            rintro e w1 ⟨rfl, g1⟩
            have B1 : Hid (Br w w1.drew q g S p (c :: u)) := Br.qt (Br.go B g1) (Mv.drewN _ w1 1)
            obtain ⟨k0, k1, k2, k3, l0, l1, l2, l3⟩ := Br.facts (Br.go B g1)
            go_wp2_with fail
            go_region_with ((first
              | (go_at_call 118; refine (part_some HP.out B1.out.rd).mono ?_; rintro e w2 ⟨rfl, g2⟩; have B2 := Br.go B1 g2; obtain ⟨m0, m1, m2, m3, n0, n1, n2, n3⟩ := Br.facts B2)
              | (go_at_call 119; refine (or_any p (btw a2 b2) _).mono ?_; rintro e w3 ⟨rfl, g3⟩; rw [sv_cells]; have B3 := Br.qt B2 g3; obtain ⟨x0, x1, x2, x3, y0, y1, y2, y3⟩ := Br.facts B3)))
            all_goals
              have B4 := Br.put B3 (fun x => p x || btw a2 b2 x)
              have HL2 : Hid (left q S (put4 w3 g (.int .u64 (limb (fun x => p x || btw a2 b2 x) 0)) (.int .u64 (limb (fun x => p x || btw a2 b2 x) 1)) (.int .u64 (limb (fun x => p x || btw a2 b2 x) 2)) (.int .u64 (limb (fun x => p x || btw a2 b2 x) 3))) < left q S wr) := by
                show _ < _
                rw [B4.out.rd.left, B.out.rd.left]; exact HL.out
              clear k0 k1 k2 k3 l0 l1 l2 l3 m0 m1 m2 m3 n0 n1 n2 n3 x0 x1 x2 x3 y0 y1 y2 y3
              go_wp2_with fail
              obtain ⟨f2, F3⟩ := F2.out
              exact ⟨⟨_, _, f2, B4, F3⟩, HL2.out⟩

theorem brackets_any (q : Nat) (S : ByteArray) (l : List Nat) (w : World) (R : Hid (Rd q S l w)) :
    Calls Tryd.prog 115 #[.pointer (some ⟨q, 0, none⟩)] w fun e w' => Cl q S w (bks l) e w' := by
  match l, R with
  | [], R => exact brackets_loop q S [] [] false w rfl R
  | c :: l, R =>
    by_cases hc : c = 94
    · subst hc
      refine (brackets_loop q S _ l true w (by simp [skp]) R).mono ?_
      intro e w' h
      rw [bks, if_pos rfl]
      cases hb : brk l with
      | none => rw [hb] at h; exact h
      | some r => rw [hb] at h; exact h
    · refine (brackets_loop q S _ (c :: l) false w (by simp [skp, hc]) R).mono ?_
      intro e w' h
      rw [bks, if_neg hc]
      cases hb : brk (c :: l) with
      | none => rw [hb] at h; exact h
      | some r => rw [hb] at h; exact h

end Go.Proofs.YtkclkhfcmjhogaaDoor
