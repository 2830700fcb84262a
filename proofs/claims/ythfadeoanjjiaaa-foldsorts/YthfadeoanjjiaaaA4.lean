/- FoldSorts: the call returns true. -/
import Derived.Test.YthfadeoanjjiaaaA3
namespace Go.Proofs.Ythfadeoanjjiaaa
open Go.RowKit Srt

theorem floats_room {H : Type} {enc : TypeId × Value → H} {P : Program} {w : World} {base : Nat} {spare : Nat → Bool} {held : Bool} {t e : TypeId} {fuel : Nat} {a : Option Addr} {len cap : Nat} {x : DataW H × List MemPlace} (ht : P.underlying t = some (.slice e)) (hc : P.cellsOf e = 1)
    (h : DataW.trod enc P w base spare held fuel t [.slice a len cap] = some x) : len ≤ cap := by
  rcases Go.Deep.open_slice1 ht hc h with ⟨h0, _⟩ | ⟨a', len', cap', m, n, V, D, Pl, hcs, _, hl, _⟩
  · simp at h0
    omega
  · simp only [List.cons.injEq, Value.slice.injEq, and_true] at hcs
    obtain ⟨_, rfl, rfl⟩ := hcs
    exact hl

theorem eq_same' {t : Nat} (ht : Fl.Ok t) (h : Fl.nan t = false) : (FloatKind.f64.format.order t t == some .eq) = true := by rw [c_eqself ht, h]; rfl

/-- A list that begins with its k-th, and goes on from the front. -/
theorem turned_perm {f : Nat → Nat} {n k : Nat} (h : k ≤ n) : (row (cat (fun j => f (k + j)) (n - k) f) n).Perm (row f n) := by
  have e : row (cat (fun j => f (k + j)) (n - k) f) n = row (fun j => f (k + j)) (n - k) ++ row f k := by
    have := row_cat (fun j => f (k + j)) f (n - k) k
    rw [show n - k + k = n from by omega] at this
    exact this
  rw [e, ← row_shift f h]
  exact List.perm_append_comm

theorem ext_le {f : Nat → Nat} {n x y : Nat} (h : Ext (-1) f n x true) (k : Ext 1 f n y true) : ordB x y ≤ 0 ∧ Fl.nan y = false := by
  rcases h with ⟨h, _⟩ | ⟨_, _, _, h4⟩
  · cases h
  · rcases k with ⟨k, _⟩ | ⟨_, ⟨j, hj, k2⟩, k3, _⟩
    · cases k
    · refine ⟨?_, k3⟩
      have := h4 j hj (by rw [← k2]; exact k3)
      rw [← k2] at this
      have a := ord_anti x y
      have t := ord_three x y
      omega
theorem least_same {f g : Nat → Nat} {n x : Nat} (p : (row g n).Perm (row f n)) (u : Up Fl.key g 0 n) (ok : ∀ i, Fl.Ok (g i)) (hn : 0 < n) (h : Ext (-1) f n x true) : ordB x (g 0) = 0 := by
  cases e : Fl.nan (g 0)
  · exact (ext_uniq (.inl rfl) h (least_some p u hn e) (fun i hi => ⟨i, hi, rfl⟩) (fun i hi => ⟨i, hi, rfl⟩)).2
  · have := (ext_uniq (.inl rfl) h (least_none p u ok (.inr e)) (fun i hi => ⟨i, hi, rfl⟩) (fun i hi => ⟨i, hi, rfl⟩)).1
    cases this
theorem least_nan {f g : Nat → Nat} {n x : Nat} (p : (row g n).Perm (row f n)) (hn : 0 < n) (h : Ext (-1) f n x false) : Fl.nan (g 0) = true := by
  rcases h with ⟨_, _, h⟩ | ⟨h, _⟩
  · obtain ⟨j, hj, e⟩ := perm_has p.symm 0 hn
    rw [← e]; exact h j hj
  · cases h

theorem sort_own {W : World} {base n : Nat} {v : Value} {f : Nat → Nat} (h : Own W base v n f) (hn : n < 40) (hf : ∀ i, Fl.Ok (f i)) :
    Calls Try.prog 20 #[v] W fun e w' => ∃ blk, e = .returned (.slice (some ⟨blk, 0, none⟩) n n) ∧ Hid (∃ g, Sl w' (some ⟨blk, 0, none⟩) n g ∧ (row g n).Perm (row f n) ∧ Up Fl.key g 0 n ∧ ∀ i, Fl.Ok (g i)) ∧ Hid (Below W.heap.size W w') := by
  obtain ⟨a, cap, rfl, hs, _⟩ := h.sl
  refine (sort_any a n cap f W hn hs hf).mono ?_
  rintro e w' ⟨blk, rfl, _, ⟨g, g1, g2, g3⟩, hb⟩
  exact ⟨blk, rfl, ⟨g, g1.sl, g2.perm, g3, g2.everywhere hf⟩, hb⟩

set_option maxRecDepth 100000 in
set_option maxHeartbeats 4000000 in
theorem sorts_short (a0 : Option Addr) (n cap : Nat) (D : Int) (w : World) (h : n = 0 ∨ 30 < n) : Calls Try.prog 4 #[.slice a0 n cap, .int .u8 D] w fun e w' => e = .returned (.bool true) ∧ Below w.heap.size w w' := by
  rcases h with h | h
  · have z : ((n : Int) == 0) = true := by rw [beq_iff_eq]; omega
    clear h
    go_enter Try.func4, Try.ntmps4
    go_wp2_with fail
    refine (begun_any _).mono ?_
    rintro e w1 ⟨rfl, hb1⟩
    have B1 : Hid _ := hb1
    clear hb1
    go_wp2_with fail
    go_ret
    exact ⟨rfl, B1.out⟩
  · have z : ((n : Int) == 0) = false := by rw [beq_eq_false_iff_ne]; omega
    have z2 : 30 < (n : Int) := by omega
    go_enter Try.func4, Try.ntmps4
    go_wp2_with fail
    refine (begun_any _).mono ?_
    rintro e w1 ⟨rfl, hb1⟩
    have B1 : Hid _ := hb1
    clear hb1
    go_wp2_with fail
    go_ret
    exact ⟨rfl, B1.out⟩

set_option maxRecDepth 100000 in
set_option maxHeartbeats 8000000 in
theorem sorts_walk (a0 : Option Addr) (n cap d : Nat) (f : Nat → Nat) (w : World) (h0 : 0 < n) (hn : n ≤ 30) (hd : d < 256) (L : Hid (Sl w a0 n f)) (F : Hid (∀ i, Fl.Ok (f i))) (NN : Hid (a0 = none → n = 0 ∧ cap = 0)) (hcap : n ≤ cap) : Calls Try.prog 4 #[.slice a0 n cap, .int .u8 d] w fun e w' => e = .returned (.bool true) ∧ Below w.heap.size w w' := by
  have z : ((n : Int) == 0) = false := by rw [beq_eq_false_iff_ne]; omega
  have z2 : ¬ 30 < (n : Int) := by omega
  have big : n < 4611686018427387904 := by omega
  have h40 : n < 40 := by omega
  obtain ⟨k, hk⟩ : ∃ k, k = d % n := ⟨_, rfl⟩
  have ek : (d : Int) % (n : Int) = (k : Int) := by rw [hk]; omega
  have hkn : k < n := by rw [hk]; exact Nat.mod_lt _ h0
  clear hk
  have hs1 := slice_lo a0 n cap k (by omega)
  obtain ⟨a2, hs2, hs3, hs4⟩ := slice_hi a0 n cap k (by omega) NN.out hcap
  have S3 : Hid _ := hs3
  have N3 : Hid _ := hs4
  have NA : Hid (a0 = none → k = 0 ∧ cap = 0) := fun h => by have := NN.out h; omega
  clear hs3 hs4
  go_enter Try.func4, Try.ntmps4
  go_wp2_with fail
  refine (begun_any _).mono ?_
  rintro e w1 ⟨rfl, hb1⟩
  have B1 : Hid (Below w.heap.size w w1) := hb1
  have L1 : Hid (Sl w1 a0 n f) := L.out.below hb1
  clear hb1
  go_wp2_with fail
  refine (sort_any _ n _ _ _ h40 L1 F).mono ?_
  rintro e w2 ⟨blk, rfl, _, ⟨g, g1, g2, g3⟩, hb2⟩
  have G1 : Hid (Sl w2 (some ⟨blk, 0, none⟩) n g) := g1.sl
  have G2 : Hid ((row g n).Perm (row f n)) := g2.perm
  have G3 : Hid (Up Fl.key g 0 n) := g3
  have G4 : Hid (∀ i, Fl.Ok (g i)) := g2.everywhere F.out
  have B2 : Hid (Below w.heap.size w w2) := chain B1.out hb2.out
  have L2 : Hid (Sl w2 a0 n f) := L.out.below B2.out
  clear hb2 B1 L1 g1 g2 g3
  have SA : Hid (Sl w2 a0 k f) := fun j hj => L2.out j (by omega)
  have SB : Hid (Sl w2 a2 (n - k) (fun j => f (k + j))) := S3.out w2 f L2.out
  have FT : Hid (∀ i, Fl.Ok (cat (fun j => f (k + j)) (n - k) f i)) := cat_ok (fun i => F.out _) F.out
  go_wp2_with fail
  go_region_held3 (fun _ => True) (first | trivial | go_keep)
    ((first
      | (refine step_append_sl (by rfl) (.tmp 30) (.tmp 33) (by rfl) w2.heap.size w2 (.slice (some ⟨_, 0, none⟩) 0 0) 0 f a2 (n - k) (cap - k) (fun j => f (k + j)) (n - k) (fun j => f (k + j)) (by rfl) (by rfl) (by first | exact own_empty' _ _ _ (by simp) (by simp) _ | exact World.ownsRow.alloc (own_empty' _ _ _ (by simp) (by simp) _) _) (SB.out.below (by first | exact (Below.refl _ _).alloc (by simp) _ | exact (((Below.refl _ _).alloc (by simp) _).alloc (by simp) _) | exact ((Below.refl _ _).drew.alloc (by simp) _) | exact (((Below.refl _ _).drew.alloc (by simp) _).alloc (by simp) _) | exact ((Below.refl _ _).alloc (by simp) _).drew | exact (((Below.refl _ _).alloc (by simp) _).alloc (by simp) _).drew)) (by omega) N3.out (by first | exact (Below.refl _ _).alloc (by simp) _ | exact (((Below.refl _ _).alloc (by simp) _).alloc (by simp) _) | exact ((Below.refl _ _).drew.alloc (by simp) _) | exact (((Below.refl _ _).drew.alloc (by simp) _).alloc (by simp) _) | exact ((Below.refl _ _).alloc (by simp) _).drew | exact (((Below.refl _ _).alloc (by simp) _).alloc (by simp) _).drew) (Nat.le_refl _) (Nat.zero_add _) (cat_zero _ _) ?_; intro v1 W1 own1 gr1 bel1)
      | (refine step_append_sl (by rfl) (.tmp 34) (.tmp 37) (by rfl) w2.heap.size w2 v1 (n - k) (fun j => f (k + j)) a0 k cap f n (cat (fun j => f (k + j)) (n - k) f) (by rfl) (by rfl) own1 (SA.out.below bel1) (by omega) NA.out bel1 (Nat.le_refl _) (by omega) rfl ?_; intro v2 W2 own2 gr2 bel2)
      | (go_at_call 20; refine (sort_own own2 h40 FT.out).mono ?_; rintro e w3 ⟨blk2, rfl, hs5, hb3⟩)))
  obtain ⟨h, q1, q2, q3, q4⟩ := hs5.out
  have H1 : Hid (Sl w3 (some ⟨blk2, 0, none⟩) n h) := q1
  have HS : Hid (∀ i, i < n → ordB (g i) (h i) = 0) := sorted_same G2.out (q2.trans (turned_perm (by omega))) G3.out q3
  have H4 : Hid (∀ i, Fl.Ok (h i)) := q4
  have C3 : Hid (Below w2.heap.size w2 w3) := bel2.trans (hb3.out.mono bel2.size)
  have B3 : Hid (Below w.heap.size w w3) := chain B2.out C3.out
  have G5 : Hid (Sl w3 (some ⟨blk, 0, none⟩) n g) := G1.out.below C3.out
  clear q1 q2 q3 q4 hs5 hb3 bel1 bel2 own1 own2 gr1 gr2 B2 L2 SA SB G1 C3
  go_wp2_with fail
  refine (sameAll_any _ _ n _ _ g h _ (by omega) G5 H1 G4 H4 HS).mono ?_
  rintro e w4 ⟨rfl, hb4⟩
  have B4 : Hid (Below w.heap.size w w4) := chain B3.out hb4
  have G6 : Hid (Sl w4 (some ⟨blk, 0, none⟩) n g) := G5.out.below hb4
  clear hb4 B3 G5 H1 HS H4
  go_wp2_with fail
  go_loopw [8] (fun vi wr => ∃ (i : Nat), 1 ≤ i ∧ i ≤ n ∧ vi = .int .i64 i ∧ Hid (Sl wr (some ⟨blk, 0, none⟩) n g) ∧ Hid (Below w.heap.size w wr)) (fun vi _ => n - (intOf vi).toNat)
  case atStart => exact ⟨1, by omega, by omega, rfl, G6, B4⟩
  case round =>
    obtain ⟨i, hi1, hi2, rfl, hS, hL⟩ := hrel
    by_cases hlt : i < n
    · obtain ⟨p, rfl⟩ : ∃ p, i = p + 1 := ⟨i - 1, by omega⟩
      have y1 : (p : Int) + 1 < (n : Int) := by omega
      obtain ⟨b1, o1, e1, _, c1⟩ := hS.out p (by omega)
      cases e1
      obtain ⟨b2, o2, e2, _, c2⟩ := hS.out (p + 1) hlt
      cases e2
      rw [Nat.zero_add] at c1 c2
      have ok1 : Hid (Fl.Ok (g p)) := G4.out p
      have ok2 : Hid (Fl.Ok (g (p + 1))) := G4.out (p + 1)
      have hle : ¬ 0 < ordB (g p) (g (p + 1)) := by rw [ord_pos]; have := G3.out p (p + 1) (by omega) (by omega) hlt; omega
      have hdd : decide (0 < ordB (g p) (g (p + 1))) = false := decide_eq_false hle
      generalize g p = x at c1 ok1 hle hdd
      generalize g (p + 1) = y at c2 ok2 hle hdd
      go_wp2_with fail
      go_quiet ((first | (go_at_call 22; exact Calls.quiet_of_same (refOrder_any _ _ ok1.out ok2.out _))))
      have S9 : Hid (Sl (wr.drewN nq) (some ⟨blk, 0, none⟩) n g) := hS.out
      have L9 : Hid (Below w.heap.size w (wr.drewN nq)) := hL.out.trans (below_drewN _ _ _)
      go_wp2_with fail
      exact ⟨⟨p + 1 + 1, by omega, by omega, by simp, S9, L9⟩, by simp [intOf]; omega⟩
    · have y1 : ¬ (i : Int) < (n : Int) := by omega
      obtain rfl : i = n := by omega
      have L5 : Hid (Sl wr a0 i f) := L.out.below hL.out
      go_wp2_with fail
      refine (least_any _ i cap f _ big L5 F).mono ?_
      rintro e wx ⟨⟨x, is, rfl, hx⟩, hwx⟩
      obtain rfl := hwx.symm
      clear hwx
      go_wp2_with fail
      refine (most_any _ i cap f _ big L5 F).mono ?_
      rintro e wx ⟨⟨y, iy, rfl, hy⟩, hwx⟩
      obtain rfl := hwx.symm
      clear hwx
      obtain rfl := ext_sides hx.out hy.out
      obtain ⟨b1, o1, e1, _, c1⟩ := hS.out 0 h0
      cases e1
      have c0 : wr.cell? ⟨blk, 0, none⟩ = some (.float .f64 (g 0)) := c1
      clear c1
      have yz : (0 : Int) < (i : Int) := by omega
      have ok1 : Hid (Fl.Ok (g 0)) := G4.out 0
      have okx : Hid (Fl.Ok x) := hx.out.ok F.out
      have oky : Hid (Fl.Ok y) := hy.out.ok F.out
      cases is
      · have hng := least_nan G2.out h0 hx.out
        have cs := (Fl.c_self ok1.out).trans hng
        clear hng
        generalize g 0 = u at *
        go_wp2_with fail
        go_quiet (fail)
        go_wp2_with fail
        go_ret
        exact ⟨rfl, hL.out.trans (below_drewN _ _ _)⟩
      · have E1 : Hid _ := same_true (least_same G2.out G3.out G4.out h0 hx.out)
        obtain ⟨q5, q6⟩ := ext_le hx.out hy.out
        have ey := eq_same' oky.out q6
        clear q6
        generalize g 0 = u at *
        go_wp2_with fail
        refine (refSame_any x u okx.out ok1.out _).mono ?_
        rintro e wx ⟨rfl, hwx⟩
        obtain rfl := hwx.symm
        clear hwx
        rw [E1.out]
        go_wp2_with fail
        refine (refOrder_any x y okx.out oky.out _).mono ?_
        rintro e wx ⟨rfl, hwx⟩
        obtain rfl := hwx.symm
        clear hwx
        go_wp2_with fail
        go_ret
        exact ⟨rfl, hL.out⟩

theorem foldSorts_row (a0 : Option Addr) (n cap : Nat) (f : Nat → Nat) {w : World} (L : Sl w a0 n f) (F : ∀ i, Fl.Ok (f i)) (NN : a0 = none → n = 0 ∧ cap = 0) (hcap : n ≤ cap) (D : Int) (hD : (Lit.int .u8 D).wf = true) (w' : World) (e : w' = w) : Calls Try.prog 4 #[.slice a0 n cap, .int .u8 D] w' fun e w1 => e = .returned (.bool true) ∧ Below w'.heap.size w' w1 := by
  subst e
  by_cases h : n = 0 ∨ 30 < n
  · exact sorts_short a0 n cap D _ h
  · have hD2 : 0 ≤ D ∧ D ≤ 255 := by simpa [Lit.wf, IntKind.min, IntKind.max, IntKind.signed, IntKind.bits] using hD
    obtain ⟨d, rfl⟩ := Int.eq_ofNat_of_zero_le hD2.1
    exact sorts_walk a0 n cap d f _ (by omega) (by omega) (by omega) L F NN hcap

end Go.Proofs.Ythfadeoanjjiaaa
