/- The reference's Sort. -/
import Derived.Test.YthfadeoanjjiaaaQ1
namespace Go.Proofs.Ythfadeoanjjiaaa
open Go.RowKit Srt

theorem ord_pos {x y : Nat} : 0 < ordB x y ↔ Fl.key y < Fl.key x := by
  unfold ordB cmpI
  constructor
  · intro h
    split at h
    · omega
    · split at h <;> omega
  · intro h
    rw [if_neg (by omega), if_pos (by omega)]
    omega

theorem Own.mono {w : World} {base base' n : Nat} {v : Value} {f : Nat → Nat} (h : Own w base v n f) (hb : base' ≤ base) : Own w base' v n f := by
  refine ⟨h.1, ?_⟩
  rcases h.2 with h | ⟨g, cap, cur, h1, h2, h3⟩
  · exact .inl h
  · exact .inr ⟨g, cap, cur, h1, Nat.le_trans hb h2, h3⟩
theorem Own.nil {w : World} {base n m cap : Nat} {oa : Option Addr} {f : Nat → Nat} (h : Own w base (.slice oa m cap) n f) : oa = none → m = 0 ∧ cap = 0 := by
  intro e
  rcases h.2 with ⟨h, _⟩ | ⟨g, c, cur, h, _⟩
  · cases h; exact ⟨rfl, rfl⟩
  · rw [e] at h; cases h

theorem addr_add_zero (a : Addr) : a.add 0 = a := by cases a; simp [Addr.add]
theorem size23 (w : World) : (sizeOf 23).run Try.prog w = .ok 1 w := by
  have e : Try.t23.size = 1 := by kernel_rfl
  simp [sizeOf, typeInfo, info23, e]
theorem elem22 : Try.prog.elem 22 = 23 := by kernel_rfl
theorem under22 : Try.prog.underlying 22 = some (.slice (Try.prog.elem 22)) := by rw [elem22]; exact Try.underlying22

theorem slice_lo (oa : Option Addr) (i ocap k : Nat) (hk : k ≤ ocap) (w : World) : (Instr.slice 22 (.slice oa i ocap) none (some (.int .i64 (k : Int))) none).run Try.prog w = .ok (.slice oa k ocap) w := by
  rw [run_slice_h w 22 oa i ocap under22 .i64 k (by omega) (by omega), elem22, size23]
  simp only [Result.andThen_ok, sliced, Int.toNat_natCast, Nat.sub_zero, Nat.zero_mul]
  split
  · rfl
  · cases oa with
    | none => rfl
    | some a => simp [addr_add_zero]
theorem slice_hi (oa : Option Addr) (i ocap k : Nat) (hk : k ≤ i) (hnone : oa = none → i = 0 ∧ ocap = 0) (hio : i ≤ ocap) : ∃ oa2, (∀ w, (Instr.slice 22 (.slice oa i ocap) (some (.int .i64 (k : Int))) none none).run Try.prog w = .ok (.slice oa2 (i - k) (ocap - k)) w) ∧ (∀ w g, Sl w oa i g → Sl w oa2 (i - k) (fun j => g (k + j))) ∧ (oa2 = none → i - k = 0 ∧ ocap - k = 0) := by
  refine ⟨if ocap = k then oa else oa.map (·.add (k * 1)), ?_, ?_, ?_⟩
  · intro w
    rw [run_slice_l w 22 oa i ocap under22 .i64 k (by omega) (by omega), elem22, size23]
    simp only [Result.andThen_ok, sliced, Int.toNat_natCast]
  · intro w g h j hj
    rw [if_neg (by omega), Nat.mul_one]
    obtain ⟨b, off, e, hb, hc⟩ := h (k + j) (by omega)
    refine ⟨b, off + k, ?_, hb, ?_⟩
    · rw [e, Option.map_some, addr_add]
    · rw [Nat.add_assoc]; exact hc
  · intro h
    cases oa with
    | none => have := hnone rfl; omega
    | some a =>
      split at h
      · cases h
      · cases h

/-- What the reference has put in order so far. -/
def Sofar (w : World) (f : Nat → Nat) (i : Nat) (v : Value) (wr : World) : Prop := ∃ g, Own wr w.heap.size v i g ∧ (row g i).Perm (row f i) ∧ Up Fl.key g 0 i ∧ (∀ j, Fl.Ok (g j))

theorem put_ok {g : Nat → Nat} {k x : Nat} (hg : ∀ j, Fl.Ok (g j)) (hx : Fl.Ok x) (j : Nat) : Fl.Ok (put g k x j) := by
  rw [put_at]
  split
  · exact hg _
  · split
    · exact hx
    · exact hg _

set_option maxRecDepth 100000 in
set_option maxHeartbeats 16000000 in
theorem refSort_any (a : Option Addr) (n cap : Nat) (f : Nat → Nat) (w : World) (hn : n < 100) (hl : Hid (Sl w a n f)) (hf : Hid (∀ i, Fl.Ok (f i))) :
    Calls Try.prog 21 #[.slice a n cap] w fun e w' => ∃ v, e = .returned v ∧ Hid (Sofar w f n v w') ∧ Hid (Below w.heap.size w w') := by
  go_enter Try.func21, Try.ntmps21
  go_wp2_with fail
  go_loopw [3, 4] (fun vo vi wr => ∃ (i : Nat) (v : Value), i ≤ n ∧ vi = .int .i64 i ∧ vo = v ∧ Hid (Sofar w f i v wr) ∧ Hid (Below w.heap.size w wr)) (fun _ vi _ => n - (intOf vi).toNat)
  case atStart => exact ⟨0, .slice none 0 0, by omega, rfl, rfl, ⟨fun _ => 0, World.ownsRow_nil w _ _ _, List.Perm.refl _, fun p q _ _ h => by omega, fun j => by show (0 : Nat) < _; omega⟩, Below.refl _ _⟩
  case round =>
    obtain ⟨i, v, hi, rfl, rfl, hS, hL⟩ := hrel
    by_cases hlt : i < n
    · have hltz : (i : Int) < (n : Int) := by omega
      obtain ⟨lb, lo, rfl, hlb, hc0⟩ := hl.out i hlt
      clear hc0
      obtain ⟨g, hO, hP, hU, hG⟩ := hS.out
      obtain ⟨oa, ocap, rfl, hsl, hoc⟩ := hO.sl
      have O : Hid (Own wr w.heap.size (.slice oa i ocap) i g) := hO
      have PM : Hid ((row g i).Perm (row f i)) := hP
      have U : Hid (Up Fl.key g 0 i) := hU
      have G : Hid (∀ j, Fl.Ok (g j)) := hG
      clear hO hP hU hG hsl hS
      obtain ⟨x, hx⟩ : ∃ x, x = f i := ⟨_, rfl⟩
      have HX : Hid (x = f i) := hx
      have ok : Hid (Fl.Ok x) := by show Fl.Ok x; rw [hx]; exact hf.out i
      clear hx
      go_wp2_with fail
      go_loopw [5] (fun vk wr2 => ∃ (k : Nat), k ≤ i ∧ vk = .int .i64 k ∧ Hid (∀ j, k ≤ j → j < i → Fl.key x ≤ Fl.key (g j)) ∧ Hid (Own wr2 w.heap.size (.slice oa i ocap) i g) ∧ Hid (Below w.heap.size w wr2)) (fun vk _ => (intOf vk).toNat)
      case atStart => exact ⟨i, Nat.le_refl _, rfl, fun j h1 h2 => by omega, O, hL⟩
      case round =>
        obtain ⟨k, hk, rfl, hK, O2, L2⟩ := hrel
        obtain ⟨lb', lo', e, _, hc0⟩ := hl.out i hlt
        cases e
        have hc := (L2.out.cell (p := ⟨lb, lo + i, none⟩) hlb).trans hc0
        rw [← HX.out] at hc
        clear hc0
        by_cases hk0 : 0 < k
        · obtain ⟨p, hp⟩ : ∃ p, k = p + 1 := ⟨k - 1, by omega⟩
          have z0 : (k : Int) - 1 = (p : Int) := by omega
          have z1 : (0 : Int) < (k : Int) := by omega
          have z2 : (p : Int) < (i : Int) := by omega
          have hp1 : p < k := by omega
          have HP : Hid (k = p + 1) := hp
          clear hp
          obtain ⟨oa', ocap', e, hsl, _⟩ := O2.out.sl
          cases e
          obtain ⟨ob, oo, e2, _, hco⟩ := hsl p (by omega)
          have og : Hid (Fl.Ok (g p)) := G.out p
          by_cases hlv : 0 < ordB (g p) x
          · have n1 : Hid (∀ j, p ≤ j → j < i → Fl.key x ≤ Fl.key (g j)) := fun j h1 h2 => by
              by_cases e : j = p
              · subst e; exact Nat.le_of_lt (ord_pos.1 hlv)
              · exact hK.out j (by have := HP.out; omega) h2
            generalize g p = y at hco og hlv
            subst e2
            clear hsl
            go_wp2_with fail
            go_quiet ((first | (go_at_call 22; exact Calls.quiet_of_same (refOrder_any _ _ og.out ok.out _))))
            go_wp2_with fail
            go_roundw
            case rel => exact ⟨p, by omega, by go_num, n1, O2, L2.out.trans (below_drewN _ _ _)⟩
            case measure => simp [intOf]; omega
          · have n1 : Hid (∀ j, j < k → Fl.key (g j) ≤ Fl.key x) := fun j h1 => Nat.le_trans (U.out.le (q := p) (by omega) (by have := HP.out; omega) (by omega)) (by have := mt ord_pos.2 hlv; omega)
            have hd : decide (0 < ordB (g p) x) = false := decide_eq_false hlv
            generalize g p = y at hco og hlv hd
            subst e2
            clear hsl
            go_wp2_with fail
            go_quiet ((first | (go_at_call 22; exact Calls.quiet_of_same (refOrder_any _ _ og.out ok.out _))))
            have O3 : Hid (Own (wr.drewN nq) w.heap.size (.slice (some ⟨ob, oo, none⟩) i ocap) i g) := O2
            clear hco z0 z1 z2 hlv hd og
            have L3 : Hid (Below w.heap.size w (wr.drewN nq)) := L2.out.trans (below_drewN _ _ _)
            have hc3 : (wr.drewN nq).cell? ⟨lb, lo + i, none⟩ = some (.float .f64 x) := hc
            clear hc O2 L2
            generalize wr.drewN nq = wq at *
            have hs1 := slice_lo (some (⟨ob, oo, none⟩ : Addr)) i ocap k (by omega)
            obtain ⟨oa2, hs2, hs3, hs4⟩ := slice_hi (some (⟨ob, oo, none⟩ : Addr)) i ocap k hk O3.out.nil hoc
            have S0 : Sl wq (some (⟨ob, oo, none⟩ : Addr)) i g := by
              obtain ⟨oa', ocap', e, hsl, _⟩ := O3.out.sl
              cases e
              exact hsl
            have SA : Hid (Sl wq (some (⟨ob, oo, none⟩ : Addr)) k g) := fun j hj => S0 j (by omega)
            have SB : Hid (Sl wq oa2 (i - k) (fun j => g (k + j))) := hs3 wq g S0
            have NA : Hid ((some (⟨ob, oo, none⟩ : Addr)) = none → k = 0 ∧ ocap = 0) := fun h => by have := O3.out.nil h; omega
            have NB : Hid (oa2 = none → i - k = 0 ∧ ocap - k = 0) := hs4
            clear hs3 hs4 S0
            have wlt : lb < wq.heap.size := Nat.lt_of_lt_of_le hlb L3.out.size
            have FIN : Hid (∀ v W, Own W wq.heap.size v (i + 1) (put g k x) → Sofar w f (i + 1) v W) := fun v W h => ⟨_, h.mono L3.out.size, by rw [HX.out]; exact put_perm PM.out hk, put_up U.out hk n1.out hK.out, put_ok G.out ok.out⟩
            go_wp2_with fail
            go_region_held3 (fun w' => w'.cell? ⟨lb, lo + i, none⟩ = some (.float .f64 x)) (first | go_keep | exact (bel3.cell (p := ⟨lb, lo + i, none⟩) wlt).trans hc3 | exact (bel2.cell (p := ⟨lb, lo + i, none⟩) wlt).trans hc3 | exact (bel1.cell (p := ⟨lb, lo + i, none⟩) wlt).trans hc3)
              ((first
                | (refine step_append_sl (by rfl) (.tmp 31) (.tmp 34) (by rfl) wq.heap.size wq (.slice (some ⟨_, 0, none⟩) 0 0) 0 g (some (⟨ob, oo, none⟩ : Addr)) k ocap g k g (by rfl) (by rfl) (by first | exact own_empty' _ _ _ (by simp) (by simp) _ | exact World.ownsRow.alloc (own_empty' _ _ _ (by simp) (by simp) _) _) (SA.out.below (by first | exact (Below.refl _ _).alloc (by simp) _ | exact (((Below.refl _ _).alloc (by simp) _).alloc (by simp) _) | exact ((Below.refl _ _).drew.alloc (by simp) _) | exact (((Below.refl _ _).drew.alloc (by simp) _).alloc (by simp) _) | exact ((Below.refl _ _).alloc (by simp) _).drew | exact (((Below.refl _ _).alloc (by simp) _).alloc (by simp) _).drew)) (by omega) NA.out (by first | exact (Below.refl _ _).alloc (by simp) _ | exact (((Below.refl _ _).alloc (by simp) _).alloc (by simp) _) | exact ((Below.refl _ _).drew.alloc (by simp) _) | exact (((Below.refl _ _).drew.alloc (by simp) _).alloc (by simp) _) | exact ((Below.refl _ _).alloc (by simp) _).drew | exact (((Below.refl _ _).alloc (by simp) _).alloc (by simp) _).drew) (Nat.le_refl _) (Nat.zero_add _) (cat_zero _ _) ?_; intro v1 W1 own1 gr1 bel1)
                | (refine step_append_sl (by rfl) (.tmp 35) (.tmp 40) (by rfl) wq.heap.size wq v1 k g (some ⟨_, 0, none⟩) 1 1 (at' [x]) (k + 1) (cat g k (at' [x])) (by rfl) (by rfl) (by first | exact own1 | exact World.ownsRow.alloc own1 _) (by first | exact sl_one _ _ _ (by simp) | exact Sl.grown (sl_one_drew _ _ _ (by simp)) gr1 (by intro p hp; cases hp; simp [Value.ownBlock]) | exact Sl.grown (sl_one_past _ _ _ _ (by simp)) gr1 (by intro p hp; cases hp; simp [Value.ownBlock])) (by omega) (fun h => by cases h) (by first | exact bel1 | exact bel1.alloc bel1.size _) (Nat.le_refl _) rfl rfl ?_; intro v2 W2 own2 gr2 bel2)
                | (refine step_append_sl (by rfl) (.tmp 41) (.tmp 44) (by rfl) wq.heap.size wq v2 (k + 1) (cat g k (at' [x])) oa2 (i - k) (ocap - k) (fun j => g (k + j)) (i + 1) (put g k x) (by rfl) (by rfl) own2 (SB.out.below bel2) (by omega) NB.out bel2 (Nat.le_refl _) (by omega) rfl ?_; intro v3 W3 own3 gr3 bel3)))
            all_goals go_wp2
            all_goals exact ⟨⟨i + 1, v3, by omega, by simp, rfl, FIN.out v3 W3 own3, L3.out.trans (bel3.mono L3.out.size)⟩, by simp [intOf]; omega⟩
        · have k0 : k = 0 := by omega
          have n1 : Hid (∀ j, j < k → Fl.key (g j) ≤ Fl.key x) := fun j h1 => by omega
          have z1 : decide ((k : Int) > 0) = false := decide_eq_false (by omega)
          have z2 : ¬ (0 : Int) < (k : Int) := by omega
          have K0 : Hid _ := k0
          clear k0
          go_wp2_with fail
          go_quiet ((first | (go_at_call 22; fail)))
          have O3 : Hid (Own (wr.drewN nq) w.heap.size (.slice oa i ocap) i g) := O2
          clear z1 z2
          have L3 : Hid (Below w.heap.size w (wr.drewN nq)) := L2.out.trans (below_drewN _ _ _)
          have hc3 : (wr.drewN nq).cell? ⟨lb, lo + i, none⟩ = some (.float .f64 x) := hc
          clear hc O2 L2
          generalize wr.drewN nq = wq at *
          have hs1 := slice_lo oa i ocap k (by omega)
          obtain ⟨oa2, hs2, hs3, hs4⟩ := slice_hi oa i ocap k hk O3.out.nil hoc
          have S0 : Sl wq oa i g := by
            obtain ⟨oa', ocap', e, hsl, _⟩ := O3.out.sl
            cases e
            exact hsl
          have SA : Hid (Sl wq oa k g) := fun j hj => S0 j (by omega)
          have SB : Hid (Sl wq oa2 (i - k) (fun j => g (k + j))) := hs3 wq g S0
          have NA : Hid (oa = none → k = 0 ∧ ocap = 0) := fun h => by have := O3.out.nil h; omega
          have NB : Hid (oa2 = none → i - k = 0 ∧ ocap - k = 0) := hs4
          clear hs3 hs4 S0
          have wlt : lb < wq.heap.size := Nat.lt_of_lt_of_le hlb L3.out.size
          have FIN : Hid (∀ v W, Own W wq.heap.size v (i + 1) (put g k x) → Sofar w f (i + 1) v W) := fun v W h => ⟨_, h.mono L3.out.size, by rw [HX.out]; exact put_perm PM.out hk, put_up U.out hk n1.out hK.out, put_ok G.out ok.out⟩
          go_wp2_with fail
          go_region_held3 (fun w' => w'.cell? ⟨lb, lo + i, none⟩ = some (.float .f64 x)) (first | go_keep | exact (bel3.cell (p := ⟨lb, lo + i, none⟩) wlt).trans hc3 | exact (bel2.cell (p := ⟨lb, lo + i, none⟩) wlt).trans hc3 | exact (bel1.cell (p := ⟨lb, lo + i, none⟩) wlt).trans hc3)
            ((first
              | (refine step_append_sl (by rfl) (.tmp 31) (.tmp 34) (by rfl) wq.heap.size wq (.slice (some ⟨_, 0, none⟩) 0 0) 0 g oa k ocap g k g (by rfl) (by rfl) (by first | exact own_empty' _ _ _ (by simp) (by simp) _ | exact World.ownsRow.alloc (own_empty' _ _ _ (by simp) (by simp) _) _) (SA.out.below (by first | exact (Below.refl _ _).alloc (by simp) _ | exact (((Below.refl _ _).alloc (by simp) _).alloc (by simp) _) | exact ((Below.refl _ _).drew.alloc (by simp) _) | exact (((Below.refl _ _).drew.alloc (by simp) _).alloc (by simp) _) | exact ((Below.refl _ _).alloc (by simp) _).drew | exact (((Below.refl _ _).alloc (by simp) _).alloc (by simp) _).drew)) (by omega) NA.out (by first | exact (Below.refl _ _).alloc (by simp) _ | exact (((Below.refl _ _).alloc (by simp) _).alloc (by simp) _) | exact ((Below.refl _ _).drew.alloc (by simp) _) | exact (((Below.refl _ _).drew.alloc (by simp) _).alloc (by simp) _) | exact ((Below.refl _ _).alloc (by simp) _).drew | exact (((Below.refl _ _).alloc (by simp) _).alloc (by simp) _).drew) (Nat.le_refl _) (Nat.zero_add _) (cat_zero _ _) ?_; intro v1 W1 own1 gr1 bel1)
              | (refine step_append_sl (by rfl) (.tmp 35) (.tmp 40) (by rfl) wq.heap.size wq v1 k g (some ⟨_, 0, none⟩) 1 1 (at' [x]) (k + 1) (cat g k (at' [x])) (by rfl) (by rfl) (by first | exact own1 | exact World.ownsRow.alloc own1 _) (by first | exact sl_one _ _ _ (by simp) | exact Sl.grown (sl_one_drew _ _ _ (by simp)) gr1 (by intro p hp; cases hp; simp [Value.ownBlock]) | exact Sl.grown (sl_one_past _ _ _ _ (by simp)) gr1 (by intro p hp; cases hp; simp [Value.ownBlock])) (by omega) (fun h => by cases h) (by first | exact bel1 | exact bel1.alloc bel1.size _) (Nat.le_refl _) rfl rfl ?_; intro v2 W2 own2 gr2 bel2)
              | (refine step_append_sl (by rfl) (.tmp 41) (.tmp 44) (by rfl) wq.heap.size wq v2 (k + 1) (cat g k (at' [x])) oa2 (i - k) (ocap - k) (fun j => g (k + j)) (i + 1) (put g k x) (by rfl) (by rfl) own2 (SB.out.below bel2) (by omega) NB.out bel2 (Nat.le_refl _) (by omega) rfl ?_; intro v3 W3 own3 gr3 bel3)))
          all_goals go_wp2
          all_goals exact ⟨⟨i + 1, v3, by omega, by simp, rfl, FIN.out v3 W3 own3, L3.out.trans (bel3.mono L3.out.size)⟩, by simp [intOf]; omega⟩
    · have hltz : ¬ (i : Int) < (n : Int) := by omega
      obtain rfl : i = n := by omega
      go_wp2
      go_ret
      exact ⟨_, rfl, hS, hL⟩

end Go.Proofs.Ythfadeoanjjiaaa
