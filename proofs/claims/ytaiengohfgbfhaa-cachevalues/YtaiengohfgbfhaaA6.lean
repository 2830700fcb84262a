/- CacheValues. -/
import Derived.Test.YtaiengohfgbfhaaC4
import Derived.Deep.RegionWith
import Derived.BigRegion
namespace Go.Proofs.Ytaiengohfgbfhaa
open Go.RowKit

theorem zero54 (W : World) : (zeroValue 54).run Try.prog W = .ok (.agg (Array.replicate 256 (.int .i64 0))) W := by kernel_rfl
theorem zeros : ∃ Z : Array Value, (∀ W, (zeroValue 54).run Try.prog W = .ok (.agg Z) W) ∧ ∀ t, t < 256 → Z[t]? = some (.int .i64 0) :=
  ⟨_, zero54, fun t ht => by rw [Array.getElem?_replicate, if_pos ht]⟩

/-- What is kept of each key, and where the last place of each stands. -/
structure Va (wr : World) (base c lb : Nat) (S : List Kw) (la : Nat → Int) : Prop where
  ch : Ch wr c 3 64 S (fun j => j < base ∨ j = lb)
  cell : ∀ t, t < 256 → wr.cell? ⟨lb, t, none⟩ = some (.int .i64 (la t))
  fz : ∀ t, t < 256 → wr.frozen? ⟨lb, t, none⟩ = false
  kv : ∀ p, p ∈ S → ∃ t : Nat, t < 256 ∧ p = ((t : Int), pv (la t) t)

theorem Va.here {wr : World} {base c lb : Nat} {S : List Kw} {la : Nat → Int} (h : Va wr base c lb S la) {t : Nat} (ht : (t : Int) ∈ ks S) : sfnd S t = some ((t : Int), pv (la t) t) := by
  cases hf : sfnd S t with
  | none => exact (sfnd_none_iff.1 hf ht).elim
  | some p =>
    obtain ⟨h1, h2⟩ := sfnd_key hf
    obtain ⟨t', _, rfl⟩ := h.kv p h1
    have : t' = t := by
      have e : (t' : Int) = t := h2
      omega
    rw [this]

theorem Va.mv {wr w' : World} {base c lb : Nat} {S : List Kw} {la : Nat → Int} {T : Nat → Prop} (h : Va wr base c lb S la) (hm : Mv T wr w') (hT : ∀ j, ¬ T j) : Va w' base c lb S la :=
  ⟨(h.ch.mv hm (fun _ hj => (hT _ hj).elim)).mono (fun _ hj => .inl hj), fun t ht => hm.cell (p := ⟨lb, t, none⟩) (h.cell t ht) (hT _), fun t ht => (hm.frozen (p := ⟨lb, t, none⟩) (World.block_lt_of_cell? _ _ (h.cell t ht)) (hT _)).trans (h.fz t ht), h.kv⟩
/-- One more is put. -/
theorem Va.put {wr w' : World} {base c lb : Nat} {S : List Kw} {la : Nat → Int} (h : Va wr base c lb S la) {t : Nat} (ht : t < 256) (x : Int) (hc : Ch w' c 3 64 (((t : Int), pv x t) :: sdel S t) (fun j => j < base ∨ j = lb)) (hm : Mv (fun j => ¬ (j < base ∨ j = lb)) wr w') :
    Va (w'.setCell ⟨lb, t, none⟩ (.int .i64 x)) base c lb (((t : Int), pv x t) :: sdel S t) (fun j => if j = t then x else la j) := by
  have hM := Mv.setCell w' ⟨lb, t, none⟩ (.int .i64 x)
  have hc1 : ∀ j, j < 256 → w'.cell? ⟨lb, j, none⟩ = some (.int .i64 (la j)) := fun j hj => hm.cell (p := ⟨lb, j, none⟩) (h.cell j hj) (fun h => h (.inr rfl))
  refine ⟨(hc.mv hM (fun j e => .inr e)).mono (fun j hj => .inl hj), fun j hj => ?_, fun j hj => ?_, fun p hp => ?_⟩
  · by_cases e : j = t
    · subst e
      rw [World.cell?_setCell_same _ _ _ (hc1 j hj), if_pos rfl]
    · rw [World.cell?_setCell_other _ _ _ _ (addr_ne (fun _ => by omega)), hc1 j hj, if_neg e]
  · rw [World.frozen?_setCell, hm.frozen (p := ⟨lb, j, none⟩) (World.block_lt_of_cell? _ _ (h.cell j hj)) (fun h => h (.inr rfl))]
    exact h.fz j hj
  · rcases List.mem_cons.1 hp with rfl | hp
    · exact ⟨t, ht, by simp⟩
    · unfold sdel at hp
      rw [List.mem_filter] at hp
      obtain ⟨t', h1, rfl⟩ := h.kv p hp.1
      have hne : t' ≠ t := by
        intro e
        have := hp.2
        rw [e] at this
        simp at this
      exact ⟨t', h1, by rw [if_neg hne]⟩

set_option maxHeartbeats 4000000 in
set_option maxRecDepth 100000 in
theorem values_any (w : World) (a : Option Addr) (n c : Nat) (f : Nat → Int) (hn : n ≤ 40) (hf : Hid (∀ i, 0 ≤ f i ∧ f i ≤ 255)) (hl : Hid (Sl w a n (By f))) :
    Calls Try.prog 6 #[.slice a n c] w fun e w' => e = .returned (.bool true) ∧ Below w.heap.size w w' := by
  have hnz : (n : Int) ≤ 40 := by omega
  go_enter Try.func6, Try.ntmps6
  go_wp2_with fail
  refine (begun_any w).mono ?_
  rintro e w1 ⟨rfl, b1⟩
  have B1 : Hid _ := b1
  clear b1
  go_wp2_with fail
  refine (pnew 64 w1).mono ?_
  rintro e w2 ⟨rfl, hw⟩
  obtain rfl := hw.symm
  clear hw
  have fit : ∀ i, fits (f i) := fun i => WalkArith.wf_i64 (by have := hf.out i; omega)
  obtain ⟨Z, hZ, hZ0⟩ := zeros
  have hsz : (w1.alloc (.cells #[.int .i64 64, .map none, .pointer none, .pointer none] 82)).heap.size = w1.heap.size + 1 := by simp
  have V0 : Hid (Va ((w1.alloc (.cells #[.int .i64 64, .map none, .pointer none, .pointer none] 82)).alloc (.cells Z 54)) w.heap.size w1.heap.size (w1.heap.size + 1) [] (fun _ => 0)) := by
    have c0 : Ch (w1.alloc (.cells #[.int .i64 64, .map none, .pointer none, .pointer none] 82)) w1.heap.size 3 64 [] (fun j => j < w.heap.size) := Ch.new w1 3 64 82 _ (fun j h => by have := B1.out.size; omega) (by omega)
    refine ⟨(c0.mv (Mv.alloc (fun _ => False) _ _) (fun _ h => h.elim)).mono (fun j hj => ?_), fun t ht => ?_, fun t ht => ?_, fun p hp => by cases hp⟩
    · rcases hj with h | h
      · exact .inl h
      · exact .inr (by rw [h, hsz]; exact Nat.le_refl _)
    · rw [← hsz]
      exact (alloc_new _ Z 54 t _ (hZ0 t ht)).1
    · rw [← hsz]
      exact (alloc_new _ Z 54 t _ (hZ0 t ht)).2
  have B2 : Hid (Below w.heap.size w ((w1.alloc (.cells #[.int .i64 64, .map none, .pointer none, .pointer none] 82)).alloc (.cells Z 54))) := (B1.out.alloc B1.out.size _).alloc (by rw [hsz]; have := B1.out.size; omega) _
  have hlb : Hid (w.heap.size ≤ w1.heap.size) := B1.out.size
  clear hZ0 hsz
  go_wp2_with fail
  clear hZ
  go_loopw [5] (fun vi wr => ∃ (i : Nat) (S : List Kw) (la : Nat → Int), i ≤ n ∧ vi = .int .i64 i ∧ Hid (Va wr w.heap.size w1.heap.size (w1.heap.size + 1) S la ∧ S.length ≤ i ∧ (∀ j, j < i → f j ∈ ks S) ∧ Below w.heap.size w wr)) (fun vi _ => n - (intOf vi).toNat)
  case atStart => exact ⟨0, [], fun _ => 0, by omega, rfl, V0.out, by simp, fun j hj => by omega, B2.out⟩
  case round =>
    obtain ⟨i, S, la, hi, rfl, H⟩ := hrel
    by_cases hlt : i < n
    · have hltz : (i : Int) < (n : Int) := by omega
      obtain ⟨b1, o1, rfl, hb, hc1⟩ := (hl.out.below H.out.2.2.2) i hlt
      have hd1 : wr.cell? ⟨b1, o1 + i, none⟩ = some (.int .u8 (f i)) := hc1
      have hfi := hf.out i
      have hb1 : Hid (b1 < w.heap.size) := by
        obtain ⟨b', o', e', h', _⟩ := hl.out i hlt
        cases e'
        exact h'
      clear hc1
      have hwf : IntKind.i64.wrap (f i) = f i := by
        simp [IntKind.wrap, IntKind.signed, IntKind.bits]
        omega
      obtain ⟨t, ht⟩ : ∃ t : Nat, f i = t := ⟨(f i).toNat, by omega⟩
      have ht256 : t < 256 := by omega
      rw [ht] at hd1 hwf hfi
      have HT : Hid _ := ht
      have fit' : fits t := by rw [← ht]; exact fit i
      clear ht
      have D1 : Hid (Va wr.drew w.heap.size w1.heap.size (w1.heap.size + 1) S la) := H.out.1.mv (T := fun _ => False) ⟨rfl, rfl, rfl, Nat.le_refl _, fun _ _ _ => rfl⟩ (fun _ h => h)
      have BD : Hid (Below w.heap.size w wr.drew) := H.out.2.2.2.drew
      have hlbw : Hid (w1.heap.size + 1 < wr.drew.heap.size) := World.block_lt_of_cell? _ _ (D1.out.cell 0 (by omega))
      have U := pput D1.out.ch fit' (fun j hj => by have := hlbw.out; have := hlb.out; omega) (by have := H.out.2.1; omega) (by have := H.out.2.1; omega) (i : Int) (t : Int)
      go_wp2_with fail
      have fin : ∀ w3, Hid (Ch w3 w1.heap.size 3 64 (((t : Int), pv i t) :: sdel S t) (fun j => j < w.heap.size ∨ j = w1.heap.size + 1) ∧ Mv (fun j => ¬ (j < w.heap.size ∨ j = w1.heap.size + 1)) wr.drew w3) → w3.cell? ⟨b1, o1 + i, none⟩ = some (.int .u8 t) ∧ w3.cell? ⟨w1.heap.size + 1, t, none⟩ = some (.int .i64 (la t)) ∧ w3.frozen? ⟨w1.heap.size + 1, t, none⟩ = false ∧
          Hid (Va (w3.setCell ⟨w1.heap.size + 1, t, none⟩ (.int .i64 i)) w.heap.size w1.heap.size (w1.heap.size + 1) (((t : Int), pv i t) :: sdel S t) (fun j => if j = t then (i : Int) else la j) ∧ (((t : Int), pv i t) :: sdel S t).length ≤ i + 1 ∧ (∀ j, j < i + 1 → f j ∈ ks (((t : Int), pv i t) :: sdel S t)) ∧ Below w.heap.size w (w3.setCell ⟨w1.heap.size + 1, t, none⟩ (.int .i64 i))) := by
        intro w3 H3
        refine ⟨H3.out.2.cell (p := ⟨b1, o1 + i, none⟩) hd1 (fun h => h (.inl hb1.out)), H3.out.2.cell (p := ⟨w1.heap.size + 1, t, none⟩) (D1.out.cell t ht256) (fun h => h (.inr rfl)), (H3.out.2.frozen (p := ⟨w1.heap.size + 1, t, none⟩) hlbw.out (fun h => h (.inr rfl))).trans (D1.out.fz t ht256), D1.out.put ht256 i H3.out.1 H3.out.2, ?_, ?_, ?_⟩
        · have h1 : (sdel S t).length ≤ S.length := List.length_filter_le _ _
          have := H.out.2.1
          rw [List.length_cons]; omega
        · intro j hj
          show f j ∈ (t : Int) :: ks (sdel S t)
          by_cases e : f j = t
          · rw [e]; exact List.mem_cons_self
          · refine List.mem_cons_of_mem _ ?_
            rw [ks_sdel, mem_wo]
            refine ⟨H.out.2.2.1 j ?_, e⟩
            by_cases hji : j = i
            · rw [hji] at e; exact (e HT.out).elim
            · omega
        · have b3 := below_mv BD.out H3.out.2 (Nat.le_refl _) (fun j hj h => h (.inl hj))
          exact below_mv b3 (Mv.setCell _ _ _) (Nat.le_refl _) (fun j hj e => by
            have e' : j = w1.heap.size + 1 := e
            have := hlb.out
            omega)
      have htz : (t : Int) < 256 := by omega
      go_region_with (go_at_call 25; refine U.mono ?_; rintro e w3 ⟨rfl, H3⟩)
      all_goals (obtain ⟨y1, y2, y3, y4⟩ := fin w3 H3)
      all_goals (clear fin)
      all_goals (go_wp2_with fail)
      all_goals exact ⟨⟨i + 1, _, _, by omega, by go_num, y4⟩, by simp [intOf]; omega⟩
    · obtain rfl : i = n := by omega
      obtain ⟨w5, h5⟩ : ∃ w5, w5 = wr := ⟨wr, rfl⟩
      subst h5
      go_wp2_with fail
      go_loopw [8] (fun vi wr => ∃ (s : Nat) (S : List Kw), s ≤ i ∧ vi = .int .i64 s ∧ Hid (Va wr w.heap.size w1.heap.size (w1.heap.size + 1) S la ∧ S.length ≤ i ∧ (∀ j, j < i → f j ∈ ks S) ∧ Below w.heap.size w wr)) (fun vi _ => i - (intOf vi).toNat)
      case atStart => exact ⟨0, S, by omega, rfl, H⟩
      case round =>
        obtain ⟨s, S2, hs, rfl, H2⟩ := hrel
        by_cases hlt2 : s < i
        · have hltz : (s : Int) < (i : Int) := by omega
          obtain ⟨b1, o1, rfl, hb, hc1⟩ := (hl.out.below H2.out.2.2.2) s hlt2
          have hd1 : wr.cell? ⟨b1, o1 + s, none⟩ = some (.int .u8 (f s)) := hc1
          have hfi := hf.out s
          have hb1 : Hid (b1 < w.heap.size) := by
            obtain ⟨b', o', e', h', _⟩ := hl.out s hlt2
            cases e'
            exact h'
          clear hc1
          have hwf : IntKind.i64.wrap (f s) = f s := by
            simp [IntKind.wrap, IntKind.signed, IntKind.bits]
            omega
          obtain ⟨t, ht⟩ : ∃ t : Nat, f s = t := ⟨(f s).toNat, by omega⟩
          have ht256 : t < 256 := by omega
          have hts : (t : Int) ∈ ks S2 := by rw [← ht]; exact H2.out.2.2.1 s hlt2
          rw [ht] at hd1 hwf hfi
          have HT : Hid _ := ht
          have fit' : fits t := by rw [← ht]; exact fit s
          clear ht
          have FD : Hid _ := H2.out.1.here hts
          have hlbw : Hid (w1.heap.size + 1 < wr.heap.size) := World.block_lt_of_cell? _ _ (H2.out.1.cell 0 (by omega))
          have U := pget_some H2.out.1.ch fit' (fun j hj => by have := hlbw.out; have := hlb.out; omega) FD.out
          have hlen : Hid ((sdel S2 t).length + 1 = S2.length) := sdel_length H2.out.1.ch.nodup FD.out
          clear hts
          have htz : (t : Int) < 256 := by omega
          have fin : ∀ w3, Hid (Ch w3 w1.heap.size 3 64 (((t : Int), pv (la t) t) :: sdel S2 t) (fun j => j < w.heap.size ∨ j = w1.heap.size + 1) ∧ Mv (fun j => ¬ (j < w.heap.size ∨ j = w1.heap.size + 1)) wr w3) → w3.cell? ⟨b1, o1 + s, none⟩ = some (.int .u8 t) ∧ w3.cell? ⟨w1.heap.size + 1, t, none⟩ = some (.int .i64 (la t)) ∧ b1 < w3.heap.size ∧ w1.heap.size + 1 < w3.heap.size ∧
              Hid (Va w3 w.heap.size w1.heap.size (w1.heap.size + 1) (((t : Int), pv (la t) t) :: sdel S2 t) la ∧ (((t : Int), pv (la t) t) :: sdel S2 t).length ≤ i ∧ (∀ j, j < i → f j ∈ ks (((t : Int), pv (la t) t) :: sdel S2 t)) ∧ Below w.heap.size w w3) := by
            intro w3 H3
            refine ⟨H3.out.2.cell (p := ⟨b1, o1 + s, none⟩) hd1 (fun h => h (.inl hb1.out)), H3.out.2.cell (p := ⟨w1.heap.size + 1, t, none⟩) (H2.out.1.cell t ht256) (fun h => h (.inr rfl)), ?_, Nat.lt_of_lt_of_le hlbw.out H3.out.2.size, ⟨H3.out.1, fun j hj => H3.out.2.cell (p := ⟨w1.heap.size + 1, j, none⟩) (H2.out.1.cell j hj) (fun h => h (.inr rfl)), fun j hj => (H3.out.2.frozen (p := ⟨w1.heap.size + 1, j, none⟩) hlbw.out (fun h => h (.inr rfl))).trans (H2.out.1.fz j hj), ?_⟩, ?_, ?_, ?_⟩
            · have := H2.out.2.2.2.size
              have := H3.out.2.size
              have := hb1.out
              omega
            · intro p hp
              rcases List.mem_cons.1 hp with rfl | hp
              · exact ⟨t, ht256, rfl⟩
              · unfold sdel at hp
                rw [List.mem_filter] at hp
                exact H2.out.1.kv p hp.1
            · have := hlen.out
              have := H2.out.2.1
              rw [List.length_cons]; omega
            · intro j hj
              show f j ∈ (t : Int) :: ks (sdel S2 t)
              by_cases e : f j = t
              · rw [e]; exact List.mem_cons_self
              · refine List.mem_cons_of_mem _ ?_
                rw [ks_sdel, mem_wo]
                exact ⟨H2.out.2.2.1 j hj, e⟩
            · exact below_mv H2.out.2.2.2 H3.out.2 (Nat.le_refl _) (fun j hj h => h (.inl hj))
          go_wp2_with fail
          refine U.mono ?_
          rintro e w3 ⟨rfl, H3⟩
          obtain ⟨y1, y2, y3, y4, y5⟩ := fin w3 H3
          clear fin U
          have hne := pair_ne (la t) t
          go_wp2_with fail
          have A4 : Mv (fun _ => False) w3 (w3.alloc (.cells #[.int .i64 (la t), .int .i64 t] 53)) := Mv.alloc _ _ _
          have z1 := A4.cell y1 (fun h => h)
          have z2 := A4.cell y2 (fun h => h)
          have z3 := (alloc_new w3 #[.int .i64 (la t), .int .i64 t] 53 0 _ rfl).1
          have z4 := (alloc_new w3 #[.int .i64 (la t), .int .i64 t] 53 1 _ rfl).1
          have Y6 : Hid (Va (w3.alloc (.cells #[.int .i64 (la t), .int .i64 t] 53)) w.heap.size w1.heap.size (w1.heap.size + 1) (((t : Int), pv (la t) t) :: sdel S2 t) la ∧ Below w.heap.size w (w3.alloc (.cells #[.int .i64 (la t), .int .i64 t] 53))) := ⟨y5.out.1.mv A4 (fun _ h => h), below_mv y5.out.2.2.2 A4 (Nat.le_refl _) (fun _ _ h => h)⟩
          clear A4 y1 y2 H3
          generalize w3.alloc (.cells #[.int .i64 (la t), .int .i64 t] 53) = W4 at z1 z2 z3 z4 Y6 ⊢
          go_quiet (fail)
          go_wp2_with fail
          exact ⟨⟨s + 1, _, by omega, by go_num, Y6.out.1.mv (Mv.drewN (fun _ => False) _ _) (fun _ h => h), y5.out.2.1, y5.out.2.2.1, below_mv Y6.out.2 (Mv.drewN (fun _ => False) _ _) (Nat.le_refl _) (fun _ _ h => h)⟩, by simp [intOf]; omega⟩
        · obtain rfl : s = i := by omega
          go_wp2_with fail
          go_ret
          exact ⟨rfl, H2.out.2.2.2⟩

set_option maxHeartbeats 1000000 in
theorem values_out (w : World) (a : Option Addr) (n c : Nat) (hn : 40 < n) :
    Calls Try.prog 6 #[.slice a n c] w fun e w' => e = .returned (.bool true) ∧ Below w.heap.size w w' := by
  have hnz : (40 : Int) < n := by omega
  go_enter Try.func6, Try.ntmps6
  go_wp2_with fail
  refine (begun_any w).mono ?_
  rintro e w1 ⟨rfl, b1⟩
  have B1 : Hid _ := b1
  clear b1
  go_wp2_with fail
  go_ret
  exact ⟨rfl, B1.out⟩

theorem cacheValues_row (W : World) (a : Option Addr) (n c : Nat) (f : Nat → Int) (s : Sl W a n (fun i => .int .u8 (f i))) (o : ∀ i, (Lit.int .u8 (f i)).wf = true) (_e : a = none → n = 0 ∧ c = 0) :
    Calls Try.prog 6 #[.slice a n c] W fun e w' => e = .returned (.bool true) ∧ Below W.heap.size W w' := by
  by_cases h : 40 < n
  · exact values_out W a n c h
  · exact values_any W a n c f (by omega) (fun i => u8_wf' (o i)) s

end Go.Proofs.Ytaiengohfgbfhaa
