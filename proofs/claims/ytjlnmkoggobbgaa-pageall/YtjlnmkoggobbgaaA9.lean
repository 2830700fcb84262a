/- The walk of PageAll. -/
import Derived.Test.YtjlnmkoggobbgaaA8
import Derived.Deep.QuietTactic
import Derived.BigQuiet
namespace Go.Proofs.Ytjlnmkoggobbgaa
open Go.RowKit

theorem wrap_small {x : Int} (h1 : -1000000 ≤ x) (h2 : x ≤ 1000000) : IntKind.i64.wrap x = x := by
  simp [IntKind.wrap, IntKind.signed, IntKind.bits]
  omega

theorem n_pages {n sz m : Nat} (h0 : 0 < sz) (h : ∀ i, i * sz < n ↔ i < m) : ((n : Int) + sz - 1) / sz = (m : Int) := by
  have e : ((n : Int) + sz - 1) = ((n + sz - 1 : Nat) : Int) := by omega
  rw [e, show (((n + sz - 1 : Nat) : Int) / (sz : Int)) = (((n + sz - 1) / sz : Nat) : Int) from (Int.natCast_ediv _ _).symm, ← pages_count h0 h]

theorem Own.lies {w : World} {base n : Nat} {e : TypeId} {a : Option Addr} {c : Nat} {V : Nat → Value} (h : Own w base e (.slice a n c) n V) : Sl w a n V := by
  obtain ⟨x, y, e, h, _⟩ := h.sl
  cases e
  exact h

set_option maxRecDepth 100000 in
set_option maxHeartbeats 16000000 in
theorem all_any (a b : Option Addr) (na ca nb cb : Nat) (f fl : Nat → Int) (sz : Nat) (w : World) (hna : na ≤ 400) (hnb : nb ≤ 40) (hca : na ≤ ca) (h0 : 0 < sz) (h1 : sz ≤ 512) (hl : Hid (Sl w a na (By f))) (hl2 : Hid (Sl w b nb (By fl))) (hfl : Hid (∀ i, 0 ≤ fl i ∧ fl i ≤ 255)) :
    Calls Try.prog 3 #[.slice a na ca, .int .i64 sz, .slice b nb cb] w fun e w' => e = .returned (.bool true) ∧ Below w.heap.size w w' := by
  have z1 : (na : Int) ≤ 400 := by omega
  have z2 : (nb : Int) ≤ 40 := by omega
  have z3 : ¬ (sz : Int) < 1 := by omega
  have z4 : (sz : Int) ≤ 512 := by omega
  go_enter Try.func3, Try.ntmps3
  go_wp2_with fail
  refine (begun_any w).mono ?_
  rintro e W ⟨rfl, B⟩
  have B0 : Hid (Below w.heap.size w W) := B
  clear B
  go_wp2_with fail
  refine (twin_any a na ca f W (by omega) (hl.out.below B0.out)).mono ?_
  rintro e W1 ⟨rfl, O1, B1⟩
  have S1 : Hid (Sl W1 (some ⟨W.heap.size, 0, none⟩) na (By f)) := fun i hi => ⟨W.heap.size, 0, rfl, (O1.out.blk _ rfl).2, by rw [Nat.zero_add, (O1.out.at (show i < na + 3 by omega)).1]; unfold twV; rw [if_pos hi]⟩
  have B2 : Hid (Below w.heap.size w W1) := B0.out.trans (B1.out.mono B0.out.size)
  have T1 : Hid (W.heap.size < W1.heap.size) := (O1.out.blk _ rfl).2
  clear B1
  go_wp2_with fail
  refine (new_ok _ na (na + 3) sz f W1 (by omega) h0 h1 S1).mono ?_
  rintro e W2 ⟨d, rfl, hd, P2, B3⟩
  have O2 : Hid (Own W2 W.heap.size 5 (.slice (some ⟨W.heap.size, 0, none⟩) (na + 3) (na + 3)) (na + 3) (twV f na)) := O1.out.mv ((Mv.of_below B3.out).mono (T := fun _ => False) (fun j h1 h2 => by omega)) (fun _ _ h => h)
  have B4 : Hid (Below w.heap.size w W2) := B2.out.trans (B3.out.mono B2.out.size)
  obtain ⟨db, -, dn, dz, df⟩ := hd.out
  have DB : Hid (w.heap.size ≤ W.heap.size ∧ W.heap.size < d.base) := by show _ ∧ _; rw [db]; exact ⟨B0.out.size, T1.out⟩
  have DN : Hid (d.n = na) := dn
  have DZ : Hid (d.sz = sz) := dz
  have DF : Hid (d.f = f) := df
  have DM : Hid (((na : Int) + sz - 1) / sz = (d.m : Int)) := n_pages h0 (by have := P2.out.cnt; rw [dn, dz] at this; exact this)
  have hm4 : d.m ≤ 400 := by have := P2.out.small; omega
  clear db dn dz df hd B3 O1 S1 T1
  go_wp2_with fail
  refine (kept_any W.heap.size W.heap.size a na ca f W2 (by omega) O2 (hl.out.below B4.out)).mono ?_
  rintro e w' ⟨rfl, hw⟩
  obtain rfl := hw.symm
  clear hw
  go_wp2_with fail
  refine (spoil_any W.heap.size na (na + 3) W.heap.size _ W2 (by omega) (by omega) O2).mono ?_
  rintro e W0 ⟨rfl, M0⟩
  have P0 : Hid (Pg W0 d none 0 (fun _ => false) 0 (fun _ => 0)) := P2.out.mvl M0.out (fun j hj => by have h1 := DB.out; have h2 : j = W.heap.size := hj; omega)
  have B5 : Hid (Below w.heap.size w W0) := below_mv B4.out M0.out (Nat.le_refl _) (fun j hj e => by have h1 := DB.out; have h2 : j = W.heap.size := e; omega)
  have A0 : Hid (All W0 W0 d none 0 none 0 (fun _ => false) 0 (fun _ => 0) none 0 0) := ⟨⟨P0.out, own_nil _ _ _ _, sep_nil _, Mv.refl _ _⟩, .inl ⟨rfl, rfl, rfl, fun _ => rfl⟩⟩
  have KB : Hid (∀ wr, Kept d W0 wr → Below w.heap.size w wr) := fun wr k => below_mv B5.out k (Nat.le_refl _) (fun j hj e => by
    have h1 := DB.out
    have h2 := P0.out.b0
    have h3 := P0.out.t0
    omega)
  clear P0 P2 M0 O2 B0 B2 B4 B5
  go_wp2_with fail
  rw [DM.out]
  have hmz : (d.m : Int) ≤ 400 := by omega
  clear DM
  go_loopw [11, 12, 13] (fun vr vb vi wr => ∃ (i t : Nat) (oa : Option Addr) (oc : Nat) (ra : Option Addr) (rc : Nat) (bad : Nat → Bool) (rd : Nat → Int) (ba : Option Addr) (nbb bbc : Nat), i ≤ nb ∧ t ≤ i ∧ vr = .slice oa t oc ∧ vb = .slice ba nbb bbc ∧ vi = .int .i64 i ∧ Hid (All W0 wr d oa oc ra rc bad t rd ba nbb bbc)) (fun _ _ vi _ => nb - (intOf vi).toNat)
  case atStart => exact ⟨0, 0, none, 0, none, 0, _, _, none, 0, 0, by omega, by omega, rfl, rfl, rfl, A0⟩
  case round =>
    clear A0
    obtain ⟨i, t, oa, oc, ra, rc, bad, rd, ba, nbb, bbc, hi, ht, rfl, rfl, rfl, A⟩ := hrel
    by_cases hlt : i < nb
    · have hltz : (i : Int) < nb := by omega
      obtain ⟨lb, lo, rfl, _, hc0⟩ := (hl2.out.below (KB.out wr A.out.S.K)) i hlt
      have hc1 : wr.cell? ⟨lb, lo + i, none⟩ = some (.int .u8 (fl i)) := hc0
      have hx := hfl.out i
      clear hc0
      generalize fl i = x at hc1 hx
      have hx0 : 0 ≤ x := hx.1
      have hx1 : x ≤ 255 := hx.2
      clear hx
      rcases (show x % 37 = 0 ∨ (1 ≤ x % 37 ∧ x % 37 < 30) ∨ (x % 37 = 30 ∨ x % 37 = 31 ∨ x % 37 = 32 ∨ x % 37 = 33 ∨ x % 37 = 34) ∨ x % 37 = 35 ∨ x % 37 = 36 by omega) with hy | hy | hy | hy | hy
      · have HN : Hid (has (-1) d.m = false) := rfl
        go_wp2_with fail
        refine (read_none d.bp (-1) d.pa d.m d.pc wr A.out.S.P.c1 (World.block_lt_of_cell? _ _ A.out.S.P.c1) HN.out).mono ?_
        rintro e W6 ⟨rfl, b6⟩
        have A6 : Hid (All W0 W6 d oa oc ra rc bad t rd ba nbb bbc) := A.out.below b6
        clear b6 A
        go_wp2_with fail
        exact ⟨⟨i + 1, t, oa, oc, ra, rc, bad, rd, ba, nbb, bbc, by omega, by omega, rfl, rfl, by go_num, A6⟩, by simp [intOf]; omega⟩
      · obtain ⟨p, hp⟩ : ∃ p : Nat, x % 37 = (p : Int) + 1 := ⟨(x % 37 - 1).toNat, by omega⟩
        have hp29 : (p : Int) < 29 := by omega
        clear hy
        by_cases hpm : p < d.m
        · have hpmz : (p : Int) < d.m := by omega
          have hp0 : 0 < na := by have h2 := (A.out.S.P.cnt p).2 hpm; rw [DN.out] at h2; omega
          obtain ⟨ab, ao, rfl, _, _⟩ := hl.out 0 hp0
          cases hb : bad p
          · have hbad : Hid (bad p = false) := hb
            clear hb
            go_wp2_with fail
            refine (read_ok d p ra rc t bad rd wr A.out.S.P (by omega) hpm hbad).mono ?_
            rintro e W6 ⟨g, rfl, ra', rc', P6, K6, M6, N6, O6⟩
            have AH : AllH W0 W6 d oa oc ra' rc' bad t rd p ba nbb bbc := A.out.half P6.out K6.out M6.out
            obtain ⟨oa', oc', W7, hr, hA7, hf, hM7⟩ := AH.note (by omega)
            have A7 : Hid (All W0 W7 d oa' oc' ra' rc' bad (t + 1) (app rd t p) ba nbb bbc) := hA7
            have hgw : wr.heap.size ≤ g ∧ g < W6.heap.size := O6.out.blk g rfl
            have G1 : Hid (d.top ≤ g) := by have := A.out.S.P.tp; show _ ≤ _; omega
            have G2 : Hid (bk oa' ≠ some g) := fun e => by
              rcases hf with hf | ⟨g', k1, k2⟩
              · rw [hf] at e; have := (A.out.S.oa_lt g e).2; omega
              · rw [k1] at e; cases e; omega
            have G4 : Hid (bk ba ≠ some g) := fun e => by have := A.out.L.lt g e; omega
            generalize hL2 : min d.sz (d.n - p * d.sz) = l2 at O6 ⊢
            have O7 : Hid (Own W7 wr.heap.size 5 (.slice (some ⟨g, 0, none⟩) l2 l2) l2 (By fun j => d.f (p * d.sz + j))) := O6.out.mv hM7 (fun j hj e => by
              cases hj
              have := (A.out.S.oa_lt g e).2
              omega)
            have h2c : l2 < 100000 := by have := A.out.S.P.small; omega
            obtain ⟨Q, hQ⟩ : ∃ Q, Q = p * sz := ⟨_, rfl⟩
            have hQn : Q < na := by have h2 := (A.out.S.P.cnt p).2 hpm; rw [DZ.out, DN.out] at h2; omega
            have hQ2 : l2 = min sz (na - Q) := by rw [← hL2, DZ.out, DN.out, hQ]
            have hQz : (p : Int) * (sz : Int) = (Q : Int) := by rw [hQ]; exact (Int.natCast_mul p sz).symm
            have hSb : Sl W7 (some ⟨g, 0, none⟩) l2 (By fun j => f (Q + j)) := O7.out.lies.congr (fun j hj => by rw [DF.out, DZ.out, hQ])
            have hSa : Sl W7 (some ⟨ab, ao + Q, none⟩) l2 (By fun j => f (Q + j)) := fun j hj => by
              obtain ⟨b', o', e, hb', hc'⟩ := (hl.out.below (KB.out W7 A7.out.S.K)) (Q + j) (by omega)
              cases e
              exact ⟨ab, ao + Q, rfl, hb', by rw [Nat.add_assoc]; exact hc'⟩
            have hv1 : ∀ q, (convert 22 9 (.slice (some ⟨g, 0, none⟩) l2 l2)).run Try.prog (W7.drewN q) = .ok (.string (txt (fun j => f (Q + j)) l2)) (W7.drewN q) := fun q => conv_any _ l2 l2 _ (W7.drewN q) (hSb.mv (Mv.drewN (fun _ => False) W7 q) (fun _ _ h => h))
            have hv2 : ∀ q, (convert 22 9 (.slice (some ⟨ab, ao + Q, none⟩) l2 (ca - Q))).run Try.prog (W7.drewN q) = .ok (.string (txt (fun j => f (Q + j)) l2)) (W7.drewN q) := fun q => conv_any _ l2 (ca - Q) _ (W7.drewN q) (hSa.mv (Mv.drewN (fun _ => False) W7 q) (fun _ _ h => h))
            generalize txt (fun j => f (Q + j)) l2 = tx at hv1 hv2
            have HQ : Hid (Q = p * sz) := hQ
            have HQ2 : Hid (l2 = min sz (na - Q)) := hQ2
            clear hSb hSa hA7 AH P6 K6 M6 O6 hf hM7 hL2 hQ hQ2 hgw
            rcases A7.out.L with ⟨rfl, rfl, rfl, hno⟩ | ⟨gb, y, rfl, rfl, rfl, -, -, -, -, hc8, hc9, hbj⟩
            · clear hno
              by_cases hle : Q + sz ≤ na
              · have hlez : (Q : Int) + sz ≤ na := by omega
                obtain rfl : l2 = sz := by have := HQ2.out; omega
                have hw1 : IntKind.i64.wrap ((p : Int) * (l2 : Int)) = (Q : Int) := by rw [hQz]; exact wrap_small (by omega) (by omega)
                have hb1 : (Q : Int) + l2 ≤ ca := by omega
                go_wp2_with (at_builtin; first | (refine wpList_append_given rfl _ _ 31 rfl _ _ _ W7 rfl rfl hr ?_))
                go_wp2_with fail
                go_quiet (fail)
                have A8 : Hid (All W0 (W7.drewN nq) d oa' oc' ra' rc' bad (t + 1) (app rd t p) none 0 0) := A7.out.quiet (Mv.drewN _ _ _)
                have O8 : Hid (Own (W7.drewN nq) wr.heap.size 5 (.slice (some ⟨g, 0, none⟩) l2 l2) l2 (By fun j => d.f (p * d.sz + j))) := O7.out.mv (Mv.drewN (fun _ => False) _ _) (fun _ _ h => h)
                clear A7 O7 hv1 hv2 hr A hw1
                generalize W7.drewN nq = W8 at *
                go_wp2_with fail
                refine (spoil_any g l2 l2 _ _ W8 (Nat.le_refl _) h2c O8).mono ?_
                rintro e W9 ⟨rfl, M9⟩
                have A9 : Hid (All W0 W9 d oa' oc' ra' rc' bad (t + 1) (app rd t p) none 0 0) := A8.out.spoil M9.out G1.out G2.out N6.out G4.out
                clear A8 O8 M9
                go_wp2_with fail
                refine (reads_any d.bp ra' (t + 1) rc' (app rd t p) W9 A9.out.S.P.c3 (by omega) A9.out.S.P.reads.lies).mono ?_
                rintro e Y1 ⟨rfl, O8, B8⟩
                have AY : Hid (All W0 Y1 d oa' oc' ra' rc' bad (t + 1) (app rd t p) none 0 0) := A9.out.below B8.out
                have S8 : Hid (Sl Y1 (some ⟨W9.heap.size, 0, none⟩) (t + 1) (In (app rd t p))) := O8.out.lies
                have S9 : Hid (Sl Y1 oa' (t + 1) (In (app rd t p))) := AY.out.S.O.lies
                clear O8 B8 A9
                go_wp2_with fail
                refine (same_true _ oa' (t + 1) (t + 1) oc' (app rd t p) Y1 (by omega) S8 S9).mono ?_
                rintro e Y2 ⟨rfl, M9⟩
                have AZ : Hid (All W0 Y2 d oa' oc' ra' rc' bad (t + 1) (app rd t p) none 0 0) := AY.out.quiet M9.out
                clear AY M9 S8 S9
                go_wp2_with fail
                refine (len_any d.bp _ d.n d.n Y2 AZ.out.S.P.c0).mono ?_
                rintro e w' ⟨rfl, hw⟩
                obtain rfl := hw.symm
                clear hw
                rw [DN.out]
                go_wp2_with fail
                refine (count_any d.bp d.pa d.m d.pc Y2 AZ.out.S.P.c1).mono ?_
                rintro e w' ⟨rfl, hw⟩
                obtain rfl := hw.symm
                clear hw
                go_wp2_with fail
                exact ⟨⟨i + 1, (t + 1), oa', oc', ra', rc', bad, (app rd t p), none, 0, 0, by omega, by omega, rfl, rfl, by go_num, AZ⟩, by simp [intOf]; omega⟩
              · have hlez : (na : Int) < (Q : Int) + sz := by omega
                obtain rfl : l2 = na - Q := by have := HQ2.out; omega
                have hw1 : IntKind.i64.wrap ((p : Int) * (sz : Int)) = (Q : Int) := by rw [hQz]; exact wrap_small (by omega) (by omega)
                have hb1 : (na : Int) ≤ ca := by omega
                have hb2 : (Q : Int) ≤ na := by omega
                go_wp2_with (at_builtin; first | (refine wpList_append_given rfl _ _ 31 rfl _ _ _ W7 rfl rfl hr ?_))
                go_wp2_with fail
                go_quiet (fail)
                have A8 : Hid (All W0 (W7.drewN nq) d oa' oc' ra' rc' bad (t + 1) (app rd t p) none 0 0) := A7.out.quiet (Mv.drewN _ _ _)
                have O8 : Hid (Own (W7.drewN nq) wr.heap.size 5 (.slice (some ⟨g, 0, none⟩) (na - Q) (na - Q)) (na - Q) (By fun j => d.f (p * d.sz + j))) := O7.out.mv (Mv.drewN (fun _ => False) _ _) (fun _ _ h => h)
                clear A7 O7 hv1 hv2 hr A hw1
                generalize W7.drewN nq = W8 at *
                go_wp2_with fail
                refine (spoil_any g (na - Q) (na - Q) _ _ W8 (Nat.le_refl _) h2c O8).mono ?_
                rintro e W9 ⟨rfl, M9⟩
                have A9 : Hid (All W0 W9 d oa' oc' ra' rc' bad (t + 1) (app rd t p) none 0 0) := A8.out.spoil M9.out G1.out G2.out N6.out G4.out
                clear A8 O8 M9
                go_wp2_with fail
                refine (reads_any d.bp ra' (t + 1) rc' (app rd t p) W9 A9.out.S.P.c3 (by omega) A9.out.S.P.reads.lies).mono ?_
                rintro e Y1 ⟨rfl, O8, B8⟩
                have AY : Hid (All W0 Y1 d oa' oc' ra' rc' bad (t + 1) (app rd t p) none 0 0) := A9.out.below B8.out
                have S8 : Hid (Sl Y1 (some ⟨W9.heap.size, 0, none⟩) (t + 1) (In (app rd t p))) := O8.out.lies
                have S9 : Hid (Sl Y1 oa' (t + 1) (In (app rd t p))) := AY.out.S.O.lies
                clear O8 B8 A9
                go_wp2_with fail
                refine (same_true _ oa' (t + 1) (t + 1) oc' (app rd t p) Y1 (by omega) S8 S9).mono ?_
                rintro e Y2 ⟨rfl, M9⟩
                have AZ : Hid (All W0 Y2 d oa' oc' ra' rc' bad (t + 1) (app rd t p) none 0 0) := AY.out.quiet M9.out
                clear AY M9 S8 S9
                go_wp2_with fail
                refine (len_any d.bp _ d.n d.n Y2 AZ.out.S.P.c0).mono ?_
                rintro e w' ⟨rfl, hw⟩
                obtain rfl := hw.symm
                clear hw
                rw [DN.out]
                go_wp2_with fail
                refine (count_any d.bp d.pa d.m d.pc Y2 AZ.out.S.P.c1).mono ?_
                rintro e w' ⟨rfl, hw⟩
                obtain rfl := hw.symm
                clear hw
                go_wp2_with fail
                exact ⟨⟨i + 1, (t + 1), oa', oc', ra', rc', bad, (app rd t p), none, 0, 0, by omega, by omega, rfl, rfl, by go_num, AZ⟩, by simp [intOf]; omega⟩
            · have hyp := hbj p
              rw [hbad.out] at hyp
              have hyp2 : ¬ y = (p : Int) ∧ ¬ y + 1 = (p : Int) := by
                have h2 := Bool.or_eq_false_iff.1 hyp.symm
                exact ⟨of_decide_eq_false h2.1, of_decide_eq_false h2.2⟩
              have hy1 : ((p : Int) == y) = false := by rw [beq_eq_false_iff_ne]; omega
              have hy2 : ((p : Int) == y + 1) = false := by rw [beq_eq_false_iff_ne]; omega
              have hy3 : ¬ (p : Int) = y := by omega
              have hy4 : ¬ (p : Int) = y + 1 := by omega
              clear hyp hbj hyp2
              by_cases hle : Q + sz ≤ na
              · have hlez : (Q : Int) + sz ≤ na := by omega
                obtain rfl : l2 = sz := by have := HQ2.out; omega
                have hw1 : IntKind.i64.wrap ((p : Int) * (l2 : Int)) = (Q : Int) := by rw [hQz]; exact wrap_small (by omega) (by omega)
                have hb1 : (Q : Int) + l2 ≤ ca := by omega
                go_wp2_with (at_builtin; first | (refine wpList_append_given rfl _ _ 31 rfl _ _ _ W7 rfl rfl hr ?_))
                go_wp2_with fail
                go_quiet (fail)
                have A8 : Hid (All W0 (W7.drewN nq) d oa' oc' ra' rc' bad (t + 1) (app rd t p) (some ⟨gb, 0, none⟩) 2 2) := A7.out.quiet (Mv.drewN _ _ _)
                have O8 : Hid (Own (W7.drewN nq) wr.heap.size 5 (.slice (some ⟨g, 0, none⟩) l2 l2) l2 (By fun j => d.f (p * d.sz + j))) := O7.out.mv (Mv.drewN (fun _ => False) _ _) (fun _ _ h => h)
                clear A7 O7 hv1 hv2 hr A hw1
                generalize W7.drewN nq = W8 at *
                go_wp2_with fail
                refine (spoil_any g l2 l2 _ _ W8 (Nat.le_refl _) h2c O8).mono ?_
                rintro e W9 ⟨rfl, M9⟩
                have A9 : Hid (All W0 W9 d oa' oc' ra' rc' bad (t + 1) (app rd t p) (some ⟨gb, 0, none⟩) 2 2) := A8.out.spoil M9.out G1.out G2.out N6.out G4.out
                clear A8 O8 M9
                go_wp2_with fail
                refine (reads_any d.bp ra' (t + 1) rc' (app rd t p) W9 A9.out.S.P.c3 (by omega) A9.out.S.P.reads.lies).mono ?_
                rintro e Y1 ⟨rfl, O8, B8⟩
                have AY : Hid (All W0 Y1 d oa' oc' ra' rc' bad (t + 1) (app rd t p) (some ⟨gb, 0, none⟩) 2 2) := A9.out.below B8.out
                have S8 : Hid (Sl Y1 (some ⟨W9.heap.size, 0, none⟩) (t + 1) (In (app rd t p))) := O8.out.lies
                have S9 : Hid (Sl Y1 oa' (t + 1) (In (app rd t p))) := AY.out.S.O.lies
                clear O8 B8 A9
                go_wp2_with fail
                refine (same_true _ oa' (t + 1) (t + 1) oc' (app rd t p) Y1 (by omega) S8 S9).mono ?_
                rintro e Y2 ⟨rfl, M9⟩
                have AZ : Hid (All W0 Y2 d oa' oc' ra' rc' bad (t + 1) (app rd t p) (some ⟨gb, 0, none⟩) 2 2) := AY.out.quiet M9.out
                clear AY M9 S8 S9
                go_wp2_with fail
                refine (len_any d.bp _ d.n d.n Y2 AZ.out.S.P.c0).mono ?_
                rintro e w' ⟨rfl, hw⟩
                obtain rfl := hw.symm
                clear hw
                rw [DN.out]
                go_wp2_with fail
                refine (count_any d.bp d.pa d.m d.pc Y2 AZ.out.S.P.c1).mono ?_
                rintro e w' ⟨rfl, hw⟩
                obtain rfl := hw.symm
                clear hw
                go_wp2_with fail
                exact ⟨⟨i + 1, (t + 1), oa', oc', ra', rc', bad, (app rd t p), (some ⟨gb, 0, none⟩), 2, 2, by omega, by omega, rfl, rfl, by go_num, AZ⟩, by simp [intOf]; omega⟩
              · have hlez : (na : Int) < (Q : Int) + sz := by omega
                obtain rfl : l2 = na - Q := by have := HQ2.out; omega
                have hw1 : IntKind.i64.wrap ((p : Int) * (sz : Int)) = (Q : Int) := by rw [hQz]; exact wrap_small (by omega) (by omega)
                have hb1 : (na : Int) ≤ ca := by omega
                have hb2 : (Q : Int) ≤ na := by omega
                go_wp2_with (at_builtin; first | (refine wpList_append_given rfl _ _ 31 rfl _ _ _ W7 rfl rfl hr ?_))
                go_wp2_with fail
                go_quiet (fail)
                have A8 : Hid (All W0 (W7.drewN nq) d oa' oc' ra' rc' bad (t + 1) (app rd t p) (some ⟨gb, 0, none⟩) 2 2) := A7.out.quiet (Mv.drewN _ _ _)
                have O8 : Hid (Own (W7.drewN nq) wr.heap.size 5 (.slice (some ⟨g, 0, none⟩) (na - Q) (na - Q)) (na - Q) (By fun j => d.f (p * d.sz + j))) := O7.out.mv (Mv.drewN (fun _ => False) _ _) (fun _ _ h => h)
                clear A7 O7 hv1 hv2 hr A hw1
                generalize W7.drewN nq = W8 at *
                go_wp2_with fail
                refine (spoil_any g (na - Q) (na - Q) _ _ W8 (Nat.le_refl _) h2c O8).mono ?_
                rintro e W9 ⟨rfl, M9⟩
                have A9 : Hid (All W0 W9 d oa' oc' ra' rc' bad (t + 1) (app rd t p) (some ⟨gb, 0, none⟩) 2 2) := A8.out.spoil M9.out G1.out G2.out N6.out G4.out
                clear A8 O8 M9
                go_wp2_with fail
                refine (reads_any d.bp ra' (t + 1) rc' (app rd t p) W9 A9.out.S.P.c3 (by omega) A9.out.S.P.reads.lies).mono ?_
                rintro e Y1 ⟨rfl, O8, B8⟩
                have AY : Hid (All W0 Y1 d oa' oc' ra' rc' bad (t + 1) (app rd t p) (some ⟨gb, 0, none⟩) 2 2) := A9.out.below B8.out
                have S8 : Hid (Sl Y1 (some ⟨W9.heap.size, 0, none⟩) (t + 1) (In (app rd t p))) := O8.out.lies
                have S9 : Hid (Sl Y1 oa' (t + 1) (In (app rd t p))) := AY.out.S.O.lies
                clear O8 B8 A9
                go_wp2_with fail
                refine (same_true _ oa' (t + 1) (t + 1) oc' (app rd t p) Y1 (by omega) S8 S9).mono ?_
                rintro e Y2 ⟨rfl, M9⟩
                have AZ : Hid (All W0 Y2 d oa' oc' ra' rc' bad (t + 1) (app rd t p) (some ⟨gb, 0, none⟩) 2 2) := AY.out.quiet M9.out
                clear AY M9 S8 S9
                go_wp2_with fail
                refine (len_any d.bp _ d.n d.n Y2 AZ.out.S.P.c0).mono ?_
                rintro e w' ⟨rfl, hw⟩
                obtain rfl := hw.symm
                clear hw
                rw [DN.out]
                go_wp2_with fail
                refine (count_any d.bp d.pa d.m d.pc Y2 AZ.out.S.P.c1).mono ?_
                rintro e w' ⟨rfl, hw⟩
                obtain rfl := hw.symm
                clear hw
                go_wp2_with fail
                exact ⟨⟨i + 1, (t + 1), oa', oc', ra', rc', bad, (app rd t p), (some ⟨gb, 0, none⟩), 2, 2, by omega, by omega, rfl, rfl, by go_num, AZ⟩, by simp [intOf]; omega⟩
          · have hbad : Hid (bad p = true) := hb
            clear hb
            go_wp2_with fail
            refine (read_bad d p ra rc t bad rd wr A.out.S.P (by omega) hpm hbad).mono ?_
            rintro e W6 ⟨rfl, ra', rc', P6, K6, M6⟩
            have AH : AllH W0 W6 d oa oc ra' rc' bad t rd p ba nbb bbc := A.out.half P6.out K6.out M6.out
            obtain ⟨oa', oc', W7, hr, hA7, hf, hM7⟩ := AH.note (by omega)
            have A7 : Hid (All W0 W7 d oa' oc' ra' rc' bad (t + 1) (app rd t p) ba nbb bbc) := hA7
            clear hA7 AH P6 K6 M6 hf hM7
            rcases A7.out.L with ⟨rfl, rfl, rfl, hno⟩ | ⟨gb, y, rfl, rfl, rfl, -, -, -, -, hc8, hc9, hbj⟩
            · exact absurd (hno p) (by rw [hbad.out]; simp)
            have hyp := hbj p
            rw [hbad.out] at hyp
            have hyp2 : y = (p : Int) ∨ y + 1 = (p : Int) := by
              rcases Bool.or_eq_true _ _ ▸ hyp.symm with h | h
              · exact .inl (of_decide_eq_true h)
              · exact .inr (of_decide_eq_true h)
            clear hyp hbj A
            by_cases hy1 : y = (p : Int)
            · subst hy1
              clear hyp2
              go_wp2_with (at_builtin; first | (refine wpList_append_given rfl _ _ 31 rfl _ _ _ W7 rfl rfl hr ?_))
              go_wp2_with fail
              exact ⟨⟨i + 1, t + 1, oa', oc', ra', rc', bad, _, some ⟨gb, 0, none⟩, 2, 2, by omega, by omega, rfl, rfl, by go_num, A7⟩, by simp [intOf]; omega⟩
            · have hy2 : y + 1 = (p : Int) := by omega
              rw [hy2] at hc9
              have hy3 : ((p : Int) == y) = false := by rw [beq_eq_false_iff_ne]; omega
              have hy4 : ¬ (p : Int) = y := by omega
              clear hyp2 hy1 hy2
              go_wp2_with (at_builtin; first | (refine wpList_append_given rfl _ _ 31 rfl _ _ _ W7 rfl rfl hr ?_))
              go_wp2_with fail
              exact ⟨⟨i + 1, t + 1, oa', oc', ra', rc', bad, _, some ⟨gb, 0, none⟩, 2, 2, by omega, by omega, rfl, rfl, by go_num, A7⟩, by simp [intOf]; omega⟩
        · have hpmz : (d.m : Int) ≤ p := by omega
          have HN : Hid (has p d.m = false) := by show _ = _; unfold has; rw [decide_eq_false (show ¬ ((p : Int) < d.m) by omega), Bool.and_false]
          go_wp2_with fail
          refine (read_none d.bp p d.pa d.m d.pc wr A.out.S.P.c1 (World.block_lt_of_cell? _ _ A.out.S.P.c1) HN.out).mono ?_
          rintro e W6 ⟨rfl, b6⟩
          have A6 : Hid (All W0 W6 d oa oc ra rc bad t rd ba nbb bbc) := A.out.below b6
          clear b6 A
          go_wp2_with fail
          exact ⟨⟨i + 1, t, oa, oc, ra, rc, bad, rd, ba, nbb, bbc, by omega, by omega, rfl, rfl, by go_num, A6⟩, by simp [intOf]; omega⟩
      · rcases hy with hy | hy | hy | hy | hy
        · have PX : Hid (Pg (wr.alloc (.cells #[.int .i64 0, .int .i64 1] 3)) d ra rc bad t rd) := (A.out.quiet (Mv.alloc (fun _ => False) wr _)).S.P
          have SX : Hid (Sl (wr.alloc (.cells #[.int .i64 0, .int .i64 1] 3)) (some ⟨wr.heap.size, 0, none⟩) 2 (In fun i => (0 : Int) + i)) := sl_two wr 0
          have NX : Hid (d.bl < wr.heap.size) := by have h2 := A.out.S.P.t0; have h3 := A.out.S.P.tp; show _ < _; omega
          go_wp2_with fail
          refine (fault_any d ra rc t bad rd _ 2 2 (fun i => (0 : Int) + i) _ PX (by omega) SX (fun p hp e => by cases hp; have h2 := NX.out; have h3 : wr.heap.size = d.bl := e; omega)).mono ?_
          rintro e W6 ⟨rfl, P6, M6⟩
          have A6 : Hid (All W0 W6 d oa oc ra rc (among (fun i => (0 : Int) + i) 2) t rd (some ⟨wr.heap.size, 0, none⟩) 2 2) := A.out.fault (x := 0) rfl P6.out M6.out
          clear A P6 M6 PX SX NX
          go_wp2_with fail
          refine (reads_any d.bp ra t rc rd W6 A6.out.S.P.c3 (by omega) A6.out.S.P.reads.lies).mono ?_
          rintro e Y1 ⟨rfl, O8, B8⟩
          have AY : Hid (All W0 Y1 d oa oc ra rc (among (fun i => (0 : Int) + i) 2) t rd (some ⟨wr.heap.size, 0, none⟩) 2 2) := A6.out.below B8.out
          have S8 : Hid (Sl Y1 (some ⟨W6.heap.size, 0, none⟩) t (In rd)) := O8.out.lies
          have S9 : Hid (Sl Y1 oa t (In rd)) := AY.out.S.O.lies
          clear O8 B8 A6
          go_wp2_with fail
          refine (same_true _ oa t t oc rd Y1 (by omega) S8 S9).mono ?_
          rintro e Y2 ⟨rfl, M9⟩
          have AZ : Hid (All W0 Y2 d oa oc ra rc (among (fun i => (0 : Int) + i) 2) t rd (some ⟨wr.heap.size, 0, none⟩) 2 2) := AY.out.quiet M9.out
          clear AY M9 S8 S9
          go_wp2_with fail
          refine (len_any d.bp _ d.n d.n Y2 AZ.out.S.P.c0).mono ?_
          rintro e w' ⟨rfl, hw⟩
          obtain rfl := hw.symm
          clear hw
          rw [DN.out]
          go_wp2_with fail
          refine (count_any d.bp d.pa d.m d.pc Y2 AZ.out.S.P.c1).mono ?_
          rintro e w' ⟨rfl, hw⟩
          obtain rfl := hw.symm
          clear hw
          go_wp2_with fail
          exact ⟨⟨i + 1, t, oa, oc, ra, rc, (among (fun i => (0 : Int) + i) 2), rd, (some ⟨wr.heap.size, 0, none⟩), 2, 2, by omega, by omega, rfl, rfl, by go_num, AZ⟩, by simp [intOf]; omega⟩
        · have PX : Hid (Pg (wr.alloc (.cells #[.int .i64 1, .int .i64 2] 3)) d ra rc bad t rd) := (A.out.quiet (Mv.alloc (fun _ => False) wr _)).S.P
          have SX : Hid (Sl (wr.alloc (.cells #[.int .i64 1, .int .i64 2] 3)) (some ⟨wr.heap.size, 0, none⟩) 2 (In fun i => (1 : Int) + i)) := sl_two wr 1
          have NX : Hid (d.bl < wr.heap.size) := by have h2 := A.out.S.P.t0; have h3 := A.out.S.P.tp; show _ < _; omega
          go_wp2_with fail
          refine (fault_any d ra rc t bad rd _ 2 2 (fun i => (1 : Int) + i) _ PX (by omega) SX (fun p hp e => by cases hp; have h2 := NX.out; have h3 : wr.heap.size = d.bl := e; omega)).mono ?_
          rintro e W6 ⟨rfl, P6, M6⟩
          have A6 : Hid (All W0 W6 d oa oc ra rc (among (fun i => (1 : Int) + i) 2) t rd (some ⟨wr.heap.size, 0, none⟩) 2 2) := A.out.fault (x := 1) rfl P6.out M6.out
          clear A P6 M6 PX SX NX
          go_wp2_with fail
          refine (reads_any d.bp ra t rc rd W6 A6.out.S.P.c3 (by omega) A6.out.S.P.reads.lies).mono ?_
          rintro e Y1 ⟨rfl, O8, B8⟩
          have AY : Hid (All W0 Y1 d oa oc ra rc (among (fun i => (1 : Int) + i) 2) t rd (some ⟨wr.heap.size, 0, none⟩) 2 2) := A6.out.below B8.out
          have S8 : Hid (Sl Y1 (some ⟨W6.heap.size, 0, none⟩) t (In rd)) := O8.out.lies
          have S9 : Hid (Sl Y1 oa t (In rd)) := AY.out.S.O.lies
          clear O8 B8 A6
          go_wp2_with fail
          refine (same_true _ oa t t oc rd Y1 (by omega) S8 S9).mono ?_
          rintro e Y2 ⟨rfl, M9⟩
          have AZ : Hid (All W0 Y2 d oa oc ra rc (among (fun i => (1 : Int) + i) 2) t rd (some ⟨wr.heap.size, 0, none⟩) 2 2) := AY.out.quiet M9.out
          clear AY M9 S8 S9
          go_wp2_with fail
          refine (len_any d.bp _ d.n d.n Y2 AZ.out.S.P.c0).mono ?_
          rintro e w' ⟨rfl, hw⟩
          obtain rfl := hw.symm
          clear hw
          rw [DN.out]
          go_wp2_with fail
          refine (count_any d.bp d.pa d.m d.pc Y2 AZ.out.S.P.c1).mono ?_
          rintro e w' ⟨rfl, hw⟩
          obtain rfl := hw.symm
          clear hw
          go_wp2_with fail
          exact ⟨⟨i + 1, t, oa, oc, ra, rc, (among (fun i => (1 : Int) + i) 2), rd, (some ⟨wr.heap.size, 0, none⟩), 2, 2, by omega, by omega, rfl, rfl, by go_num, AZ⟩, by simp [intOf]; omega⟩
        · have PX : Hid (Pg (wr.alloc (.cells #[.int .i64 2, .int .i64 3] 3)) d ra rc bad t rd) := (A.out.quiet (Mv.alloc (fun _ => False) wr _)).S.P
          have SX : Hid (Sl (wr.alloc (.cells #[.int .i64 2, .int .i64 3] 3)) (some ⟨wr.heap.size, 0, none⟩) 2 (In fun i => (2 : Int) + i)) := sl_two wr 2
          have NX : Hid (d.bl < wr.heap.size) := by have h2 := A.out.S.P.t0; have h3 := A.out.S.P.tp; show _ < _; omega
          go_wp2_with fail
          refine (fault_any d ra rc t bad rd _ 2 2 (fun i => (2 : Int) + i) _ PX (by omega) SX (fun p hp e => by cases hp; have h2 := NX.out; have h3 : wr.heap.size = d.bl := e; omega)).mono ?_
          rintro e W6 ⟨rfl, P6, M6⟩
          have A6 : Hid (All W0 W6 d oa oc ra rc (among (fun i => (2 : Int) + i) 2) t rd (some ⟨wr.heap.size, 0, none⟩) 2 2) := A.out.fault (x := 2) rfl P6.out M6.out
          clear A P6 M6 PX SX NX
          go_wp2_with fail
          refine (reads_any d.bp ra t rc rd W6 A6.out.S.P.c3 (by omega) A6.out.S.P.reads.lies).mono ?_
          rintro e Y1 ⟨rfl, O8, B8⟩
          have AY : Hid (All W0 Y1 d oa oc ra rc (among (fun i => (2 : Int) + i) 2) t rd (some ⟨wr.heap.size, 0, none⟩) 2 2) := A6.out.below B8.out
          have S8 : Hid (Sl Y1 (some ⟨W6.heap.size, 0, none⟩) t (In rd)) := O8.out.lies
          have S9 : Hid (Sl Y1 oa t (In rd)) := AY.out.S.O.lies
          clear O8 B8 A6
          go_wp2_with fail
          refine (same_true _ oa t t oc rd Y1 (by omega) S8 S9).mono ?_
          rintro e Y2 ⟨rfl, M9⟩
          have AZ : Hid (All W0 Y2 d oa oc ra rc (among (fun i => (2 : Int) + i) 2) t rd (some ⟨wr.heap.size, 0, none⟩) 2 2) := AY.out.quiet M9.out
          clear AY M9 S8 S9
          go_wp2_with fail
          refine (len_any d.bp _ d.n d.n Y2 AZ.out.S.P.c0).mono ?_
          rintro e w' ⟨rfl, hw⟩
          obtain rfl := hw.symm
          clear hw
          rw [DN.out]
          go_wp2_with fail
          refine (count_any d.bp d.pa d.m d.pc Y2 AZ.out.S.P.c1).mono ?_
          rintro e w' ⟨rfl, hw⟩
          obtain rfl := hw.symm
          clear hw
          go_wp2_with fail
          exact ⟨⟨i + 1, t, oa, oc, ra, rc, (among (fun i => (2 : Int) + i) 2), rd, (some ⟨wr.heap.size, 0, none⟩), 2, 2, by omega, by omega, rfl, rfl, by go_num, AZ⟩, by simp [intOf]; omega⟩
        · have PX : Hid (Pg (wr.alloc (.cells #[.int .i64 3, .int .i64 4] 3)) d ra rc bad t rd) := (A.out.quiet (Mv.alloc (fun _ => False) wr _)).S.P
          have SX : Hid (Sl (wr.alloc (.cells #[.int .i64 3, .int .i64 4] 3)) (some ⟨wr.heap.size, 0, none⟩) 2 (In fun i => (3 : Int) + i)) := sl_two wr 3
          have NX : Hid (d.bl < wr.heap.size) := by have h2 := A.out.S.P.t0; have h3 := A.out.S.P.tp; show _ < _; omega
          go_wp2_with fail
          refine (fault_any d ra rc t bad rd _ 2 2 (fun i => (3 : Int) + i) _ PX (by omega) SX (fun p hp e => by cases hp; have h2 := NX.out; have h3 : wr.heap.size = d.bl := e; omega)).mono ?_
          rintro e W6 ⟨rfl, P6, M6⟩
          have A6 : Hid (All W0 W6 d oa oc ra rc (among (fun i => (3 : Int) + i) 2) t rd (some ⟨wr.heap.size, 0, none⟩) 2 2) := A.out.fault (x := 3) rfl P6.out M6.out
          clear A P6 M6 PX SX NX
          go_wp2_with fail
          refine (reads_any d.bp ra t rc rd W6 A6.out.S.P.c3 (by omega) A6.out.S.P.reads.lies).mono ?_
          rintro e Y1 ⟨rfl, O8, B8⟩
          have AY : Hid (All W0 Y1 d oa oc ra rc (among (fun i => (3 : Int) + i) 2) t rd (some ⟨wr.heap.size, 0, none⟩) 2 2) := A6.out.below B8.out
          have S8 : Hid (Sl Y1 (some ⟨W6.heap.size, 0, none⟩) t (In rd)) := O8.out.lies
          have S9 : Hid (Sl Y1 oa t (In rd)) := AY.out.S.O.lies
          clear O8 B8 A6
          go_wp2_with fail
          refine (same_true _ oa t t oc rd Y1 (by omega) S8 S9).mono ?_
          rintro e Y2 ⟨rfl, M9⟩
          have AZ : Hid (All W0 Y2 d oa oc ra rc (among (fun i => (3 : Int) + i) 2) t rd (some ⟨wr.heap.size, 0, none⟩) 2 2) := AY.out.quiet M9.out
          clear AY M9 S8 S9
          go_wp2_with fail
          refine (len_any d.bp _ d.n d.n Y2 AZ.out.S.P.c0).mono ?_
          rintro e w' ⟨rfl, hw⟩
          obtain rfl := hw.symm
          clear hw
          rw [DN.out]
          go_wp2_with fail
          refine (count_any d.bp d.pa d.m d.pc Y2 AZ.out.S.P.c1).mono ?_
          rintro e w' ⟨rfl, hw⟩
          obtain rfl := hw.symm
          clear hw
          go_wp2_with fail
          exact ⟨⟨i + 1, t, oa, oc, ra, rc, (among (fun i => (3 : Int) + i) 2), rd, (some ⟨wr.heap.size, 0, none⟩), 2, 2, by omega, by omega, rfl, rfl, by go_num, AZ⟩, by simp [intOf]; omega⟩
        · have PX : Hid (Pg (wr.alloc (.cells #[.int .i64 4, .int .i64 5] 3)) d ra rc bad t rd) := (A.out.quiet (Mv.alloc (fun _ => False) wr _)).S.P
          have SX : Hid (Sl (wr.alloc (.cells #[.int .i64 4, .int .i64 5] 3)) (some ⟨wr.heap.size, 0, none⟩) 2 (In fun i => (4 : Int) + i)) := sl_two wr 4
          have NX : Hid (d.bl < wr.heap.size) := by have h2 := A.out.S.P.t0; have h3 := A.out.S.P.tp; show _ < _; omega
          go_wp2_with fail
          refine (fault_any d ra rc t bad rd _ 2 2 (fun i => (4 : Int) + i) _ PX (by omega) SX (fun p hp e => by cases hp; have h2 := NX.out; have h3 : wr.heap.size = d.bl := e; omega)).mono ?_
          rintro e W6 ⟨rfl, P6, M6⟩
          have A6 : Hid (All W0 W6 d oa oc ra rc (among (fun i => (4 : Int) + i) 2) t rd (some ⟨wr.heap.size, 0, none⟩) 2 2) := A.out.fault (x := 4) rfl P6.out M6.out
          clear A P6 M6 PX SX NX
          go_wp2_with fail
          refine (reads_any d.bp ra t rc rd W6 A6.out.S.P.c3 (by omega) A6.out.S.P.reads.lies).mono ?_
          rintro e Y1 ⟨rfl, O8, B8⟩
          have AY : Hid (All W0 Y1 d oa oc ra rc (among (fun i => (4 : Int) + i) 2) t rd (some ⟨wr.heap.size, 0, none⟩) 2 2) := A6.out.below B8.out
          have S8 : Hid (Sl Y1 (some ⟨W6.heap.size, 0, none⟩) t (In rd)) := O8.out.lies
          have S9 : Hid (Sl Y1 oa t (In rd)) := AY.out.S.O.lies
          clear O8 B8 A6
          go_wp2_with fail
          refine (same_true _ oa t t oc rd Y1 (by omega) S8 S9).mono ?_
          rintro e Y2 ⟨rfl, M9⟩
          have AZ : Hid (All W0 Y2 d oa oc ra rc (among (fun i => (4 : Int) + i) 2) t rd (some ⟨wr.heap.size, 0, none⟩) 2 2) := AY.out.quiet M9.out
          clear AY M9 S8 S9
          go_wp2_with fail
          refine (len_any d.bp _ d.n d.n Y2 AZ.out.S.P.c0).mono ?_
          rintro e w' ⟨rfl, hw⟩
          obtain rfl := hw.symm
          clear hw
          rw [DN.out]
          go_wp2_with fail
          refine (count_any d.bp d.pa d.m d.pc Y2 AZ.out.S.P.c1).mono ?_
          rintro e w' ⟨rfl, hw⟩
          obtain rfl := hw.symm
          clear hw
          go_wp2_with fail
          exact ⟨⟨i + 1, t, oa, oc, ra, rc, (among (fun i => (4 : Int) + i) 2), rd, (some ⟨wr.heap.size, 0, none⟩), 2, 2, by omega, by omega, rfl, rfl, by go_num, AZ⟩, by simp [intOf]; omega⟩
      · go_wp2_with fail
        refine (clear_any d.bp _ wr A.out.S.P.c3 A.out.S.P.z3).mono ?_
        rintro e W6 ⟨rfl, hw⟩
        subst hw
        have A6 : Hid (All W0 (wr.setCell ⟨d.bp, 4, none⟩ (.slice none 0 0)) d none 0 none 0 bad 0 rd ba nbb bbc) := A.out.clear
        clear A
        generalize wr.setCell ⟨d.bp, 4, none⟩ (.slice none 0 0) = W6 at *
        go_wp2_with fail
        refine (reads_any d.bp none 0 0 rd W6 A6.out.S.P.c3 (by omega) A6.out.S.P.reads.lies).mono ?_
        rintro e Y1 ⟨rfl, O8, B8⟩
        have AY : Hid (All W0 Y1 d none 0 none 0 bad 0 rd ba nbb bbc) := A6.out.below B8.out
        have S8 : Hid (Sl Y1 (some ⟨W6.heap.size, 0, none⟩) 0 (In rd)) := O8.out.lies
        have S9 : Hid (Sl Y1 none 0 (In rd)) := AY.out.S.O.lies
        clear O8 B8 A6
        go_wp2_with fail
        refine (same_true _ none 0 0 0 rd Y1 (by omega) S8 S9).mono ?_
        rintro e Y2 ⟨rfl, M9⟩
        have AZ : Hid (All W0 Y2 d none 0 none 0 bad 0 rd ba nbb bbc) := AY.out.quiet M9.out
        clear AY M9 S8 S9
        go_wp2_with fail
        refine (len_any d.bp _ d.n d.n Y2 AZ.out.S.P.c0).mono ?_
        rintro e w' ⟨rfl, hw⟩
        obtain rfl := hw.symm
        clear hw
        rw [DN.out]
        go_wp2_with fail
        refine (count_any d.bp d.pa d.m d.pc Y2 AZ.out.S.P.c1).mono ?_
        rintro e w' ⟨rfl, hw⟩
        obtain rfl := hw.symm
        clear hw
        go_wp2_with fail
        exact ⟨⟨i + 1, 0, none, 0, none, 0, bad, rd, ba, nbb, bbc, by omega, by omega, rfl, rfl, by go_num, AZ⟩, by simp [intOf]; omega⟩
      · go_wp2_with fail
        refine (fault_any d ra rc t bad rd none 0 0 (fun _ => 0) wr A.out.S.P (by omega) (fun j hj => by cases hj) (fun p hp => by cases hp)).mono ?_
        rintro e W6 ⟨rfl, P6, M6⟩
        have A6 : Hid (All W0 W6 d oa oc ra rc (among (fun _ => 0) 0) t rd none 0 0) := A.out.heal P6.out M6.out
        clear A P6 M6
        go_wp2_with fail
        refine (reads_any d.bp ra t rc rd W6 A6.out.S.P.c3 (by omega) A6.out.S.P.reads.lies).mono ?_
        rintro e Y1 ⟨rfl, O8, B8⟩
        have AY : Hid (All W0 Y1 d oa oc ra rc (among (fun _ => 0) 0) t rd none 0 0) := A6.out.below B8.out
        have S8 : Hid (Sl Y1 (some ⟨W6.heap.size, 0, none⟩) t (In rd)) := O8.out.lies
        have S9 : Hid (Sl Y1 oa t (In rd)) := AY.out.S.O.lies
        clear O8 B8 A6
        go_wp2_with fail
        refine (same_true _ oa t t oc rd Y1 (by omega) S8 S9).mono ?_
        rintro e Y2 ⟨rfl, M9⟩
        have AZ : Hid (All W0 Y2 d oa oc ra rc (among (fun _ => 0) 0) t rd none 0 0) := AY.out.quiet M9.out
        clear AY M9 S8 S9
        go_wp2_with fail
        refine (len_any d.bp _ d.n d.n Y2 AZ.out.S.P.c0).mono ?_
        rintro e w' ⟨rfl, hw⟩
        obtain rfl := hw.symm
        clear hw
        rw [DN.out]
        go_wp2_with fail
        refine (count_any d.bp d.pa d.m d.pc Y2 AZ.out.S.P.c1).mono ?_
        rintro e w' ⟨rfl, hw⟩
        obtain rfl := hw.symm
        clear hw
        go_wp2_with fail
        exact ⟨⟨i + 1, t, oa, oc, ra, rc, (among (fun _ => 0) 0), rd, none, 0, 0, by omega, by omega, rfl, rfl, by go_num, AZ⟩, by simp [intOf]; omega⟩
    · obtain rfl : i = nb := by omega
      have BF : Hid (Below w.heap.size w wr) := KB.out wr A.out.S.K
      clear A
      go_wp2_with fail
      refine (read_nil wr).mono ?_
      rintro e W6 ⟨rfl, b6⟩
      have BG : Hid (Below w.heap.size w W6) := BF.out.trans (b6.mono BF.out.size)
      clear b6 BF
      go_wp2_with fail
      refine (fault_nil none 0 0 W6).mono ?_
      rintro e w' ⟨rfl, hw⟩
      obtain rfl := hw.symm
      clear hw
      go_wp2_with fail
      refine (clear_nil W6).mono ?_
      rintro e w' ⟨rfl, hw⟩
      obtain rfl := hw.symm
      clear hw
      go_wp2_with fail
      refine (len_nil W6).mono ?_
      rintro e w' ⟨rfl, hw⟩
      obtain rfl := hw.symm
      clear hw
      go_wp2_with fail
      refine (count_nil W6).mono ?_
      rintro e w' ⟨rfl, hw⟩
      obtain rfl := hw.symm
      clear hw
      go_wp2_with fail
      refine (reads_nil W6).mono ?_
      rintro e w' ⟨rfl, hw⟩
      obtain rfl := hw.symm
      clear hw
      go_wp2_with fail
      go_ret
      exact ⟨rfl, BG.out⟩

theorem pageAll_row (W : World) (a : Option Addr) (n c : Nat) (f : Nat → Int) (s : Sl W a n (fun i => .int .u8 (f i))) (_o : ∀ i, (Lit.int .u8 (f i)).wf = true) (_e : a = none → n = 0 ∧ c = 0) (r : n ≤ c) (x : Int) (_wx : (Lit.int .i64 x).wf = true)
    (a2 : Option Addr) (n2 c2 : Nat) (f2 : Nat → Int) (s2 : Sl W a2 n2 (fun i => .int .u8 (f2 i))) (o2 : ∀ i, (Lit.int .u8 (f2 i)).wf = true) (_e2 : a2 = none → n2 = 0 ∧ c2 = 0) (_r2 : n2 ≤ c2) :
    Calls Try.prog 3 #[.slice a n c, .int .i64 x, .slice a2 n2 c2] W fun e w' => e = .returned (.bool true) ∧ Below W.heap.size W w' := by
  by_cases h : 400 < n ∨ 40 < n2
  · exact all_out a a2 n c n2 c2 x W h
  · by_cases hs : x < 1 ∨ 512 < x
    · exact all_size a a2 n c n2 c2 f x W (by omega) (by omega) s hs
    · obtain ⟨sz, rfl⟩ : ∃ sz : Nat, x = sz := ⟨x.toNat, by omega⟩
      exact all_any a a2 n c n2 c2 f f2 sz W (by omega) (by omega) r (by omega) (by omega) s s2 (fun i => by simpa [Lit.wf, IntKind.min, IntKind.max, IntKind.signed, IntKind.bits] using o2 i)
end Go.Proofs.Ytjlnmkoggobbgaa
