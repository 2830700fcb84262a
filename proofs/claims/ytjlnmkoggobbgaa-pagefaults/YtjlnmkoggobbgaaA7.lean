/- The walk of PageFaults, where all is within its bounds. -/
import Derived.Test.YtjlnmkoggobbgaaA6
namespace Go.Proofs.Ytjlnmkoggobbgaa
open Go.RowKit

set_option maxRecDepth 100000 in
set_option maxHeartbeats 8000000 in
theorem faults_any (a b c : Option Addr) (na ca nb cb nc cc : Nat) (f fb fc : Nat → Int) (s : Int) (w : World) (hna : na ≤ 200) (hnb : nb ≤ 8) (hnc : nc ≤ 8) (hs0 : 0 ≤ s) (hs1 : s ≤ 255) (hl : Hid (Sl w a na (By f))) (hlb : Hid (Sl w b nb (In fb))) (hlc : Hid (Sl w c nc (In fc))) (eb : Hid (b = none → nb = 0 ∧ cb = 0)) (ec : Hid (c = none → nc = 0 ∧ cc = 0)) :
    Calls Try.prog 6 #[.slice a na ca, .int .u8 s, .slice b nb cb, .slice c nc cc] w fun e w' => e = .returned (.bool true) ∧ Below w.heap.size w w' := by
  have z1 : (na : Int) ≤ 200 := by omega
  have z2 : (nb : Int) ≤ 8 := by omega
  have z3 : (nc : Int) ≤ 8 := by omega
  obtain ⟨k, hk⟩ : ∃ k : Nat, (1 : Int) + s % 30 = k := ⟨(1 + s % 30).toNat, by omega⟩
  have hk1 : 1 ≤ k ∧ k ≤ 30 := by omega
  have HK : Hid _ := hk
  clear hk
  go_enter Try.func6, Try.ntmps6
  go_wp2_with fail
  refine (begun_any w).mono ?_
  rintro e W ⟨rfl, B⟩
  have B0 : Hid (Below w.heap.size w W) := B
  clear B
  go_wp2_with fail
  rw [HK.out]
  refine (new_ok a na ca k f W (by omega) (by omega) (by omega) (hl.out.below B0.out)).mono ?_
  rintro e W1 ⟨d, rfl, hd, P1, B1⟩
  have B2 : Below w.heap.size w W1 := B0.out.trans (B1.out.mono B0.out.size)
  have B3 : Hid (Below w.heap.size w (W1.alloc (.cells #[.slice b nb cb, .slice c nc cc, .slice none 0 0] 31))) := B2.alloc B2.size _
  have LS : Hid (Lists _ w.heap.size W1.heap.size _) := lists_new hlb.out hlc.out eb.out ec.out hnb hnc B2
  have P2 : Hid (Pg (W1.alloc (.cells #[.slice b nb cb, .slice c nc cc, .slice none 0 0] 31)) (d.at (W1.heap.size + 1)) none 0 (fun _ => false) 0 (fun _ => 0)) := (P1.out.mv (Mv.alloc (fun _ => False) W1 _) (fun _ h => h.elim)).retop _ (by rw [hd.out.2.1]; omega) (by simp)
  have LD : Hid (Lies (d.at (W1.heap.size + 1)) w.heap.size W1.heap.size) := by
    have h1 := hd.out.1
    have h2 := hd.out.2.1
    have h3 := P1.out.b0
    have h4 := P1.out.t0
    have h5 := B0.out.size
    show w.heap.size ≤ d.bp ∧ w.heap.size ≤ d.bl ∧ w.heap.size ≤ W1.heap.size + 1 ∧ W1.heap.size < W1.heap.size + 1 ∧ W1.heap.size ≠ d.bp ∧ W1.heap.size ≠ d.bl
    omega
  have DT : Hid ((d.at (W1.heap.size + 1)).top = (W1.alloc (.cells #[.slice b nb cb, .slice c nc cc, .slice none 0 0] 31)).heap.size) := by show W1.heap.size + 1 = _; simp
  have DM : (d.at (W1.heap.size + 1)).m ≤ 200 := by
    have h1 := P1.out.small
    have h2 := hd.out.2.2.1
    show d.m ≤ 200
    omega
  have e : d.bp = (d.at (W1.heap.size + 1)).bp := rfl
  rw [e]
  clear e hd P1 B1 B2 HK
  generalize d.at (W1.heap.size + 1) = D at *
  go_wp2_with fail
  generalize (W1.alloc (.cells #[.slice b nb cb, .slice c nc cc, .slice none 0 0] 31)) = W0 at *
  generalize W1.heap.size = LB at *
  have S0 : Hid (St W0 W0 D none 0 none 0 (fun _ => false) 0 (fun _ => 0)) := ⟨P2.out, own_nil _ _ _ _, sep_nil _, Mv.refl _ _⟩
  have DMz : (D.m : Int) ≤ 200 := by omega
  clear P2
  go_loopw [12, 13] (fun vr vn wr => ∃ (n t : Nat) (oa : Option Addr) (oc : Nat) (ra : Option Addr) (rc : Nat) (bad : Nat → Bool) (rd : Nat → Int), n ≤ 3 ∧ t ≤ 200 * n ∧ vr = .slice oa t oc ∧ vn = .int .i64 n ∧ Hid (St W0 wr D oa oc ra rc bad t rd)) (fun _ vn _ => 3 - (intOf vn).toNat)
  case atStart => exact ⟨0, 0, none, 0, none, 0, _, _, by omega, by omega, rfl, rfl, S0⟩
  case round =>
    obtain ⟨n, t, oa, oc, ra, rc, bad, rd, hn3, ht, rfl, rfl, S⟩ := hrel
    clear S0
    by_cases hlt : n < 3
    · have hltz : (n : Int) < 3 := by omega
      have L1 := LS.out.one hlt
      generalize (Ls.A _ n) = A at L1
      generalize (Ls.N _ n) = N at L1
      generalize (Ls.C _ n) = Cc at L1
      generalize (Ls.F _ n) = lf at L1
      have L : Hid (One W0 w.heap.size LB n A N Cc lf) := L1
      clear L1
      have L2 := L.out.kept LD.out S.out.K
      have hcell : (wr.alloc (.cells #[] 3)).cell? ⟨LB, n, none⟩ = some (.slice A N Cc) := (Mv.alloc (fun _ => False) wr (.cells #[] 3)).cell L2.cell (fun h => h)
      obtain ⟨xa, xc, W2, hr, hO, hB⟩ := append_lit wr A N Cc lf L2.sl (by have := L2.few; omega) L2.nil
      have hN8 : N ≤ 8 := L2.few
      have hN8z : (N : Int) ≤ 8 := by omega
      have S2 : Hid (St W0 W2 D oa oc ra rc bad t rd) := S.out.below hB
      have O2 : Hid (Own W2 wr.heap.size 3 (.slice xa N xc) N (In lf)) := hO
      have X1 : Hid (∀ j, wr.heap.size ≤ j → D.top ≤ j ∧ bk oa ≠ some j ∧ bk ra ≠ some j) := fun j hj => ⟨by have := S.out.P.tp; omega, fun e => by have := S.out.oa_lt j e; omega, fun e => by have := S.out.ra_lt j e; omega⟩
      clear hO hB L2 S
      go_wp2_with (at_builtin; first | (refine wpList_append_given rfl _ _ 31 rfl _ _ _ W2 rfl rfl hr ?_))
      go_wp2_with fail
      clear hr hcell
      refine (fault_any D ra rc t bad rd xa N xc lf W2 S2.out.P (by omega) O2.out.slOf (fun p hp e => by
        have h1 := O2.out.blk p.block (by rw [own_blk, hp]; rfl)
        have h2 := X1.out p.block h1.1
        have h3 := S2.out.P.t0
        omega)).mono ?_
      rintro e W3 ⟨rfl, P3, M3⟩
      have S3 : Hid (St W0 W3 D oa oc ra rc (among lf N) t rd) := S2.out.fault P3.out M3.out
      have O3 : Hid (∃ V, Own W3 wr.heap.size 3 (.slice xa N xc) N V) := ⟨_, O2.out.mv M3.out (fun j hj e => by
        have h1 := O2.out.blk j hj
        have h2 := X1.out j h1.1
        have h3 := S2.out.P.t0
        have h4 : j = D.bl := e
        omega)⟩
      clear S2 O2 P3 M3
      generalize wr.heap.size = H at *
      go_wp2_with fail
      go_loopw [15] (fun vi wr => ∃ (i : Nat), i ≤ N ∧ vi = .int .i64 i ∧ Hid (∃ V, Own wr H 3 (.slice xa N xc) N V) ∧ Hid (St W0 wr D oa oc ra rc (among lf N) t rd)) (fun vi _ => N - (intOf vi).toNat)
      case atStart => exact ⟨0, by omega, rfl, O3, S3⟩
      case round =>
        obtain ⟨i, hi, rfl, O, S⟩ := hrel
        clear O3 S3
        by_cases hlt2 : i < N
        · have hlt2z : (i : Int) < (N : Int) := by omega
          obtain ⟨V, hV⟩ := O.out
          rcases hV.slice with ⟨_, h0⟩ | ⟨g, c2, e, _⟩
          · omega
          obtain rfl : xa = some ⟨g, 0, none⟩ := by injection e
          have h1 := (hV.at hlt2).1
          have h2 := (hV.at hlt2).2
          have O2 : Hid (Own wr H 3 (.slice (some ⟨g, 0, none⟩) N xc) N V) := hV
          clear hV e
          have G : Hid (H ≤ g) := (O2.out.blk g rfl).1
          generalize V i = x at h1
          go_wp2_with fail
          go_roundw
          case rel => exact ⟨i + 1, by omega, by go_num, ⟨_, O2.out.set i (.int .i64 (-5))⟩, S.out.new (Mv.setCell wr ⟨g, i, none⟩ _) (fun j hj => X1.out j (by have h1 := G.out; have h2 : j = g := hj; omega))⟩
          case measure => simp [intOf]; omega
        · obtain rfl : i = N := by omega
          clear O
          go_wp2_with fail
          go_loopw [12, 16] (fun vr vi wr => ∃ (p u : Nat) (oa : Option Addr) (oc : Nat) (ra : Option Addr) (rc : Nat) (rd : Nat → Int), p ≤ D.m ∧ u ≤ 200 * n + p ∧ vr = .slice oa u oc ∧ vi = .int .i64 p ∧ Hid (St W0 wr D oa oc ra rc (among lf i) u rd)) (fun _ vi _ => D.m - (intOf vi).toNat)
          case atStart => exact ⟨0, t, oa, oc, ra, rc, rd, by omega, by omega, rfl, rfl, S⟩
          case round =>
            clear S X1
            obtain ⟨p, u, oa, oc, ra, rc, rd, hp, hu, rfl, rfl, S⟩ := hrel
            have hcnt := S.out.P.c1
            by_cases hlt3 : p < D.m
            · have hlt3z : (p : Int) < D.m := by omega
              go_wp2_with fail
              refine (count_any D.bp D.pa D.m D.pc wr hcnt).mono ?_
              rintro e w' ⟨rfl, hw⟩
              obtain rfl := hw.symm
              clear hw
              have LK := L.out.kept LD.out S.out.K
              have hcell := LK.cell
              have SK : Hid (Sl wr A i (In lf)) := LK.sl
              clear LK
              go_wp2_with fail
              obtain ⟨w5, hw5⟩ : ∃ w5, w5 = wr := ⟨wr, rfl⟩
              subst hw5
              go_loopw [17, 18] (fun vb vk wr => ∃ (q : Nat) (is : Bool), q ≤ i ∧ vb = .bool is ∧ vk = .int .i64 q ∧ wr = w5 ∧ Hid (is = among lf q p)) (fun _ vk _ => i - (intOf vk).toNat)
              case atStart => exact ⟨0, false, by omega, rfl, rfl, rfl, rfl⟩
              case round =>
                obtain ⟨q, is, hq, rfl, rfl, hw, IS⟩ := hrel
                obtain rfl := hw.symm
                clear hw
                by_cases hlt4 : q < i
                · have hlt4z : (q : Int) < (i : Int) := by omega
                  obtain ⟨b5, o5, rfl, _, hc5⟩ := SK.out q hlt4
                  have hc6 : w5.cell? ⟨b5, o5 + q, none⟩ = some (.int .i64 (lf q)) := hc5
                  have E : Hid (among lf (q + 1) p = (is || decide (lf q = (p : Int)))) := by show _ = _; rw [among_succ, IS.out]
                  clear hc5 IS
                  generalize lf q = x at hc6 E
                  cases is
                  · go_wp2_with fail
                    go_roundw
                    case rel => exact ⟨q + 1, decide (x = (p : Int)), by omega, rfl, by go_num, by trivial, by show _ = _; rw [E.out, Bool.false_or]⟩
                    case measure => simp [intOf]; omega
                  · go_wp2_with fail
                    go_roundw
                    case rel => exact ⟨q + 1, true, by omega, rfl, by go_num, by trivial, by show _ = _; rw [E.out, Bool.true_or]⟩
                    case measure => simp [intOf]; omega
                · obtain rfl : q = i := by omega
                  cases is
                  · have hbad : Hid (among lf q p = false) := IS.out.symm
                    clear IS
                    go_wp2_with fail
                    refine (read_ok D p ra rc u _ rd w5 S.out.P (by omega) hlt3 hbad).mono ?_
                    rintro e W6 ⟨g, rfl, ra', rc', P6, K6, M6, N6, O6⟩
                    clear N6 O6
                    generalize min D.sz (D.n - p * D.sz) = l2
                    have HF : Half W0 W6 D oa oc ra' rc' (among lf q) u rd p := S.out.half P6.out K6.out M6.out
                    obtain ⟨oa', oc', W7, hr, hS7, -⟩ := HF.note (by omega)
                    have S7 : Hid (St W0 W7 D oa' oc' ra' rc' (among lf q) (u + 1) (app rd u p)) := hS7
                    clear hS7 HF P6 K6 M6
                    go_wp2_with (at_builtin; first | (refine wpList_append_given rfl _ _ 31 rfl _ _ _ W7 rfl rfl hr ?_))
                    go_wp2_with fail
                    go_roundw
                    case rel => exact ⟨p + 1, u + 1, oa', oc', ra', rc', _, by omega, by omega, rfl, by go_num, S7⟩
                    case measure => simp [intOf]; omega
                  · have hbad : Hid (among lf q p = true) := IS.out.symm
                    clear IS
                    go_wp2_with fail
                    refine (read_bad D p ra rc u _ rd w5 S.out.P (by omega) hlt3 hbad).mono ?_
                    rintro e W6 ⟨rfl, ra', rc', P6, K6, M6⟩
                    have HF : Half W0 W6 D oa oc ra' rc' (among lf q) u rd p := S.out.half P6.out K6.out M6.out
                    obtain ⟨oa', oc', W7, hr, hS7, -⟩ := HF.note (by omega)
                    have S7 : Hid (St W0 W7 D oa' oc' ra' rc' (among lf q) (u + 1) (app rd u p)) := hS7
                    clear hS7 HF P6 K6 M6
                    go_wp2_with (at_builtin; first | (refine wpList_append_given rfl _ _ 31 rfl _ _ _ W7 rfl rfl hr ?_))
                    go_wp2_with fail
                    go_roundw
                    case rel => exact ⟨p + 1, u + 1, oa', oc', ra', rc', _, by omega, by omega, rfl, by go_num, S7⟩
                    case measure => simp [intOf]; omega
            · obtain rfl : p = D.m := by omega
              have hgez : ((D.m : Nat) : Int) ≤ D.m := by omega
              go_wp2_with fail
              refine (count_any D.bp D.pa D.m D.pc wr hcnt).mono ?_
              rintro e w' ⟨rfl, hw⟩
              obtain rfl := hw.symm
              clear hw
              go_wp2_with fail
              go_roundw
              case rel => exact ⟨n + 1, u, oa, oc, ra, rc, _, rd, by omega, by omega, rfl, by go_num, S⟩
              case measure => simp [intOf]; omega
    · obtain rfl : n = 3 := by omega
      have hcnt := S.out.P.c3
      have SR : Hid (Sl wr ra t (In rd)) := S.out.P.reads.slOf
      go_wp2_with fail
      refine (reads_any D.bp ra t rc rd wr hcnt (by omega) SR).mono ?_
      rintro e W8 ⟨rfl, O8, B8⟩
      have S8 : Hid (Sl W8 (some ⟨wr.heap.size, 0, none⟩) t (In rd)) := O8.out.slOf
      have S9 : Hid (Sl W8 oa t (In rd)) := (S.out.below B8.out).O.slOf
      have BF : Hid (Below w.heap.size w W8) := by
        have h1 : Below w.heap.size w wr := below_mv B3.out S.out.K (Nat.le_refl _) (fun j hj hS => by have h2 := LD.out; unfold Lies at h2; omega)
        exact h1.trans (B8.out.mono h1.size)
      clear O8 B8
      go_wp2_with fail
      refine (same_true _ oa t t oc rd W8 (by omega) S8 S9).mono ?_
      rintro e W9 ⟨rfl, M9⟩
      have BG : Hid (Below w.heap.size w W9) := below_mv BF.out M9.out (Nat.le_refl _) (fun j hj h => h)
      clear M9
      go_wp2_with fail
      go_ret
      exact ⟨rfl, BG.out⟩

theorem pageFaults_row (W : World) (a : Option Addr) (n c : Nat) (f : Nat → Int) (s : Sl W a n (fun i => .int .u8 (f i))) (_o : ∀ i, (Lit.int .u8 (f i)).wf = true) (_e : a = none → n = 0 ∧ c = 0) (x : Int) (wx : (Lit.int .u8 x).wf = true)
    (a2 : Option Addr) (n2 c2 : Nat) (f2 : Nat → Int) (s2 : Sl W a2 n2 (fun i => .int .i64 (f2 i))) (_o2 : ∀ i, (Lit.int .i64 (f2 i)).wf = true) (e2 : a2 = none → n2 = 0 ∧ c2 = 0)
    (a3 : Option Addr) (n3 c3 : Nat) (f3 : Nat → Int) (s3 : Sl W a3 n3 (fun i => .int .i64 (f3 i))) (_o3 : ∀ i, (Lit.int .i64 (f3 i)).wf = true) (e3 : a3 = none → n3 = 0 ∧ c3 = 0) :
    Calls Try.prog 6 #[.slice a n c, .int .u8 x, .slice a2 n2 c2, .slice a3 n3 c3] W fun e w' => e = .returned (.bool true) ∧ Below W.heap.size W w' := by
  have hx : 0 ≤ x ∧ x ≤ 255 := by simpa [Lit.wf, IntKind.min, IntKind.max, IntKind.signed, IntKind.bits] using wx
  by_cases h : 200 < n ∨ 8 < n2 ∨ 8 < n3
  · exact faults_out a a2 a3 n c n2 c2 n3 c3 x W h
  · exact faults_any a a2 a3 n c n2 c2 n3 c3 f f2 f3 x W (by omega) (by omega) (by omega) hx.1 hx.2 s s2 s3 e2 e3
end Go.Proofs.Ytjlnmkoggobbgaa
