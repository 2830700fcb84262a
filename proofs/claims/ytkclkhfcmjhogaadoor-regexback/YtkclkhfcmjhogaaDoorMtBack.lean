/- RegexBack. -/
import Derived.Test.YtkclkhfcmjhogaaDoorMgD
import Derived.Test.YtkclkhfcmjhogaaDoorMgF
import Derived.Test.YtkclkhfcmjhogaaDoorMgB
import Derived.Test.YtkclkhfcmjhogaaDoorMgV
import Derived.Test.YtkclkhfcmjhogaaDoorMgN
namespace Go.Proofs.YtkclkhfcmjhogaaDoor
open Go.RowKit
set_option linter.unusedVariables false

theorem Pl.len {d : Nat} {x : RX} (h : Pl d x) (hd : d ≤ 3) {g : (Nat → Bool) → List Nat} (hg : Gd g) : (x.sh g).length ≤ 2400 := by
  have := h.text g hg
  have := Nat.le_trans h.nodes (Nd_le hd)
  omega
set_option maxRecDepth 20000 in
set_option maxHeartbeats 4000000 in
theorem regexBack_walk (a : Option Addr) (len cap : Nat) (f : Nat → Nat) (w : World) (hs : Hid (Sl w a len (Bn f))) (hf : ∀ i, i < len → f i < 256) (ha : ∀ q, a = some q → q.block < w.heap.size) (hT : Hid (Tab w)) : Calls Tryd.prog 6 #[.slice a len cap] w fun e w' => e = .returned (.bool true) ∧ Hid (Qt w w') := by
  have hb := begun_true w hT
  obtain ⟨g, hg⟩ := gd_ex
  have HG : Hid (Gd g) := hg
  have HF : Hid _ := hf
  have HA : Hid _ := ha
  clear hf ha hg
  by_cases hl : 30 < len
  · have hli : (30 : Int) < (len : Int) := by omega
    clear hl
    go_enter Tryd.func6, Tryd.ntmps6
    go_wp2_with fail
    refine hb.mono ?_
    rintro e1 w1 ⟨rfl, q1⟩
    go_wp2_with fail
    go_ret
    exact ⟨rfl, q1.out⟩
  · have hli : (len : Int) ≤ 30 := by omega
    have hrx : ∀ g n W, Hid (Pk W g a len cap f n) → Calls Tryd.prog 21 #[.pointer (some ⟨g, 0, none⟩), .int .i64 3] W fun e w' => RxP 3 W g a len cap f e w' := fun g n W h => rx_any 3 (by decide) g a len cap f n W h
    have HLn : Hid (len < 1000000) := (by omega : len < 1000000)
    clear hl
    go_enter Tryd.func6, Tryd.ntmps6
    go_wp2_with fail
    refine hb.mono ?_
    rintro e1 w1 ⟨rfl, q1⟩
    go_wp2_with fail
    refine (made_any a len cap f w1 (show Hid _ from hs.out.mv q1.out (fun _ _ h => h)) HLn.out HF.out (fun q hq => Nat.lt_of_lt_of_le (HA.out q hq) q1.out.size)).mono ?_
    rintro e2 w2 ⟨rfl, p2, q2⟩
    go_wp2_with fail
    refine (hrx _ _ _ p2).mono ?_
    intro e3 w3 h3
    obtain ⟨x, pa, pc, n3, rfl, plx, px, p3, m3⟩ := h3
    have Q2 : Hid (Qt w w2) := q1.out.comp q2.out
    have Q3 : Hid (Qt w w3) := Mv.trans Q2.out m3.out (fun j hj e => by have := q1.out.size; omega)
    have XT : Hid (Tr x pa pc w3.heap.size (w3.alloc (.cells #[.int .i64 x.kind, .int .u64 (limb x.set 0), .int .u64 (limb x.set 1), .int .u64 (limb x.set 2), .int .u64 (limb x.set 3), .slice pa x.args.length pc] 28))) := Tr.new px.out (hT.out.qt Q3.out)
    have QX : Hid (Qt w (w3.alloc (.cells #[.int .i64 x.kind, .int .u64 (limb x.set 0), .int .u64 (limb x.set 1), .int .u64 (limb x.set 2), .int .u64 (limb x.set 3), .slice pa x.args.length pc] 28))) := Q3.out.alloc _
    obtain ⟨b0, b1, b2, b3, b4, b5, _⟩ := B6.facts (Tr.b XT)
    have HM : Hid (may x = 0) := plx.out.may (by decide)
    clear hrx hb p3 px m3 p2 q2 Q2 Q3
    go_wp2_with fail
    generalize w3.alloc (.cells #[.int .i64 x.kind, .int .u64 (limb x.set 0), .int .u64 (limb x.set 1), .int .u64 (limb x.set 2), .int .u64 (limb x.set 3), .slice pa x.args.length pc] 28) = W3 at *
    refine (tr_may HM.out XT).mono ?_
    rintro e4 w4 ⟨rfl, q4⟩
    have X4 := Tr.qt XT q4
    clear b0 b1 b2 b3 b4 b5
    obtain ⟨b0, b1, b2, b3, b4, b5, _⟩ := B6.facts (Tr.b X4)
    have hshow := showX_any g HG.out x _ pa pc w4 (fun j hj => hj) X4.out.parts X4.out.tab HM.out
    obtain ⟨y, hy, hp⟩ := prsX_sh HG.out HM.out
    have HY : Hid (sameX y x = true) := hy
    have hpar := fun W => parseX_any (x.sh g) W (by have := plx.out.len (by decide) HG.out; omega) (sh_lt HG.out x)
    rw [hp] at hpar
    have hpar2 : ∀ W, Calls Tryd.prog 14 #[.string (str (x.sh g))] W fun e w' => Pt W (.ok y) e w' := hpar
    clear hy hp hpar
    generalize str (x.sh g) = S at *
    go_wp2_with fail
    refine hshow.mono ?_
    rintro e5 w5 ⟨rfl, q5⟩
    have X5 := Tr.qt X4 q5
    clear b0 b1 b2 b3 b4 b5
    obtain ⟨b0, b1, b2, b3, b4, b5, _⟩ := B6.facts (Tr.b X5)
    go_wp2_with fail
    refine (hpar2 _).mono ?_
    rintro e6 w6 ⟨ya, yc, rfl, py, q6⟩
    have X6 := Tr.qt X5 q6
    have PY : Hid (Parts y.args (fun j => w5.heap.size ≤ j) w6 ya yc) := py
    have QY := Mv.alloc (fun _ => False) w6 (.cells #[.int .i64 y.kind, .int .u64 (limb y.set 0), .int .u64 (limb y.set 1), .int .u64 (limb y.set 2), .int .u64 (limb y.set 3), .slice ya y.args.length yc] 28)
    have X7 := Tr.qt X6 (show Hid (Qt w6 (w6.alloc (.cells #[.int .i64 y.kind, .int .u64 (limb y.set 0), .int .u64 (limb y.set 1), .int .u64 (limb y.set 2), .int .u64 (limb y.set 3), .slice ya y.args.length yc] 28))) from QY)
    have PB : Hid (B6 w6.heap.size (.int .i64 y.kind) (.int .u64 (limb y.set 0)) (.int .u64 (limb y.set 1)) (.int .u64 (limb y.set 2)) (.int .u64 (limb y.set 3)) (.slice ya y.args.length yc) (w6.alloc (.cells #[.int .i64 y.kind, .int .u64 (limb y.set 0), .int .u64 (limb y.set 1), .int .u64 (limb y.set 2), .int .u64 (limb y.set 3), .slice ya y.args.length yc] 28))) := heap_alloc_new w6 _
    have hsame := sameRx_any y x _ _ ya pa yc pc (w6.alloc (.cells #[.int .i64 y.kind, .int .u64 (limb y.set 0), .int .u64 (limb y.set 1), .int .u64 (limb y.set 2), .int .u64 (limb y.set 3), .slice ya y.args.length yc] 28)) (show Hid _ from PY.out.mv QY (fun _ _ h => h)) (show Hid _ from X7.out.parts)
    rw [HY.out] at hsame
    have Q6 : Hid (Qt w (w6.alloc (.cells #[.int .i64 y.kind, .int .u64 (limb y.set 0), .int .u64 (limb y.set 1), .int .u64 (limb y.set 2), .int .u64 (limb y.set 3), .slice ya y.args.length yc] 28))) := (((QX.out.comp q4.out).comp q5.out).comp q6.out).comp QY
    clear b0 b1 b2 b3 b4 b5
    obtain ⟨b0, b1, b2, b3, b4, b5, _⟩ := B6.facts (Tr.b X7)
    obtain ⟨y0, y1, y2, y3, y4, y5, _⟩ := B6.facts PB
    clear hpar2 hshow py
    go_wp2_with fail
    refine hsame.mono ?_
    rintro e7 w7 ⟨rfl, q7⟩
    go_wp2_with fail
    go_ret
    exact ⟨rfl, Q6.out.comp q7.out⟩

theorem regexBack_row (a : Option Addr) (len cap : Nat) (f : Nat → Int) (w : World) (hs : Sl w a len (fun i => .int .u8 (f i))) (ho : ∀ i, (Lit.int .u8 (f i)).wf = true) (ha : ∀ q, a = some q → q.block < w.heap.size) (hT : Tab w) : Calls Tryd.prog 6 #[.slice a len cap] w fun e w' => e = .returned (.bool true) ∧ Below w.heap.size w w' := by
  obtain ⟨g, h1, h2⟩ := bytes_of hs ho
  exact (regexBack_walk a len cap g w h1 (fun i _ => h2 i) ha hT).mono fun e w' ⟨he, hq⟩ => ⟨he, hq.out.below (Nat.le_refl _) (fun _ _ h => h)⟩

end Go.Proofs.YtkclkhfcmjhogaaDoor
