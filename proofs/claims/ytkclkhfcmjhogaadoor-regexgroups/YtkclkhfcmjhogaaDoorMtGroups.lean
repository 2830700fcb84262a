/- RegexGroups. -/
import Derived.Test.YtkclkhfcmjhogaaDoorMgY
import Derived.Test.YtkclkhfcmjhogaaDoorMgF
import Derived.Test.YtkclkhfcmjhogaaDoorMgN
import Derived.Test.YtkclkhfcmjhogaaDoorMgG1
import Derived.Deep.RegionLaw
namespace Go.Proofs.YtkclkhfcmjhogaaDoor
open Go.RowKit
set_option linter.unusedVariables false

set_option maxRecDepth 20000 in
set_option maxHeartbeats 4000000 in
theorem groups_early (a0 a1 : Option Addr) (n0 n1 c0 c1 : Nat) (f0 f1 : Nat → Nat) (w : World) (s0 : Hid (Sl w a0 n0 (Bn f0))) (s1 : Hid (Sl w a1 n1 (Bn f1))) (o0 : Hid (∀ j, f0 j < 256)) (o1 : Hid (∀ j, f1 j < 256)) (h0 : Hid (∀ q, a0 = some q → q.block < w.heap.size)) (h1 : Hid (∀ q, a1 = some q → q.block < w.heap.size)) (hT : Hid (Tab w)) (hl : 20 < n0 ∨ (n0 ≤ 20 ∧ 20 < n1)) : Calls Tryd.prog 11 #[.slice a0 n0 c0, .slice a1 n1 c1] w fun e w' => e = .returned (.bool true) ∧ Hid (Qt w w') := by
  have hb := begun_true w hT
  rcases hl with l0 | ⟨l0, l1⟩
  · have g0 : (20 : Int) < (n0 : Int) := by omega
    clear l0
    go_enter Tryd.func11, Tryd.ntmps11
    go_wp2_with fail
    refine hb.mono ?_
    rintro e1 w1 ⟨rfl, q1⟩
    go_wp2_with fail
    go_ret
    exact ⟨rfl, q1.out⟩
  · have g0 : (n0 : Int) ≤ 20 := by omega
    have g1 : (20 : Int) < (n1 : Int) := by omega
    clear l0 l1
    go_enter Tryd.func11, Tryd.ntmps11
    go_wp2_with fail
    refine hb.mono ?_
    rintro e1 w1 ⟨rfl, q1⟩
    go_wp2_with fail
    go_ret
    exact ⟨rfl, q1.out⟩
set_option maxRecDepth 20000 in
set_option maxHeartbeats 8000000 in
theorem groups_main (a0 a1 : Option Addr) (n0 n1 c0 c1 : Nat) (f0 f1 : Nat → Nat) (w : World) (s0 : Hid (Sl w a0 n0 (Bn f0))) (s1 : Hid (Sl w a1 n1 (Bn f1))) (o0 : Hid (∀ j, f0 j < 256)) (o1 : Hid (∀ j, f1 j < 256)) (h0 : Hid (∀ q, a0 = some q → q.block < w.heap.size)) (h1 : Hid (∀ q, a1 = some q → q.block < w.heap.size)) (hT : Hid (Tab w)) (l0 : n0 ≤ 20) (l1 : n1 ≤ 20) : Calls Tryd.prog 11 #[.slice a0 n0 c0, .slice a1 n1 c1] w fun e w' => e = .returned (.bool true) ∧ Hid (Qt w w') := by
  have hb := begun_true w hT
  obtain ⟨g, hg⟩ := gd_ex
  have HG : Hid (Gd g) := hg
  have g0 : (n0 : Int) ≤ 20 := by omega
  have g1 : (n1 : Int) ≤ 20 := by omega
  have L0 : Hid (n0 < 1000000) := (by omega : n0 < 1000000)
  have L1 : Hid (n1 < 1000000) := (by omega : n1 < 1000000)
  clear l0 l1 hg
  have hrx0 : ∀ g n W, Hid (Pk W g a0 n0 c0 f0 n) → Calls Tryd.prog 21 #[.pointer (some ⟨g, 0, none⟩), .int .i64 2] W fun e w' => RxP 2 W g a0 n0 c0 f0 e w' := fun g n W h => rx_any 2 (by decide) g a0 n0 c0 f0 n W h
  have hrx1 : ∀ g n W, Hid (Pk W g a1 n1 c1 f1 n) → Calls Tryd.prog 21 #[.pointer (some ⟨g, 0, none⟩), .int .i64 2] W fun e w' => RxP 2 W g a1 n1 c1 f1 e w' := fun g n W h => rx_any 2 (by decide) g a1 n1 c1 f1 n W h
  go_enter Tryd.func11, Tryd.ntmps11
  go_wp2_with fail
  refine hb.mono ?_
  rintro e1 w1 ⟨rfl, q1⟩
  go_wp2_with fail
  refine (made_any a0 n0 c0 f0 w1 (show Hid _ from s0.out.mv q1.out (fun _ _ h => h)) L0.out (fun j _ => o0.out j) (fun q hq => Nat.lt_of_lt_of_le (h0.out q hq) q1.out.size)).mono ?_
  rintro e2' w2 ⟨rfl, p2, q2⟩
  go_wp2_with fail
  refine (hrx0 _ _ _ p2).mono ?_
  intro e3' w3 h3
  obtain ⟨x, pa, pc, m3', rfl, plx, px, p3, m3⟩ := h3
  have Q3 : Hid (Qt w w3) := Mv.trans (q1.out.comp q2.out) m3.out (fun j hj e => by have := q1.out.size; omega)
  clear p2 p3 hrx0 hb
  go_wp2_with fail
  refine (made_any a1 n1 c1 f1 w3 (show Hid _ from s1.out.mv Q3.out (fun _ _ h => h)) L1.out (fun j _ => o1.out j) (fun q hq => Nat.lt_of_lt_of_le (h1.out q hq) Q3.out.size)).mono ?_
  rintro e4' w4 ⟨rfl, p4, q4⟩
  go_wp2_with fail
  refine (hrx1 _ _ _ p4).mono ?_
  intro e5' w5 h5
  obtain ⟨y, pb, qc, m5', rfl, ply, py, p5, m5⟩ := h5
  have M5 : Mv (fun j => j = w3.heap.size) w3 w5 := Mv.trans (q4.out.mono (fun _ _ h => h.elim)) m5.out (fun _ _ h => h)
  have Q5 : Hid (Qt w w5) := Mv.trans Q3.out M5 (fun j hj e => by have := Q3.out.size; omega)
  have px5 : Hid (Parts x.args (fun j => j < w5.heap.size) w5 pa pc) := (px.out.lt.mv M5 (fun j hj e => by have := hj.2; omega)).mono (fun j hj => Nat.lt_of_lt_of_le hj.2 M5.size)
  have py5 : Hid (Parts y.args (fun j => j < w5.heap.size) w5 pb qc) := py.out.lt.mono (fun j hj => hj.2)
  clear p4 p5 hrx1 px py m3 m5 q4 M5 q2 q1 Q3
  have XT : Hid (Tr x pa pc w5.heap.size ((w5.alloc (.cells #[.int .i64 x.kind, .int .u64 (limb x.set 0), .int .u64 (limb x.set 1), .int .u64 (limb x.set 2), .int .u64 (limb x.set 3), .slice pa x.args.length pc] 28)).alloc (.cells #[.int .i64 y.kind, .int .u64 (limb y.set 0), .int .u64 (limb y.set 1), .int .u64 (limb y.set 2), .int .u64 (limb y.set 3), .slice pb y.args.length qc] 28))) := Tr.qt (Tr.new (K := fun j => j < w5.heap.size) px5.out (hT.out.qt Q5.out)) (Mv.alloc _ _ _)
  have YT : Hid (Tr y pb qc (w5.alloc (.cells #[.int .i64 x.kind, .int .u64 (limb x.set 0), .int .u64 (limb x.set 1), .int .u64 (limb x.set 2), .int .u64 (limb x.set 3), .slice pa x.args.length pc] 28)).heap.size ((w5.alloc (.cells #[.int .i64 x.kind, .int .u64 (limb x.set 0), .int .u64 (limb x.set 1), .int .u64 (limb x.set 2), .int .u64 (limb x.set 3), .slice pa x.args.length pc] 28)).alloc (.cells #[.int .i64 y.kind, .int .u64 (limb y.set 0), .int .u64 (limb y.set 1), .int .u64 (limb y.set 2), .int .u64 (limb y.set 3), .slice pb y.args.length qc] 28))) := Tr.new (K := fun j => j < w5.heap.size) (py5.out.mv (Mv.alloc (fun _ => False) _ _) (fun _ _ h => h)) (hT.out.qt (Q5.out.alloc _))
  have QB : Hid (Qt w ((w5.alloc (.cells #[.int .i64 x.kind, .int .u64 (limb x.set 0), .int .u64 (limb x.set 1), .int .u64 (limb x.set 2), .int .u64 (limb x.set 3), .slice pa x.args.length pc] 28)).alloc (.cells #[.int .i64 y.kind, .int .u64 (limb y.set 0), .int .u64 (limb y.set 1), .int .u64 (limb y.set 2), .int .u64 (limb y.set 3), .slice pb y.args.length qc] 28))) := (Q5.out.alloc _).alloc _
  rw [show (w5.alloc (.cells #[.int .i64 x.kind, .int .u64 (limb x.set 0), .int .u64 (limb x.set 1), .int .u64 (limb x.set 2), .int .u64 (limb x.set 3), .slice pa x.args.length pc] 28)).heap.size = w5.heap.size + 1 from by simp] at YT
  obtain ⟨b0, b1, b2, b3, b4, b5, _⟩ := B6.facts (Tr.b XT)
  have HMx : Hid (may x = 0) := plx.out.may (by decide)
  have HMy : Hid (may y = 0) := ply.out.may (by decide)
  go_wp2_with fail
  generalize (w5.alloc (.cells #[.int .i64 x.kind, .int .u64 (limb x.set 0), .int .u64 (limb x.set 1), .int .u64 (limb x.set 2), .int .u64 (limb x.set 3), .slice pa x.args.length pc] 28)).alloc (.cells #[.int .i64 y.kind, .int .u64 (limb y.set 0), .int .u64 (limb y.set 1), .int .u64 (limb y.set 2), .int .u64 (limb y.set 3), .slice pb y.args.length qc] 28) = wb at *
  refine (tr_may HMx.out XT).mono ?_
  rintro e6 w6 ⟨rfl, q6⟩
  have Y6 := Tr.qt YT q6
  obtain ⟨y0, y1, y2, y3, y4, y5, _⟩ := B6.facts (Tr.b Y6)
  clear b0 b1 b2 b3 b4 b5
  go_wp2_with fail
  refine (tr_may HMy.out Y6).mono ?_
  rintro e7 w7 ⟨rfl, q7⟩
  have X7 := Tr.qt (Tr.qt XT q6) q7
  have Y7 := Tr.qt Y6 q7
  have Q7 : Hid (Qt w w7) := (QB.out.comp q6.out).comp q7.out
  clear y0 y1 y2 y3 y4 y5
  obtain ⟨b0, b1, b2, b3, b4, b5, _⟩ := B6.facts (Tr.b X7)
  have hnx : x.nodes ≤ 13 := Nat.le_trans plx.out.nodes (by decide)
  have hny : y.nodes ≤ 13 := Nat.le_trans ply.out.nodes (by decide)
  have hdx := plx.out.depth
  have hdy := ply.out.depth
  have hlx := plx.out.text g HG.out
  have hly := ply.out.text g HG.out
  have hsx := rsh_any HG.out x _ pa pc w7 (show Hid _ from X7.out.parts) plx.out.formed (by omega)
  have hsy : Hid (∀ (K : Nat → Prop) (a : Option Addr) (c : Nat) (W : World), Hid (Parts y.args K W a c) → Calls Tryd.prog 23 #[.agg #[.int .i64 y.kind, .int .u64 (limb y.set 0), .int .u64 (limb y.set 1), .int .u64 (limb y.set 2), .int .u64 (limb y.set 3), .slice a y.args.length c]] W fun e w' => e = .returned (.string (str (y.sh g))) ∧ Hid (Qt W w')) := fun K a c W h => rsh_any HG.out y K a c W h ply.out.formed (by omega)
  obtain ⟨p1, hs1, hp1⟩ := prs_group HG.out HMx.out
  obtain ⟨p2, hs2, hp2⟩ := prs_group2 HG.out HMx.out
  obtain ⟨p3, hs3, hp3⟩ := prs_bar HG.out plx.out.formed ply.out.formed (by omega) ⟨by omega, by omega⟩
  have hp4 := prs_open HG.out HMx.out
  have hp5 := prs_shut HG.out HMx.out
  have bx := sh_lt HG.out x
  have bY := sh_lt HG.out y
  have c1 : ∀ W, Calls Tryd.prog 14 #[.string (((⟨#[40]⟩ : ByteArray) ++ str (x.sh g)) ++ (⟨#[41]⟩ : ByteArray))] W fun e w' => Pt W (.ok p1) e w' := fun W => by
    rw [brk_str, ← hp1]
    exact parseX_any _ W (by simp; omega) (fun c hc => by
      rcases List.mem_cons.1 hc with e | hc
      · omega
      · rcases List.mem_append.1 hc with hc | hc
        · exact bx c hc
        · simp at hc; omega)
  have c2 : ∀ W, Calls Tryd.prog 14 #[.string (((⟨#[40, 40]⟩ : ByteArray) ++ str (x.sh g)) ++ (⟨#[41, 41]⟩ : ByteArray))] W fun e w' => Pt W (.ok p2) e w' := fun W => by
    rw [show (⟨#[40, 40]⟩ : ByteArray) = str [40, 40] from rfl, show (⟨#[41, 41]⟩ : ByteArray) = str [41, 41] from rfl, str_append, str_append, show ([40, 40] ++ x.sh g) ++ [41, 41] = 40 :: 40 :: (x.sh g ++ [41, 41]) from by simp, ← hp2]
    exact parseX_any _ W (by simp; omega) (fun c hc => by
      rcases List.mem_cons.1 hc with e | hc
      · omega
      · rcases List.mem_cons.1 hc with e | hc
        · omega
        · rcases List.mem_append.1 hc with hc | hc
          · exact bx c hc
          · simp at hc; omega)
  have c3 : ∀ W, Calls Tryd.prog 14 #[.string ((str (x.sh g) ++ (⟨#[124]⟩ : ByteArray)) ++ str (y.sh g))] W fun e w' => Pt W (.ok p3) e w' := fun W => by
    rw [show (⟨#[124]⟩ : ByteArray) = str [124] from rfl, str_append, str_append, show (x.sh g ++ [124]) ++ y.sh g = x.sh g ++ 124 :: y.sh g from by simp, ← hp3]
    exact parseX_any _ W (by simp; omega) (fun c hc => by
      rcases List.mem_append.1 hc with hc | hc
      · exact bx c hc
      · rcases List.mem_cons.1 hc with e | hc
        · omega
        · exact bY c hc)
  have c4 : Hid (∀ W, Calls Tryd.prog 14 #[.string ((⟨#[40]⟩ : ByteArray) ++ str (x.sh g))] W fun e w' => Pt W (.error 2) e w') := fun W => by
    rw [show (⟨#[40]⟩ : ByteArray) = str [40] from rfl, str_append, ← hp4]
    exact parseX_any _ W (by simp; omega) (fun c hc => by
      rcases List.mem_cons.1 hc with e | hc
      · omega
      · exact bx c hc)
  have c5 : Hid (∀ W, Calls Tryd.prog 14 #[.string (str (x.sh g) ++ (⟨#[41]⟩ : ByteArray))] W fun e w' => Pt W (.error 2) e w') := fun W => by
    rw [show (⟨#[41]⟩ : ByteArray) = str [41] from rfl, str_append, ← hp5]
    exact parseX_any _ W (by simp; omega) (fun c hc => by
      rcases List.mem_append.1 hc with hc | hc
      · exact bx c hc
      · simp at hc; omega)
  have z0 : (str (x.sh g)).size ≤ 1000 := by rw [str_size]; omega
  have z1 : (str (y.sh g)).size ≤ 1000 := by rw [str_size]; omega
  have z2 : ((⟨#[40]⟩ : ByteArray) ++ str (x.sh g)).size ≤ 1001 := by rw [size_add]; have : (⟨#[40]⟩ : ByteArray).size = 1 := rfl; omega
  have z3 : ((⟨#[40, 40]⟩ : ByteArray) ++ str (x.sh g)).size ≤ 1002 := by rw [size_add]; have : (⟨#[40, 40]⟩ : ByteArray).size = 2 := rfl; omega
  have z4 : (str (x.sh g) ++ (⟨#[124]⟩ : ByteArray)).size ≤ 1001 := by rw [size_add]; have : (⟨#[124]⟩ : ByteArray).size = 1 := rfl; omega
  have HS1 : Hid (sameX p1 x = true) := hs1
  have HS2 : Hid (sameX p2 x = true) := hs2
  have HS3 : Hid (sameX p3 (barX x y) = true) := hs3
  have HNx : Hid (x.nodes ≤ 13 ∧ y.nodes ≤ 13) := ⟨hnx, hny⟩
  clear hs1 hs2 hs3 hp1 hp2 hp3 hp4 hp5 bx bY hnx hny hdx hdy hlx hly
  generalize str (x.sh g) = S at *
  generalize str (y.sh g) = U at *
  go_wp2_with fail
  refine hsx.mono ?_
  rintro e8 w8 ⟨rfl, q8⟩
  have Q8 : Hid (Qt w w8) := Q7.out.comp q8.out
  have X8 := Tr.qt X7 q8
  have Y8 := Tr.qt Y7 q8
  clear b0 b1 b2 b3 b4 b5 hsx
  go_wp2_with fail
  refine (c1 _).mono ?_
  rintro ep1 wp1 ⟨ap1, cp1, rfl, Pp1, qp1⟩
  have Qp1 : Hid (Qt w wp1) := Q8.out.comp qp1.out
  have Tp1 : Hid (Tr p1 ap1 cp1 wp1.heap.size (wp1.alloc (.cells #[.int .i64 p1.kind, .int .u64 (limb p1.set 0), .int .u64 (limb p1.set 1), .int .u64 (limb p1.set 2), .int .u64 (limb p1.set 3), .slice ap1 p1.args.length cp1] 28))) := Tr.new Pp1.out (hT.out.qt Qp1.out)
  have Rp1 : Hid (Qt w (wp1.alloc (.cells #[.int .i64 p1.kind, .int .u64 (limb p1.set 0), .int .u64 (limb p1.set 1), .int .u64 (limb p1.set 2), .int .u64 (limb p1.set 3), .slice ap1 p1.args.length cp1] 28))) := Qp1.out.alloc _
  clear c1
  go_wp2_with fail
  refine (c2 _).mono ?_
  rintro ep2 wp2 ⟨ap2, cp2, rfl, Pp2, qp2⟩
  have Qp2 : Hid (Qt w wp2) := Rp1.out.comp qp2.out
  have Tp2 : Hid (Tr p2 ap2 cp2 wp2.heap.size (wp2.alloc (.cells #[.int .i64 p2.kind, .int .u64 (limb p2.set 0), .int .u64 (limb p2.set 1), .int .u64 (limb p2.set 2), .int .u64 (limb p2.set 3), .slice ap2 p2.args.length cp2] 28))) := Tr.new Pp2.out (hT.out.qt Qp2.out)
  have Rp2 : Hid (Qt w (wp2.alloc (.cells #[.int .i64 p2.kind, .int .u64 (limb p2.set 0), .int .u64 (limb p2.set 1), .int .u64 (limb p2.set 2), .int .u64 (limb p2.set 3), .slice ap2 p2.args.length cp2] 28))) := Qp2.out.alloc _
  clear c2
  have Y10 := Tr.qt Y8 (show Hid (Qt w8 (wp2.alloc (.cells #[.int .i64 p2.kind, .int .u64 (limb p2.set 0), .int .u64 (limb p2.set 1), .int .u64 (limb p2.set 2), .int .u64 (limb p2.set 3), .slice ap2 p2.args.length cp2] 28))) from ((qp1.out.alloc _).comp qp2.out).alloc _)
  have X10 := Tr.qt X8 (show Hid (Qt w8 (wp2.alloc (.cells #[.int .i64 p2.kind, .int .u64 (limb p2.set 0), .int .u64 (limb p2.set 1), .int .u64 (limb p2.set 2), .int .u64 (limb p2.set 3), .slice ap2 p2.args.length cp2] 28))) from ((qp1.out.alloc _).comp qp2.out).alloc _)
  have T1 := Tr.qt Tp1 (show Hid (Qt _ (wp2.alloc (.cells #[.int .i64 p2.kind, .int .u64 (limb p2.set 0), .int .u64 (limb p2.set 1), .int .u64 (limb p2.set 2), .int .u64 (limb p2.set 3), .slice ap2 p2.args.length cp2] 28))) from qp2.out.alloc _)
  obtain ⟨y0, y1, y2, y3, y4, y5, _⟩ := B6.facts (Tr.b Y10)
  go_wp2_with fail
  refine (hsy.out _ pb qc _ (show Hid _ from Y10.out.parts)).mono ?_
  rintro e11 w11 ⟨rfl, q11⟩
  have Q11 : Hid (Qt w w11) := Rp2.out.comp q11.out
  clear y0 y1 y2 y3 y4 y5 hsy
  go_wp2_with fail
  refine (c3 _).mono ?_
  rintro ep3 wp3 ⟨ap3, cp3, rfl, Pp3, qp3⟩
  have q12 : Hid (Qt (wp2.alloc (.cells #[.int .i64 p2.kind, .int .u64 (limb p2.set 0), .int .u64 (limb p2.set 1), .int .u64 (limb p2.set 2), .int .u64 (limb p2.set 3), .slice ap2 p2.args.length cp2] 28)) (wp3.alloc (.cells #[.int .i64 p3.kind, .int .u64 (limb p3.set 0), .int .u64 (limb p3.set 1), .int .u64 (limb p3.set 2), .int .u64 (limb p3.set 3), .slice ap3 p3.args.length cp3] 28))) := (q11.out.comp qp3.out).alloc _
  have Tp3 : Hid (Tr p3 ap3 cp3 wp3.heap.size (wp3.alloc (.cells #[.int .i64 p3.kind, .int .u64 (limb p3.set 0), .int .u64 (limb p3.set 1), .int .u64 (limb p3.set 2), .int .u64 (limb p3.set 3), .slice ap3 p3.args.length cp3] 28))) := Tr.new Pp3.out (hT.out.qt (Q11.out.comp qp3.out))
  have Q12 : Hid (Qt w (wp3.alloc (.cells #[.int .i64 p3.kind, .int .u64 (limb p3.set 0), .int .u64 (limb p3.set 1), .int .u64 (limb p3.set 2), .int .u64 (limb p3.set 3), .slice ap3 p3.args.length cp3] 28))) := Rp2.out.comp q12.out
  have X12 := Tr.qt X10 q12
  have Y12 := Tr.qt Y10 q12
  have T12 := Tr.qt T1 q12
  have U12 := Tr.qt Tp2 q12
  have V12 : Hid (Qt (wp3.alloc (.cells #[.int .i64 p3.kind, .int .u64 (limb p3.set 0), .int .u64 (limb p3.set 1), .int .u64 (limb p3.set 2), .int .u64 (limb p3.set 3), .slice ap3 p3.args.length cp3] 28)) ((wp3.alloc (.cells #[.int .i64 p3.kind, .int .u64 (limb p3.set 0), .int .u64 (limb p3.set 1), .int .u64 (limb p3.set 2), .int .u64 (limb p3.set 3), .slice ap3 p3.args.length cp3] 28)).alloc (.cells #[.int .i64 3, .int .u64 0, .int .u64 0, .int .u64 0, .int .u64 0, .slice none 0 0] 28))) := Mv.alloc _ _ _
  obtain ⟨b0, b1, b2, b3, b4, b5, _⟩ := B6.facts (Tr.b (Tr.qt X12 V12))
  obtain ⟨y0, y1, y2, y3, y4, y5, _⟩ := B6.facts (Tr.b (Tr.qt Y12 V12))
  have B0 : Hid (Wt (wp3.alloc (.cells #[.int .i64 p3.kind, .int .u64 (limb p3.set 0), .int .u64 (limb p3.set 1), .int .u64 (limb p3.set 2), .int .u64 (limb p3.set 3), .slice ap3 p3.args.length cp3] 28)) (wp3.heap.size + 1) #[.int .i64 x.kind, .int .u64 (limb x.set 0), .int .u64 (limb x.set 1), .int .u64 (limb x.set 2), .int .u64 (limb x.set 3), .slice pa x.args.length pc, .int .i64 y.kind, .int .u64 (limb y.set 0), .int .u64 (limb y.set 1), .int .u64 (limb y.set 2), .int .u64 (limb y.set 3), .slice pb y.args.length qc] (((wp3.alloc (.cells #[.int .i64 p3.kind, .int .u64 (limb p3.set 0), .int .u64 (limb p3.set 1), .int .u64 (limb p3.set 2), .int .u64 (limb p3.set 3), .slice ap3 p3.args.length cp3] 28)).alloc (.cells #[.int .i64 3, .int .u64 0, .int .u64 0, .int .u64 0, .int .u64 0, .slice none 0 0] 28)).alloc (.cells #[.int .i64 x.kind, .int .u64 (limb x.set 0), .int .u64 (limb x.set 1), .int .u64 (limb x.set 2), .int .u64 (limb x.set 3), .slice pa x.args.length pc, .int .i64 y.kind, .int .u64 (limb y.set 0), .int .u64 (limb y.set 1), .int .u64 (limb y.set 2), .int .u64 (limb y.set 3), .slice pb y.args.length qc] 28)) (.slice none 0 0) []) := by
    have h := Wt.new (w0 := (wp3.alloc (.cells #[.int .i64 p3.kind, .int .u64 (limb p3.set 0), .int .u64 (limb p3.set 1), .int .u64 (limb p3.set 2), .int .u64 (limb p3.set 3), .slice ap3 p3.args.length cp3] 28))) (R := #[.int .i64 x.kind, .int .u64 (limb x.set 0), .int .u64 (limb x.set 1), .int .u64 (limb x.set 2), .int .u64 (limb x.set 3), .slice pa x.args.length pc, .int .i64 y.kind, .int .u64 (limb y.set 0), .int .u64 (limb y.set 1), .int .u64 (limb y.set 2), .int .u64 (limb y.set 3), .slice pb y.args.length qc])
    rw [show (wp3.alloc (.cells #[.int .i64 p3.kind, .int .u64 (limb p3.set 0), .int .u64 (limb p3.set 1), .int .u64 (limb p3.set 2), .int .u64 (limb p3.set 3), .slice ap3 p3.args.length cp3] 28)).heap.size = wp3.heap.size + 1 from by simp] at h
    exact h
  clear c3 V12 Q11 q11
  go_wp2_with fail
  clear b0 b1 b2 b3 b4 b5 y0 y1 y2 y3 y4 y5
  generalize (((wp3.alloc (.cells #[.int .i64 p3.kind, .int .u64 (limb p3.set 0), .int .u64 (limb p3.set 1), .int .u64 (limb p3.set 2), .int .u64 (limb p3.set 3), .slice ap3 p3.args.length cp3] 28)).alloc (.cells #[.int .i64 3, .int .u64 0, .int .u64 0, .int .u64 0, .int .u64 0, .slice none 0 0] 28)).alloc (.cells #[.int .i64 x.kind, .int .u64 (limb x.set 0), .int .u64 (limb x.set 1), .int .u64 (limb x.set 2), .int .u64 (limb x.set 3), .slice pa x.args.length pc, .int .i64 y.kind, .int .u64 (limb y.set 0), .int .u64 (limb y.set 1), .int .u64 (limb y.set 2), .int .u64 (limb y.set 3), .slice pb y.args.length qc] 28)) = W0 at *
  obtain ⟨w0, hw0⟩ : ∃ w0, w0 = (wp3.alloc (.cells #[.int .i64 p3.kind, .int .u64 (limb p3.set 0), .int .u64 (limb p3.set 1), .int .u64 (limb p3.set 2), .int .u64 (limb p3.set 3), .slice ap3 p3.args.length cp3] 28)) := ⟨_, rfl⟩
  rw [← hw0] at B0 X12 Y12 T12 U12 Tp3 Q12 q12
  clear hw0
  generalize wp3.heap.size = gp3 at *
  go_loopw [16] (fun s16 wr => ∃ i va vn vc, i ≤ 2 ∧ s16 = .int .i64 (i : Nat) ∧ Hid (vn = (accs x y i).length) ∧ Hid (Wt w0 (gp3 + 1) #[.int .i64 x.kind, .int .u64 (limb x.set 0), .int .u64 (limb x.set 1), .int .u64 (limb x.set 2), .int .u64 (limb x.set 3), .slice pa x.args.length pc, .int .i64 y.kind, .int .u64 (limb y.set 0), .int .u64 (limb y.set 1), .int .u64 (limb y.set 2), .int .u64 (limb y.set 3), .slice pb y.args.length qc] wr (.slice va vn vc) (accs x y i))) (fun s16 _ => 2 - (intOf s16).toNat)
  case atStart => exact ⟨0, none, 0, 0, by omega, rfl, rfl, B0⟩
  case round =>
    obtain ⟨i, va, vn, vc, hi, rfl, hvn, B⟩ := hrel
    by_cases hlt : i < 2
    · obtain ⟨k0, k1, k2, k3, k4, k5, k6, k7, k8, k9, k10, k11⟩ := Wt.cells B
      obtain ⟨r0, r1, r2, r3, r4, r5, _, _, _, _, _, f5⟩ := B6.facts (show Hid _ from B.out.r)
      have hlen : (accs x y i).length < 1000 ∧ x.args.length < 1000 ∧ y.args.length < 1000 := by
        have h1 := HNx.out
        have h2 := alts_nodes (x := x)
        have h3 := alts_nodes (x := y)
        have h4 := len_le_sum (alts x)
        have h5 := len_le_sum (alts y)
        have h6 := len_le_sum x.args
        have h7 := len_le_sum y.args
        have h8 := nodes_at x
        have h9 := nodes_at y
        refine ⟨?_, by omega, by omega⟩
        rcases (show i = 0 ∨ i = 1 from by omega) with rfl | rfl <;> simp only [accs, List.length_nil] <;> omega
      have DB := B.out.qt (Mv.drewN (fun _ => False) wr 1)
      rcases (show i = 0 ∨ i = 1 from by omega) with rfl | rfl
      · by_cases hk : x.kind = 3
        · have hkb : (x.kind == 3) = true := by rw [hk]; rfl
          have HA : Hid (accs x y 0 ++ x.args = accs x y 1) := by show _ = _; simp [accs, alts, hk]
          obtain ⟨v', W, hr, ⟨va', vc', hv'⟩, hR, B'⟩ := DB.cat (m := x.args) (by omega) (X12.out.parts.mv DB.mv (fun _ _ h => h))
          rw [HA.out] at hv' B'
          subst hv'
          obtain ⟨_, _, _, _, _, y5, _, _, _, _, _, f6⟩ := B6.facts hR
          clear hk hlen DB
          go_wp2_with fail
          go_region_law (first
            | (refine step_given rfl (.tmp 85) (.tmp 90) 26 rfl _ _ _ rfl rfl W hr ?_))
          all_goals (go_wp2_with fail)
          all_goals (exact ⟨⟨1, va', _, vc', by omega, by go_num, rfl, B'⟩, by simp [intOf]⟩)
        · have hkb : (x.kind == 3) = false := beq_false_of_ne hk
          have HA : Hid (accs x y 0 ++ [x] = accs x y 1) := by show _ = _; simp [accs, alts, hk]
          obtain ⟨v', W, hr, ⟨va', vc', hv'⟩, hR, B'⟩ := DB.one (x := x) (by omega) (X12.out.parts.mv DB.mv (fun _ _ h => h))
          rw [HA.out] at hv' B'
          subst hv'
          obtain ⟨_, _, _, _, _, y5, _, _, _, _, _, f6⟩ := B6.facts hR
          have n5 := Qt.keep (show Hid (Qt wr (wr.alloc (.cells #[.int .i64 x.kind, .int .u64 (limb x.set 0), .int .u64 (limb x.set 1), .int .u64 (limb x.set 2), .int .u64 (limb x.set 3), .slice pa x.args.length pc] 28))) from Mv.alloc _ _ _) r5
          clear hk hlen DB
          go_wp2_with fail
          go_region_law (first
            | (refine step_given rfl (.tmp 94) (.tmp 99) 26 rfl _ _ _ rfl rfl W hr ?_))
          all_goals (go_wp2_with fail)
          all_goals (exact ⟨⟨1, va', _, vc', by omega, by go_num, rfl, B'⟩, by simp [intOf]⟩)
      · by_cases hk : y.kind = 3
        · have hkb : (y.kind == 3) = true := by rw [hk]; rfl
          have HA : Hid (accs x y 1 ++ y.args = accs x y 2) := by show _ = _; simp [accs, alts, hk]
          obtain ⟨v', W, hr, ⟨va', vc', hv'⟩, hR, B'⟩ := DB.cat (m := y.args) (by omega) (Y12.out.parts.mv DB.mv (fun _ _ h => h))
          rw [HA.out] at hv' B'
          subst hv'
          obtain ⟨_, _, _, _, _, y5, _, _, _, _, _, f6⟩ := B6.facts hR
          clear hk hlen DB
          go_wp2_with fail
          go_region_law (first
            | (refine step_given rfl (.tmp 85) (.tmp 90) 26 rfl _ _ _ rfl rfl W hr ?_))
          all_goals (go_wp2_with fail)
          all_goals (exact ⟨⟨2, va', _, vc', by omega, by go_num, rfl, B'⟩, by simp [intOf]⟩)
        · have hkb : (y.kind == 3) = false := beq_false_of_ne hk
          have HA : Hid (accs x y 1 ++ [y] = accs x y 2) := by show _ = _; simp [accs, alts, hk]
          obtain ⟨v', W, hr, ⟨va', vc', hv'⟩, hR, B'⟩ := DB.one (x := y) (by omega) (Y12.out.parts.mv DB.mv (fun _ _ h => h))
          rw [HA.out] at hv' B'
          subst hv'
          obtain ⟨_, _, _, _, _, y5, _, _, _, _, _, f6⟩ := B6.facts hR
          have n5 := Qt.keep (show Hid (Qt wr (wr.alloc (.cells #[.int .i64 y.kind, .int .u64 (limb y.set 0), .int .u64 (limb y.set 1), .int .u64 (limb y.set 2), .int .u64 (limb y.set 3), .slice pb y.args.length qc] 28))) from Mv.alloc _ _ _) r5
          clear hk hlen DB
          go_wp2_with fail
          go_region_law (first
            | (refine step_given rfl (.tmp 94) (.tmp 99) 26 rfl _ _ _ rfl rfl W hr ?_))
          all_goals (go_wp2_with fail)
          all_goals (exact ⟨⟨2, va', _, vc', by omega, by go_num, rfl, B'⟩, by simp [intOf]⟩)
    · have HN : Hid (i = 2) := (by omega : i = 2)
      have hge : (2 : Int) ≤ (i : Int) := by omega
      clear hlt hi
      have hl2 : (accs x y i).length < 90000 := by
        have h1 := HNx.out
        have h2 := alts_nodes (x := x)
        have h3 := alts_nodes (x := y)
        have h4 := len_le_sum (alts x)
        have h5 := len_le_sum (alts y)
        rw [HN.out]
        simp only [accs, List.length_append]
        omega
      have QR : Hid (Qt w wr) := Q12.out.comp B.out.mv
      have WT := B.out.tr hl2 (hT.out.qt QR.out)
      rw [HN.out] at WT
      have hc4 := c4.out wr
      have hc5 := c5.out
      clear hl2 c4 c5
      go_wp2_with fail
      refine hc4.mono ?_
      rintro e15 w15 ⟨rfl, q15⟩
      go_wp2_with fail
      refine (hc5 _).mono ?_
      rintro e16 w16 ⟨rfl, q16⟩
      have V : Hid (Qt wr (w16.alloc (.cells #[.int .i64 0, .int .u64 0, .int .u64 0, .int .u64 0, .int .u64 0, .slice none 0 0] 28))) := ((q15.out.alloc _).comp q16.out).alloc _
      have VV : Hid (Qt w0 (w16.alloc (.cells #[.int .i64 0, .int .u64 0, .int .u64 0, .int .u64 0, .int .u64 0, .slice none 0 0] 28))) := B.out.mv.comp V.out
      have X17 := Tr.qt X12 VV
      have T17 := Tr.qt T12 VV
      have U17 := Tr.qt U12 VV
      have P17 := Tr.qt Tp3 VV
      have W17 := Tr.qt WT V
      have QF : Hid (Qt w (w16.alloc (.cells #[.int .i64 0, .int .u64 0, .int .u64 0, .int .u64 0, .int .u64 0, .slice none 0 0] 28))) := QR.out.comp V.out
      obtain ⟨b0, b1, b2, b3, b4, b5, _⟩ := B6.facts (Tr.b X17)
      obtain ⟨t0, t1, t2, t3, t4, t5, _⟩ := B6.facts (Tr.b T17)
      have hsm1 := sameRx_any p1 x _ _ ap1 pa cp1 pc _ (show Hid _ from T17.out.parts) (show Hid _ from X17.out.parts)
      rw [HS1.out] at hsm1
      clear hc5 hc4 B X12 T12 U12 Tp3 WT V VV QR
      go_wp2_with fail
      generalize w16.alloc (.cells #[.int .i64 0, .int .u64 0, .int .u64 0, .int .u64 0, .int .u64 0, .slice none 0 0] 28) = W at *
      refine hsm1.mono ?_
      rintro e18 w18 ⟨rfl, q18⟩
      have X18 := Tr.qt X17 q18
      have U18 := Tr.qt U17 q18
      have hsm2 := sameRx_any p2 x _ _ ap2 pa cp2 pc _ (show Hid _ from U18.out.parts) (show Hid _ from X18.out.parts)
      rw [HS2.out] at hsm2
      clear b0 b1 b2 b3 b4 b5 t0 t1 t2 t3 t4 t5 hsm1
      obtain ⟨b0, b1, b2, b3, b4, b5, _⟩ := B6.facts (Tr.b X18)
      obtain ⟨t0, t1, t2, t3, t4, t5, _⟩ := B6.facts (Tr.b U18)
      go_wp2_with fail
      refine hsm2.mono ?_
      rintro e19 w19 ⟨rfl, q19⟩
      have P19 := Tr.qt (Tr.qt P17 q18) q19
      have W19 := Tr.qt (Tr.qt W17 q18) q19
      have hsm3 := sameRx_any p3 ⟨3, fun _ => false, accs x y 2⟩ _ _ ap3 va cp3 vc _ (show Hid _ from P19.out.parts) (show Hid _ from W19.out.parts)
      rw [show sameX p3 ⟨3, fun _ => false, accs x y 2⟩ = true from HS3.out] at hsm3
      clear b0 b1 b2 b3 b4 b5 t0 t1 t2 t3 t4 t5 hsm2
      obtain ⟨b0, b1, b2, b3, b4, b5, _⟩ := B6.facts (Tr.b P19)
      obtain ⟨t0, t1, t2, t3, t4, t5, _⟩ := B6.facts (Tr.b W19)
      go_wp2_with fail
      refine hsm3.mono ?_
      rintro e20 w20 ⟨rfl, q20⟩
      go_wp2_with fail
      go_ret
      exact ⟨rfl, ((QF.out.comp q18.out).comp q19.out).comp q20.out⟩

theorem regexGroups_row (a0 : Option Addr) (n0 c0 : Nat) (f0 : Nat → Int) (a1 : Option Addr) (n1 c1 : Nat) (f1 : Nat → Int) (w : World) (s0 : Sl w a0 n0 (fun i => .int .u8 (f0 i))) (o0 : ∀ i, (Lit.int .u8 (f0 i)).wf = true) (h0 : ∀ q, a0 = some q → q.block < w.heap.size) (s1 : Sl w a1 n1 (fun i => .int .u8 (f1 i))) (o1 : ∀ i, (Lit.int .u8 (f1 i)).wf = true) (h1 : ∀ q, a1 = some q → q.block < w.heap.size) (hT : Tab w) : Calls Tryd.prog 11 #[.slice a0 n0 c0, .slice a1 n1 c1] w fun e w' => e = .returned (.bool true) ∧ Below w.heap.size w w' := by
  obtain ⟨g0, p0, b0⟩ := bytes_of s0 o0
  obtain ⟨g1, p1, b1⟩ := bytes_of s1 o1
  by_cases hl : n0 ≤ 20 ∧ n1 ≤ 20
  · exact (groups_main a0 a1 n0 n1 c0 c1 g0 g1 w p0 p1 b0 b1 h0 h1 hT hl.1 hl.2).mono fun e w' ⟨he, hq⟩ => ⟨he, hq.out.below (Nat.le_refl _) (fun _ _ h => h)⟩
  · exact (groups_early a0 a1 n0 n1 c0 c1 g0 g1 w p0 p1 b0 b1 h0 h1 hT (by omega)).mono fun e w' ⟨he, hq⟩ => ⟨he, hq.out.below (Nat.le_refl _) (fun _ _ h => h)⟩

end Go.Proofs.YtkclkhfcmjhogaaDoor
