/- Does regex do anything yet? It does. -/
import Derived.Test.YtkclkhfcmjhogaaDoorMgG0
import Derived.Lib.SlBytesConst
import Derived.Laws.IdiomStrings
namespace Go.Proofs.YtkclkhfcmjhogaaDoor
open Go.RowKit
set_option linter.unusedVariables false

theorem null_any (X : RX) (K : Nat → Prop) (a : Option Addr) (c : Nat) (w : World) (hK : ∀ j, K j → j < w.heap.size) (hX : Parts X.args K w a c) (ht : X.tall < 90000) (hT : Hid (Tab w)) (f : Nat → Nat) :
    Calls Tryd.prog 24 #[.agg #[.int .i64 X.kind, .int .u64 (limb X.set 0), .int .u64 (limb X.set 1), .int .u64 (limb X.set 2), .int .u64 (limb X.set 3), .slice a X.args.length c]] w fun e w' => e = .returned (.bool (inX f 0 X)) ∧ Hid (Qt w w') := by
  have q0 := Mv.alloc (fun _ => False) w (.cells #[.int .i64 X.kind, .int .u64 (limb X.set 0), .int .u64 (limb X.set 1), .int .u64 (limb X.set 2), .int .u64 (limb X.set 3), .slice a X.args.length c] 28)
  have hin := in_any f 0 (fun i hi => by omega) X K a none c 0 _ (fun j hj => Nat.lt_of_lt_of_le (hK j hj) q0.size) (hX.mv q0 (fun _ _ h => h)) ht (show Hid (Sl _ none 0 (Bn f)) from fun i hi => by omega) (hT.out.qt q0)
  have Q0 : Hid _ := q0
  clear hK hX ht q0
  generalize inX f 0 X = I at *
  go_enter Tryd.func24, Tryd.ntmps24
  go_wp2_with fail
  refine hin.mono ?_
  rintro e1 w1 ⟨rfl, q1⟩
  go_wp2_with fail
  go_ret
  exact ⟨rfl, Qt.comp Q0.out q1.out⟩

/-- What a region may read of W: a box of six. -/
theorem hold6 {W w' : World} {g : Nat} {u0 u1 u2 u3 u4 u5 : Value} (c0 : Hid (W.cell? ⟨g, 0, none⟩ = some u0)) (c1 : Hid (W.cell? ⟨g, 1, none⟩ = some u1)) (c2 : Hid (W.cell? ⟨g, 2, none⟩ = some u2)) (c3 : Hid (W.cell? ⟨g, 3, none⟩ = some u3)) (c4 : Hid (W.cell? ⟨g, 4, none⟩ = some u4)) (c5 : Hid (W.cell? ⟨g, 5, none⟩ = some u5)) (q : Hid (Qt W w')) :
    w'.cell? ⟨g, 0, none⟩ = some u0 ∧ w'.cell? ⟨g, 1, none⟩ = some u1 ∧ w'.cell? ⟨g, 2, none⟩ = some u2 ∧ w'.cell? ⟨g, 3, none⟩ = some u3 ∧ w'.cell? ⟨g, 4, none⟩ = some u4 ∧ w'.cell? ⟨g, 5, none⟩ = some u5 ∧ Hid (Qt W w') :=
  ⟨Qt.keep q c0.out, Qt.keep q c1.out, Qt.keep q c2.out, Qt.keep q c3.out, Qt.keep q c4.out, Qt.keep q c5.out, q⟩
theorem hold6q {W w' w'' : World} {A B C D E F : Prop} (q : Hid (Qt w' w'')) (h : A ∧ B ∧ C ∧ D ∧ E ∧ F ∧ Hid (Qt W w')) : Hid (Qt W w'') := h.2.2.2.2.2.2.out.comp q.out
/-- What the calls of begun are asked. -/
structure Ask (g : (Nat → Bool) → List Nat) (X : RX) (K : Nat → Prop) (a : Option Addr) (c : Nat) (W : World) : Prop where
  parts : Parts X.args K W a c
  lt : ∀ j, K j → j < W.heap.size
  tab : Tab W
theorem Ask.mv {g : (Nat → Bool) → List Nat} {X : RX} {K : Nat → Prop} {a : Option Addr} {c : Nat} {W W' : World} (h : Hid (Ask g X K a c W)) (q : Hid (Qt W W')) : Hid (Ask g X K a c W') :=
  ⟨h.out.parts.mv q.out (fun _ _ h => h), fun j hj => Nat.lt_of_lt_of_le (h.out.lt j hj) q.out.size, h.out.tab.qt q.out⟩
theorem kc37 (w : World) (C : Array Value) (n c : Nat) : (convert 37 37 (.slice (some ⟨w.heap.size, 0, none⟩) n c)).run Tryd.prog (w.alloc (.cells C 5)) = .ok (.slice (some ⟨w.heap.size, 0, none⟩) n c) (w.alloc (.cells C 5 (C.size, C.size + 1))) :=
  Lib.run_convert_bytes_const (P := Tryd.prog) w 37 5 C n c Tryd.underlying37 Tryd.underlying5
theorem slk {w : World} : Sl (w.alloc (.cells #[.int .u8 97, .int .u8 98, .int .u8 99] 5 (3, 4))) (some ⟨w.heap.size, 0, none⟩) 3 (Bn (fun i => 97 + i)) := by
  intro i hi
  refine ⟨_, _, rfl, by simp, ?_⟩
  rw [Nat.zero_add, World.cell?_alloc_mark]
  rcases (show i = 0 ∨ i = 1 ∨ i = 2 from by omega) with rfl | rfl | rfl <;> rfl
theorem slk1 {w : World} : Sl (w.alloc (.cells #[.int .u8 98] 5 (1, 2))) (some ⟨w.heap.size, 0, none⟩) 1 (Bn (fun i => 98 + i)) := by
  intro i hi
  refine ⟨_, _, rfl, by simp, ?_⟩
  obtain rfl : i = 0 := by omega
  rw [Nat.zero_add, World.cell?_alloc_mark]
  rfl

set_option maxRecDepth 20000 in
set_option maxHeartbeats 8000000 in
theorem begun_true (w : World) (hT : Hid (Tab w)) : Calls Tryd.prog 13 #[] w fun e w' => e = .returned (.bool true) ∧ Hid (Qt w w') := by
  obtain ⟨g, hg⟩ := gd_ex
  have hp := parseX_any [97, 40, 98, 124, 99, 41, 42] w (by decide) (by decide)
  rw [prs0] at hp
  have hp2 : Calls Tryd.prog 14 #[.string ⟨#[97, 40, 98, 124, 99, 41, 42]⟩] w fun e w' => Pt w (.ok X0) e w' := hp
  have hshow := fun (K : Nat → Prop) a c W (A : Hid (Ask g X0 K a c W)) => showX_any g hg X0 K a c W A.out.lt A.out.parts A.out.tab may0
  rw [sh0 hg] at hshow
  have hmay := fun (K : Nat → Prop) a c W (A : Hid (Ask g X0 K a c W)) => may_any X0 K a c W A.out.lt A.out.parts tall0
  rw [may0] at hmay
  have hnull := fun (K : Nat → Prop) a c W (A : Hid (Ask g X0 K a c W)) => null_any X0 K a c W A.out.lt A.out.parts tall0 A.out.tab (fun i => 97 + i)
  rw [in2] at hnull
  have hin := fun (K : Nat → Prop) a c W (A : Hid (Ask g X0 K a c W)) wa wc (hw : Hid (Sl W wa 3 (Bn (fun i => 97 + i)))) => in_any (fun i => 97 + i) 3 (fun i hi => by omega) X0 K a wa c wc W A.out.lt A.out.parts tall0 hw A.out.tab
  rw [in0] at hin
  have hin1 := fun (K : Nat → Prop) a c W (A : Hid (Ask g X0 K a c W)) wa wc (hw : Hid (Sl W wa 1 (Bn (fun i => 98 + i)))) => in_any (fun i => 98 + i) 1 (fun i hi => by omega) X0 K a wa c wc W A.out.lt A.out.parts tall0 hw A.out.tab
  rw [in1] at hin1
  clear hp
  unfold xv at hmay
  have hm : ∃ X, X = X0 := ⟨_, rfl⟩
  obtain ⟨X, hX⟩ := hm
  rw [← hX] at hp2 hshow hmay hnull hin hin1
  clear hX
  have kc := kc37
  go_enter Tryd.func13, Tryd.ntmps13
  go_wp2_with fail
  refine hp2.mono ?_
  rintro e w1 ⟨a, c, rfl, hparts, q1⟩
  have A0 : Hid (Ask g X (fun j => w.heap.size ≤ j ∧ j < w1.heap.size) a c w1) := ⟨hparts.out.lt, fun j h => h.2, hT.out.qt q1.out⟩
  have A1 := Ask.mv A0 (show Hid (Qt w1 (w1.alloc (.cells #[.int .i64 X.kind, .int .u64 (limb X.set 0), .int .u64 (limb X.set 1), .int .u64 (limb X.set 2), .int .u64 (limb X.set 3), .slice a X.args.length c] 28))) from Mv.alloc _ _ _)
  go_wp2_with fail
  refine (hshow _ a c _ A1).mono ?_
  rintro e2 w2 ⟨rfl, q2⟩
  obtain ⟨b0, b1, b2, b3, b4, b5⟩ := box6 q2
  have A2 := Ask.mv A1 q2
  have Q2 : Hid (Qt w w2) := (q1.out.alloc _).comp q2.out
  clear hshow hp2
  go_wp2_with fail
  refine (hmay _ a c _ A2).mono ?_
  rintro e3 w3 ⟨rfl, q3⟩
  have A3 := Ask.mv A2 q3
  have Q3 : Hid (Qt w w3) := Q2.out.comp q3.out
  obtain ⟨d0, d1, d2, d3, d4, d5⟩ : _ ∧ _ ∧ _ ∧ _ ∧ _ ∧ _ := ⟨Qt.keep q3 b0, Qt.keep q3 b1, Qt.keep q3 b2, Qt.keep q3 b3, Qt.keep q3 b4, Qt.keep q3 b5⟩
  clear hmay b0 b1 b2 b3 b4 b5
  go_wp2_with fail
  refine (hnull _ a c _ A3).mono ?_
  rintro e4 w4 ⟨rfl, q4⟩
  have A4 := Ask.mv A3 q4
  have Q4 : Hid (Qt w w4) := Q3.out.comp q4.out
  obtain ⟨b0, b1, b2, b3, b4, b5⟩ : _ ∧ _ ∧ _ ∧ _ ∧ _ ∧ _ := ⟨Qt.keep q4 d0, Qt.keep q4 d1, Qt.keep q4 d2, Qt.keep q4 d3, Qt.keep q4 d4, Qt.keep q4 d5⟩
  clear hnull d0 d1 d2 d3 d4 d5
  go_wp2_with fail
  refine (hin _ a c _ (Ask.mv A4 (Mv.alloc _ _ _)) _ _ slk).mono ?_
  rintro e5 w5 ⟨rfl, q5⟩
  have Q45 : Hid (Qt w4 w5) := ((Qt.refl w4).alloc _).comp q5.out
  have A5 := Ask.mv A4 Q45
  have Q5 : Hid (Qt w w5) := Q4.out.comp Q45.out
  obtain ⟨d0, d1, d2, d3, d4, d5⟩ : _ ∧ _ ∧ _ ∧ _ ∧ _ ∧ _ := ⟨Qt.keep Q45 b0, Qt.keep Q45 b1, Qt.keep Q45 b2, Qt.keep Q45 b3, Qt.keep Q45 b4, Qt.keep Q45 b5⟩
  clear hin b0 b1 b2 b3 b4 b5
  go_wp2_with fail
  refine (hin1 _ a c _ (Ask.mv A5 (Mv.alloc _ _ _)) _ _ slk1).mono ?_
  rintro e6 w6 ⟨rfl, q6⟩
  have Q56 : Hid (Qt w5 w6) := ((Qt.refl w5).alloc _).comp q6.out
  have Q6 : Hid (Qt w w6) := Q5.out.comp Q56.out
  clear hin1 d0 d1 d2 d3 d4 d5
  go_wp2_with fail
  go_ret
  exact ⟨rfl, Q6.out⟩

end Go.Proofs.YtkclkhfcmjhogaaDoor
