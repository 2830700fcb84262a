/- ClassSigns. -/
import Derived.Test.YtnchddgjeeaohaaDoorG3
namespace Go.Proofs.YtnchddgjeeaohaaDoor
open Go.RowKit
set_option linter.unusedVariables false

def MK : List Nat := [92, 124, 42, 43, 63, 40, 41, 91, 93, 46, 94, 45]
theorem mk_take (a : Nat) : mk a = (MK.take 12).contains a := rfl
theorem take_next (a i : Nat) (hi : i < 12) : (MK.take (i + 1)).contains a = ((MK.take i).contains a || a == MK[i]'hi) := by
  rw [List.take_succ_eq_append_getElem (show i < MK.length from hi)]
  generalize MK.take i = l
  generalize MK[i]'hi = x
  rw [List.contains_eq_any_beq, List.contains_eq_any_beq, List.any_append]
  simp
theorem cls_one {a : Nat} (hs : seen a = true) (hm : mk a = false) : cls [a] = some (btw a a, []) := by
  have h46 : ¬ a = 46 := by rintro rfl; exact absurd hm (by decide)
  have h91 : ¬ a = 91 := by rintro rfl; exact absurd hm (by decide)
  have h92 : ¬ a = 92 := by rintro rfl; exact absurd hm (by decide)
  have hx : any (btw a a) = true := any_true.2 ⟨a, by unfold seen at hs; simp at hs; omega, by unfold btw; simp⟩
  simp [cls, cls0, sgn, h46, h91, h92, hs, hm, hx]
theorem cls_one_none {a : Nat} (h46 : a ≠ 46) (h : (seen a && !mk a) = false) : cls [a] = none := by
  unfold cls cls0
  by_cases h91 : a = 91
  · subst h91; rfl
  · by_cases h92 : a = 92
    · subst h92; rfl
    · simp [h46, h91, sgn, h92, h]
theorem cls_two {a : Nat} (hm : mk a = true) : cls [92, a] = some (btw a a, []) := by
  have h120 : ¬ a = 120 := by rintro rfl; exact absurd hm (by decide)
  have hx : any (btw a a) = true := any_true.2 ⟨a, by have := mk_lt hm; omega, by unfold btw; simp⟩
  simp [cls, cls0, sgn, esc, h120, hm, hx]
theorem cls_two_none {a : Nat} (hm : mk a = false) : cls [92, a] = none := by
  by_cases h120 : a = 120
  · subst h120; rfl
  · simp [cls, cls0, sgn, esc, h120, hm]
theorem ofl_one (a : Nat) : same (btw a a) (ofl (fun _ => a) 1) = true := same_of (fun b => by
  unfold btw ofl
  rw [Bool.eq_iff_iff]; simp; omega)
theorem ofl_one' (a : Nat) : same (ofl (fun _ => a) 1) (btw a a) = true := same_of (fun b => by
  unfold btw ofl
  rw [Bool.eq_iff_iff]; simp; omega)
theorem neqA (p q : Nat → Bool) (b : Bool) (h : (!same p q) = b) (W : World) : (binOp .neq 25 (.agg #[.int .u64 (limb p 0), .int .u64 (limb p 1), .int .u64 (limb p 2), .int .u64 (limb p 3)]) (.agg #[.int .u64 (limb q 0), .int .u64 (limb q 1), .int .u64 (limb q 2), .int .u64 (limb q 3)])).run Tryd.prog W = .ok (.bool b) W := by
  rw [← h]; exact neq_run p q W
theorem sl1 {w : World} {a : Nat} : Sl (w.alloc (.cells #[.int .u8 (a : Int)] 5)) (some ⟨w.heap.size, 0, none⟩) 1 (Bn (fun _ => a)) := by
  intro i hi
  obtain rfl : i = 0 := by omega
  exact ⟨_, _, rfl, by simp, by simp [Bn]⟩
theorem sl1d {w : World} {a : Nat} : Hid (Sl (w.alloc (.cells #[.int .u8 (a : Int)] 5)).drew (some ⟨w.heap.size, 0, none⟩) 1 (Bn (fun _ => a))) := sl1 (w := w)
theorem ofA (a : Nat) (ha : a < 256) (g : Nat) (W : World) (hs : Hid (Sl W (some ⟨g, 0, none⟩) 1 (Bn (fun _ => a)))) : Calls Tryd.prog 22 #[.slice (some ⟨g, 0, none⟩) 1 1] W fun e w' => e = .returned (.agg #[.int .u64 (limb (ofl (fun _ => a) 1) 0), .int .u64 (limb (ofl (fun _ => a) 1) 1), .int .u64 (limb (ofl (fun _ => a) 1) 2), .int .u64 (limb (ofl (fun _ => a) 1) 3)]) ∧ Hid (Qt W w') :=
  of_any _ 1 1 _ W hs.out (fun _ _ => ha) (by omega)
theorem cellA {w : World} {o : Obj} {g i : Nat} {v : Value} (h : w.cell? ⟨g, i, none⟩ = some v) : (w.alloc o).cell? ⟨g, i, none⟩ = some v := (Mv.alloc (fun _ => False) w o).cell (p := ⟨g, i, none⟩) h (fun h => h)
theorem keepW {w w' : World} {o : Obj} {g : Nat} {x0 x1 x2 x3 : Nat} (hb : w.heap[g]? = some (.cells #[.int .u64 (x0 : Int), .int .u64 (x1 : Int), .int .u64 (x2 : Int), .int .u64 (x3 : Int)] 25 (0, 0))) (q : Qt w w') : Hid (w'.cell? ⟨g, 0, none⟩ = some (.int .u64 (x0 : Int))) ∧ Hid (w'.cell? ⟨g, 1, none⟩ = some (.int .u64 (x1 : Int))) ∧ Hid (w'.cell? ⟨g, 2, none⟩ = some (.int .u64 (x2 : Int))) ∧ Hid (w'.cell? ⟨g, 3, none⟩ = some (.int .u64 (x3 : Int))) := by
  have e : w'.heap[g]? = some (.cells #[.int .u64 (x0 : Int), .int .u64 (x1 : Int), .int .u64 (x2 : Int), .int .u64 (x3 : Int)] 25 (0, 0)) := by rw [q.block g (Array.getElem?_eq_some_iff.1 hb).1 (fun h => h)]; exact hb
  refine ⟨?_, ?_, ?_, ?_⟩
  · show _ = _; simp [World.cell?, e]
  · show _ = _; simp [World.cell?, e]
  · show _ = _; simp [World.cell?, e]
  · show _ = _; simp [World.cell?, e]
/-- What a region may read of W, and that nothing has turned since, where W bears a row more. -/
theorem hold4a {W w' : World} {A B C D : Prop} (o : Obj) (h : A ∧ B ∧ C ∧ D ∧ Hid (Qt W w')) : Hid (Qt W (w'.alloc o)) := h.2.2.2.2.out.alloc o

set_option maxHeartbeats 8000000 in
theorem signs_plain (a : Nat) (ha : a < 256) (hs : seen a = true) (hm : mk a = false) (w : World) (hT : Hid (Tab w)) : Calls Tryd.prog 9 #[.int .u8 (a : Int)] w fun e w' => e = .returned (.bool true) ∧ Hid (Qt w w') := by
  have hl1 : ∀ c ∈ [a], c < 256 := by simp; omega
  have hl2 : ∀ c ∈ [92, a], c < 256 := by simp; omega
  have p1 := parse_some (cls_one hs hm) hl1 (by simp)
  have p2 := parse_none (cls_two_none hm) hl2 (by simp)
  rw [show [a].length - ([] : List Nat).length = 1 from rfl] at p1
  have h46 : ((a : Int) == 46) = false := by have : a ≠ 46 := (by rintro rfl; exact absurd hm (by decide)); simp; omega
  have HM : Hid (mk a = false) := hm
  have h46b : ((a : Int) != 46) = true := by rw [bne, h46]; rfl
  have HI : Hid (∀ i : Nat, (hi : i < 12) → ∀ W, (Instr.index 9 (.string ⟨#[92, 124, 42, 43, 63, 40, 41, 91, 93, 46, 94, 45]⟩) (.int .i64 (i : Int))).run Tryd.prog W = .ok (.int .u8 ((MK[i]'hi : Nat) : Int)) W) := fun i hi W => idx_at ⟨#[92, 124, 42, 43, 63, 40, 41, 91, 93, 46, 94, 45]⟩ i hi W
  go_enter Tryd.func9, Tryd.ntmps9
  go_wp2_with fail
  refine (begun_true _ hT).mono ?_
  rintro e w1 ⟨rfl, q1⟩
  go_wp2_with fail
  go_loopw [3, 4] (fun s3 s4 wr => ∃ i : Nat, i ≤ 12 ∧ s4 = .int .i64 i ∧ s3 = .bool ((MK.take i).contains a) ∧ wr = w1) (fun _ s4 _ => 12 - (intOf s4).toNat)
  case atStart => exact ⟨0, by omega, rfl, rfl, rfl⟩
  case round =>
    obtain ⟨i, hi, rfl, rfl, rfl⟩ := hrel
    by_cases hlt : i < 12
    · have hx := HI.out i hlt
      have HN : Hid _ := take_next a i hlt
      generalize MK[i]'hlt = x at *
      cases hb : (MK.take i).contains a with
      | true =>
        have HB : Hid _ := hb
        clear hb
        go_wp2_with fail
        refine ⟨⟨i + 1, by omega, by go_num, ?_, trivial⟩, by simp [intOf]; omega⟩
        rw [HN.out, HB.out]; rfl
      | false =>
        have HB : Hid _ := hb
        clear hb
        go_wp2_with fail
        refine ⟨⟨i + 1, by omega, by go_num, ?_, trivial⟩, by simp [intOf]; omega⟩
        rw [HN.out, HB.out, Bool.false_or]
        congr 1
        rw [Bool.eq_iff_iff]; simp; omega
    · obtain rfl : i = 12 := by omega
      rw [← mk_take, hm]
      unfold seen at hs
      simp at hs
      have h33 : (33 : Int) ≤ (a : Int) := by omega
      have h126 : (a : Int) ≤ 126 := by omega
      clear hs hm
      have cv1 : ∀ W : World, (convert 30 9 (.slice (some ⟨W.heap.size, 0, none⟩) 1 1)).run Tryd.prog (W.alloc (.cells #[.int .u8 (a : Int)] 5)) = .ok (.string (str [a])) (W.alloc (.cells #[.int .u8 (a : Int)] 5)) := fun W => conv_new W [a] 1 1 rfl
      have cv2 : ∀ W : World, (convert 30 9 (.slice (some ⟨W.heap.size, 0, none⟩) 2 2)).run Tryd.prog (W.alloc (.cells #[.int .u8 92, .int .u8 (a : Int)] 5)) = .ok (.string (str [92, a])) (W.alloc (.cells #[.int .u8 92, .int .u8 (a : Int)] 5)) := fun W => conv_new W [92, a] 2 2 rfl
      clear HI
      go_wp2_with fail
      refine (p1 _).mono ?_
      rintro e2 w2 ⟨rfl, q2⟩
      have cv3 := cv2 (w2.alloc (.cells #[.int .u64 (limb (btw a a) 0), .int .u64 (limb (btw a a) 1), .int .u64 (limb (btw a a) 2), .int .u64 (limb (btw a a) 3)] 25))
      rw [show (w2.alloc (.cells #[.int .u64 (limb (btw a a) 0), .int .u64 (limb (btw a a) 1), .int .u64 (limb (btw a a) 2), .int .u64 (limb (btw a a) 3)] 25)).heap.size = w2.heap.size + 1 from by simp] at cv3
      clear cv1 cv2
      go_wp2_with fail
      refine (p2 _).mono ?_
      rintro e3 w3 ⟨rfl, q3⟩
      clear cv3
      have Q3 : Hid (Qt w w3) := ((((q1.out.alloc _).comp q2.out).alloc _).alloc _).comp q3.out
      obtain ⟨C0, C1, C2, C3⟩ := keepW (o := .cells #[] 5) (heap_alloc_new w2 (.cells #[.int .u64 (limb (btw a a) 0), .int .u64 (limb (btw a a) 1), .int .u64 (limb (btw a a) 2), .int .u64 (limb (btw a a) 3)] 25)) (((Qt.refl (w2.alloc (.cells #[.int .u64 (limb (btw a a) 0), .int .u64 (limb (btw a a) 1), .int .u64 (limb (btw a a) 2), .int .u64 (limb (btw a a) 3)] 25))).alloc _).comp (q3.out.alloc (.cells #[.int .u64 0, .int .u64 0, .int .u64 0, .int .u64 0] 25)))
      have Q4 : Hid (Qt w (w3.alloc (.cells #[.int .u64 0, .int .u64 0, .int .u64 0, .int .u64 0] 25))) := Q3.out.alloc _
      go_wp2_with fail
      generalize w3.alloc (.cells #[.int .u64 0, .int .u64 0, .int .u64 0, .int .u64 0] 25) = W4 at *
      have k0 := C0.out
      have k1 := C1.out
      have k2 := C2.out
      have k3 := C3.out
      have DQ : Hid (Qt W4 W4.drew) := Mv.drewN _ W4 1
      have hq := neqA (btw a a) (ofl (fun _ => a) 1) false (by rw [ofl_one]; rfl)
      go_region_held3 (fun w' => w'.cell? ⟨w2.heap.size, 0, none⟩ = some (.int .u64 (limb (btw a a) 0)) ∧ w'.cell? ⟨w2.heap.size, 1, none⟩ = some (.int .u64 (limb (btw a a) 1)) ∧ w'.cell? ⟨w2.heap.size, 2, none⟩ = some (.int .u64 (limb (btw a a) 2)) ∧ w'.cell? ⟨w2.heap.size, 3, none⟩ = some (.int .u64 (limb (btw a a) 3)) ∧ Hid (Qt W4 w'))
        (first | (refine hold4 C0 C1 C2 C3 ?_; first | exact hold4q (by assumption) (by assumption) | exact DQ | exact hold4a _ (by assumption) | exact Qt.comp DQ.out (Hid.out (by assumption))))
        ((first | (go_at_call 22; refine (ofA a ha W4.heap.size _ (sl1d (w := W4))).mono ?_; rintro e8 w8 ⟨rfl, q8⟩)))
      have Q5 : Hid (Qt w w8) := (Qt.drew (Q4.out.alloc _)).comp q8.out
      clear k0 k1 k2 k3 C0 C1 C2 C3
      go_wp2_with fail
      go_quiet (fail)
      go_wp2_with fail
      go_ret
      exact ⟨rfl, Q5.out.comp (Mv.drewN _ _ _)⟩


set_option maxHeartbeats 8000000 in
theorem signs_other (a : Nat) (ha : a < 256) (hs : seen a = false) (hm : mk a = false) (w : World) (hT : Hid (Tab w)) : Calls Tryd.prog 9 #[.int .u8 (a : Int)] w fun e w' => e = .returned (.bool true) ∧ Hid (Qt w w') := by
  have hl1 : ∀ c ∈ [a], c < 256 := by simp; omega
  have hl2 : ∀ c ∈ [92, a], c < 256 := by simp; omega
  have h46 : a ≠ 46 := by rintro rfl; exact absurd hm (by decide)
  have p1 := parse_none (cls_one_none h46 (by rw [hs]; rfl)) hl1 (by simp)
  have p2 := parse_none (cls_two_none hm) hl2 (by simp)
  have HI : Hid (∀ i : Nat, (hi : i < 12) → ∀ W, (Instr.index 9 (.string ⟨#[92, 124, 42, 43, 63, 40, 41, 91, 93, 46, 94, 45]⟩) (.int .i64 (i : Int))).run Tryd.prog W = .ok (.int .u8 ((MK[i]'hi : Nat) : Int)) W) := fun i hi W => idx_at ⟨#[92, 124, 42, 43, 63, 40, 41, 91, 93, 46, 94, 45]⟩ i hi W
  go_enter Tryd.func9, Tryd.ntmps9
  go_wp2_with fail
  refine (begun_true _ hT).mono ?_
  rintro e w1 ⟨rfl, q1⟩
  go_wp2_with fail
  go_loopw [3, 4] (fun s3 s4 wr => ∃ i : Nat, i ≤ 12 ∧ s4 = .int .i64 i ∧ s3 = .bool ((MK.take i).contains a) ∧ wr = w1) (fun _ s4 _ => 12 - (intOf s4).toNat)
  case atStart => exact ⟨0, by omega, rfl, rfl, rfl⟩
  case round =>
    obtain ⟨i, hi, rfl, rfl, rfl⟩ := hrel
    by_cases hlt : i < 12
    · have hx := HI.out i hlt
      have HN : Hid _ := take_next a i hlt
      generalize MK[i]'hlt = x at *
      cases hb : (MK.take i).contains a with
      | true =>
        have HB : Hid _ := hb
        clear hb
        go_wp2_with fail
        refine ⟨⟨i + 1, by omega, by go_num, ?_, trivial⟩, by simp [intOf]; omega⟩
        rw [HN.out, HB.out]; rfl
      | false =>
        have HB : Hid _ := hb
        clear hb
        go_wp2_with fail
        refine ⟨⟨i + 1, by omega, by go_num, ?_, trivial⟩, by simp [intOf]; omega⟩
        rw [HN.out, HB.out, Bool.false_or]
        congr 1
        rw [Bool.eq_iff_iff]; simp; omega
    · obtain rfl : i = 12 := by omega
      rw [← mk_take, hm]
      unfold seen at hs
      simp at hs
      clear hm h46
      have cv1 : ∀ W : World, (convert 30 9 (.slice (some ⟨W.heap.size, 0, none⟩) 1 1)).run Tryd.prog (W.alloc (.cells #[.int .u8 (a : Int)] 5)) = .ok (.string (str [a])) (W.alloc (.cells #[.int .u8 (a : Int)] 5)) := fun W => conv_new W [a] 1 1 rfl
      have cv2 : ∀ W : World, (convert 30 9 (.slice (some ⟨W.heap.size, 0, none⟩) 2 2)).run Tryd.prog (W.alloc (.cells #[.int .u8 92, .int .u8 (a : Int)] 5)) = .ok (.string (str [92, a])) (W.alloc (.cells #[.int .u8 92, .int .u8 (a : Int)] 5)) := fun W => conv_new W [92, a] 2 2 rfl
      clear HI
      go_wp2_with fail
      refine (p1 _).mono ?_
      rintro e2 w2 ⟨rfl, q2⟩
      have cv3 := cv2 (w2.alloc (.cells #[.int .u64 0, .int .u64 0, .int .u64 0, .int .u64 0] 25))
      rw [show (w2.alloc (.cells #[.int .u64 0, .int .u64 0, .int .u64 0, .int .u64 0] 25)).heap.size = w2.heap.size + 1 from by simp] at cv3
      clear cv1 cv2
      go_wp2_with fail
      refine (p2 _).mono ?_
      rintro e3 w3 ⟨rfl, q3⟩
      clear cv3
      have Q3 : Hid (Qt w w3) := ((((q1.out.alloc _).comp q2.out).alloc _).alloc _).comp q3.out
      by_cases h33 : 33 ≤ a
      · have h1 : (33 : Int) ≤ (a : Int) := by omega
        have h2 : ¬ (a : Int) ≤ 126 := by have := hs h33; omega
        go_wp2_with fail
        go_quiet (fail)
        go_wp2_with fail
        go_quiet (fail)
        go_wp2_with fail
        go_ret
        exact ⟨rfl, ((Q3.out.alloc _).comp (Mv.drewN _ _ _)).comp (Mv.drewN _ _ _)⟩
      · have h1 : ¬ (33 : Int) ≤ (a : Int) := by omega
        go_wp2_with fail
        go_quiet (fail)
        go_wp2_with fail
        go_quiet (fail)
        go_wp2_with fail
        go_ret
        exact ⟨rfl, ((Q3.out.alloc _).comp (Mv.drewN _ _ _)).comp (Mv.drewN _ _ _)⟩

set_option maxHeartbeats 8000000 in
theorem signs_mark (a : Nat) (ha : a < 256) (h46 : a ≠ 46) (hm : mk a = true) (w : World) (hT : Hid (Tab w)) : Calls Tryd.prog 9 #[.int .u8 (a : Int)] w fun e w' => e = .returned (.bool true) ∧ Hid (Qt w w') := by
  have hl1 : ∀ c ∈ [a], c < 256 := by simp; omega
  have hl2 : ∀ c ∈ [92, a], c < 256 := by simp; omega
  have p1 := parse_none (cls_one_none h46 (by rw [hm]; simp)) hl1 (by simp)
  have p2 := parse_some (cls_two hm) hl2 (by simp)
  rw [show [92, a].length - ([] : List Nat).length = 2 from rfl] at p2
  have hlo : 33 ≤ a ∧ a ≤ 126 := by unfold mk at hm; simp at hm; omega
  have HI : Hid (∀ i : Nat, (hi : i < 12) → ∀ W, (Instr.index 9 (.string ⟨#[92, 124, 42, 43, 63, 40, 41, 91, 93, 46, 94, 45]⟩) (.int .i64 (i : Int))).run Tryd.prog W = .ok (.int .u8 ((MK[i]'hi : Nat) : Int)) W) := fun i hi W => idx_at ⟨#[92, 124, 42, 43, 63, 40, 41, 91, 93, 46, 94, 45]⟩ i hi W
  go_enter Tryd.func9, Tryd.ntmps9
  go_wp2_with fail
  refine (begun_true _ hT).mono ?_
  rintro e w1 ⟨rfl, q1⟩
  go_wp2_with fail
  go_loopw [3, 4] (fun s3 s4 wr => ∃ i : Nat, i ≤ 12 ∧ s4 = .int .i64 i ∧ s3 = .bool ((MK.take i).contains a) ∧ wr = w1) (fun _ s4 _ => 12 - (intOf s4).toNat)
  case atStart => exact ⟨0, by omega, rfl, rfl, rfl⟩
  case round =>
    obtain ⟨i, hi, rfl, rfl, rfl⟩ := hrel
    by_cases hlt : i < 12
    · have hx := HI.out i hlt
      have HN : Hid _ := take_next a i hlt
      generalize MK[i]'hlt = x at *
      cases hb : (MK.take i).contains a with
      | true =>
        have HB : Hid _ := hb
        clear hb
        go_wp2_with fail
        refine ⟨⟨i + 1, by omega, by go_num, ?_, trivial⟩, by simp [intOf]; omega⟩
        rw [HN.out, HB.out]; rfl
      | false =>
        have HB : Hid _ := hb
        clear hb
        go_wp2_with fail
        refine ⟨⟨i + 1, by omega, by go_num, ?_, trivial⟩, by simp [intOf]; omega⟩
        rw [HN.out, HB.out, Bool.false_or]
        congr 1
        rw [Bool.eq_iff_iff]; simp; omega
    · obtain rfl : i = 12 := by omega
      rw [← mk_take, hm]
      clear hm
      have cv1 : ∀ W : World, (convert 30 9 (.slice (some ⟨W.heap.size, 0, none⟩) 1 1)).run Tryd.prog (W.alloc (.cells #[.int .u8 (a : Int)] 5)) = .ok (.string (str [a])) (W.alloc (.cells #[.int .u8 (a : Int)] 5)) := fun W => conv_new W [a] 1 1 rfl
      have cv2 : ∀ W : World, (convert 30 9 (.slice (some ⟨W.heap.size, 0, none⟩) 2 2)).run Tryd.prog (W.alloc (.cells #[.int .u8 92, .int .u8 (a : Int)] 5)) = .ok (.string (str [92, a])) (W.alloc (.cells #[.int .u8 92, .int .u8 (a : Int)] 5)) := fun W => conv_new W [92, a] 2 2 rfl
      clear HI
      go_wp2_with fail
      refine (p1 _).mono ?_
      rintro e2 w2 ⟨rfl, q2⟩
      have cv3 := cv2 (w2.alloc (.cells #[.int .u64 0, .int .u64 0, .int .u64 0, .int .u64 0] 25))
      rw [show (w2.alloc (.cells #[.int .u64 0, .int .u64 0, .int .u64 0, .int .u64 0] 25)).heap.size = w2.heap.size + 1 from by simp] at cv3
      clear cv1 cv2
      go_wp2_with fail
      refine (p2 _).mono ?_
      rintro e3 w3 ⟨rfl, q3⟩
      clear cv3
      have Q3 : Hid (Qt w w3) := ((((q1.out.alloc _).comp q2.out).alloc _).alloc _).comp q3.out
      have h1 : (33 : Int) ≤ (a : Int) := by omega
      have h2 : (a : Int) ≤ 126 := by omega
      go_wp2_with fail
      go_quiet (fail)
      obtain ⟨C0, C1, C2, C3⟩ := keepW (o := .cells #[] 5) (heap_alloc_new w3 (.cells #[.int .u64 (limb (btw a a) 0), .int .u64 (limb (btw a a) 1), .int .u64 (limb (btw a a) 2), .int .u64 (limb (btw a a) 3)] 25)) (Mv.drewN (fun _ => False) (w3.alloc (.cells #[.int .u64 (limb (btw a a) 0), .int .u64 (limb (btw a a) 1), .int .u64 (limb (btw a a) 2), .int .u64 (limb (btw a a) 3)] 25)) nq)
      have Q4 : Hid (Qt w ((w3.alloc (.cells #[.int .u64 (limb (btw a a) 0), .int .u64 (limb (btw a a) 1), .int .u64 (limb (btw a a) 2), .int .u64 (limb (btw a a) 3)] 25)).drewN nq)) := (Q3.out.alloc _).comp (Mv.drewN _ _ _)
      obtain ⟨W4, hW4⟩ : ∃ W4, W4 = (w3.alloc (.cells #[.int .u64 (limb (btw a a) 0), .int .u64 (limb (btw a a) 1), .int .u64 (limb (btw a a) 2), .int .u64 (limb (btw a a) 3)] 25)).drewN nq := ⟨_, rfl⟩
      rw [← hW4] at C0 C1 C2 C3 Q4
      rw [← hW4]
      clear hW4
      have k0 := C0.out
      have k1 := C1.out
      have k2 := C2.out
      have k3 := C3.out
      have DQ : Hid (Qt W4 W4.drew) := Mv.drewN _ W4 1
      have hq := eqlA (btw a a) (ofl (fun _ => a) 1) true (ofl_one a)
      go_wp2_with fail
      go_region_held3 (fun w' => w'.cell? ⟨w3.heap.size, 0, none⟩ = some (.int .u64 (limb (btw a a) 0)) ∧ w'.cell? ⟨w3.heap.size, 1, none⟩ = some (.int .u64 (limb (btw a a) 1)) ∧ w'.cell? ⟨w3.heap.size, 2, none⟩ = some (.int .u64 (limb (btw a a) 2)) ∧ w'.cell? ⟨w3.heap.size, 3, none⟩ = some (.int .u64 (limb (btw a a) 3)) ∧ Hid (Qt W4 w'))
        (first | (refine hold4 C0 C1 C2 C3 ?_; first | exact hold4q (by assumption) (by assumption) | exact DQ | exact hold4a _ (by assumption) | exact Qt.comp DQ.out (Hid.out (by assumption))))
        ((first | (go_at_call 22; refine (ofA a ha W4.heap.size _ (sl1d (w := W4))).mono ?_; rintro e8 w8 ⟨rfl, q8⟩)))
      have Q5 : Hid (Qt w w8) := (Qt.drew (Q4.out.alloc _)).comp q8.out
      clear k0 k1 k2 k3 C0 C1 C2 C3
      go_wp2_with fail
      go_ret
      exact ⟨rfl, Q5.out⟩

set_option maxHeartbeats 8000000 in
theorem signs_dot (a : Nat) (ha : a < 256) (h46 : a = 46) (hm : mk a = true) (w : World) (hT : Hid (Tab w)) : Calls Tryd.prog 9 #[.int .u8 (a : Int)] w fun e w' => e = .returned (.bool true) ∧ Hid (Qt w w') := by
  have hl1 : ∀ c ∈ [a], c < 256 := by simp; omega
  have hl2 : ∀ c ∈ [92, a], c < 256 := by simp; omega
  have p1 := parse_some (l := [a]) (t := []) (p := fun _ => true) (by rw [h46]; rfl) hl1 (by simp)
  have p2 := parse_some (cls_two hm) hl2 (by simp)
  rw [show [92, a].length - ([] : List Nat).length = 2 from rfl] at p2
  rw [show [a].length - ([] : List Nat).length = 1 from rfl] at p1
  have hlo : 33 ≤ a ∧ a ≤ 126 := by omega
  have hbne : ((a : Int) != 46) = false := by rw [h46]; rfl
  have H46 : Hid (a = 46) := h46
  clear h46
  have HI : Hid (∀ i : Nat, (hi : i < 12) → ∀ W, (Instr.index 9 (.string ⟨#[92, 124, 42, 43, 63, 40, 41, 91, 93, 46, 94, 45]⟩) (.int .i64 (i : Int))).run Tryd.prog W = .ok (.int .u8 ((MK[i]'hi : Nat) : Int)) W) := fun i hi W => idx_at ⟨#[92, 124, 42, 43, 63, 40, 41, 91, 93, 46, 94, 45]⟩ i hi W
  go_enter Tryd.func9, Tryd.ntmps9
  go_wp2_with fail
  refine (begun_true _ hT).mono ?_
  rintro e w1 ⟨rfl, q1⟩
  go_wp2_with fail
  go_loopw [3, 4] (fun s3 s4 wr => ∃ i : Nat, i ≤ 12 ∧ s4 = .int .i64 i ∧ s3 = .bool ((MK.take i).contains a) ∧ wr = w1) (fun _ s4 _ => 12 - (intOf s4).toNat)
  case atStart => exact ⟨0, by omega, rfl, rfl, rfl⟩
  case round =>
    obtain ⟨i, hi, rfl, rfl, rfl⟩ := hrel
    by_cases hlt : i < 12
    · have hx := HI.out i hlt
      have HN : Hid _ := take_next a i hlt
      generalize MK[i]'hlt = x at *
      cases hb : (MK.take i).contains a with
      | true =>
        have HB : Hid _ := hb
        clear hb
        go_wp2_with fail
        refine ⟨⟨i + 1, by omega, by go_num, ?_, trivial⟩, by simp [intOf]; omega⟩
        rw [HN.out, HB.out]; rfl
      | false =>
        have HB : Hid _ := hb
        clear hb
        go_wp2_with fail
        refine ⟨⟨i + 1, by omega, by go_num, ?_, trivial⟩, by simp [intOf]; omega⟩
        rw [HN.out, HB.out, Bool.false_or]
        congr 1
        rw [Bool.eq_iff_iff]; simp; omega
    · obtain rfl : i = 12 := by omega
      rw [← mk_take, hm]
      clear hm
      have cv1 : ∀ W : World, (convert 30 9 (.slice (some ⟨W.heap.size, 0, none⟩) 1 1)).run Tryd.prog (W.alloc (.cells #[.int .u8 (a : Int)] 5)) = .ok (.string (str [a])) (W.alloc (.cells #[.int .u8 (a : Int)] 5)) := fun W => conv_new W [a] 1 1 rfl
      have cv2 : ∀ W : World, (convert 30 9 (.slice (some ⟨W.heap.size, 0, none⟩) 2 2)).run Tryd.prog (W.alloc (.cells #[.int .u8 92, .int .u8 (a : Int)] 5)) = .ok (.string (str [92, a])) (W.alloc (.cells #[.int .u8 92, .int .u8 (a : Int)] 5)) := fun W => conv_new W [92, a] 2 2 rfl
      clear HI
      go_wp2_with fail
      refine (p1 _).mono ?_
      rintro e2 w2 ⟨rfl, q2⟩
      have cv3 := cv2 (w2.alloc (.cells #[.int .u64 (limb (fun _ => true) 0), .int .u64 (limb (fun _ => true) 1), .int .u64 (limb (fun _ => true) 2), .int .u64 (limb (fun _ => true) 3)] 25))
      rw [show (w2.alloc (.cells #[.int .u64 (limb (fun _ => true) 0), .int .u64 (limb (fun _ => true) 1), .int .u64 (limb (fun _ => true) 2), .int .u64 (limb (fun _ => true) 3)] 25)).heap.size = w2.heap.size + 1 from by simp] at cv3
      clear cv1 cv2
      go_wp2_with fail
      refine (p2 _).mono ?_
      rintro e3 w3 ⟨rfl, q3⟩
      clear cv3
      have Q3 : Hid (Qt w w3) := ((((q1.out.alloc _).comp q2.out).alloc _).alloc _).comp q3.out
      have h1 : (33 : Int) ≤ (a : Int) := by omega
      have h2 : (a : Int) ≤ 126 := by omega
      go_wp2_with fail
      go_quiet (fail)
      obtain ⟨C0, C1, C2, C3⟩ := keepW (o := .cells #[] 5) (heap_alloc_new w3 (.cells #[.int .u64 (limb (btw a a) 0), .int .u64 (limb (btw a a) 1), .int .u64 (limb (btw a a) 2), .int .u64 (limb (btw a a) 3)] 25)) (Mv.drewN (fun _ => False) (w3.alloc (.cells #[.int .u64 (limb (btw a a) 0), .int .u64 (limb (btw a a) 1), .int .u64 (limb (btw a a) 2), .int .u64 (limb (btw a a) 3)] 25)) nq)
      have Q4 : Hid (Qt w ((w3.alloc (.cells #[.int .u64 (limb (btw a a) 0), .int .u64 (limb (btw a a) 1), .int .u64 (limb (btw a a) 2), .int .u64 (limb (btw a a) 3)] 25)).drewN nq)) := (Q3.out.alloc _).comp (Mv.drewN _ _ _)
      obtain ⟨W4, hW4⟩ : ∃ W4, W4 = (w3.alloc (.cells #[.int .u64 (limb (btw a a) 0), .int .u64 (limb (btw a a) 1), .int .u64 (limb (btw a a) 2), .int .u64 (limb (btw a a) 3)] 25)).drewN nq := ⟨_, rfl⟩
      rw [← hW4] at C0 C1 C2 C3 Q4
      rw [← hW4]
      clear hW4
      have k0 := C0.out
      have k1 := C1.out
      have k2 := C2.out
      have k3 := C3.out
      have DQ : Hid (Qt W4 W4.drew) := Mv.drewN _ W4 1
      have hq := eqlA (btw a a) (ofl (fun _ => a) 1) true (ofl_one a)
      go_wp2_with fail
      go_region_held3 (fun w' => w'.cell? ⟨w3.heap.size, 0, none⟩ = some (.int .u64 (limb (btw a a) 0)) ∧ w'.cell? ⟨w3.heap.size, 1, none⟩ = some (.int .u64 (limb (btw a a) 1)) ∧ w'.cell? ⟨w3.heap.size, 2, none⟩ = some (.int .u64 (limb (btw a a) 2)) ∧ w'.cell? ⟨w3.heap.size, 3, none⟩ = some (.int .u64 (limb (btw a a) 3)) ∧ Hid (Qt W4 w'))
        (first | (refine hold4 C0 C1 C2 C3 ?_; first | exact hold4q (by assumption) (by assumption) | exact DQ | exact hold4a _ (by assumption) | exact Qt.comp DQ.out (Hid.out (by assumption))))
        ((first | (go_at_call 22; refine (ofA a ha W4.heap.size _ (sl1d (w := W4))).mono ?_; rintro e8 w8 ⟨rfl, q8⟩)))
      have Q5 : Hid (Qt w w8) := (Qt.drew (Q4.out.alloc _)).comp q8.out
      clear k0 k1 k2 k3 C0 C1 C2 C3
      go_wp2_with fail
      go_ret
      exact ⟨rfl, Q5.out⟩

theorem classSigns_walk (a : Nat) (ha : a < 256) (w : World) (hT : Hid (Tab w)) : Calls Tryd.prog 9 #[.int .u8 (a : Int)] w fun e w' => e = .returned (.bool true) ∧ Hid (Qt w w') := by
  cases hm : mk a with
  | true =>
    by_cases h46 : a = 46
    · exact signs_dot a ha h46 hm w hT
    · exact signs_mark a ha h46 hm w hT
  | false =>
    cases hs : seen a with
    | true => exact signs_plain a ha hs hm w hT
    | false => exact signs_other a ha hs hm w hT
theorem byte_of {a : Int} (h : (Lit.int .u8 a).wf = true) : ∃ n : Nat, a = (n : Int) ∧ n < 256 := by
  have hb : 0 ≤ a ∧ a ≤ 255 := by
    simp [Lit.wf, IntKind.min, IntKind.max, IntKind.signed, IntKind.bits] at h
    omega
  exact ⟨a.toNat, by omega, by omega⟩
theorem classSigns_row (a : Int) (wa : (Lit.int .u8 a).wf = true) (w : World) (hT : Tab w) : Calls Tryd.prog 9 #[.int .u8 a] w fun e w' => e = .returned (.bool true) ∧ Below w.heap.size w w' := by
  obtain ⟨n, rfl, hn⟩ := byte_of wa
  exact (classSigns_walk n hn w hT).mono fun e w' ⟨he, hq⟩ => ⟨he, hq.out.below (Nat.le_refl _) (fun _ _ h => h)⟩

end Go.Proofs.YtnchddgjeeaohaaDoor
