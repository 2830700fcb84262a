/- ClassBack. -/
import Derived.Test.YtnchddgjeeaohaaDoorG3
namespace Go.Proofs.YtnchddgjeeaohaaDoor
open Go.RowKit
set_option linter.unusedVariables false

theorem cellB {w : World} {o : Obj} {g i : Nat} {v : Value} (h : w.cell? ⟨g, i, none⟩ = some v) : (w.alloc o).cell? ⟨g, i, none⟩ = some v := (Mv.alloc (fun _ => False) w o).cell (p := ⟨g, i, none⟩) h (fun h => h)
set_option maxHeartbeats 1000000 in
theorem empty_any (p : Nat → Bool) (b : Bool) (hb : (!any p) = b) (w : World) : Calls Tryd.prog 26 #[.agg #[.int .u64 (limb p 0), .int .u64 (limb p 1), .int .u64 (limb p 2), .int .u64 (limb p 3)]] w fun e w' => e = .returned (.bool b) ∧ Hid (Qt w w') := by
  have he := eql_none p
  rw [hb] at he
  clear hb
  go_enter Tryd.func26, Tryd.ntmps26
  go_wp2_with fail
  go_ret
  exact ⟨rfl, (Qt.refl w).alloc _⟩

theorem shw_len {p : Nat → Bool} {R : List (Nat × Nat)} (h : Runs p 0 R) (hl : R.length ≤ 256) : (shw R).length ≤ 3000 ∧ ∀ c ∈ shw R, c < 256 := by
  have hg := h.good
  obtain ⟨f1, f2⟩ := flat_lt hg
  have hb : (91 :: (R.flatMap rtx ++ [93])).length ≤ 3000 ∧ ∀ c ∈ 91 :: (R.flatMap rtx ++ [93]), c < 256 := by
    refine ⟨by simp only [List.length_cons, List.length_append, List.length_nil]; omega, fun c hc => ?_⟩
    rcases List.mem_cons.1 hc with rfl | hc
    · omega
    · rcases List.mem_append.1 hc with hc | hc
      · exact f1 c hc
      · simp at hc; omega
  match R, hb, hg with
  | [], _, _ => exact ⟨by simp [shw], by simp [shw]⟩
  | [(a, b)], hb, hg =>
    unfold shw
    simp only
    by_cases h1 : a = b
    · rw [if_pos h1]
      have := rtx_lt (hg (a, b) (List.mem_cons_self ..))
      have e : rtx (a, b) = shn a := by unfold rtx; simp [h1]
      rw [e] at this
      exact ⟨by omega, this.1⟩
    · rw [if_neg h1]
      by_cases h2 : a = 0 ∧ b = 255
      · rw [if_pos h2]; exact ⟨by simp, by simp⟩
      · rw [if_neg h2]; simpa using hb
  | r :: s :: R, hb, _ => exact hb
theorem Runs.len {p : Nat → Bool} : ∀ {n : Nat} {R : List (Nat × Nat)}, Runs p n R → n ≤ 256 → R.length ≤ 256 - n
  | n, [], _, _ => by simp
  | n, (a, b) :: R, h, hn => by
    have := Runs.len h.2.2.2.2.2.2 (by have := h.2.2.1; omega)
    have := h.1; have := h.2.1; have := h.2.2.1
    simp; omega

set_option maxHeartbeats 2000000 in
theorem classBack_walk (p : Nat → Bool) (S : ByteArray) (hS : S.size ≤ maxLen) (w : World) (hT : Hid (Tab w)) : Calls Tryd.prog 5 #[.agg #[.int .u64 (limb p 0), .int .u64 (limb p 1), .int .u64 (limb p 2), .int .u64 (limb p 3)], .string S] w fun e w' => e = .returned (.bool true) ∧ Hid (Qt w w') := by
  have Z0 : Hid (S.size ≤ maxLen) := hS
  clear hS
  by_cases h20 : S.size ≤ 20
  · cases ha : any p with
    | false =>
      have hE := empty_any p true (by rw [ha]; rfl)
      clear ha
      go_enter Tryd.func5, Tryd.ntmps5
      go_wp2_with fail
      refine (begun_true _ (hT.out.qt (Mv.alloc _ _ _))).mono ?_
      rintro e w1 ⟨rfl, q1⟩
      obtain ⟨C0, C1, C2, C3⟩ : Hid (w1.cell? ⟨w.heap.size, 0, none⟩ = some (.int .u64 (limb p 0))) ∧ Hid (w1.cell? ⟨w.heap.size, 1, none⟩ = some (.int .u64 (limb p 1))) ∧ Hid (w1.cell? ⟨w.heap.size, 2, none⟩ = some (.int .u64 (limb p 2))) ∧ Hid (w1.cell? ⟨w.heap.size, 3, none⟩ = some (.int .u64 (limb p 3))) := ⟨Qt.keep q1 (c4 w p).1, Qt.keep q1 (c4 w p).2.1, Qt.keep q1 (c4 w p).2.2.1, Qt.keep q1 (c4 w p).2.2.2⟩
      have k0 := C0.out
      have k1 := C1.out
      have k2 := C2.out
      have k3 := C3.out
      have h20' : ¬ (20 : Int) < (S.size : Int) := by omega
      go_wp2_with fail
      refine (hE _).mono ?_
      rintro e w2 ⟨rfl, q2⟩
      go_wp2_with fail
      go_ret
      exact ⟨rfl, (((Qt.refl w).alloc _).comp q1.out).comp q2.out⟩
    | true =>
      have hE := empty_any p false (by rw [ha]; rfl)
      have HA : Hid (any p = true) := ha
      clear ha
      go_enter Tryd.func5, Tryd.ntmps5
      go_wp2_with fail
      refine (begun_true _ (hT.out.qt (Mv.alloc _ _ _))).mono ?_
      rintro e w1 ⟨rfl, q1⟩
      obtain ⟨C0, C1, C2, C3⟩ : Hid (w1.cell? ⟨w.heap.size, 0, none⟩ = some (.int .u64 (limb p 0))) ∧ Hid (w1.cell? ⟨w.heap.size, 1, none⟩ = some (.int .u64 (limb p 1))) ∧ Hid (w1.cell? ⟨w.heap.size, 2, none⟩ = some (.int .u64 (limb p 2))) ∧ Hid (w1.cell? ⟨w.heap.size, 3, none⟩ = some (.int .u64 (limb p 3))) := ⟨Qt.keep q1 (c4 w p).1, Qt.keep q1 (c4 w p).2.1, Qt.keep q1 (c4 w p).2.2.1, Qt.keep q1 (c4 w p).2.2.2⟩
      have k0 := C0.out
      have k1 := C1.out
      have k2 := C2.out
      have k3 := C3.out
      have h20' : ¬ (20 : Int) < (S.size : Int) := by omega
      go_wp2_with fail
      refine (hE _).mono ?_
      rintro e w2 ⟨rfl, q2⟩
      have Q2 : Hid (Qt w w2) := (((Qt.refl w).alloc _).comp q1.out).comp q2.out
      clear k0 k1 k2 k3
      have k0 := Qt.keep q2 C0.out
      have k1 := Qt.keep q2 C1.out
      have k2 := Qt.keep q2 C2.out
      have k3 := Qt.keep q2 C3.out
      have hSh := show_set p w2 (hT.out.qt Q2.out)
      rw [sv_cells] at hSh
      go_wp2_with fail
      refine hSh.mono ?_
      rintro e w3 ⟨R, hR, rfl, q3⟩
      have hne : R ≠ [] := by
        rintro rfl
        obtain ⟨b, hb, hp⟩ := any_true.1 HA.out
        rw [hR b (by omega) hb] at hp
        cases hp
      obtain ⟨hl, hlt⟩ := shw_len hR (Nat.le_trans (Runs.len hR (by omega)) (by omega))
      obtain ⟨q, hq1, hq2⟩ := cls_shw hR hne (bs S)
      have hlen : (bs S).length = S.size := bs_length S
      have hP := parse_some hq1 (by intro c hc; rcases List.mem_append.1 hc with hc | hc; exact hlt c hc; exact bs_lt S c hc) (by rw [List.length_append, hlen]; omega)
      rw [show (shw R ++ bs S).length - (bs S).length = (str (shw R)).size from by rw [List.length_append, str_size]; omega] at hP
      have hadd : str (shw R) ++ S = str (shw R ++ bs S) := by rw [← str_append, str_bs]
      have hsz : (str (shw R)).size ≤ 3000 := by rw [str_size]; exact hl
      have hqq := eqlA q p true (same_like.2 hq2)
      have Q3 : Hid (Qt w w3) := Q2.out.comp q3
      have j0 := (Hid.out (show Hid (Qt w2 w3) from q3)).cell (p := ⟨w.heap.size, 0, none⟩) k0 (fun h => h)
      have j1 := (Hid.out (show Hid (Qt w2 w3) from q3)).cell (p := ⟨w.heap.size, 1, none⟩) k1 (fun h => h)
      have j2 := (Hid.out (show Hid (Qt w2 w3) from q3)).cell (p := ⟨w.heap.size, 2, none⟩) k2 (fun h => h)
      have j3 := (Hid.out (show Hid (Qt w2 w3) from q3)).cell (p := ⟨w.heap.size, 3, none⟩) k3 (fun h => h)
      clear hSh hR hne hl hlt hq1 hq2 hlen q3 k0 k1 k2 k3
      generalize str (shw R) = T at *
      generalize str (shw R ++ bs S) = X at *
      go_wp2_with fail
      refine (hP _).mono ?_
      rintro e w4 ⟨rfl, q4⟩
      have k0 := cellB (o := .cells #[.int .u64 (limb q 0), .int .u64 (limb q 1), .int .u64 (limb q 2), .int .u64 (limb q 3)] 25) (Qt.keep q4 j0)
      have k1 := cellB (o := .cells #[.int .u64 (limb q 0), .int .u64 (limb q 1), .int .u64 (limb q 2), .int .u64 (limb q 3)] 25) (Qt.keep q4 j1)
      have k2 := cellB (o := .cells #[.int .u64 (limb q 0), .int .u64 (limb q 1), .int .u64 (limb q 2), .int .u64 (limb q 3)] 25) (Qt.keep q4 j2)
      have k3 := cellB (o := .cells #[.int .u64 (limb q 0), .int .u64 (limb q 1), .int .u64 (limb q 2), .int .u64 (limb q 3)] 25) (Qt.keep q4 j3)
      clear j0 j1 j2 j3
      go_wp2_with fail
      go_ret
      exact ⟨rfl, (Q3.out.comp q4.out).alloc _⟩
  · go_enter Tryd.func5, Tryd.ntmps5
    go_wp2_with fail
    refine (begun_true _ (hT.out.qt (Mv.alloc _ _ _))).mono ?_
    rintro e w1 ⟨rfl, q1⟩
    have h20' : (20 : Int) < (S.size : Int) := by omega
    go_wp2_with fail
    go_ret
    exact ⟨rfl, ((Qt.refl w).alloc _).comp q1.out⟩
theorem classBack_row (x : Nat → Nat) (hx : ∀ i, i < 4 → x i < 18446744073709551616) (S : ByteArray) (hS : S.size ≤ maxLen) (w : World) (hT : Tab w) :
    Calls Tryd.prog 5 #[.agg #[.int .u64 (x 0), .int .u64 (x 1), .int .u64 (x 2), .int .u64 (x 3)], .string S] w fun e w' => e = .returned (.bool true) ∧ Below w.heap.size w w' := by
  have h := classBack_walk (had x) S hS w hT
  rw [limb_had x 0 (hx 0 (by omega)), limb_had x 1 (hx 1 (by omega)), limb_had x 2 (hx 2 (by omega)), limb_had x 3 (hx 3 (by omega))] at h
  exact h.mono fun e w' ⟨he, hq⟩ => ⟨he, hq.out.below (Nat.le_refl _) (fun _ _ h => h)⟩

end Go.Proofs.YtnchddgjeeaohaaDoor
