/- Does class do anything yet? It does. -/
import Derived.Test.YtnchddgjeeaohaaDoorS5
import Derived.Test.YtnchddgjeeaohaaDoorP1
namespace Go.Proofs.YtnchddgjeeaohaaDoor
open Go.RowKit
set_option linter.unusedVariables false

theorem show_of {p : Nat → Bool} {R : List (Nat × Nat)} (h : Runs p 0 R) (w : World) (hT : Hid (Tab w)) : Calls Tryd.prog 24 #[sv p] w fun e w' => e = .returned (.string (str (shw R))) ∧ Hid (Qt w w') := by
  refine (show_set p w hT).mono ?_
  rintro e w' ⟨R', h1, h2, h3⟩
  rw [Runs.one h1 h] at h2
  exact ⟨h2, h3⟩

def S0 : ByteArray := ⟨#[91, 97, 45, 99, 93, 120]⟩
def P0 : Nat → Bool := btw 97 99
theorem pset0 : pset S0 = P0 := rfl
theorem plen0 : plen S0 = 5 := by decide +kernel
theorem perr0 : perr S0 = 0 := by decide +kernel
theorem runs0 : Runs P0 0 [(97, 99)] := by
  refine ⟨by omega, by omega, by omega, fun c _ h => ?_, fun c h1 h2 => ?_, fun _ => by decide, fun b h1 h2 => ?_⟩
  · unfold P0 btw; simp; omega
  · unfold P0 btw; simp; omega
  · unfold P0 btw; simp; omega
theorem least0 : IsL P0 97 := ⟨by omega, by decide, fun c hc => by unfold P0 btw; simp; omega⟩
theorem shw0 : str (shw [(97, 99)]) = ⟨#[91, 97, 45, 99, 93]⟩ := by decide +kernel
def f0 : Nat → Nat := fun i => 97 + i
theorem same0 : same (ofl f0 3) P0 = true := by decide +kernel
theorem eql0 (W : World) : (binOp .eql 25 (.agg #[.int .u64 (limb (ofl f0 3) 0), .int .u64 (limb (ofl f0 3) 1), .int .u64 (limb (ofl f0 3) 2), .int .u64 (limb (ofl f0 3) 3)]) (.agg #[.int .u64 (limb P0 0), .int .u64 (limb P0 1), .int .u64 (limb P0 2), .int .u64 (limb P0 3)])).run Tryd.prog W = .ok (.bool true) W := by
  have := eql_run (ofl f0 3) P0 W
  rwa [sv_cells, sv_cells, same0] at this

theorem tabH {a b c d e : World} (h : Hid (Tab a)) (p : Hid (Qt a b)) (q : Hid (Qt b c)) (r : Hid (Qt c d)) (s : Hid (Qt d e)) : Hid (Tab e) := h.out.qt (((p.out.comp q.out).comp r.out).comp s.out)
theorem sl3 {w : World} : Sl (w.alloc (.cells #[.int .u8 97, .int .u8 98, .int .u8 99] 5)) (some ⟨w.heap.size, 0, none⟩) 3 (Bn f0) := by
  intro i hi
  refine ⟨_, _, rfl, by simp, ?_⟩
  rcases (show i = 0 ∨ i = 1 ∨ i = 2 from by omega) with rfl | rfl | rfl <;> simp [Bn, f0]

set_option maxHeartbeats 4000000 in
theorem begun_true (w : World) (hT : Hid (Tab w)) : Calls Tryd.prog 10 #[] w fun e w' => e = .returned (.bool true) ∧ Hid (Qt w w') := by
  have hp := fun W => parse_any S0 W (by decide)
  rw [pset0, plen0, perr0, sv_cells] at hp
  have hp2 : ∀ W, Calls Tryd.prog 11 #[.string ⟨#[91, 97, 45, 99, 93, 120]⟩] W fun e w' => e = .returned (.tuple #[.agg #[.int .u64 (limb P0 0), .int .u64 (limb P0 1), .int .u64 (limb P0 2), .int .u64 (limb P0 3)], .int .i64 5, .int .i64 0]) ∧ Hid (Qt W w') := hp
  have hl := fun W T => least_some P0 97 least0 W T
  have h1 := fun W => has_any P0 98 (by omega) W
  have h2 := fun W => has_any P0 100 (by omega) W
  have hs := fun W T => show_of runs0 W T
  rw [shw0] at hs
  rw [sv_cells] at hl h1 h2 hs
  rw [show P0 98 = true from rfl] at h1
  rw [show P0 100 = false from rfl] at h2
  have hq := eql0
  clear hp
  generalize limb P0 0 = x0 at *
  generalize limb P0 1 = x1 at *
  generalize limb P0 2 = x2 at *
  generalize limb P0 3 = x3 at *
  have h1' : ∀ W, Calls Tryd.prog 15 #[.agg #[.int .u64 x0, .int .u64 x1, .int .u64 x2, .int .u64 x3], .int .u8 98] W fun e w' => e = .returned (.bool true) ∧ Hid (Qt W w') := h1
  have h2' : ∀ W, Calls Tryd.prog 15 #[.agg #[.int .u64 x0, .int .u64 x1, .int .u64 x2, .int .u64 x3], .int .u8 100] W fun e w' => e = .returned (.bool false) ∧ Hid (Qt W w') := h2
  clear h1 h2
  have ho := fun a n c W (h : Sl W a n (Bn f0)) (hf : ∀ i, i < n → f0 i < 256) (hn : n < 1000000) => of_any a n c f0 W h hf hn
  go_enter Tryd.func10, Tryd.ntmps10
  go_wp2_with fail
  refine (hp2 _).mono ?_
  rintro e w1 ⟨rfl, q1⟩
  go_wp2_with fail
  refine (hl _ ?_).mono ?_
  · exact (hT.out.qt q1.out).qt (Mv.alloc _ _ _)
  rintro e w2 ⟨rfl, q2⟩
  have Q2 : Hid (Qt w w2) := (q1.out.alloc _).comp q2.out
  obtain ⟨k0, k1, k2, k3⟩ : w2.cell? ⟨w1.heap.size, 0, none⟩ = some (.int .u64 x0) ∧ w2.cell? ⟨w1.heap.size, 1, none⟩ = some (.int .u64 x1) ∧ w2.cell? ⟨w1.heap.size, 2, none⟩ = some (.int .u64 x2) ∧ w2.cell? ⟨w1.heap.size, 3, none⟩ = some (.int .u64 x3) :=
    ⟨Qt.keep q2 (by simp), Qt.keep q2 (by simp), Qt.keep q2 (by simp), Qt.keep q2 (by simp)⟩
  have C0 : Hid _ := k0
  have C1 : Hid _ := k1
  have C2 : Hid _ := k2
  have C3 : Hid _ := k3
  have DQ : Hid (Qt w2 w2.drew) := Mv.drewN _ w2 1
  go_wp2_with fail
  go_region_held3 (fun w' => w'.cell? ⟨w1.heap.size, 0, none⟩ = some (.int .u64 x0) ∧ w'.cell? ⟨w1.heap.size, 1, none⟩ = some (.int .u64 x1) ∧ w'.cell? ⟨w1.heap.size, 2, none⟩ = some (.int .u64 x2) ∧ w'.cell? ⟨w1.heap.size, 3, none⟩ = some (.int .u64 x3) ∧ Hid (Qt w2 w'))
    (first | (refine hold4 C0 C1 C2 C3 ?_; first | exact hold4q (by assumption) (by assumption) | exact DQ | exact Qt.comp DQ.out (Hid.out (by assumption)) | exact hold4q (Mv.alloc _ _ _) (by assumption)))
    ((first
      | (go_at_call 15; with_reducible refine (h1' _).mono ?_; rintro e4 w4 ⟨rfl, q4⟩)
      | (go_at_call 15; with_reducible refine (h2' _).mono ?_; rintro e5 w5 ⟨rfl, q5⟩)
      | (go_at_call 24; with_reducible refine (hs _ (tabH hT Q2 DQ q4 q5)).mono ?_; rintro e6 w6 ⟨rfl, q6⟩)
      | (go_at_call 22; refine (of_any (some ⟨w6.heap.size, 0, none⟩) 3 3 f0 _ sl3 (fun i hi => by unfold f0; omega) (by omega)).mono ?_; rintro e7 w7 ⟨rfl, q7⟩; rw [sv_cells])))
  go_wp2_with fail
  go_ret
  exact ⟨rfl, (((((Q2.out.comp DQ.out).comp q4.out).comp q5.out).comp q6.out).alloc _).comp q7.out⟩

end Go.Proofs.YtnchddgjeeaohaaDoor
