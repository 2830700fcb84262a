/- WeighEdges: the call returns true. -/
import Derived.Test.YtjmjlhcmicljiaaM1
import Derived.Test.YtjmjlhcmicljiaaL6
import Derived.Deep.QuietTactic
import Derived.BigQuiet
namespace Go.Proofs.Ytjmjlhcmicljiaa
open Go.RowKit

/-- The edges, and their kinds. -/
def edgeL : List ByteArray := [⟨#[45, 105, 110, 102]⟩, ⟨#[45, 57, 57, 57, 57, 57, 57, 57, 57, 57, 57, 57, 57, 57, 57, 57]⟩, ⟨#[45, 49]⟩, ⟨#[45, 48, 46, 48, 48, 48, 48, 48, 48, 48, 48, 48, 48, 48, 48, 48, 49]⟩, ⟨#[45, 48]⟩, ⟨#[48]⟩, ⟨#[48, 46, 48, 48, 48, 48, 48, 48, 48, 48, 48, 48, 48, 48, 48, 49]⟩, ⟨#[49]⟩, ⟨#[57, 57, 57, 57, 57, 57, 57, 57, 57, 57, 57, 57, 57, 57, 57]⟩, ⟨#[105, 110, 102]⟩, ⟨#[110, 97, 110]⟩]
def edgeAt (k : Nat) : ByteArray := edgeL.getD k ⟨#[]⟩
def kindL : List Int := [1, 2, 2, 2, 3, 4, 5, 5, 5, 6, 0]
def kindAt (k : Nat) : Int := kindL.getD k 0
def edgeCells : Array Value := #[.string ⟨#[45, 105, 110, 102]⟩, .string ⟨#[45, 57, 57, 57, 57, 57, 57, 57, 57, 57, 57, 57, 57, 57, 57, 57]⟩, .string ⟨#[45, 49]⟩, .string ⟨#[45, 48, 46, 48, 48, 48, 48, 48, 48, 48, 48, 48, 48, 48, 48, 48, 49]⟩, .string ⟨#[45, 48]⟩, .string ⟨#[48]⟩, .string ⟨#[48, 46, 48, 48, 48, 48, 48, 48, 48, 48, 48, 48, 48, 48, 48, 49]⟩, .string ⟨#[49]⟩, .string ⟨#[57, 57, 57, 57, 57, 57, 57, 57, 57, 57, 57, 57, 57, 57, 57]⟩, .string ⟨#[105, 110, 102]⟩, .string ⟨#[110, 97, 110]⟩]
def kindCells : Array Value := #[.int .i64 1, .int .i64 2, .int .i64 2, .int .i64 2, .int .i64 3, .int .i64 4, .int .i64 5, .int .i64 5, .int .i64 5, .int .i64 6, .int .i64 0]
theorem edge_cells (k : Nat) (h : k < 11) : edgeCells[k]? = some (.string (edgeAt k)) := by
  have : k = 0 ∨ k = 1 ∨ k = 2 ∨ k = 3 ∨ k = 4 ∨ k = 5 ∨ k = 6 ∨ k = 7 ∨ k = 8 ∨ k = 9 ∨ k = 10 := by omega
  rcases this with rfl | rfl | rfl | rfl | rfl | rfl | rfl | rfl | rfl | rfl | rfl <;> rfl
theorem kind_cells (k : Nat) (h : k < 11) : kindCells[k]? = some (.int .i64 (kindAt k)) := by
  have : k = 0 ∨ k = 1 ∨ k = 2 ∨ k = 3 ∨ k = 4 ∨ k = 5 ∨ k = 6 ∨ k = 7 ∨ k = 8 ∨ k = 9 ∨ k = 10 := by omega
  rcases this with rfl | rfl | rfl | rfl | rfl | rfl | rfl | rfl | rfl | rfl | rfl <;> rfl
theorem edge_e : ∀ k, k < 11 → pE (edgeAt k) = 0 := by decide +kernel
theorem edge_s : ∀ k, k < 11 → (edgeAt k).size ≤ 1000 := by decide +kernel
theorem edge_k : ∀ k, k < 11 → Fl.kind (pW (edgeAt k)) = kindAt k := by decide +kernel
theorem edge_o : ∀ i, i < 11 → ∀ k, k < 11 → ordB (pW (edgeAt i)) (pW (edgeAt k)) = if i < k then -1 else if k < i then 1 else 0 := by decide +kernel

theorem ek1 : Fl.key 9221120237041090561 = 18446744073709551615 := by decide +kernel
theorem ek2 : Fl.key 0 = 9223372036854775808 := by decide +kernel
theorem ek3 : Fl.key 9223372036854775808 = 9223372036854775807 := by decide +kernel
theorem eo4 : (ordB 9221120237041090561 18442240474082181121 == 0) = true := by decide +kernel

theorem andNot0 : bits .andNot .u64 0 9223372036854775808 = 0 := by decide +kernel
theorem and1 : bits .and .u64 13830554455654793216 9223372036854775808 = 9223372036854775808 := by decide +kernel
theorem or1 : bits .or .u64 0 9223372036854775808 = 9223372036854775808 := by decide +kernel
set_option maxHeartbeats 400000 in
theorem copysign_zero (w : World) :
    Calls Try.prog 26 #[.float .f64 0, .float .f64 13830554455654793216] w fun e w' => e = .returned (.float .f64 9223372036854775808) ∧ w' = w := by
  have h1 := bits_ext
  have h2 := frombits_ext
  have h3 := andNot0
  have h4 := and1
  have h5 := or1
  go_enter Try.func26, Try.ntmps26
  go_wp2_with fail
  go_ret
  exact ⟨rfl, rfl⟩

theorem kind_at (b : Nat) (k : Int) (hb : Fl.Ok b) (h : Fl.kind b = k) (w : World) :
    Calls Try.prog 23 #[.float .f64 b] w fun e w' => e = .returned (.int .i64 k) ∧ w' = w := by
  subst h
  exact kind_any b hb w

/-- The world while the texts lie in block b, and the kinds in the next. -/
structure Edged (w : World) (b : Nat) (wr : World) : Prop where
  bel : Below w.heap.size w wr
  top : b + 1 < wr.heap.size
  low : w.heap.size ≤ b
  texts : ∀ k, k < 11 → wr.cell? ⟨b, k, none⟩ = some (.string (edgeAt k))
  kinds : ∀ k, k < 11 → wr.cell? ⟨b + 1, k, none⟩ = some (.int .i64 (kindAt k))

theorem Edged.start {w w1 : World} (h : Below w.heap.size w w1) : Edged w w1.heap.size ((w1.alloc (.cells edgeCells 9)).alloc (.cells kindCells 3)) where
  bel := (h.alloc h.size _).alloc (by simp; exact Nat.le_succ_of_le h.size) _
  top := by simp
  low := h.size
  texts := fun k hk => by
    rw [World.cell?_alloc_past _ _ _ (by simp)]
    exact (World.cell?_alloc_new w1 edgeCells 9 k).trans (edge_cells k hk)
  kinds := fun k hk => by
    rw [World.cell?_alloc_at _ _ _ _ (by simp)]
    exact kind_cells k hk
theorem Edged.on {w wr w2 : World} {b : Nat} (h : Edged w b wr) (k : Below wr.heap.size wr w2) : Edged w b w2 where
  bel := h.bel.trans (k.mono h.bel.size)
  top := Nat.lt_of_lt_of_le h.top k.size
  low := h.low
  texts := fun i hi => (k.cell (p := ⟨b, i, none⟩) (Nat.lt_of_succ_lt h.top)).trans (h.texts i hi)
  kinds := fun i hi => (k.cell (p := ⟨b + 1, i, none⟩) h.top).trans (h.kinds i hi)
theorem Edged.drewN {w wr : World} {b : Nat} (h : Edged w b wr) (n : Nat) : Edged w b (wr.drewN n) := h.on (below_drewN (Below.refl _ _) n)

set_option maxHeartbeats 1000000 in
theorem edges_walk (w : World) :
    Calls Try.prog 6 #[] w fun e w' => e = .returned (.bool true) ∧ Below w.heap.size w w' := by
  go_enter Try.func6, Try.ntmps6
  go_wp2_with fail
  refine (begun_any _).mono ?_
  rintro e w1 ⟨rfl, hb1⟩
  have B1 : Hid _ := hb1
  clear hb1
  go_wp2_with fail
  go_loopw [3] (fun i wr => ∃ k : Nat, k ≤ 11 ∧ i = .int .i64 k ∧ Hid (Edged w w1.heap.size wr)) (fun i _ => 11 - (intOf i).toNat)
  case atStart => exact ⟨0, by omega, rfl, Edged.start B1.out⟩
  case round =>
    obtain ⟨i, hi, rfl, hL⟩ := hrel
    by_cases hlt : i < 11
    · have hcell := hL.out.texts i hlt
      have E : Hid _ := edge_e i hlt
      have S : Hid _ := edge_s i hlt
      have O : Hid (∀ k, k < 11 → ordB (pW (edgeAt i)) (pW (edgeAt k)) = if i < k then -1 else if k < i then 1 else 0) := edge_o i hlt
      have Kx : Hid (Fl.kind (pW (edgeAt i)) = kindAt i) := edge_k i hlt
      have okx : Hid (Fl.Ok (pW (edgeAt i))) := pW_ok _
      generalize hx : pW (edgeAt i) = x at *
      have X : Hid _ := hx
      clear hx
      go_wp2_with fail
      refine (parse_at (edgeAt i) x 0 S.out X.out E.out _).mono ?_
      rintro e w2 ⟨rfl, hb2⟩
      have L2 : Hid (Edged w w1.heap.size w2) := hL.out.on hb2
      clear hb2 hL hcell
      have hkc := L2.out.kinds i hlt
      go_wp2_with fail
      go_quiet ((go_at_call 23; exact Calls.quiet_of_same (kind_at x (kindAt i) okx.out Kx.out _)))
      have L3 : Hid (Edged w w1.heap.size (w2.drewN nq)) := L2.out.drewN nq
      clear L2 hkc
      go_wp2_with fail
      go_loopw [6] (fun j wr => ∃ k : Nat, k ≤ 11 ∧ j = .int .i64 k ∧ Hid (Edged w w1.heap.size wr)) (fun j _ => 11 - (intOf j).toNat)
      case atStart => exact ⟨0, by omega, rfl, L3⟩
      case round =>
        obtain ⟨k, hk, rfl, hL⟩ := hrel
        by_cases hlt2 : k < 11
        · have hcell := hL.out.texts k hlt2
          have E2 : Hid _ := edge_e k hlt2
          have S2 : Hid _ := edge_s k hlt2
          have okY : Hid (Fl.Ok (pW (edgeAt k))) := pW_ok _
          have O2 : Hid _ := O.out k hlt2
          generalize hy : pW (edgeAt k) = y at *
          have Y : Hid _ := hy
          clear hy
          by_cases h1 : i < k
          · have O3 : Hid (ordB x y = -1) := by show _ = _; rw [O2.out, if_pos h1]
            clear O2
            go_wp2_with fail
            refine (parse_at (edgeAt k) y 0 S2.out Y.out E2.out _).mono ?_
            rintro e w3 ⟨rfl, hb3⟩
            have L4 : Hid (Edged w w1.heap.size w3) := hL.out.on hb3
            clear hb3 hL hcell
            go_wp2_with fail
            refine (order_any x y okx.out okY.out _).mono ?_
            rintro e w' ⟨rfl, rfl⟩
            rw [O3.out]
            go_wp2_with fail
            go_roundw
            case rel => exact ⟨k + 1, by omega, by go_num, L4⟩
            case measure => simp [intOf]; omega
          · by_cases h2 : k < i
            · have O3 : Hid (ordB x y = 1) := by show _ = _; rw [O2.out, if_neg h1, if_pos h2]
              clear O2
              go_wp2_with fail
              refine (parse_at (edgeAt k) y 0 S2.out Y.out E2.out _).mono ?_
              rintro e w3 ⟨rfl, hb3⟩
              have L4 : Hid (Edged w w1.heap.size w3) := hL.out.on hb3
              clear hb3 hL hcell
              go_wp2_with fail
              refine (order_any x y okx.out okY.out _).mono ?_
              rintro e w' ⟨rfl, rfl⟩
              rw [O3.out]
              go_wp2_with fail
              go_roundw
              case rel => exact ⟨k + 1, by omega, by go_num, L4⟩
              case measure => simp [intOf]; omega
            · have O3 : Hid (ordB x y = 0) := by show _ = _; rw [O2.out, if_neg h1, if_neg h2]
              clear O2
              go_wp2_with fail
              refine (parse_at (edgeAt k) y 0 S2.out Y.out E2.out _).mono ?_
              rintro e w3 ⟨rfl, hb3⟩
              have L4 : Hid (Edged w w1.heap.size w3) := hL.out.on hb3
              clear hb3 hL hcell
              go_wp2_with fail
              refine (order_any x y okx.out okY.out _).mono ?_
              rintro e w' ⟨rfl, rfl⟩
              rw [O3.out]
              go_wp2_with fail
              go_roundw
              case rel => exact ⟨k + 1, by omega, by go_num, L4⟩
              case measure => simp [intOf]; omega
        · clear hk
          go_wp2_with fail
          exact ⟨⟨i + 1, by omega, by go_num, hL⟩, by simp [intOf]; omega⟩
    · clear hi
      have hf := frombits_ext
      go_wp2_with fail
      refine (nan_raw _).mono ?_
      rintro e w' ⟨rfl, rfl⟩
      go_wp2_with fail
      refine (key_any _ (ok_c _ (by omega)) _).mono ?_
      rintro e w' ⟨rfl, rfl⟩
      rw [ek1]
      go_wp2_with fail
      refine (key_any _ (ok_c _ (by omega)) _).mono ?_
      rintro e w' ⟨rfl, rfl⟩
      rw [ek2]
      go_wp2_with fail
      refine (copysign_zero _).mono ?_
      rintro e w' ⟨rfl, rfl⟩
      go_wp2_with fail
      refine (key_any _ (ok_c _ (by omega)) _).mono ?_
      rintro e w' ⟨rfl, rfl⟩
      rw [ek3]
      go_wp2_with fail
      refine (nan_raw _).mono ?_
      rintro e w' ⟨rfl, rfl⟩
      go_wp2_with fail
      refine (same_any _ _ (ok_c _ (by omega)) (ok_c 18442240474082181121 (by omega)) _).mono ?_
      rintro e w' ⟨rfl, rfl⟩
      rw [eo4]
      go_wp2_with fail
      go_ret
      exact ⟨rfl, hL.out.bel⟩
end Go.Proofs.Ytjmjlhcmicljiaa
