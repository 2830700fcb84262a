/- A row put in order: symMerge, stable, SortStableFunc. -/
import Derived.Test.YthfadeoanjjiaaaY4
namespace Go.Proofs.Ythfadeoanjjiaaa
open Go.RowKit Srt

theorem sym_any (blk n : Nat) (hn : n < 1000) : ∀ (S a m b : Nat) (f : Nat → Nat) (w : World), b - a < S → a < m → m < b → b ≤ n → Hid (Up Fl.key f a m) → Hid (Up Fl.key f m b) → Hid (∀ i, Fl.Ok (f i)) → Hid (Rw w blk n f) → Merges blk n a m b f w := by
  intro S
  induction S with
  | zero => intro a m b f w h; omega
  | succ S ih =>
    intro a m b f w hS h1 h2 h3 hu1 hu2 hf hR
    by_cases e1 : m = a + 1
    · exact sym_up blk n a m b f w hn e1 h2 h3 hu2 hf hR
    · by_cases e2 : b = m + 1
      · exact sym_down blk n a m b f w hn (by omega) e2 h3 hu1 hf hR
      · have ih' : Hid (∀ a' m' b' f' w', b' - a' < b - a → a' < m' → m' < b' → b' ≤ n → Hid (Up Fl.key f' a' m') → Hid (Up Fl.key f' m' b') → Hid (∀ i, Fl.Ok (f' i)) → Hid (Rw w' blk n f') → Merges blk n a' m' b' f' w') :=
          fun a' m' b' f' w' k => ih a' m' b' f' w' (by omega)
        by_cases e3 : (a + b) / 2 < m
        · exact sym_hi blk n a m b _ f w hn (by omega) (by omega) h3 rfl e3 hu1 hu2 hf hR ih'
        · exact sym_lo blk n a m b _ f w hn (by omega) (by omega) h3 rfl (by omega) hu1 hu2 hf hR ih'

theorem insertion_int {blk n a b : Nat} {A B : Int} (f : Nat → Nat) (w : World) (hn : n < 1000) (hA : A = a) (hB : B = b) (hab : a ≤ b) (hb : b ≤ n) (hf : Hid (∀ i, Fl.Ok (f i))) (hR : Hid (Rw w blk n f)) :
    Calls Try.prog 36 #[.slice (some ⟨blk, 0, none⟩) n n, .int .i64 A, .int .i64 B, .func (.func 29) #[] #[]] w fun e w' => e = .returned (.tuple #[]) ∧ ∃ g, Hid (Rw w' blk n g) ∧ Hid (Sw a b f g) ∧ Hid (Up Fl.key g a b) ∧ Hid (Below blk w w') := by
  subst hA hB
  exact insertion_any blk n a b f w hn hab hb hf hR
theorem sym_int {blk n a m b : Nat} {A M B : Int} (f : Nat → Nat) (w : World) (hn : n < 1000) (hA : A = a) (hM : M = m) (hB : B = b) (h1 : a < m) (h2 : m < b) (hb : b ≤ n) (hu1 : Hid (Up Fl.key f a m)) (hu2 : Hid (Up Fl.key f m b)) (hf : Hid (∀ i, Fl.Ok (f i))) (hR : Hid (Rw w blk n f)) :
    Calls Try.prog 37 #[.slice (some ⟨blk, 0, none⟩) n n, .int .i64 A, .int .i64 M, .int .i64 B, .func (.func 29) #[] #[]] w fun e w' => e = .returned (.tuple #[]) ∧ ∃ g, Hid (Rw w' blk n g) ∧ Hid (Sw a b f g) ∧ Hid (Up Fl.key g a b) ∧ Hid (Below blk w w') := by
  subst hA hM hB
  exact sym_any blk n hn _ a m b f w (Nat.lt_succ_self _) h1 h2 hb hu1 hu2 hf hR

/-- A row in order: what was asked for. -/
def Sorted (w0 : World) (blk n : Nat) (f : Nat → Nat) (w : World) : Prop := ∃ g, Rw w blk n g ∧ Sw 0 n f g ∧ Up Fl.key g 0 n ∧ Below blk w0 w

set_option maxRecDepth 100000 in
set_option maxHeartbeats 4000000 in
theorem stable_any (blk n : Nat) (f : Nat → Nat) (w : World) (hn : n < 40) (hf : Hid (∀ i, Fl.Ok (f i))) (hR : Hid (Rw w blk n f)) :
    Calls Try.prog 33 #[.slice (some ⟨blk, 0, none⟩) n n, .int .i64 n, .func (.func 29) #[] #[]] w fun e w' => e = .returned (.tuple #[]) ∧ Hid (Sorted w blk n f w') := by
  have z0 : ¬ (40 : Int) ≤ (n : Int) := by omega
  have z1 : (n : Int) < 40 := by omega
  have hn' : n < 1000 := by omega
  go_enter Try.func33, Try.ntmps33
  go_wp2_with fail
  go_loopw [7, 8] (fun va vb wr => (va = .int .i64 0 ∧ vb = .int .i64 20 ∧ wr = w) ∨ (va = .int .i64 20 ∧ vb = .int .i64 40 ∧ 20 ≤ n ∧ Hid (∃ g, Rw wr blk n g ∧ Sw 0 n f g ∧ Up Fl.key g 0 20 ∧ Below blk w wr))) (fun _ vb _ => 40 - (intOf vb).toNat)
  case atStart => exact .inl ⟨rfl, rfl, rfl⟩
  case round =>
    rcases hrel with ⟨rfl, rfl, rfl⟩ | ⟨rfl, rfl, h20, hG⟩
    · by_cases h20 : 20 ≤ n
      · have z2 : (20 : Int) ≤ (n : Int) := by omega
        go_wp2_with fail
        refine (insertion_int (a := 0) (b := 20) f _ hn' rfl rfl (by omega) h20 hf hR).mono ?_
        rintro e w1 ⟨rfl, g, hR1, hW1, hU1, hB1⟩
        go_wp2_with fail
        refine ⟨.inr ⟨rfl, rfl, h20, ⟨g, hR1.out, hW1.out.wide (by omega) h20, hU1.out, hB1.out⟩⟩, by simp [intOf]⟩
      · have z2 : ¬ (20 : Int) ≤ (n : Int) := by omega
        have z3 : ¬ (20 : Int) < (n : Int) := by omega
        go_wp2_with fail
        refine (insertion_int (a := 0) (b := n) f _ hn' rfl rfl (by omega) (by omega) hf hR).mono ?_
        rintro e w1 ⟨rfl, g, hR1, hW1, hU1, hB1⟩
        go_wp2_with fail
        go_loopw [6] (fun v wr2 => v = .int .i64 20 ∧ wr2 = w1) (fun _ _ => 0)
        case atStart => exact ⟨rfl, rfl⟩
        case round =>
          obtain ⟨rfl, rfl⟩ := hrel
          go_wp2_with fail
          go_end0
          exact ⟨rfl, g, hR1.out, hW1.out, hU1.out, hB1.out⟩
    · obtain ⟨g, hR1, hW1, hU1, hB1⟩ := hG
      have G1 : Hid (Rw wr blk n g) := hR1
      have G2 : Hid (Sw 0 n f g) := hW1
      have G3 : Hid (Up Fl.key g 0 20) := hU1
      have G4 : Hid (Below blk w wr) := hB1
      clear hR1 hW1 hU1 hB1
      have hf1 : Hid (∀ i, Fl.Ok (g i)) := G2.out.everywhere hf.out
      go_wp2_with fail
      refine (insertion_int (a := 20) (b := n) g _ hn' rfl rfl (by omega) (by omega) hf1 G1).mono ?_
      rintro e w1 ⟨rfl, g2, hR2, hW2, hU2, hB2⟩
      have F2 : Hid (Sw 0 n f g2) := G2.out.trans (hW2.out.wide (by omega) (by omega))
      have U2 : Hid (Up Fl.key g2 0 20) := Up.same G3.out fun k _ hk => hW2.out.out (.inl hk)
      have L2 : Hid (Below blk w w1) := G4.out.trans hB2.out
      have hf2 : Hid (∀ i, Fl.Ok (g2 i)) := F2.out.everywhere hf.out
      go_wp2_with fail
      go_loopw [6] (fun v wr2 => (v = .int .i64 20 ∧ wr2 = w1) ∨ (v = .int .i64 40 ∧ Hid (Sorted w blk n f wr2))) (fun v _ => 40 - (intOf v).toNat)
      case atStart => exact .inl ⟨rfl, rfl⟩
      case round =>
        rcases hrel with ⟨rfl, rfl⟩ | ⟨rfl, hD⟩
        · by_cases h21 : 20 < n
          · have z3 : (20 : Int) < (n : Int) := by omega
            go_wp2_with fail
            go_loopw [7, 8] (fun va vb wr3 => va = .int .i64 0 ∧ vb = .int .i64 40 ∧ wr3 = wr) (fun _ _ _ => 0)
            case atStart => exact ⟨rfl, rfl, rfl⟩
            case round =>
              obtain ⟨rfl, rfl, rfl⟩ := hrel
              go_wp2_with fail
              refine (sym_int (a := 0) (m := 20) (b := n) g2 _ hn' rfl rfl rfl (by omega) h21 (by omega) U2 hU2 hf2 hR2).mono ?_
              rintro e w2 ⟨rfl, g3, hR3, hW3, hU3, hB3⟩
              go_wp2_with fail
              refine ⟨.inr ⟨rfl, g3, hR3.out, F2.out.trans hW3.out, hU3.out, L2.out.trans hB3.out⟩, by simp [intOf]⟩
          · have z3 : ¬ (20 : Int) < (n : Int) := by omega
            obtain rfl : n = 20 := by omega
            go_wp2_with fail
            go_end0
            exact ⟨rfl, g2, hR2.out, F2.out, U2.out, L2.out⟩
        · have z3 : ¬ (40 : Int) < (n : Int) := by omega
          go_wp2_with fail
          go_end0
          exact ⟨rfl, hD⟩

set_option maxHeartbeats 400000 in
theorem sortStable_any (blk n : Nat) (f : Nat → Nat) (w : World) (hn : n < 40) (hf : Hid (∀ i, Fl.Ok (f i))) (hR : Hid (Rw w blk n f)) :
    Calls Try.prog 28 #[.slice (some ⟨blk, 0, none⟩) n n, .func (.func 29) #[] #[]] w fun e w' => e = .returned (.tuple #[]) ∧ Hid (Sorted w blk n f w') := by
  go_enter Try.func28, Try.ntmps28
  go_wp2_with fail
  refine (stable_any blk n f _ hn hf hR).mono ?_
  rintro e w1 ⟨rfl, hD⟩
  go_wp2_with fail
  go_end0
  exact ⟨rfl, hD⟩

end Go.Proofs.Ythfadeoanjjiaaa
