/- Exchanges in a row of its own: swapRange. -/
import Derived.Test.YthfadeoanjjiaaaF1
import Derived.Test.YthfadeoanjjiaaaS1
import Derived.Deep.RegionWith
import Derived.Deep.QuietTactic
import Derived.BigQuiet
import Derived.BigRegion
namespace Go.Proofs.Ythfadeoanjjiaaa
open Go.RowKit Srt

/-- A row of n numbers, f of them, from a block's first place on; it may be written. -/
def Rw (w : World) (b n : Nat) (f : Nat → Nat) : Prop := ∀ i, i < n → w.cell? ⟨b, i, none⟩ = some (.float .f64 (f i)) ∧ w.frozen? ⟨b, i, none⟩ = false

theorem run_store_float (P : Program) (w : World) (a : Addr) (k : FloatKind) (b : Nat) (m : Mode) : (store a (.float k b) m).run P w = stored P w a (.float k b) m := run_store P w a _ m rfl
attribute [local go_sem] run_store_float

theorem Rw.set {w : World} {b n : Nat} {f : Nat → Nat} (h : Rw w b n f) {i : Nat} (hi : i < n) (x : Nat) : Rw (w.setCell ⟨b, i, none⟩ (.float .f64 x)) b n (fun k => if k = i then x else f k) := by
  intro k hk
  show _ = some (Value.float .f64 (if k = i then x else f k)) ∧ _
  refine ⟨?_, by rw [World.frozen?_setCell]; exact (h k hk).2⟩
  by_cases e : k = i
  · subst e
    rw [if_pos rfl]
    exact World.cell?_setCell_same _ _ _ (h k hk).1
  · rw [if_neg e, World.cell?_setCell_other _ _ _ _ (by intro c; injection c with _ c; exact e c.symm)]
    exact (h k hk).1
theorem Rw.drew {w : World} {b n : Nat} {f : Nat → Nat} (h : Rw w b n f) : Rw w.drew b n f := h
theorem Rw.drewN {w : World} {b n : Nat} {f : Nat → Nat} (h : Rw w b n f) (q : Nat) : Rw (w.drewN q) b n f := h
/-- Two places exchanged in memory. -/
theorem Rw.swap {w : World} {b n : Nat} {f : Nat → Nat} (h : Rw w b n f) {i j : Nat} (hi : i < n) (hj : j < n) : Rw ((w.setCell ⟨b, i, none⟩ (.float .f64 (f j))).setCell ⟨b, j, none⟩ (.float .f64 (f i))) b n (sw f i j) := by
  have k := (h.set hi (f j)).set hj (f i)
  have e : (fun k => if k = j then f i else if k = i then f j else f k) = sw f i j := by
    funext k
    unfold sw
    by_cases e1 : k = j
    · by_cases e2 : k = i
      · rw [if_pos e1, if_pos e2, ← e1, ← e2]
      · rw [if_pos e1, if_neg e2, if_pos e1]
    · rw [if_neg e1]
      by_cases e2 : k = i
      · rw [if_pos e2, if_pos e2]
      · rw [if_neg e2, if_neg e2, if_neg e1]
  rw [← e]
  exact k
theorem below_swap {w0 w : World} {b : Nat} (h : Below b w0 w) (i j : Nat) (x y : Value) : Below b w0 ((w.setCell ⟨b, i, none⟩ x).setCell ⟨b, j, none⟩ y) := (h.setCell (p := ⟨b, i, none⟩) (Nat.le_refl _) x).setCell (p := ⟨b, j, none⟩) (Nat.le_refl _) y

set_option maxRecDepth 100000 in
set_option maxHeartbeats 1000000 in
theorem swapRange_any (blk n a b k : Nat) (f : Nat → Nat) (cv : Value) (w : World) (hn : n < 1000) (hab : a + k ≤ b) (hb : b + k ≤ n) (hR : Hid (Rw w blk n f)) :
    Calls Try.prog 40 #[.slice (some ⟨blk, 0, none⟩) n n, .int .i64 a, .int .i64 b, .int .i64 k, cv] w fun e w' => e = .returned (.tuple #[]) ∧ Hid (Rw w' blk n (swr a b k f)) ∧ Hid (Below blk w w') := by
  go_enter Try.func40, Try.ntmps40
  go_wp2_with fail
  go_loopw [10] (fun i wr => ∃ (j : Nat), j ≤ k ∧ i = .int .i64 j ∧ Hid (Rw wr blk n (swr a b j f)) ∧ Hid (Below blk w wr)) (fun i _ => k - (intOf i).toNat)
  case atStart => exact ⟨0, by omega, rfl, by rw [swr_zero]; exact hR, Below.refl _ _⟩
  case round =>
    obtain ⟨j, hj, rfl, hS, hL⟩ := hrel
    by_cases hlt : j < k
    · have hltz : (j : Int) < (k : Int) := by omega
      obtain ⟨c1, f1⟩ := hS.out (a + j) (by omega)
      obtain ⟨c2, f2⟩ := hS.out (b + j) (by omega)
      have hw : Hid (Rw ((wr.setCell ⟨blk, a + j, none⟩ (.float .f64 (swr a b j f (b + j)))).setCell ⟨blk, b + j, none⟩ (.float .f64 (swr a b j f (a + j)))).drew blk n (swr a b (j + 1) f)) := by
        rw [swr_succ a b j f (by omega)]
        exact (hS.out.swap (i := a + j) (j := b + j) (by omega) (by omega)).drew
      generalize swr a b j f (a + j) = x at *
      generalize swr a b j f (b + j) = y at *
      go_wp2_with fail
      go_region
      all_goals go_wp2
      exact ⟨⟨j + 1, by omega, by simp, hw, (below_swap hL.out _ _ _ _).drew⟩, by simp [intOf]; omega⟩
    · have hltz : ¬ (j : Int) < (k : Int) := by omega
      obtain rfl : j = k := by omega
      go_wp2
      go_end0
      exact ⟨rfl, hS, hL⟩

end Go.Proofs.Ythfadeoanjjiaaa
