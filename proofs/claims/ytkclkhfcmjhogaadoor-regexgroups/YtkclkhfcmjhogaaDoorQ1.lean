/- The play's numbers: Made, Num. -/
import Derived.Test.YtkclkhfcmjhogaaDoorZ9
namespace Go.Proofs.YtkclkhfcmjhogaaDoor
open Go.RowKit
set_option linter.unusedVariables false

/-- The numbers that are handed in, and how many have been taken. -/
structure Pk (w : World) (g : Nat) (a : Option Addr) (len cap : Nat) (f : Nat → Nat) (n : Nat) : Prop where
  at_ : w.heap[g]? = some (.cells #[.slice a len cap, .int .i64 n] 60 (0, 0))
  row : Sl w a len (Bn f)
  le : n ≤ len
  far : ∀ q, a = some q → q.block ≠ g
  byte : ∀ i, i < len → f i < 256
  room : len < 1000000
/-- What Num tells. -/
def numS (f : Nat → Nat) (len n m : Nat) : Nat := if n < len then f n % m else 0
def numN (len n : Nat) : Nat := if n < len then n + 1 else n
theorem Pk.cells {w : World} {g : Nat} {a : Option Addr} {len cap : Nat} {f : Nat → Nat} {n : Nat} (h : Hid (Pk w g a len cap f n)) : w.cell? ⟨g, 0, none⟩ = some (.slice a len cap) ∧ w.cell? ⟨g, 1, none⟩ = some (.int .i64 n) ∧ w.frozen? ⟨g, 1, none⟩ = false := by
  refine ⟨?_, ?_, ?_⟩ <;> simp only [World.cell?, World.frozen?, h.out.at_] <;> rfl
theorem made_any (a : Option Addr) (len cap : Nat) (f : Nat → Nat) (w : World) (hs : Hid (Sl w a len (Bn f))) (hl : len < 1000000) (hb : ∀ i, i < len → f i < 256) (ha : ∀ q, a = some q → q.block < w.heap.size) :
    Calls Tryd.prog 20 #[.slice a len cap] w fun e w' => e = .returned (.pointer (some ⟨w.heap.size, 0, none⟩)) ∧ Hid (Pk w' w.heap.size a len cap f 0) ∧ Hid (Qt w w') := by
  have HB : Hid _ := hb
  have HA : Hid _ := ha
  clear hb ha
  go_enter Tryd.func20, Tryd.ntmps20
  go_wp2_with fail
  go_ret
  refine ⟨rfl, ⟨heap_alloc_new w _, hs.out.mv (Mv.alloc (fun _ => False) w _) (fun _ _ h => h), by omega, fun q h => Nat.ne_of_lt (HA.out q h), HB.out, hl⟩, (Qt.refl w).alloc _⟩

theorem Pk.mv {w w' : World} {g : Nat} {a : Option Addr} {len cap : Nat} {f : Nat → Nat} {n : Nat} (h : Pk w g a len cap f n) (q : Qt w w') : Pk w' g a len cap f n :=
  ⟨by rw [q.block g (Array.getElem?_eq_some_iff.1 h.at_).1 (fun h => h)]; exact h.at_, h.row.mv q (fun _ _ h => h), h.le, h.far, h.byte, h.room⟩
theorem Pk.take {w : World} {g : Nat} {a : Option Addr} {len cap : Nat} {f : Nat → Nat} {n : Nat} (h : Pk w g a len cap f n) (hn : n < len) : Pk (w.setCell ⟨g, 1, none⟩ (.int .i64 ((n + 1 : Nat) : Int))) g a len cap f (n + 1) ∧ Mv (fun j => j = g) w (w.setCell ⟨g, 1, none⟩ (.int .i64 ((n + 1 : Nat) : Int))) := by
  have m := Mv.setCell w ⟨g, 1, none⟩ (.int .i64 ((n + 1 : Nat) : Int))
  have m2 : Mv (fun j => j = g) w (w.setCell ⟨g, 1, none⟩ (.int .i64 ((n + 1 : Nat) : Int))) := m.mono (fun j _ h => by simpa using h)
  refine ⟨⟨?_, h.row.mv m2 (fun q hq e => h.far q hq e), by omega, h.far, h.byte, h.room⟩, m2⟩
  rw [heap_setCell_same w g 1 _ 60 _ h.at_]
  rfl

set_option maxRecDepth 20000 in
set_option maxHeartbeats 2000000 in
theorem num_any (m : Nat) (hm : 0 < m) (hm2 : m < 1000) (g : Nat) (a : Option Addr) (len cap : Nat) (f : Nat → Nat) (n : Nat) (w : World) (h : Hid (Pk w g a len cap f n)) :
    Calls Tryd.prog 40 #[.pointer (some ⟨g, 0, none⟩), .int .i64 m] w fun e w' => e = .returned (.int .i64 (numS f len n m : Nat)) ∧ Hid (Pk w' g a len cap f (numN len n)) ∧ Hid (Mv (fun j => j = g) w w') := by
  obtain ⟨k0, k1, k2⟩ := Pk.cells h
  have hle := h.out.le
  have hroom := h.out.room
  unfold numS numN
  by_cases hn : n < len
  · rw [if_pos hn, if_pos hn]
    have hn1 : ¬ (len ≤ n) := by omega
    go_enter Tryd.func40, Tryd.ntmps40
    go_wp2_with fail
    go_quiet (fail)
    obtain ⟨W, hW⟩ : ∃ W, W = w.drewN nq := ⟨_, rfl⟩
    have QF : Hid (Qt w W) := by rw [hW]; exact Mv.drewN (fun _ => False) w nq
    rw [← hW]
    clear hW k0 k1 k2
    have P1 : Hid (Pk W g a len cap f n) := h.out.mv QF.out
    obtain ⟨k0, k1, k2⟩ := Pk.cells P1
    have HT := P1.out.take hn
    obtain ⟨W1, hW1⟩ : ∃ W1, W1 = W.setCell ⟨g, 1, none⟩ (.int .i64 ((n + 1 : Nat) : Int)) := ⟨_, rfl⟩
    rw [← hW1] at HT
    have H2 : Hid (Pk W1 g a len cap f (n + 1)) := HT.1
    have M2 : Hid (Mv (fun j => j = g) W W1) := HT.2
    rw [show ((n + 1 : Nat) : Int) = (n : Int) + 1 by omega] at hW1
    clear HT
    go_wp2_with fail
    rw [← hW1]
    clear hW1 k0 k1 k2
    obtain ⟨k0, k1, k2⟩ := Pk.cells H2
    obtain ⟨b, o, rfl, _, k3⟩ := H2.out.row n hn
    have hbyte : f n < 256 := H2.out.byte n hn
    have hmod : ((f n : Int) % (m : Int)) = ((f n % m : Nat) : Int) := by omega
    rw [show ((n + 1 : Nat) : Int) = (n : Int) + 1 by omega] at k1
    unfold Bn at k3
    have hw1 : IntKind.i64.wrap ((n : Int) + 1 - 1) = (n : Int) := by rw [IntKind.wrap_i64]; omega
    have hw2 : IntKind.i64.wrap (n : Int) = (n : Int) := by rw [IntKind.wrap_i64]; omega
    have hw3 : (n : Int) + 1 - 1 = (n : Int) := by omega
    have hmt : Int.tmod (f n : Int) (m : Int) = ((f n % m : Nat) : Int) := by rw [Int.tmod_eq_emod_of_nonneg (by omega)]; exact hmod
    have hm0 : ¬ ((m : Int) = 0) := by omega
    have hlr : ((f n % m : Nat) : Int) < 1000 := by have := Nat.mod_lt (f n) hm; omega
    clear hmod
    obtain ⟨y, hy⟩ : ∃ y, Hid (f n % m = y) := ⟨_, rfl⟩
    obtain ⟨z, hz⟩ : ∃ z, Hid (f n = z) := ⟨_, rfl⟩
    rw [hy.out] at hmt hlr
    rw [hz.out] at hmt k3 hbyte
    go_quiet (fail)
    go_wp2_with fail
    go_ret
    exact ⟨by rw [hy.out]; rfl, H2.out.mv (Mv.drewN (fun _ => False) W1 nq), Mv.trans (Mv.trans (QF.out.mono (fun _ _ h => h.elim)) M2.out (fun _ _ h => h)) (Mv.drewN (fun j => j = g) W1 nq) (fun _ _ h => h)⟩
  · rw [if_neg hn, if_neg hn]
    have hn1 : len ≤ n := by omega
    go_enter Tryd.func40, Tryd.ntmps40
    go_wp2_with fail
    go_quiet (fail)
    go_wp2_with fail
    go_ret
    exact ⟨rfl, h.out.mv (Mv.drewN (fun _ => False) w nq), Mv.drewN _ w nq⟩

end Go.Proofs.YtkclkhfcmjhogaaDoor
