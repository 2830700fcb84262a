/- SamePieces, Place; operations that are handed in. -/
import Derived.Test.YtjelclomigmlmaaE3
namespace Go.Proofs.Ytjelclomigmlmaa
open Go.RowKit

set_option maxHeartbeats 2000000 in
set_option maxRecDepth 20000 in
theorem same_any (a b : Option Addr) (ca cb : Nat) (ps : List Pc) (w : World) (hl : ps.length ≤ 20000) (ha : Hid (Ls w a (cellsP ps))) (hb : Hid (Ls w b (cellsP ps))) :
    Calls Try.prog 21 #[.slice a ps.length ca, .slice b ps.length cb] w fun e w' => e = .returned (.bool true) ∧ Hid (Qt w w') := by
  obtain ⟨n, hn⟩ : ∃ n, n = ps.length := ⟨_, rfl⟩
  have N : Hid _ := hn
  rw [← hn] at hl ⊢
  clear hn
  go_enter Try.func21, Try.ntmps21
  go_wp2_with fail
  go_loopw [5] (fun vi wr => ∃ i : Nat, i ≤ n ∧ vi = .int .i64 i ∧ Hid (Qt w wr)) (fun vi _ => n - (intOf vi).toNat)
  case atStart => exact ⟨0, by omega, rfl, Qt.refl _⟩
  case round =>
    obtain ⟨i, hi, rfl, M⟩ := hrel
    by_cases hlt : i < n
    · have hltz : (i : Int) < (n : Int) := by omega
      obtain ⟨p, hp⟩ : ∃ p, ps[i]? = some p := ⟨ps[i]'(by have := N.out; omega), List.getElem?_eq_getElem _⟩
      obtain ⟨b1, o1, rfl, _, c0, c1, c2⟩ := ls_get (ha.out.qt M.out) hp
      obtain ⟨b2, o2, rfl, _, d0, d1, d2⟩ := ls_get (hb.out.qt M.out) hp
      obtain ⟨ad, fr, to⟩ := p
      simp only at c0 c1 c2 d0 d1 d2
      clear hp
      go_wp2_with fail
      go_quiet (fail)
      go_wp2_with fail
      exact ⟨⟨i + 1, by omega, by go_num, M.out.comp (Mv.drewN (fun _ => False) _ _)⟩, by simp [intOf]; omega⟩
    · obtain rfl : i = n := by omega
      go_wp2_with fail
      go_ret
      exact ⟨rfl, M⟩

set_option maxHeartbeats 1000000 in
theorem placeOf_any (k : Int) (n : Nat) (h1 : 1 ≤ n) (h2 : n ≤ 30000) (w : World) :
    Calls Try.prog 25 #[.int .i64 k, .int .i64 n] w fun e w' => ∃ r : Nat, e = .returned (.int .i64 r) ∧ r < n ∧ w' = w := by
  have hn1 : (1 : Int) ≤ n := by omega
  have hn0 : ¬ n = 0 := by omega
  have hn30 : (n : Int) ≤ 30000 := by omega
  have hb1 : -(n : Int) < k.tmod n ∧ k.tmod n < n := by
    have := Int.tmod_lt_of_pos k (show (0 : Int) < n by omega)
    have := Int.lt_tmod_of_pos k (show (0 : Int) < n by omega)
    exact ⟨by omega, by omega⟩
  by_cases h0 : k.tmod n < 0
  · obtain ⟨r, hr⟩ : ∃ r : Nat, k.tmod n + n = (r : Int) := ⟨(k.tmod n + n).toNat, by omega⟩
    have hrn : r < n := by omega
    go_enter Try.func25, Try.ntmps25
    go_wp2_with fail
    go_ret
    exact ⟨r, rfl, hrn, rfl⟩
  · obtain ⟨r, hr⟩ : ∃ r : Nat, k.tmod n = (r : Int) := ⟨(k.tmod n).toNat, by omega⟩
    have hrn : r < n := by omega
    have hr0 : (0 : Int) ≤ r := by omega
    clear hb1 h0
    go_enter Try.func25, Try.ntmps25
    go_wp2_with fail
    go_ret
    exact ⟨r, rfl, hrn, rfl⟩

/-- An operation that is handed in: its numbers, its bytes, whether it goes on as its copy. -/
structure Oq where
  a : Int
  b : Int
  sa : Option Addr
  sn : Nat
  sc : Nat
  f : Nat → Int
  cp : Bool
/-- An operation lies there. -/
structure OqAt (w : World) (b off : Nat) (o : Oq) : Prop where
  c0 : w.cell? ⟨b, off, none⟩ = some (.int .i64 o.a)
  c1 : w.cell? ⟨b, off + 1, none⟩ = some (.int .i64 o.b)
  c2 : w.cell? ⟨b, off + 2, none⟩ = some (.slice o.sa o.sn o.sc)
  c3 : w.cell? ⟨b, off + 3, none⟩ = some (.bool o.cp)
  sl : Sl w o.sa o.sn (By o.f)
  none : o.sa = none → o.sn = 0 ∧ o.sc = 0
  room : o.sn ≤ o.sc
/-- A slice of operations lies there. -/
def So (w : World) (u : Option Addr) (k : Nat) : Prop := ∀ i, i < k → ∃ b off o, u = some ⟨b, off, none⟩ ∧ b < w.heap.size ∧ OqAt w b (off + i * 4) o
theorem OqAt.below {w w' : World} {b off : Nat} {o : Oq} (h : OqAt w b off o) (hb : Below w.heap.size w w') : OqAt w' b off o := by
  have hl : b < w.heap.size := World.block_lt_of_cell? w _ h.c0
  exact ⟨(hb.cell hl).trans h.c0, (hb.cell hl).trans h.c1, (hb.cell hl).trans h.c2, (hb.cell hl).trans h.c3, h.sl.below hb, h.none, h.room⟩
end Go.Proofs.Ytjelclomigmlmaa
