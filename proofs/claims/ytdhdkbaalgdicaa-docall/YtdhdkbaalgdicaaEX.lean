/- EX: r7_E3 r7_E4. -/
import Derived.Test.YtdhdkbaalgdicaaTX
/- Two texts side by side; what an edit spells. -/
namespace Go.Proofs.Ytdhdkbaalgdicaa
open Go.RowKit

theorem bt_ins {n m : Nat} {L : List Bt} (h : Wf n m L) (G A f : Nat → Int) (a b k : Nat) : (ins L a b m k).map (bt G (catI A m f)) = (L.map (bt G A)).take a ++ (List.range k).map f ++ (L.map (bt G A)).drop b := by
  have old : ∀ x ∈ L, bt G (catI A m f) x = bt G A x := by
    intro x hx
    unfold bt
    cases e : x.1
    · rfl
    · have := (h x hx).2 e
      simp only [if_true]
      unfold catI
      rw [if_pos this]
  unfold ins
  rw [List.map_append, List.map_append, ← List.map_take, ← List.map_drop]
  congr 1
  · congr 1
    · exact List.map_congr_left (fun x hx => old x (List.mem_of_mem_take hx))
    · unfold sp1
      rw [List.map_map]
      apply List.ext_getElem
      · simp
      · intro i h1 h2
        simp [bt, catI]
        intro hlt
        omega
  · exact List.map_congr_left (fun x hx => old x (List.mem_of_mem_drop hx))

/-- Two texts, and what was there ahead of both. -/
def Two (w wr : World) (p n : Nat) (L : List Bt) (m : Nat) (A : Nat → Int) (q n' : Nat) (L' : List Bt) (m' : Nat) (A' : Nat → Int) : Prop :=
  ∃ Y Y', Tx wr p n L m A Y ∧ Tx wr q n' L' m' A' Y' ∧ (∀ k, k < wr.heap.size → Y k ∨ Y' k) ∧ (∀ k, k < w.heap.size → Y k ∧ Y' k) ∧ Below w.heap.size w wr
section
variable {w wr w' : World} {p n : Nat} {L : List Bt} {m : Nat} {A : Nat → Int} {q n' : Nat} {L' : List Bt} {m' : Nat} {A' : Nat → Int}
theorem Two.swap (h : Two w wr p n L m A q n' L' m' A') : Two w wr q n' L' m' A' p n L m A := by
  obtain ⟨Y, Y', t, t', c, d, b⟩ := h
  exact ⟨Y', Y, t', t, fun k hk => (c k hk).symm, fun k hk => (d k hk).symm, b⟩
theorem Two.qt (h : Two w wr p n L m A q n' L' m' A') (k : Qt wr w') : Two w w' p n L m A q n' L' m' A' := by
  obtain ⟨Y, Y', t, t', c, d, b⟩ := h
  refine ⟨_, _, t.qt k, t'.qt k, fun j hj => ?_, fun j hj => ⟨.inl (d j hj).1, .inl (d j hj).2⟩, b.trans (k.below _ b.size)⟩
  by_cases hl : j < wr.heap.size
  · exact (c j hl).imp .inl .inl
  · exact .inl (.inr ⟨by omega, hj⟩)
theorem Two.left (h : Two w wr p n L m A q n' L' m' A') : ∃ Y, Tx wr p n L m A Y := by
  obtain ⟨Y, Y', t, _⟩ := h
  exact ⟨Y, t⟩
theorem Two.right (h : Two w wr p n L m A q n' L' m' A') : ∃ Y, Tx wr q n' L' m' A' Y := by
  obtain ⟨Y, Y', _, t, _⟩ := h
  exact ⟨Y', t⟩
theorem Two.below (h : Two w wr p n L m A q n' L' m' A') : Below w.heap.size w wr := by
  obtain ⟨_, _, _, _, _, _, b⟩ := h
  exact b
theorem Two.wf (h : Two w wr p n L m A q n' L' m' A') : Wf n m L := by
  obtain ⟨Y, Y', ⟨_, _, t⟩, _⟩ := h
  exact t.wf
theorem Two.small (h : Two w wr p n L m A q n' L' m' A') : n ≤ 20000 ∧ m ≤ 20000 ∧ L.length ≤ 20000 := by
  obtain ⟨Y, Y', ⟨_, _, t⟩, _⟩ := h
  exact t.small

/-- An edit of the first. -/
theorem Two.edit (h : Two w wr p n L m A q n' L' m' A') (a b : Nat) (x y : Int) (hx : x = a) (hy : y = b) (sa : Option Addr) (k sc : Nat) (f : Nat → Int) (hab : a ≤ b) (hb : b ≤ L.length) (hk : k ≤ 300) (hs : Sl wr sa k (By f)) (hn : sa = none → k = 0 ∧ sc = 0) (hm : m + k ≤ 20000) (hl : L.length + k ≤ 20000) :
    Calls Try.prog 12 #[.pointer (some ⟨p, 0, none⟩), .int .i64 x, .int .i64 y, .slice sa k sc] wr fun e w' => e = .returned (.int .i64 0) ∧ Hid (Two w w' p n (ins L a b m k) (m + k) (catI A m f) q n' L' m' A') := by
  obtain ⟨Y, Y', t, t', c, d, bl⟩ := h
  subst hx hy
  refine (edit_ok t a b sa k sc f hab hb hk hs hn hm hl).mono ?_
  rintro e w' ⟨rfl, F⟩
  refine ⟨rfl, ?_⟩
  have M := F.out.2
  have M2 : Mv Y' wr w' := M.mono (fun j hj hn => (c j hj).resolve_left hn)
  refine ⟨Y, _, F.out.1, t'.mv M2, fun j hj => ?_, fun j hj => ⟨(d j hj).1, .inl (d j hj).2⟩, Tx.edit bl M (Nat.le_refl _) (fun j hj => (d j hj).1)⟩
  by_cases hl : j < wr.heap.size
  · exact (c j hl).imp id .inl
  · exact .inr (.inr ⟨by omega, hj⟩)
end
end Go.Proofs.Ytdhdkbaalgdicaa

/- SamePieces, Place; operations that are handed in. -/
namespace Go.Proofs.Ytdhdkbaalgdicaa
open Go.RowKit

set_option maxHeartbeats 1000000 in
theorem placeOf_any (k : Int) (n : Nat) (h1 : 1 ≤ n) (h2 : n ≤ 30000) (w : World) :
    Calls Try.prog 11 #[.int .i64 k, .int .i64 n] w fun e w' => ∃ r : Nat, e = .returned (.int .i64 r) ∧ r < n ∧ w' = w := by
  have hn1 : (1 : Int) ≤ n := by omega
  have hn0 : ¬ n = 0 := by omega
  have hn30 : (n : Int) ≤ 30000 := by omega
  have hb1 : -(n : Int) < k.tmod n ∧ k.tmod n < n := by
    have := Int.tmod_lt_of_pos k (show (0 : Int) < n by omega)
    have := Int.lt_tmod_of_pos k (show (0 : Int) < n by omega)
    exact ⟨by omega, by omega⟩
  by_cases h0 : k.tmod n < 0
  · obtain ⟨r, hr⟩ : ∃ r : Nat, k.tmod n + n = (r : Int) := ⟨(k.tmod n + n).toNat, by omega⟩
    have hrn : r < n := by omega
    go_enter Try.func11, Try.ntmps11
    go_wp2_with fail
    go_ret
    exact ⟨r, rfl, hrn, rfl⟩
  · obtain ⟨r, hr⟩ : ∃ r : Nat, k.tmod n = (r : Int) := ⟨(k.tmod n).toNat, by omega⟩
    have hrn : r < n := by omega
    have hr0 : (0 : Int) ≤ r := by omega
    clear hb1 h0
    go_enter Try.func11, Try.ntmps11
    go_wp2_with fail
    go_ret
    exact ⟨r, rfl, hrn, rfl⟩

/-- An operation that is handed in: its numbers, its bytes, whether it goes on as its copy. -/
structure Oq where
  a : Int
  b : Int
  sa : Option Addr
  sn : Nat
  sc : Nat
  f : Nat → Int
  cp : Bool
/-- An operation lies there. -/
structure OqAt (w : World) (b off : Nat) (o : Oq) : Prop where
  c0 : w.cell? ⟨b, off, none⟩ = some (.int .i64 o.a)
  c1 : w.cell? ⟨b, off + 1, none⟩ = some (.int .i64 o.b)
  c2 : w.cell? ⟨b, off + 2, none⟩ = some (.slice o.sa o.sn o.sc)
  c3 : w.cell? ⟨b, off + 3, none⟩ = some (.bool o.cp)
  sl : Sl w o.sa o.sn (By o.f)
  none : o.sa = none → o.sn = 0 ∧ o.sc = 0
  room : o.sn ≤ o.sc
/-- A slice of operations lies there. -/
def So (w : World) (u : Option Addr) (k : Nat) : Prop := ∀ i, i < k → ∃ b off o, u = some ⟨b, off, none⟩ ∧ b < w.heap.size ∧ OqAt w b (off + i * 4) o
theorem OqAt.below {w w' : World} {b off : Nat} {o : Oq} (h : OqAt w b off o) (hb : Below w.heap.size w w') : OqAt w' b off o := by
  have hl : b < w.heap.size := World.block_lt_of_cell? w _ h.c0
  exact ⟨(hb.cell hl).trans h.c0, (hb.cell hl).trans h.c1, (hb.cell hl).trans h.c2, (hb.cell hl).trans h.c3, h.sl.below hb, h.none, h.room⟩
end Go.Proofs.Ytdhdkbaalgdicaa
