/- The reader: a byte, a mark, a digit. -/
import Derived.Test.YtojbakkbmfgoaaaDoorMsC4
import Derived.Lib.Bytealg
import Derived.BigQuiet
import Derived.RegionDies
import Derived.Deep.RegionWith
namespace Go.Proofs.YtojbakkbmfgoaaaDoor
open Go.RowKit
set_option linter.unusedVariables false

/-- A text's bytes. -/
def bs (S : ByteArray) : List Nat := S.data.toList.map UInt8.toNat
theorem bs_length (S : ByteArray) : (bs S).length = S.size := by unfold bs; rw [List.length_map]; rfl
theorem index_run (S : ByteArray) (pre t : List Nat) (c : Nat) (h : bs S = pre ++ c :: t) (w : World) : (Instr.index 9 (.string S) (.int .i64 ((pre.length : Nat) : Int))).run Tryd.prog w = .ok (.int .u8 (c : Int)) w := by
  have hl : pre.length < S.size := by rw [← bs_length, h]; simp
  have hi : 0 ≤ ((pre.length : Nat) : Int) ∧ ((pre.length : Nat) : Int) < (S.size : Int) := by omega
  rw [run_index_string w 9 S .i64 _ Tryd.underlying9]
  rw [dif_pos hi]
  congr 3
  have h2 : (bs S)[pre.length]? = some c := by rw [h]; simp
  unfold bs at h2
  rw [List.getElem?_map, Option.map_eq_some_iff] at h2
  obtain ⟨x, hx, rfl⟩ := h2
  congr 1
  rw [Array.getElem?_toList] at hx
  obtain ⟨hlt, hx⟩ := Array.getElem?_eq_some_iff.1 hx
  rw [← hx]
  rfl

/-- A reader: its text, and what is not read yet. -/
structure Rd (q : Nat) (S : ByteArray) (l : List Nat) (w : World) : Prop where
  text : w.cell? ⟨q, 0, none⟩ = some (.string S)
  at_ : w.cell? ⟨q, 1, none⟩ = some (.int .i64 ((S.size - l.length : Nat) : Int))
  fz : w.frozen? ⟨q, 1, none⟩ = false
  lt : q < w.heap.size
  suf : ∃ pre, bs S = pre ++ l
  small : S.size < 1000000
theorem Rd.mv {q : Nat} {S : ByteArray} {l : List Nat} {w w' : World} {X : Nat → Prop} (h : Rd q S l w) (k : Mv X w w') (hx : ¬ X q) : Rd q S l w' :=
  ⟨k.cell (p := ⟨q, 0, none⟩) h.text hx, k.cell (p := ⟨q, 1, none⟩) h.at_ hx, by rw [k.frozen (p := ⟨q, 1, none⟩) h.lt hx]; exact h.fz, Nat.lt_of_lt_of_le h.lt k.size, h.suf, h.small⟩
theorem Rd.nil {q : Nat} {S : ByteArray} {w : World} (h : Rd q S [] w) : w.cell? ⟨q, 1, none⟩ = some (.int .i64 (S.size : Int)) := by
  have := h.at_
  simpa using this
/-- A reader behind a call. -/
structure Go1 (q : Nat) (S : ByteArray) (l : List Nat) (w w' : World) : Prop where
  rd : Rd q S l w'
  mv : Mv (fun k => k = q) w w'

end Go.Proofs.YtojbakkbmfgoaaaDoor

namespace Go.Proofs.YtojbakkbmfgoaaaDoor
open Go.RowKit
set_option linter.unusedVariables false

theorem Go1.comp {q : Nat} {S : ByteArray} {l : List Nat} {a b c : World} (h : Hid (Mv (fun k => k = q) a b)) (k : Hid (Go1 q S l b c)) : Go1 q S l a c := ⟨k.out.rd, h.out.trans k.out.mv (fun _ _ h => h)⟩
theorem gm {q : Nat} {S : ByteArray} {l : List Nat} {a b : World} (h : Hid (Go1 q S l a b)) : Hid (Mv (fun k => k = q) a b) := h.out.mv

end Go.Proofs.YtojbakkbmfgoaaaDoor

namespace Go.Proofs.YtojbakkbmfgoaaaDoor
open Go.RowKit
set_option linter.unusedVariables false

/-- A new set's block. -/
def zeros : Obj := .cells #[.int .u64 0, .int .u64 0, .int .u64 0, .int .u64 0] 26
def Zr (g : Nat) (w : World) : Prop := w.heap[g]? = some (.cells #[.int .u64 0, .int .u64 0, .int .u64 0, .int .u64 0] 26 (0, 0))
theorem Zr.mv {g : Nat} {w w' : World} {X : Nat → Prop} (h : Hid (Zr g w)) (k : Mv X w w') (hx : ¬ X g) : Hid (Zr g w') := by
  have := (Array.getElem?_eq_some_iff.1 h.out).1
  show w'.heap[g]? = _
  rw [k.block g this hx]; exact h.out
theorem Zr.facts {g : Nat} {w : World} (h : Hid (Zr g w)) : w.cell? ⟨g, 0, none⟩ = some (.int .u64 0) ∧ w.cell? ⟨g, 1, none⟩ = some (.int .u64 0) ∧ w.cell? ⟨g, 2, none⟩ = some (.int .u64 0) ∧ w.cell? ⟨g, 3, none⟩ = some (.int .u64 0) ∧ w.frozen? ⟨g, 0, none⟩ = false ∧ w.frozen? ⟨g, 1, none⟩ = false ∧ w.frozen? ⟨g, 2, none⟩ = false ∧ w.frozen? ⟨g, 3, none⟩ = false := by
  have e : w.heap[g]? = some (.cells #[.int .u64 0, .int .u64 0, .int .u64 0, .int .u64 0] 26 (0, 0)) := h.out
  exact ⟨by simp [World.cell?, e], by simp [World.cell?, e], by simp [World.cell?, e], by simp [World.cell?, e], by simp [World.frozen?, e], by simp [World.frozen?, e], by simp [World.frozen?, e], by simp [World.frozen?, e]⟩
/-- A set stored. -/
abbrev put4 (w : World) (g : Nat) (v0 v1 v2 v3 : Value) : World := (((w.setCell ⟨g, 0, none⟩ v0).setCell ⟨g, 1, none⟩ v1).setCell ⟨g, 2, none⟩ v2).setCell ⟨g, 3, none⟩ v3
theorem put4_heap {w : World} {g : Nat} {c0 c1 c2 c3 : Value} (h : w.heap[g]? = some (.cells #[c0, c1, c2, c3] 26 (0, 0))) (v0 v1 v2 v3 : Value) : (put4 w g v0 v1 v2 v3).heap[g]? = some (.cells #[v0, v1, v2, v3] 26 (0, 0)) :=
  heap_set (heap_set (heap_set (heap_set h)))
theorem put4_mv (w : World) (g : Nat) (v0 v1 v2 v3 : Value) : Mv (fun k => k = g) w (put4 w g v0 v1 v2 v3) :=
  (((Mv.setCell w ⟨g, 0, none⟩ v0).trans (Mv.setCell _ ⟨g, 1, none⟩ v1) (fun _ _ h => h)).trans (Mv.setCell _ ⟨g, 2, none⟩ v2) (fun _ _ h => h)).trans (Mv.setCell _ ⟨g, 3, none⟩ v3) (fun _ _ h => h)
/-- A reader's call out of a function that has laid its result. -/
theorem up1 {q : Nat} {w w' : World} {o : Obj} (h : Hid (Mv (fun k => k = q) (w.alloc o) w')) : Hid (Mv (fun k => k = q) w w') := (Mv.alloc (fun k => k = q) w o).trans h.out (fun _ _ h => h)
end Go.Proofs.YtojbakkbmfgoaaaDoor

namespace Go.Proofs.YtojbakkbmfgoaaaDoor
open Go.RowKit
set_option linter.unusedVariables false

/-- A block that holds the set p. -/
def Bk (g : Nat) (p : Nat → Bool) (w : World) : Prop := w.heap[g]? = some (.cells #[.int .u64 (limb p 0), .int .u64 (limb p 1), .int .u64 (limb p 2), .int .u64 (limb p 3)] 26 (0, 0))
theorem Bk.lt {g : Nat} {p : Nat → Bool} {w : World} (h : Bk g p w) : g < w.heap.size := (Array.getElem?_eq_some_iff.1 h).1
theorem Bk.mv {g : Nat} {p : Nat → Bool} {w w' : World} {X : Nat → Prop} (h : Hid (Bk g p w)) (k : Mv X w w') (hx : ¬ X g) : Hid (Bk g p w') := by
  show w'.heap[g]? = _
  rw [k.block g h.out.lt hx]; exact h.out
theorem Bk.facts {g : Nat} {p : Nat → Bool} {w : World} (h : Hid (Bk g p w)) : w.cell? ⟨g, 0, none⟩ = some (.int .u64 (limb p 0)) ∧ w.cell? ⟨g, 1, none⟩ = some (.int .u64 (limb p 1)) ∧ w.cell? ⟨g, 2, none⟩ = some (.int .u64 (limb p 2)) ∧ w.cell? ⟨g, 3, none⟩ = some (.int .u64 (limb p 3)) ∧ w.frozen? ⟨g, 0, none⟩ = false ∧ w.frozen? ⟨g, 1, none⟩ = false ∧ w.frozen? ⟨g, 2, none⟩ = false ∧ w.frozen? ⟨g, 3, none⟩ = false := by
  have e : w.heap[g]? = some (.cells #[.int .u64 (limb p 0), .int .u64 (limb p 1), .int .u64 (limb p 2), .int .u64 (limb p 3)] 26 (0, 0)) := h.out
  exact ⟨by simp [World.cell?, e], by simp [World.cell?, e], by simp [World.cell?, e], by simp [World.cell?, e], by simp [World.frozen?, e], by simp [World.frozen?, e], by simp [World.frozen?, e], by simp [World.frozen?, e]⟩

/-- How much is left to read. -/
def left (q : Nat) (S : ByteArray) (w : World) : Nat := match w.cell? ⟨q, 1, none⟩ with
  | some v => S.size - (intOf v).toNat
  | none => 0
end Go.Proofs.YtojbakkbmfgoaaaDoor

namespace Go.Proofs.YtojbakkbmfgoaaaDoor
open Go.RowKit
set_option linter.unusedVariables false

theorem sv_none : sv (fun _ => false) = .agg #[.int .u64 0, .int .u64 0, .int .u64 0, .int .u64 0] := by
  rw [sv_cells, limb_none, limb_none, limb_none, limb_none]; rfl
end Go.Proofs.YtojbakkbmfgoaaaDoor
