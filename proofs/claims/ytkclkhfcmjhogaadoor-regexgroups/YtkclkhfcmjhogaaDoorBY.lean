/- Bytes and their texts. -/
import Derived.Test.YtkclkhfcmjhogaaDoorB1
namespace Go.Proofs.YtkclkhfcmjhogaaDoor
open Go.RowKit
theorem info5 : Tryd.prog.info? 5 = some Tryd.t5 := by kernel_rfl
def By (f : Nat → Int) : Nat → Value := fun i => .int .u8 (f i)
theorem Sl.congr {w : World} {a : Option Addr} {n : Nat} {V U : Nat → Value} (h : Sl w a n V) (k : ∀ i, i < n → V i = U i) : Sl w a n U := by
  intro i hi
  obtain ⟨b, off, e, hb, hc⟩ := h i hi
  exact ⟨b, off, e, hb, by rw [hc, k i hi]⟩

/-- The text of the first n bytes. -/
def txt (f : Nat → Int) (n : Nat) : ByteArray := strOfNums ((List.range n).map f)

theorem conv_any (a : Option Addr) (n c : Nat) (f : Nat → Int) (w : World) (h : Sl w a n (By f)) : (convert 37 9 (.slice a n c)).run Tryd.prog w = .ok (.string (txt f n)) w := by
  by_cases h0 : n = 0
  · subst h0
    cases a with
    | none => exact run_convert_bytes_nil w 37 5 Tryd.underlying37 Tryd.underlying5 0 c 9 Tryd.underlying9
    | some p =>
      have hl : (loadCells p 0).run Tryd.prog w = .ok (([] : List Int).map (Value.int .u8)).toArray w := by simpa using run_loadCells_list (P := Tryd.prog) w p [] (by simp)
      rw [run_convert_bytes_string w 37 9 5 (some p) 0 c Tryd.underlying37 Tryd.underlying5 Tryd.underlying9, run_bytesToString w p 0 c [] hl]
      rfl
  · obtain ⟨b, off, rfl, _, _⟩ := h 0 (by omega)
    refine run_convert_bytes_arg w 37 5 Tryd.underlying37 Tryd.underlying5 b off n c _ (by simp) ?_ 9 Tryd.underlying9
    intro i hi
    obtain ⟨b', off', e, _, hc⟩ := h i hi
    cases e
    rw [hc]
    simp [By, List.getD, hi]

end Go.Proofs.YtkclkhfcmjhogaaDoor
