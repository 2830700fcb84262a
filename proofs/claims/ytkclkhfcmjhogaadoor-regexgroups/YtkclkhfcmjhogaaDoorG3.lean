/- Texts that the statements make. -/
import Derived.Test.YtkclkhfcmjhogaaDoorG2
import Derived.Test.YtkclkhfcmjhogaaDoorBY
namespace Go.Proofs.YtkclkhfcmjhogaaDoor
open Go.RowKit
set_option linter.unusedVariables false

theorem txt_str (f : Nat → Int) (l : List Nat) (n : Nat) (hn : n = l.length) (h : ∀ i (hi : i < l.length), f i = (l[i] : Int)) : txt f n = str l := by
  subst hn
  unfold txt strOfNums str
  congr 2
  rw [List.map_map]
  apply List.ext_getElem
  · simp
  · intro i h1 h2
    simp at h1
    simp [h i h1]
/-- The text of a new row of bytes. -/
theorem conv_new (W : World) (l : List Nat) (n c : Nat) (hn : n = l.length) : (convert 37 9 (.slice (some ⟨W.heap.size, 0, none⟩) n c)).run Tryd.prog (W.alloc (.cells (l.map fun (x : Nat) => Value.int .u8 (x : Int)).toArray 5)) = .ok (.string (str l)) (W.alloc (.cells (l.map fun (x : Nat) => Value.int .u8 (x : Int)).toArray 5)) := by
  have hs : Sl (W.alloc (.cells (l.map fun (x : Nat) => Value.int .u8 (x : Int)).toArray 5)) (some ⟨W.heap.size, 0, none⟩) n (By (fun i => ((l.getD i 0 : Nat) : Int))) := by
    intro i hi
    refine ⟨_, _, rfl, by simp, ?_⟩
    rw [Nat.zero_add]
    refine (alloc_new W _ 5 i _ ?_).1
    simp [By, List.getD, show i < l.length from by omega]
  rw [conv_any _ _ _ _ _ hs, txt_str _ l n hn]
  intro i hi
  simp [List.getD, hi]
theorem idx_at (S : ByteArray) (i : Nat) (hi : i < (bs S).length) (w : World) : (Instr.index 9 (.string S) (.int .i64 (i : Int))).run Tryd.prog w = .ok (.int .u8 (((bs S)[i] : Nat) : Int)) w := by
  have h := index_run S ((bs S).take i) ((bs S).drop (i + 1)) ((bs S)[i]) (by rw [List.getElem_cons_drop, List.take_append_drop]) w
  rw [List.length_take, Nat.min_eq_left (by omega)] at h
  exact h
theorem idx_u8 (S : ByteArray) (i : Nat) (hi : i < (bs S).length) (w : World) : (Instr.index 9 (.string S) (.int .u8 (i : Int))).run Tryd.prog w = .ok (.int .u8 (((bs S)[i] : Nat) : Int)) w := by
  have hl : i < S.size := by rw [← bs_length]; exact hi
  rw [run_index_string w 9 S .u8 _ Tryd.underlying9, dif_pos (by omega)]
  have h := idx_at S i hi w
  rw [run_index_string w 9 S .i64 _ Tryd.underlying9, dif_pos (by omega)] at h
  exact h
/-- What Parse tells of a text of these bytes. -/
theorem parse_str (l : List Nat) (hl : ∀ c ∈ l, c < 256) (hn : l.length < 1000000) (w : World) :
    Calls Tryd.prog 105 #[.string (str l)] w fun e w' => e = .returned (.tuple #[sv (match cls l with | none => fun _ => false | some (p, _) => p), .int .i64 ((match cls l with | none => 0 | some (_, t) => l.length - t.length : Nat) : Int), .int .i64 (match cls l with | none => 2 | some _ => 0)]) ∧ Hid (Qt w w') := by
  have h := parse_any (str l) w (by rw [str_size]; exact hn)
  unfold pset plen perr at h
  rw [bs_str l hl, str_size] at h
  exact h
theorem parse_some {l t : List Nat} {p : Nat → Bool} (hc : cls l = some (p, t)) (hl : ∀ c ∈ l, c < 256) (hn : l.length < 1000000) (w : World) :
    Calls Tryd.prog 105 #[.string (str l)] w fun e w' => e = .returned (.tuple #[.agg #[.int .u64 (limb p 0), .int .u64 (limb p 1), .int .u64 (limb p 2), .int .u64 (limb p 3)], .int .i64 ((l.length - t.length : Nat) : Int), .int .i64 0]) ∧ Hid (Qt w w') := by
  have h := parse_str l hl hn w
  rw [hc] at h
  exact h
theorem parse_none {l : List Nat} (hc : cls l = none) (hl : ∀ c ∈ l, c < 256) (hn : l.length < 1000000) (w : World) :
    Calls Tryd.prog 105 #[.string (str l)] w fun e w' => e = .returned (.tuple #[.agg #[.int .u64 0, .int .u64 0, .int .u64 0, .int .u64 0], .int .i64 0, .int .i64 2]) ∧ Hid (Qt w w') := by
  have h := parse_str l hl hn w
  rw [hc] at h
  rw [← sv_none]
  exact h

end Go.Proofs.YtkclkhfcmjhogaaDoor
