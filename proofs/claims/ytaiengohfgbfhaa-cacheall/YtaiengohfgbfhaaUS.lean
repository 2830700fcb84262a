/- Put, all its ways. -/
import Derived.Test.YtaiengohfgbfhaaN8
import Derived.Test.YtaiengohfgbfhaaHS
namespace Go.Proofs.Ytaiengohfgbfhaa
open Go.RowKit

theorem sput {w : World} {c : Nat} {mo : Int} {S : List Kw} {X : Nat → Prop} (h : Ch w c 2 mo S X) {k : Int} (hk : fits k) (hX : ∀ j, X j → j < w.heap.size) (hl : S.length < 80000) (hm : (S.length : Int) ≤ max mo 1) (z : ByteArray) :
    Calls Try.prog 20 #[.pointer (some ⟨c, 0, none⟩), .int .i64 k, .string z] w fun e w' => e = .returned (.tuple #[.int .i64 (pG mo S k (fun _ => .string z)), .bool (!pOk mo S k)]) ∧ Hid (Ch w' c 2 mo (pS mo S k (fun _ => .string z)) X ∧ Mv (fun j => ¬ X j) w w') := by
  cases hf : sfnd S k with
  | none =>
    by_cases hr : (S.length : Int) + 1 ≤ max mo 1
    · obtain ⟨e1, e2, e3⟩ := pS_room hf hr (fun _ => .string z)
      rw [e1, e2, e3]
      exact sput_room h hk hf hX (by omega) hr z
    · obtain ⟨e1, e2, e3⟩ := pS_full (mo := mo) hf (by omega) (fun _ => .string z)
      rw [e1, e2, e3]
      exact sput_full h hk hf hX (by omega) (by omega) z
  | some p =>
    obtain ⟨e1, e2, e3⟩ := pS_has h.nodup hf hm (fun _ => .string z)
    rw [e1, e2, e3]
    exact sput_has h hk hf z

end Go.Proofs.Ytaiengohfgbfhaa
