/- Put, all its ways. -/
import Derived.Test.YtaiengohfgbfhaaN8
import Derived.Test.YtaiengohfgbfhaaHI
namespace Go.Proofs.Ytaiengohfgbfhaa
open Go.RowKit

theorem iput {w : World} {c : Nat} {mo : Int} {S : List Kw} {X : Nat → Prop} (h : Ch w c 2 mo S X) {k : Int} (hk : fits k) (hX : ∀ j, X j → j < w.heap.size) (hl : S.length < 80000) (hm : (S.length : Int) ≤ max mo 1) (z : Int) :
    Calls Try.prog 10 #[.pointer (some ⟨c, 0, none⟩), .int .i64 k, .int .i64 z] w fun e w' => e = .returned (.tuple #[.int .i64 (pG mo S k (fun _ => .int .i64 z)), .bool (!pOk mo S k)]) ∧ Hid (Ch w' c 2 mo (pS mo S k (fun _ => .int .i64 z)) X ∧ Mv (fun j => ¬ X j) w w') := by
  cases hf : sfnd S k with
  | none =>
    by_cases hr : (S.length : Int) + 1 ≤ max mo 1
    · obtain ⟨e1, e2, e3⟩ := pS_room hf hr (fun _ => .int .i64 z)
      rw [e1, e2, e3]
      exact iput_room h hk hf hX (by omega) hr z
    · obtain ⟨e1, e2, e3⟩ := pS_full (mo := mo) hf (by omega) (fun _ => .int .i64 z)
      rw [e1, e2, e3]
      exact iput_full h hk hf hX (by omega) (by omega) z
  | some p =>
    obtain ⟨e1, e2, e3⟩ := pS_has h.nodup hf hm (fun _ => .int .i64 z)
    rw [e1, e2, e3]
    exact iput_has h hk hf z

end Go.Proofs.Ytaiengohfgbfhaa
