/- Put, all its ways. -/
import Derived.Test.YtjlnmkoggobbgaaN8
import Derived.Test.YtjlnmkoggobbgaaHB
namespace Go.Proofs.Ytjlnmkoggobbgaa
open Go.RowKit

theorem bput {w : World} {c : Nat} {mo : Int} {S : List Kw} {X : Nat → Prop} (h : Ch w c 2 mo S X) {k : Int} (hk : fits k) (hX : ∀ j, X j → j < w.heap.size) (hl : S.length < 80000) (hm : (S.length : Int) ≤ max mo 1) (za : Option Addr) (zn zc : Nat) :
    Calls Try.prog 52 #[.pointer (some ⟨c, 0, none⟩), .int .i64 k, .slice za zn zc] w fun e w' => e = .returned (.tuple #[.int .i64 (pG mo S k (fun _ => .slice za zn zc)), .bool (!pOk mo S k)]) ∧ Hid (Ch w' c 2 mo (pS mo S k (fun _ => .slice za zn zc)) X ∧ Mv (fun j => ¬ X j) w w') := by
  cases hf : sfnd S k with
  | none =>
    by_cases hr : (S.length : Int) + 1 ≤ max mo 1
    · obtain ⟨e1, e2, e3⟩ := pS_room hf hr (fun _ => .slice za zn zc)
      rw [e1, e2, e3]
      exact bput_room h hk hf hX (by omega) hr za zn zc
    · obtain ⟨e1, e2, e3⟩ := pS_full (mo := mo) hf (by omega) (fun _ => .slice za zn zc)
      rw [e1, e2, e3]
      exact bput_full h hk hf hX (by omega) (by omega) za zn zc
  | some p =>
    obtain ⟨e1, e2, e3⟩ := pS_has h.nodup hf hm (fun _ => .slice za zn zc)
    rw [e1, e2, e3]
    exact bput_has h hk hf za zn zc

end Go.Proofs.Ytjlnmkoggobbgaa
