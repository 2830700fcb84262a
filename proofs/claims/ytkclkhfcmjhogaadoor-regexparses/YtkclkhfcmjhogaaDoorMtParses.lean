/- RegexParses. -/
import Derived.Test.YtkclkhfcmjhogaaDoorMgJ
import Derived.Test.YtkclkhfcmjhogaaDoorMgE
import Derived.Test.YtkclkhfcmjhogaaDoorMgG1
namespace Go.Proofs.YtkclkhfcmjhogaaDoor
open Go.RowKit
set_option linter.unusedVariables false

def tld : Except Int RX → RX × Int
  | .ok y => (y, 0)
  | .error n => (⟨0, eset, []⟩, n)
/-- What Parse tells, in one form: what is told of a tree is a tree that lies. -/
def Pu (w : World) (r : Except Int RX) (e : Ending) (w' : World) : Prop :=
  ∃ x a c, ∃ n : Int, e = .returned (.tuple #[.agg #[.int .i64 x.kind, .int .u64 (limb x.set 0), .int .u64 (limb x.set 1), .int .u64 (limb x.set 2), .int .u64 (limb x.set 3), .slice a x.args.length c], .int .i64 n]) ∧ Hid (Parts x.args (fun j => j < w'.heap.size) w' a c) ∧ Hid (Qt w w') ∧ Hid ((x, n) = tld r)
theorem Pt.pu {w w' : World} {r : Except Int RX} {e : Ending} (h : Pt w r e w') : Pu w r e w' := by
  cases r with
  | error n =>
    obtain ⟨rfl, q⟩ := h
    refine ⟨⟨0, eset, []⟩, none, 0, n, ?_, (parts_none w').mono (fun _ h => h.elim), q, rfl⟩
    rw [show limb (RX.mk 0 eset []).set 0 = 0 from limb_none 0, show limb (RX.mk 0 eset []).set 1 = 0 from limb_none 1, show limb (RX.mk 0 eset []).set 2 = 0 from limb_none 2, show limb (RX.mk 0 eset []).set 3 = 0 from limb_none 3]
    rfl
  | ok x =>
    obtain ⟨a, c, rfl, p, q⟩ := h
    exact ⟨x, a, c, 0, rfl, p.out.lt.mono (fun j hj => hj.2), q, rfl⟩

set_option maxRecDepth 20000 in
set_option maxHeartbeats 4000000 in
theorem parses_walk (l : List Nat) (w : World) (hb : ∀ c ∈ l, c < 256) (hT : Hid (Tab w)) : Calls Tryd.prog 3 #[.string (str l)] w fun e w' => e = .returned (.bool true) ∧ Hid (Qt w w') := by
  have hbg := begun_true w hT
  have hs := str_size l
  by_cases hl : l.length ≤ 120
  · have g1 : ((str l).size : Int) ≤ 120 := by omega
    have p1 := fun W => (parseX_any l W (by omega) hb).mono (fun e w' h => h.pu)
    have p2 := fun W => (rparse_any l W hl hb).mono (fun e w' h => h.pu)
    clear hl hs hb
    generalize prsX l = r at *
    generalize str l = S at *
    go_enter Tryd.func3, Tryd.ntmps3
    go_wp2_with fail
    refine hbg.mono ?_
    rintro e1 w1 ⟨rfl, q1⟩
    go_wp2_with fail
    refine (p1 _).mono ?_
    intro e2 w2 h2
    obtain ⟨x, a, c, n, rfl, px, q2, ex⟩ := h2
    have PX : Hid (B6 w2.heap.size (.int .i64 x.kind) (.int .u64 (limb x.set 0)) (.int .u64 (limb x.set 1)) (.int .u64 (limb x.set 2)) (.int .u64 (limb x.set 3)) (.slice a x.args.length c) (w2.alloc (.cells #[.int .i64 x.kind, .int .u64 (limb x.set 0), .int .u64 (limb x.set 1), .int .u64 (limb x.set 2), .int .u64 (limb x.set 3), .slice a x.args.length c] 28))) := heap_alloc_new w2 _
    have PX2 : Hid (Parts x.args (fun j => j < w2.heap.size) (w2.alloc (.cells #[.int .i64 x.kind, .int .u64 (limb x.set 0), .int .u64 (limb x.set 1), .int .u64 (limb x.set 2), .int .u64 (limb x.set 3), .slice a x.args.length c] 28)) a c) := px.out.mv (Mv.alloc (fun _ => False) _ _) (fun _ _ h => h)
    have Q2 : Hid (Qt w (w2.alloc (.cells #[.int .i64 x.kind, .int .u64 (limb x.set 0), .int .u64 (limb x.set 1), .int .u64 (limb x.set 2), .int .u64 (limb x.set 3), .slice a x.args.length c] 28))) := (q1.out.comp q2.out).alloc _
    clear px q2 q1 p1 hbg
    go_wp2_with fail
    generalize w2.alloc (.cells #[.int .i64 x.kind, .int .u64 (limb x.set 0), .int .u64 (limb x.set 1), .int .u64 (limb x.set 2), .int .u64 (limb x.set 3), .slice a x.args.length c] 28) = W2 at *
    refine (p2 _).mono ?_
    intro e3 w3 h3
    obtain ⟨y, b, d, m, rfl, py, q3, ey⟩ := h3
    have PX3 := B6.mv PX.out q3.out (fun h => h)
    have PXL : Hid (w2.heap.size < w3.heap.size) := PX3.out.lt
    have PX4 := B6.mv PX3.out (Mv.alloc (fun _ => False) w3 (.cells #[.int .i64 y.kind, .int .u64 (limb y.set 0), .int .u64 (limb y.set 1), .int .u64 (limb y.set 2), .int .u64 (limb y.set 3), .slice b y.args.length d] 28)) (fun h => h)
    have PX5 : Hid (Parts x.args (fun j => j < w2.heap.size) (w3.alloc (.cells #[.int .i64 y.kind, .int .u64 (limb y.set 0), .int .u64 (limb y.set 1), .int .u64 (limb y.set 2), .int .u64 (limb y.set 3), .slice b y.args.length d] 28)) a c) := (PX2.out.mv q3.out (fun _ _ h => h)).mv (Mv.alloc (fun _ => False) _ _) (fun _ _ h => h)
    have PY : Hid (B6 w3.heap.size (.int .i64 y.kind) (.int .u64 (limb y.set 0)) (.int .u64 (limb y.set 1)) (.int .u64 (limb y.set 2)) (.int .u64 (limb y.set 3)) (.slice b y.args.length d) (w3.alloc (.cells #[.int .i64 y.kind, .int .u64 (limb y.set 0), .int .u64 (limb y.set 1), .int .u64 (limb y.set 2), .int .u64 (limb y.set 3), .slice b y.args.length d] 28))) := heap_alloc_new w3 _
    have PY2 : Hid (Parts y.args (fun j => j < w3.heap.size) (w3.alloc (.cells #[.int .i64 y.kind, .int .u64 (limb y.set 0), .int .u64 (limb y.set 1), .int .u64 (limb y.set 2), .int .u64 (limb y.set 3), .slice b y.args.length d] 28)) b d) := py.out.mv (Mv.alloc (fun _ => False) _ _) (fun _ _ h => h)
    have Q3 : Hid (Qt w (w3.alloc (.cells #[.int .i64 y.kind, .int .u64 (limb y.set 0), .int .u64 (limb y.set 1), .int .u64 (limb y.set 2), .int .u64 (limb y.set 3), .slice b y.args.length d] 28))) := (Q2.out.comp q3.out).alloc _
    have hxy : (x, n) = (y, m) := ex.out.trans ey.out.symm
    obtain ⟨rfl, rfl⟩ := Prod.mk.inj hxy
    have hsame := sameRx_any x x _ _ a b c d _ PX5 PY2
    rw [sameX_refl] at hsame
    clear hxy ex ey p2 q3 py PX PX2 PX3 Q2
    obtain ⟨x0, x1, x2, x3, x4, x5, _⟩ := B6.facts PX4
    obtain ⟨y0, y1, y2, y3, y4, y5, _⟩ := B6.facts PY
    go_wp2_with fail
    refine hsame.mono ?_
    rintro e4 w4 ⟨rfl, q4⟩
    go_wp2_with fail
    go_ret
    exact ⟨by simp, Q3.out.comp q4.out⟩
  · have g1 : (120 : Int) < ((str l).size : Int) := by omega
    clear hl hs hb
    generalize str l = S at *
    go_enter Tryd.func3, Tryd.ntmps3
    go_wp2_with fail
    refine hbg.mono ?_
    rintro e w1 ⟨rfl, q1⟩
    go_wp2_with fail
    go_ret
    exact ⟨rfl, q1.out⟩
theorem regexParses_row (S : ByteArray) (hS : S.size ≤ maxLen) (w : World) (hT : Tab w) : Calls Tryd.prog 3 #[.string S] w fun e w' => e = .returned (.bool true) ∧ Below w.heap.size w w' := by
  have h := parses_walk (bs S) w (bs_lt S) hT
  rw [str_bs] at h
  exact h.mono fun e w' ⟨he, hq⟩ => ⟨he, hq.out.below (Nat.le_refl _) (fun _ _ h => h)⟩

end Go.Proofs.YtkclkhfcmjhogaaDoor
