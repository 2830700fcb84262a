/- The program's Parse: what recovers; how great what is read may be. -/
import Derived.Test.YtkclkhfcmjhogaaDoorH6
import Derived.Test.YtkclkhfcmjhogaaDoorK8
namespace Go.Proofs.YtkclkhfcmjhogaaDoor
open Go.RowKit
set_option linter.unusedVariables false

set_option maxRecDepth 20000 in
theorem errnoOf_any (x : Int) (w : World) : Calls Tryd.prog 30 #[.iface 29 (.int .i64 x)] w fun e w' => e = .returned (.int .i64 x) ∧ w' = w := by
  have hta : (Instr.typeAssert (.iface 29 (.int .i64 x)) 20 29 true).run Tryd.prog w = .ok (.tuple #[.int .i64 x, .bool true]) w := by first | kernel_rfl | rfl
  go_enter Tryd.func30, Tryd.ntmps30
  go_wp2
  go_ret
  exact ⟨rfl, rfl⟩
theorem catchX_idle (p q : Addr) (w : World) :
    CallsD Tryd.prog 29 #[.pointer (some p), .pointer (some q)] .returning w fun e u' w' => e = .returned (.tuple #[]) ∧ u' = .returning ∧ w' = w := by
  refine callsD_of_wpS Tryd.func29 rfl fun c₀ cs hu => ?_
  apply wpS_seq
  apply wpS_region
  simp [wpOpsS, go_sem, recoverD, hu, Tryd.ntmps29, Exit.thenS]
  refine wpS_of_wp ?_
  rw [show (#[Value.pointer (some p), Value.pointer (some q)] ++ ((Array.replicate 7 undef).setIfInBounds 1 Value.nilIface).setIfInBounds 0 Value.nilIface) = #[Value.pointer (some p), Value.pointer (some q), Value.nilIface, Value.nilIface, undef, undef, undef, undef, undef] from rfl]
  go_wp2_with fail
  cases c₀
  simp_all [bodyPostS, results, Tryd.results29]
set_option maxHeartbeats 1000000 in
theorem catchX_panicking (n : Int) (g : Nat) (w : World) (v0 v1 v2 v3 v4 v5 y : Value) (hz : Hid (B6 g v0 v1 v2 v3 v4 v5 w)) (hc2 : w.cell? ⟨g + 1, 0, none⟩ = some y) (hz2 : w.frozen? ⟨g + 1, 0, none⟩ = false) :
    CallsD Tryd.prog 29 #[.pointer (some ⟨g, 0, none⟩), .pointer (some ⟨g + 1, 0, none⟩)] (.panicking (chainE n)) w fun e u' w' =>
      e = .returned (.tuple #[]) ∧ u' = .panicking [{ v := .iface 29 (.int .i64 n), recovered := true }] ∧ w' = (put6 w g (.int .i64 0) (.int .u64 0) (.int .u64 0) (.int .u64 0) (.int .u64 0) (.slice none 0 0)).setCell ⟨g + 1, 0, none⟩ (.int .i64 n) := by
  obtain ⟨z0, z1, z2, z3, z4, z5, f0, f1, f2, f3, f4, f5⟩ := B6.facts hz
  refine callsD_of_wpS Tryd.func29 rfl fun c₀ cs hu => ?_
  unfold chainE at hu
  apply wpS_seq
  apply wpS_region
  simp [wpOpsS, go_sem, recoverD, hu, Tryd.ntmps29, Exit.thenS]
  refine wpS_of_wp ?_
  rw [show (#[Value.pointer (some ⟨g, 0, none⟩), Value.pointer (some ⟨g + 1, 0, none⟩)] ++ ((Array.replicate 7 undef).setIfInBounds 1 (Value.iface 29 (.int .i64 n))).setIfInBounds 0 (Value.iface 29 (.int .i64 n))) = #[Value.pointer (some ⟨g, 0, none⟩), Value.pointer (some ⟨g + 1, 0, none⟩), (Value.iface 29 (.int .i64 n)), (Value.iface 29 (.int .i64 n)), undef, undef, undef, undef, undef] from rfl]
  go_wp2_with fail
  refine (errnoOf_any n w).mono ?_
  rintro e w1 ⟨rfl, hw⟩
  obtain rfl := hw.symm
  clear hw
  go_wp2_with fail
  exact ⟨rfl, _, rfl, .tuple #[], by simp [results, Tryd.results29], rfl, rfl, rfl⟩

/-- So many nodes at most. -/
def Nb (f : List Nat → Res) : Prop := ∀ l x t, f l = .ok (x, t) → x.nodes + 1 + 2 * t.length ≤ 2 * l.length
theorem nodes_leaf (p : Nat → Bool) : RX.nodes ⟨1, p, []⟩ = 1 := by rw [nodes_eq]; rfl
theorem nodes_one1 (k : Int) (x : RX) : RX.nodes ⟨k, eset, [x]⟩ = 1 + x.nodes := by rw [nodes_eq]; simp
theorem atomS_nb {f : List Nat → Res} (h : Nb f) : Nb (atomS f) := by
  intro l x t e
  cases l with
  | nil => cases e
  | cons c u =>
    rw [atomS_cons] at e
    split at e
    · unfold brS at e
      split at e
      · cases e
      · cases e
      · rename_i x' d v hi
        split at e
        · cases e
          have := h _ _ _ hi
          simp only [List.length_cons] at *
          omega
        · cases e
    · split at e
      · cases e
      · rename_i p v hc
        cases e
        have := (cls_suf hc).1.len
        rw [nodes_leaf]
        omega
theorem signS_nb (x : RX) (l : List Nat) : (signS x l).1.nodes + 2 * (signS x l).2.length ≤ x.nodes + 2 * l.length := by
  unfold signS
  split
  · exact Nat.le_refl _
  · split
    · simp only [nodes_one1, List.length_cons]; omega
    · exact Nat.le_refl _
theorem repS_nb {f : List Nat → Res} (h : Nb f) : Nb (repS f) := by
  intro l x t e
  unfold repS at e
  split at e
  · cases e
  · rename_i y u ha
    have e2 := Except.ok.inj e
    have h1 := atomS_nb h _ _ _ ha
    have h2 := signS_nb y u
    rw [e2] at h2
    simp only at h2
    omega
theorem catL_nb {f : List Nat → Res} (h : Nb f) : ∀ (n : Nat) (acc xs : List RX) (l t : List Nat), catL f n acc l = .ok (xs, t) → (xs.map RX.nodes).sum + xs.length + 2 * t.length ≤ (acc.map RX.nodes).sum + acc.length + 2 * l.length
  | 0, acc, xs, l, t, e => by cases e; exact Nat.le_refl _
  | n + 1, acc, xs, l, t, e => by
    unfold catL at e
    split at e
    · cases e; exact Nat.le_refl _
    · split at e
      · cases e
      · rename_i y u hr
        have h1 := catL_nb h n _ _ _ _ e
        have h2 := repS_nb h _ _ _ hr
        simp only [List.map_append, List.sum_append, List.map_cons, List.map_nil, List.sum_cons, List.sum_nil, List.length_append, List.length_singleton] at h1
        omega
theorem one_nb (k : Int) (xs : List RX) (hx : xs ≠ []) : (one k xs).nodes + 1 ≤ (xs.map RX.nodes).sum + xs.length := by
  match xs, hx with
  | [x], _ => simp [one]
  | x :: y :: m, _ =>
    show RX.nodes ⟨k, eset, x :: y :: m⟩ + 1 ≤ _
    rw [nodes_eq]
    simp only [List.length_cons]
    omega
theorem catL_ne {f : List Nat → Res} : ∀ (n : Nat) (acc xs : List RX) (l t : List Nat), catL f n acc l = .ok (xs, t) → acc ≠ [] → xs ≠ []
  | 0, acc, xs, l, t, e, h => by cases e; exact h
  | n + 1, acc, xs, l, t, e, h => by
    unfold catL at e
    split at e
    · cases e; exact h
    · split at e
      · cases e
      · exact catL_ne n _ _ _ _ e (by simp)
theorem catS_nb {f : List Nat → Res} (h : Nb f) : Nb (catS f) := by
  intro l x t e
  unfold catS at e
  split at e
  · cases e
  · rename_i y u hr
    obtain ⟨xs, hc, rfl⟩ := oneR_ok e
    have h1 := catL_nb h _ _ _ _ _ hc
    have h2 := repS_nb h _ _ _ hr
    have h3 := one_nb 2 xs (catL_ne _ _ _ _ _ hc (by simp))
    simp only [List.map_cons, List.map_nil, List.sum_cons, List.sum_nil, List.length_singleton] at h1
    omega
theorem altL_nb {f : List Nat → Res} (h : Nb f) : ∀ (n : Nat) (acc xs : List RX) (l t : List Nat), altL f n acc l = .ok (xs, t) → (xs.map RX.nodes).sum + xs.length + 2 * t.length ≤ (acc.map RX.nodes).sum + acc.length + 2 * l.length
  | 0, acc, xs, l, t, e => by cases e; exact Nat.le_refl _
  | n + 1, acc, xs, [], t, e => by cases e; exact Nat.le_refl _
  | n + 1, acc, xs, c :: l, t, e => by
    unfold altL at e
    split at e
    · split at e
      · cases e
      · rename_i y u hr
        have h1 := altL_nb h n _ _ _ _ e
        have h2 := catS_nb h _ _ _ hr
        simp only [List.map_append, List.sum_append, List.map_cons, List.map_nil, List.sum_cons, List.sum_nil, List.length_append, List.length_nil, List.length_cons] at *
        omega
    · cases e; exact Nat.le_refl _
theorem altL_ne {f : List Nat → Res} : ∀ (n : Nat) (acc xs : List RX) (l t : List Nat), altL f n acc l = .ok (xs, t) → acc ≠ [] → xs ≠ []
  | 0, acc, xs, l, t, e, h => by cases e; exact h
  | n + 1, acc, xs, [], t, e, h => by cases e; exact h
  | n + 1, acc, xs, c :: l, t, e, h => by
    unfold altL at e
    split at e
    · split at e
      · cases e
      · exact altL_ne n _ _ _ _ e (by simp)
    · cases e; exact h
theorem altS_nb {f : List Nat → Res} (h : Nb f) : Nb (altS f) := by
  intro l x t e
  unfold altS at e
  split at e
  · cases e
  · rename_i y u hr
    obtain ⟨xs, hc, rfl⟩ := oneR_ok e
    have h1 := altL_nb h _ _ _ _ _ hc
    have h2 := catS_nb h _ _ _ hr
    have h3 := one_nb 3 xs (altL_ne _ _ _ _ _ hc (by simp))
    simp only [List.map_cons, List.map_nil, List.sum_cons, List.sum_nil, List.length_singleton] at h1
    omega
theorem altN_nb : ∀ n, Nb (altN n)
  | 0 => altS_nb (fun _ _ _ h => by cases h)
  | n + 1 => altS_nb (altN_nb n)
theorem wholeS_tall {l : List Nat} {x : RX} (h : wholeS l = .ok x) (hl : l.length < 20000) : x.tall < 90000 := by
  unfold wholeS at h
  split at h
  · cases h
  · rename_i y hr
    cases h
    have h1 := altN_nb 13 _ _ _ hr
    have h2 := tall_nodes x
    omega
  · cases h

end Go.Proofs.YtkclkhfcmjhogaaDoor
