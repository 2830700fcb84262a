/- What the small functions of page answer. -/
import Derived.Test.YtjlnmkoggobbgaaB1
namespace Go.Proofs.Ytjlnmkoggobbgaa
open Go.RowKit

theorem info5 : Try.prog.info? 5 = some Try.t5 := by kernel_rfl
theorem info3 : Try.prog.info? 3 = some Try.t3 := by kernel_rfl
theorem info4 : Try.prog.info? 4 = some Try.t4 := by kernel_rfl
theorem info22 : Try.prog.info? 22 = some Try.t22 := by kernel_rfl

/-- Bytes, and whole numbers, as values. -/
def By (f : Nat → Int) : Nat → Value := fun i => .int .u8 (f i)
def In (f : Nat → Int) : Nat → Value := fun i => .int .i64 (f i)

set_option maxHeartbeats 400000 in
theorem copyB_any (a : Option Addr) (n c : Nat) (f : Nat → Int) (w : World) (hn : n < 100000) (hl : Sl w a n (By f)) :
    Calls Try.prog 32 #[.slice a n c] w fun e w' => e = .returned (.slice (some ⟨w.heap.size, 0, none⟩) n n) ∧ Hid (Own w' w.heap.size 5 (.slice (some ⟨w.heap.size, 0, none⟩) n n) n (By f)) ∧ Hid (Below w.heap.size w w') := by
  obtain ⟨hmk, ho⟩ := made 22 5 Try.t5 (.int .u8 0) 1 Try.underlying22 info5 (by kernel_rfl) (by kernel_rfl) (by kernel_rfl) rfl (by omega) n hn w w.heap.size (Nat.le_refl _)
  obtain ⟨W, hcp, h2, h3⟩ := copied 22 5 Try.underlying22 (by kernel_rfl) _ _ _ _ _ _ (By f) a n c ho (hl.mv (Mv.alloc (fun _ => False) w _) (fun _ _ h => h)) (Nat.le_refl _) (fun _ => rfl)
  have R : Hid _ := h2.congr (U := By f) (fun i hi => by rw [if_pos hi])
  have B : Hid (Below w.heap.size w W) := ((Mv.alloc (fun k => k = w.heap.size) w _).trans h3 (fun _ _ h => h)).below (Nat.le_refl _) (fun k hk => by omega)
  clear ho hl h2 h3
  go_enter Try.func32, Try.ntmps32
  go_wp2
  go_ret
  exact ⟨rfl, R, B⟩

set_option maxHeartbeats 400000 in
theorem copyI_any (a : Option Addr) (n c : Nat) (f : Nat → Int) (w : World) (hn : n < 100000) (hl : Sl w a n (In f)) :
    Calls Try.prog 37 #[.slice a n c] w fun e w' => e = .returned (.slice (some ⟨w.heap.size, 0, none⟩) n n) ∧ Hid (Own w' w.heap.size 3 (.slice (some ⟨w.heap.size, 0, none⟩) n n) n (In f)) ∧ Hid (Below w.heap.size w w') := by
  obtain ⟨hmk, ho⟩ := made 31 3 Try.t3 (.int .i64 0) 8 Try.underlying31 info3 (by kernel_rfl) (by kernel_rfl) (by kernel_rfl) rfl (by omega) n hn w w.heap.size (Nat.le_refl _)
  obtain ⟨W, hcp, h2, h3⟩ := copied 31 3 Try.underlying31 (by kernel_rfl) _ _ _ _ _ _ (In f) a n c ho (hl.mv (Mv.alloc (fun _ => False) w _) (fun _ _ h => h)) (Nat.le_refl _) (fun _ => rfl)
  have R : Hid _ := h2.congr (U := In f) (fun i hi => by rw [if_pos hi])
  have B : Hid (Below w.heap.size w W) := ((Mv.alloc (fun k => k = w.heap.size) w _).trans h3 (fun _ _ h => h)).below (Nat.le_refl _) (fun k hk => by omega)
  clear ho hl h2 h3
  go_enter Try.func37, Try.ntmps37
  go_wp2
  go_ret
  exact ⟨rfl, R, B⟩

theorem len_any (b : Nat) (a : Option Addr) (n c : Nat) (w : World) (hc : w.cell? ⟨b, 1, none⟩ = some (.slice a n c)) :
    Calls Try.prog 22 #[.pointer (some ⟨b, 0, none⟩)] w fun e w' => e = .returned (.int .i64 n) ∧ w' = w := by
  go_enter Try.func22, Try.ntmps22
  go_wp2
  go_ret
  exact ⟨rfl, rfl⟩
theorem len_nil (w : World) : Calls Try.prog 22 #[.pointer none] w fun e w' => e = .returned (.int .i64 0) ∧ w' = w := by
  go_enter Try.func22, Try.ntmps22
  go_wp2
  go_ret
  exact ⟨rfl, rfl⟩
theorem count_any (b : Nat) (a : Option Addr) (n c : Nat) (w : World) (hc : w.cell? ⟨b, 2, none⟩ = some (.slice a n c)) :
    Calls Try.prog 23 #[.pointer (some ⟨b, 0, none⟩)] w fun e w' => e = .returned (.int .i64 n) ∧ w' = w := by
  go_enter Try.func23, Try.ntmps23
  go_wp2
  go_ret
  exact ⟨rfl, rfl⟩
theorem count_nil (w : World) : Calls Try.prog 23 #[.pointer none] w fun e w' => e = .returned (.int .i64 0) ∧ w' = w := by
  go_enter Try.func23, Try.ntmps23
  go_wp2
  go_ret
  exact ⟨rfl, rfl⟩
theorem clear_any (b : Nat) (v : Value) (w : World) (hc : w.cell? ⟨b, 4, none⟩ = some v) (hz : w.frozen? ⟨b, 4, none⟩ = false) :
    Calls Try.prog 19 #[.pointer (some ⟨b, 0, none⟩)] w fun e w' => e = .returned (.tuple #[]) ∧ w' = w.setCell ⟨b, 4, none⟩ (.slice none 0 0) := by
  go_enter Try.func19, Try.ntmps19
  go_wp2
  go_end0
  exact ⟨rfl, rfl⟩
theorem clear_nil (w : World) : Calls Try.prog 19 #[.pointer none] w fun e w' => e = .returned (.tuple #[]) ∧ w' = w := by
  go_enter Try.func19, Try.ntmps19
  go_wp2
  (try simp only [Exit.inBlock, Exit.then]); refine bodyPost_ret (results_none rfl _ _ _) rfl ?_
  exact ⟨rfl, rfl⟩
theorem reads_nil (w : World) : Calls Try.prog 21 #[.pointer none] w fun e w' => e = .returned (.slice none 0 0) ∧ w' = w := by
  go_enter Try.func21, Try.ntmps21
  go_wp2
  go_ret
  exact ⟨rfl, rfl⟩
theorem reads_any (b : Nat) (a : Option Addr) (n c : Nat) (f : Nat → Int) (w : World) (hc : w.cell? ⟨b, 4, none⟩ = some (.slice a n c)) (hn : n < 100000) (hl : Hid (Sl w a n (In f))) :
    Calls Try.prog 21 #[.pointer (some ⟨b, 0, none⟩)] w fun e w' => e = .returned (.slice (some ⟨w.heap.size, 0, none⟩) n n) ∧ Hid (Own w' w.heap.size 3 (.slice (some ⟨w.heap.size, 0, none⟩) n n) n (In f)) ∧ Hid (Below w.heap.size w w') := by
  go_enter Try.func21, Try.ntmps21
  go_wp2_with fail
  refine (copyI_any a n c f w hn hl.out).mono ?_
  rintro e w1 ⟨rfl, h1, h2⟩
  go_wp2_with fail
  go_ret
  exact ⟨rfl, h1, h2⟩

def pageChain : List PanicEntry := [{ v := .iface 9 (.string ⟨#[112, 97, 103, 101, 58, 32, 110, 111, 116, 32, 116, 111, 32, 98, 101, 32, 114, 101, 97, 100]⟩), recovered := false }]
theorem must_ok (w : World) : Calls Try.prog 35 #[.bool true] w fun e w' => e = .returned (.tuple #[]) ∧ w' = w := by
  go_enter Try.func35, Try.ntmps35
  go_wp2
  go_end0
  exact ⟨rfl, rfl⟩
theorem must_bad (w : World) : Calls Try.prog 35 #[.bool false] w fun e w' => e = .panicked pageChain ∧ w' = w := by
  go_enter Try.func35, Try.ntmps35
  go_wp2
  exact ⟨rfl, rfl, rfl⟩

/-- Is there such a page? -/
def has (i : Int) (m : Nat) : Bool := decide (0 ≤ i) && decide (i < m)
theorem has_any (b : Nat) (i : Int) (a : Option Addr) (n c : Nat) (w : World) (hc : w.cell? ⟨b, 2, none⟩ = some (.slice a n c)) :
    Calls Try.prog 36 #[.pointer (some ⟨b, 0, none⟩), .int .i64 i] w fun e w' => e = .returned (.bool (has i n)) ∧ w' = w := by
  by_cases h : 0 ≤ i
  · have e1 : Hid (has i n = decide (i < n)) := by show _ = _; unfold has; rw [decide_eq_true h]; rfl
    go_enter Try.func36, Try.ntmps36
    go_wp2_with fail
    refine (count_any b a n c w hc).mono ?_
    rintro e w1 ⟨rfl, hw⟩
    obtain rfl := hw.symm
    go_wp2_with fail
    go_ret
    exact ⟨by rw [e1.out]; rfl, rfl⟩
  · have e1 : Hid (has i n = false) := by show _ = _; unfold has; rw [decide_eq_false h]; rfl
    have h' : i < 0 := by omega
    go_enter Try.func36, Try.ntmps36
    go_wp2_with fail
    go_ret
    exact ⟨by rw [e1.out]; rfl, rfl⟩
theorem has_nil (i : Int) (hi : 0 ≤ i) (w : World) :
    Calls Try.prog 36 #[.pointer none, .int .i64 i] w fun e w' => e = .returned (.bool false) ∧ w' = w := by
  go_enter Try.func36, Try.ntmps36
  go_wp2_with fail
  refine (count_nil w).mono ?_
  rintro e w1 ⟨rfl, hw⟩
  obtain rfl := hw.symm
  go_wp2_with fail
  go_ret
  exact ⟨by rw [decide_eq_false (by omega)]; rfl, rfl⟩

end Go.Proofs.Ytjlnmkoggobbgaa
