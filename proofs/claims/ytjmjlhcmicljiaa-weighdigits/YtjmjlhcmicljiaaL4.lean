/- How Parse ends, at every text. -/
import Derived.Test.YtjmjlhcmicljiaaL3
import Derived.Test.YtjmjlhcmicljiaaEx
namespace Go.Proofs.Ytjmjlhcmicljiaa
open Go.RowKit

/-- Are the parts ahead of the point and behind it digits, and few enough? -/
def goodP (a b : ByteArray) (p : Bool) : Bool := (!a.toList.isEmpty && (!b.toList.isEmpty || !p) && decide (a.size + b.size ≤ 15)) && (a ++ b).data.toList.all isDig
def wordP (a b : ByteArray) : Nat := Fl.quoW (numL (a ++ b).data.toList) (10 ^ b.size)
def unsEnd (a b : ByteArray) (p : Bool) : Ending := if goodP a b p then .returned (.float .f64 (wordP a b)) else .panicked badChain
theorem unsEnd_ok {a b : ByteArray} {p : Bool} (h : goodP a b p = true) : unsEnd a b p = .returned (.float .f64 (wordP a b)) := by unfold unsEnd; rw [h]; rfl
theorem unsEnd_bad {a b : ByteArray} {p : Bool} (h : goodP a b p = false) : unsEnd a b p = .panicked badChain := by unfold unsEnd; rw [h]; rfl

theorem pow15 {d : Nat} (h : d ≤ 15) : 0 < 10 ^ d ∧ 10 ^ d < 9007199254740992 := by
  have h1 : 10 ^ d ≤ 10 ^ 15 := Nat.pow_le_pow_right (by omega) h
  exact ⟨Nat.pow_pos (by omega), by omega⟩
theorem num15 {l : List UInt8} (h : l.length ≤ 15) (g : l.all isDig = true) : numL l < 9007199254740992 := by
  have := numL_lt l g
  have h1 : 10 ^ l.length ≤ 10 ^ 15 := Nat.pow_le_pow_right (by omega) h
  omega

theorem quo_run (n m : Nat) (hn : n < 9007199254740992) (hm : 0 < m) (h : m < 9007199254740992) (t : TypeId) (w : World) :
    (binOp .quo t (.float .f64 (floatOfInt .f64 (n : Int))) (.float .f64 (floatOfInt .f64 (m : Int)))).run Try.prog w = .ok (.float .f64 (Fl.quoW n m)) w :=
  run_float_arith w .quo t .f64 _ _ _ (Fl.div_some hn hm h)

/-- What Cut tells of a text. -/
def CutSays (s a b : ByteArray) (p : Bool) : Prop := ∀ w : World, Calls Try.prog 38 #[.string s, .string ⟨#[46]⟩] w fun e w' => e = .returned (.tuple #[.string a, .string b, .bool p]) ∧ ∃ n, w' = w.drewN n

set_option maxHeartbeats 1000000 in
theorem uns_core (s a b : ByteArray) (p : Bool) (C : CutSays s a b p) (hz : a.size + b.size ≤ 9223372036854775807) (w : World) :
    Calls Try.prog 31 #[.string s] w fun e w' => e = unsEnd a b p ∧ ∃ n, w' = w.drewN n := by
  cases ha : a.toList.isEmpty
  · cases hb : (!b.toList.isEmpty || !p)
    · have F : Hid (goodP a b p = false) := by show _ = _; unfold goodP; rw [hb]; simp
      have hb1 : b.toList.isEmpty = true := by revert hb; cases b.toList.isEmpty <;> simp
      have hb2 : p = true := by revert hb; cases p <;> simp
      subst hb2
      clear hb
      go_enter Try.func31, Try.ntmps31
      go_wp2_with fail
      refine (C _).mono ?_
      rintro e w' ⟨rfl, n, rfl⟩
      go_wp2_with fail
      refine (must_ok _).mono ?_
      rintro e w' ⟨rfl, rfl⟩
      go_wp2_with fail
      refine (must_bad _).mono ?_
      rintro e w' ⟨rfl, rfl⟩
      exact ⟨rfl, (unsEnd_bad F.out).symm, n, rfl⟩
    · have H2 : Hid ((!b.toList.isEmpty || !p) = true) := hb
      by_cases hl : a.size + b.size ≤ 15
      · have hl2 : (a.size : Int) + b.size ≤ 15 := by omega
        have hsz : (a ++ b).size = a.size + b.size := ByteArray.size_append
        have Z : Hid _ := hsz
        clear hsz
        cases hd : (a ++ b).data.toList.all isDig
        · have F : Hid (goodP a b p = false) := by show _ = _; unfold goodP; rw [hd]; simp
          have D : Hid _ := hd
          clear hd
          cases hb1 : b.toList.isEmpty
          · clear hb
            go_enter Try.func31, Try.ntmps31
            go_wp2_with fail
            refine (C _).mono ?_
            rintro e w' ⟨rfl, n, rfl⟩
            go_wp2_with fail
            refine (must_ok _).mono ?_
            rintro e w' ⟨rfl, rfl⟩
            go_wp2_with fail
            refine (must_ok _).mono ?_
            rintro e w' ⟨rfl, rfl⟩
            go_wp2_with fail
            refine (must_ok _).mono ?_
            rintro e w' ⟨rfl, rfl⟩
            go_wp2_with fail
            refine (whole_any (a ++ b) (by rw [Z.out]; exact hl) _).mono ?_
            rintro e w' ⟨rfl, rfl⟩
            rw [wholeEnd_bad D.out]
            exact ⟨rfl, (unsEnd_bad F.out).symm, n, rfl⟩
          · have hp : p = false := by revert hb; rw [hb1]; cases p <;> simp
            subst hp
            clear hb
            go_enter Try.func31, Try.ntmps31
            go_wp2_with fail
            refine (C _).mono ?_
            rintro e w' ⟨rfl, n, rfl⟩
            go_wp2_with fail
            refine (must_ok _).mono ?_
            rintro e w' ⟨rfl, rfl⟩
            go_wp2_with fail
            refine (must_ok _).mono ?_
            rintro e w' ⟨rfl, rfl⟩
            go_wp2_with fail
            refine (must_ok _).mono ?_
            rintro e w' ⟨rfl, rfl⟩
            go_wp2_with fail
            refine (whole_any (a ++ b) (by rw [Z.out]; exact hl) _).mono ?_
            rintro e w' ⟨rfl, rfl⟩
            rw [wholeEnd_bad D.out]
            exact ⟨rfl, (unsEnd_bad F.out).symm, n, rfl⟩
        · have F : Hid (goodP a b p = true) := by show _ = _; unfold goodP; rw [hd, ha, hb, decide_eq_true hl]; rfl
          have D : Hid _ := hd
          have hq := quo_run (numL (a ++ b).data.toList) (10 ^ b.size) (num15 (by simp; omega) hd) (pow15 (by omega)).1 (pow15 (by omega)).2
          clear hd
          have G : Hid (wordP a b = Fl.quoW (numL (a ++ b).data.toList) (10 ^ b.size)) := rfl
          generalize hN : numL (a ++ b).data.toList = N at *
          have HN : Hid _ := hN
          clear hN
          generalize hM : (10 : Nat) ^ b.size = M at *
          have HM : Hid _ := hM
          clear hM
          cases hb1 : b.toList.isEmpty
          · clear hb
            go_enter Try.func31, Try.ntmps31
            go_wp2_with fail
            refine (C _).mono ?_
            rintro e w' ⟨rfl, n, rfl⟩
            go_wp2_with fail
            refine (must_ok _).mono ?_
            rintro e w' ⟨rfl, rfl⟩
            go_wp2_with fail
            refine (must_ok _).mono ?_
            rintro e w' ⟨rfl, rfl⟩
            go_wp2_with fail
            refine (must_ok _).mono ?_
            rintro e w' ⟨rfl, rfl⟩
            go_wp2_with fail
            refine (whole_any (a ++ b) (by rw [Z.out]; exact hl) _).mono ?_
            rintro e w' ⟨rfl, rfl⟩
            rw [wholeEnd_ok D.out, HN.out]
            go_wp2_with fail
            refine (pow_any b.size (by omega) _).mono ?_
            rintro e w' ⟨rfl, rfl⟩
            rw [HM.out]
            go_wp2_with fail
            go_ret
            exact ⟨by rw [unsEnd_ok F.out, G.out]; rfl, n, rfl⟩
          · have hp : p = false := by revert hb; rw [hb1]; cases p <;> simp
            subst hp
            clear hb
            go_enter Try.func31, Try.ntmps31
            go_wp2_with fail
            refine (C _).mono ?_
            rintro e w' ⟨rfl, n, rfl⟩
            go_wp2_with fail
            refine (must_ok _).mono ?_
            rintro e w' ⟨rfl, rfl⟩
            go_wp2_with fail
            refine (must_ok _).mono ?_
            rintro e w' ⟨rfl, rfl⟩
            go_wp2_with fail
            refine (must_ok _).mono ?_
            rintro e w' ⟨rfl, rfl⟩
            go_wp2_with fail
            refine (whole_any (a ++ b) (by rw [Z.out]; exact hl) _).mono ?_
            rintro e w' ⟨rfl, rfl⟩
            rw [wholeEnd_ok D.out, HN.out]
            go_wp2_with fail
            refine (pow_any b.size (by omega) _).mono ?_
            rintro e w' ⟨rfl, rfl⟩
            rw [HM.out]
            go_wp2_with fail
            go_ret
            exact ⟨by rw [unsEnd_ok F.out, G.out]; rfl, n, rfl⟩
      · have F : Hid (goodP a b p = false) := by show _ = _; unfold goodP; rw [decide_eq_false hl]; simp
        have hl2 : Hid (decide ((a.size : Int) + b.size ≤ 15) = false) := decide_eq_false (by omega)
        cases hb1 : b.toList.isEmpty
        · clear hb
          go_enter Try.func31, Try.ntmps31
          go_wp2_with fail
          refine (C _).mono ?_
          rintro e w' ⟨rfl, n, rfl⟩
          go_wp2_with fail
          refine (must_ok _).mono ?_
          rintro e w' ⟨rfl, rfl⟩
          go_wp2_with fail
          refine (must_ok _).mono ?_
          rintro e w' ⟨rfl, rfl⟩
          go_wp2_with fail
          rw [hl2.out]
          refine (must_bad _).mono ?_
          rintro e w' ⟨rfl, rfl⟩
          exact ⟨rfl, (unsEnd_bad F.out).symm, n, rfl⟩
        · have hp : p = false := by revert hb; rw [hb1]; cases p <;> simp
          subst hp
          clear hb
          go_enter Try.func31, Try.ntmps31
          go_wp2_with fail
          refine (C _).mono ?_
          rintro e w' ⟨rfl, n, rfl⟩
          go_wp2_with fail
          refine (must_ok _).mono ?_
          rintro e w' ⟨rfl, rfl⟩
          go_wp2_with fail
          refine (must_ok _).mono ?_
          rintro e w' ⟨rfl, rfl⟩
          go_wp2_with fail
          rw [hl2.out]
          refine (must_bad _).mono ?_
          rintro e w' ⟨rfl, rfl⟩
          exact ⟨rfl, (unsEnd_bad F.out).symm, n, rfl⟩
  · have F : Hid (goodP a b p = false) := by show _ = _; unfold goodP; rw [ha]; simp
    go_enter Try.func31, Try.ntmps31
    go_wp2_with fail
    refine (C _).mono ?_
    rintro e w' ⟨rfl, n, rfl⟩
    go_wp2_with fail
    refine (must_bad _).mono ?_
    rintro e w' ⟨rfl, rfl⟩
    exact ⟨rfl, (unsEnd_bad F.out).symm, n, rfl⟩

theorem parts_size (s : ByteArray) : (wholeB s).size + (behindB s).size ≤ s.size := by
  unfold wholeB behindB
  rcases firstIdx_cases s 46 with h | ⟨i, hi, h⟩
  · rw [h]; exact Nat.le_refl _
  · rw [h, if_neg (by omega), if_neg (by omega)]
    simp [ByteArray.size_extract]
    omega

/-- How the unsigned part ends. -/
def unsOf (s : ByteArray) : Ending := unsEnd (wholeB s) (behindB s) (pointB s)
theorem uns_any (s : ByteArray) (hs : s.size ≤ maxLen) (w : World) :
    Calls Try.prog 31 #[.string s] w fun e w' => e = unsOf s ∧ ∃ n, w' = w.drewN n :=
  uns_core s _ _ _ (cut_dot s hs) (by have := parts_size s; unfold maxLen at hs; omega) w

/-- Is it an unsigned number's text, and which word? -/
def goodU (s : ByteArray) : Bool := goodP (wholeB s) (behindB s) (pointB s)
def wordU (s : ByteArray) : Nat := wordP (wholeB s) (behindB s)
theorem uns_ok (s : ByteArray) (hs : s.size ≤ maxLen) (h : goodU s = true) (w : World) :
    Calls Try.prog 31 #[.string s] w fun e w' => e = .returned (.float .f64 (wordU s)) ∧ ∃ n, w' = w.drewN n := by
  have := uns_any s hs w
  rw [show unsOf s = _ from unsEnd_ok h] at this
  exact this
theorem uns_bad (s : ByteArray) (hs : s.size ≤ maxLen) (h : goodU s = false) (w : World) :
    Calls Try.prog 31 #[.string s] w fun e w' => e = .panicked badChain ∧ ∃ n, w' = w.drewN n := by
  have := uns_any s hs w
  rw [show unsOf s = _ from unsEnd_bad h] at this
  exact this

theorem run_store_float (P : Program) (w : World) (a : Addr) (k : FloatKind) (b : Nat) (m : Mode) : (store a (.float k b) m).run P w = stored P w a (.float k b) m := run_store P w a _ m rfl
attribute [local go_sem] run_store_float

theorem catch_panicking (p q : Addr) (w : World) (x y : Value) (hc : w.cell? p = some x) (hz : w.frozen? p = false) (hc2 : w.cell? q = some y) (hz2 : w.frozen? q = false) (hpq : p ≠ q) :
    CallsD Try.prog 28 #[.pointer (some p), .pointer (some q)] (.panicking badChain) w fun e u' w' =>
      e = .returned (.tuple #[]) ∧ u' = .panicking [{ v := .iface 24 (.int .i64 2), recovered := true }] ∧ w' = (w.setCell p (.float .f64 0)).setCell q (.int .i64 2) := by
  refine callsD_of_wpS Try.func28 rfl fun c₀ cs hu => ?_
  unfold badChain at hu
  apply wpS_seq
  apply wpS_region
  simp [wpOpsS, go_sem, recoverD, hu, Try.ntmps28, Exit.thenS]
  refine wpS_cond (t := true) (by simp [Act.eval, Array.replicate]) ?_
  simp only [if_true]
  apply wpS_region
  have hc3 : (w.setCell p (.float .f64 0)).cell? q = some y := by rw [World.cell?_setCell_other _ _ _ _ hpq]; exact hc2
  simp [wpOpsS, go_sem, hc, hz, hc3, hz2, bodyPostS, results, Try.results28]

theorem catch_idle (p q : Addr) (w : World) :
    CallsD Try.prog 28 #[.pointer (some p), .pointer (some q)] .returning w fun e u' w' => e = .returned (.tuple #[]) ∧ u' = .returning ∧ w' = w := by
  refine callsD_of_wpS Try.func28 rfl fun c₀ cs hu => ?_
  apply wpS_seq
  apply wpS_region
  simp [wpOpsS, go_sem, recoverD, hu, Try.ntmps28, Exit.thenS]
  refine wpS_cond (t := false) (by simp [Act.eval, Array.replicate]) ?_
  simp only [Bool.false_eq_true, if_false]
  refine wpS_of_wp (wp_skip ?_)
  cases c₀
  simp_all [bodyPostS, results, Try.results28]
end Go.Proofs.Ytjmjlhcmicljiaa
