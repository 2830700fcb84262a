/- What Parse answers, at every text. -/
import Derived.Test.YtjmjlhcmicljiaaL4
namespace Go.Proofs.Ytjmjlhcmicljiaa
open Go.RowKit

attribute [local go_sem] run_store_float

theorem make_fn (fn : Fn) (first cap : Array Value) (w : World) : (Instr.makeFunc fn first cap).run Try.prog w = .ok (.func fn first cap) w := rfl

theorem neg_run (b : Nat) (w : World) : (Op.unary .neg (.float .f64 b)).run Try.prog w = .ok (.float .f64 (Op.negFloat .f64 b)) w := rfl

/-- The world behind a call of Parse. -/
theorem below_two (w : World) (a b : Obj) : Below w.heap.size w ((w.alloc a).alloc b) := ((Below.refl _ _).alloc (Nat.le_refl _) _).alloc (by simp) _

set_option maxHeartbeats 1000000 in
theorem parse_nan (w : World) :
    Calls Try.prog 13 #[.string ⟨#[110, 97, 110]⟩] w fun e w' => e = .returned (.tuple #[.float .f64 9221120237041090561, .int .i64 0]) ∧ Below w.heap.size w w' := by
  have hmf := make_fn
  go_enter_defers Try.func13, Try.ntmps13
  go_wp2_with fail
  refine (nan_raw _).mono ?_
  rintro e w' ⟨rfl, rfl⟩
  go_wp2_with fail
  refine leaves_cons (f := 28) (args := #[.pointer (some ⟨w.heap.size, 0, none⟩), .pointer (some ⟨w.heap.size + 1, 0, none⟩)]) (by simp) (by simp [go_sem]) ?_
  refine (catch_idle ⟨w.heap.size, 0, none⟩ ⟨w.heap.size + 1, 0, none⟩ _).mono ?_
  rintro e u' w'' ⟨rfl, rfl, rfl⟩
  simp [Leaves, settle, results, Try.results13, go_sem]
  exact below_two _ _ _

set_option maxHeartbeats 1000000 in
theorem parse_bad (s : ByteArray) (hs : s.size ≤ maxLen) (h1 : (s.toList == [110, 97, 110]) = false) (h2 : (s.toList == [105, 110, 102]) = false) (h3 : (s.toList == [45, 105, 110, 102]) = false) (hu : goodU (restB s) = false) (hr : (restB s).size ≤ maxLen) (w : World) :
    Calls Try.prog 13 #[.string s] w fun e w' => e = .returned (.tuple #[.float .f64 0, .int .i64 2]) ∧ Below w.heap.size w w' := by
  have hmf := make_fn
  have U : Hid _ := hu
  have S1 : Hid _ := hs
  have S2 : Hid _ := hr
  clear hu hs hr
  go_enter_defers Try.func13, Try.ntmps13
  go_wp2_with fail
  refine (cutPre_any s S1.out _).mono ?_
  rintro e w' ⟨rfl, rfl⟩
  go_wp2_with fail
  refine (uns_bad (restB s) S2.out U.out _).mono ?_
  rintro e w' ⟨rfl, n, rfl⟩
  refine leaves_cons (f := 28) (args := #[.pointer (some ⟨w.heap.size, 0, none⟩), .pointer (some ⟨w.heap.size + 1, 0, none⟩)]) (by simp) (by simp [go_sem]) ?_
  refine (catch_panicking ⟨w.heap.size, 0, none⟩ ⟨w.heap.size + 1, 0, none⟩ _ (.float .f64 0) (.int .i64 0) ?_ ?_ ?_ ?_ ?_).mono ?_
  · simp [go_sem]
  · simp [go_sem]
  · simp [go_sem]
  · simp [go_sem]
  · simp
  rintro e u' w'' ⟨rfl, rfl, rfl⟩
  simp [Leaves, settle, results, Try.results13, go_sem]
  exact (((below_two w _ _).trans (below_drewN (Below.refl _ _) n)).setCell (Nat.le_refl _) _).setCell (Nat.le_succ _) _

set_option maxHeartbeats 1000000 in
theorem parse_inf (w : World) :
    Calls Try.prog 13 #[.string ⟨#[105, 110, 102]⟩] w fun e w' => e = .returned (.tuple #[.float .f64 9218868437227405312, .int .i64 0]) ∧ Below w.heap.size w w' := by
  have hmf := make_fn
  go_enter_defers Try.func13, Try.ntmps13
  go_wp2_with fail
  refine (inf_pos _).mono ?_
  rintro e w' ⟨rfl, rfl⟩
  go_wp2_with fail
  refine leaves_cons (f := 28) (args := #[.pointer (some ⟨w.heap.size, 0, none⟩), .pointer (some ⟨w.heap.size + 1, 0, none⟩)]) (by simp) (by simp [go_sem]) ?_
  refine (catch_idle ⟨w.heap.size, 0, none⟩ ⟨w.heap.size + 1, 0, none⟩ _).mono ?_
  rintro e u' w'' ⟨rfl, rfl, rfl⟩
  simp [Leaves, settle, results, Try.results13, go_sem]
  exact below_two _ _ _

set_option maxHeartbeats 1000000 in
theorem parse_ninf (w : World) :
    Calls Try.prog 13 #[.string ⟨#[45, 105, 110, 102]⟩] w fun e w' => e = .returned (.tuple #[.float .f64 18442240474082181120, .int .i64 0]) ∧ Below w.heap.size w w' := by
  have hmf := make_fn
  go_enter_defers Try.func13, Try.ntmps13
  go_wp2_with fail
  refine (inf_neg _).mono ?_
  rintro e w' ⟨rfl, rfl⟩
  go_wp2_with fail
  refine leaves_cons (f := 28) (args := #[.pointer (some ⟨w.heap.size, 0, none⟩), .pointer (some ⟨w.heap.size + 1, 0, none⟩)]) (by simp) (by simp [go_sem]) ?_
  refine (catch_idle ⟨w.heap.size, 0, none⟩ ⟨w.heap.size + 1, 0, none⟩ _).mono ?_
  rintro e u' w'' ⟨rfl, rfl, rfl⟩
  simp [Leaves, settle, results, Try.results13, go_sem]
  exact below_two _ _ _

set_option maxHeartbeats 1000000 in
theorem parse_pos (s : ByteArray) (hs : s.size ≤ maxLen) (h1 : (s.toList == [110, 97, 110]) = false) (h2 : (s.toList == [105, 110, 102]) = false) (h3 : (s.toList == [45, 105, 110, 102]) = false) (hu : goodU (restB s) = true) (hr : (restB s).size ≤ maxLen) (hm : minus s = false) (w : World) :
    Calls Try.prog 13 #[.string s] w fun e w' => e = .returned (.tuple #[.float .f64 (wordU (restB s)), .int .i64 0]) ∧ Below w.heap.size w w' := by
  have hmf := make_fn
  have U : Hid _ := hu
  have S1 : Hid _ := hs
  have S2 : Hid _ := hr
  clear hu hs hr
  go_enter_defers Try.func13, Try.ntmps13
  go_wp2_with fail
  refine (cutPre_any s S1.out _).mono ?_
  rintro e w' ⟨rfl, rfl⟩
  go_wp2_with fail
  refine (uns_ok (restB s) S2.out U.out _).mono ?_
  rintro e w' ⟨rfl, n, rfl⟩
  go_wp2_with fail
  refine leaves_cons (f := 28) (args := #[.pointer (some ⟨w.heap.size, 0, none⟩), .pointer (some ⟨w.heap.size + 1, 0, none⟩)]) (by simp) (by simp [go_sem]) ?_
  refine (catch_idle ⟨w.heap.size, 0, none⟩ ⟨w.heap.size + 1, 0, none⟩ _).mono ?_
  rintro e u' w'' ⟨rfl, rfl, rfl⟩
  simp [Leaves, settle, results, Try.results13, go_sem]
  exact ((((below_two w _ _).trans (below_drewN (Below.refl _ _) n)).setCell (Nat.le_refl _) _).setCell (Nat.le_refl _) _).setCell (Nat.le_succ _) _

set_option maxHeartbeats 1000000 in
theorem parse_neg (s : ByteArray) (hs : s.size ≤ maxLen) (h1 : (s.toList == [110, 97, 110]) = false) (h2 : (s.toList == [105, 110, 102]) = false) (h3 : (s.toList == [45, 105, 110, 102]) = false) (hu : goodU (restB s) = true) (hr : (restB s).size ≤ maxLen) (hm : minus s = true) (w : World) :
    Calls Try.prog 13 #[.string s] w fun e w' => e = .returned (.tuple #[.float .f64 (Op.negFloat .f64 (wordU (restB s))), .int .i64 0]) ∧ Below w.heap.size w w' := by
  have hmf := make_fn
  have hng := neg_run
  have U : Hid _ := hu
  have S1 : Hid _ := hs
  have S2 : Hid _ := hr
  clear hu hs hr
  go_enter_defers Try.func13, Try.ntmps13
  go_wp2_with fail
  refine (cutPre_any s S1.out _).mono ?_
  rintro e w' ⟨rfl, rfl⟩
  go_wp2_with fail
  refine (uns_ok (restB s) S2.out U.out _).mono ?_
  rintro e w' ⟨rfl, n, rfl⟩
  rw [show ((w.alloc (.cells #[.float .f64 0] 23)).alloc (.cells #[.int .i64 0] 24)).drewN n = ((w.drewN n).alloc (.cells #[.float .f64 0] 23)).alloc (.cells #[.int .i64 0] 24) from rfl]
  have hB : Hid (Below w.heap.size w (w.drewN n)) := below_drewN (Below.refl _ _) n
  have hz : w.heap.size = (w.drewN n).heap.size := rfl
  rw [hz]
  clear hz
  generalize w.drewN n = w1 at *
  go_wp2_with fail
  refine leaves_cons (f := 28) (args := #[.pointer (some ⟨w1.heap.size, 0, none⟩), .pointer (some ⟨w1.heap.size + 1, 0, none⟩)]) (by simp) (by simp [go_sem]) ?_
  refine (catch_idle ⟨w1.heap.size, 0, none⟩ ⟨w1.heap.size + 1, 0, none⟩ _).mono ?_
  rintro e u' w'' ⟨rfl, rfl, rfl⟩
  simp [Leaves, settle, results, Try.results13, go_sem]
  exact hB.out.trans ((below_two _ _ _).mono hB.out.size)

theorem goodP_nat {a b : ByteArray} {p : Bool} (h : goodP a b p = true) : a.size + b.size ≤ 15 ∧ (a ++ b).data.toList.all isDig = true := by
  unfold goodP at h
  rw [Bool.and_eq_true, Bool.and_eq_true] at h
  exact ⟨of_decide_eq_true h.1.2, h.2⟩
theorem wordU_ok {s : ByteArray} (h : goodU s = true) : Fl.Ok (wordU s) := by
  obtain ⟨h1, h2⟩ := goodP_nat h
  have h3 : ((wholeB s) ++ (behindB s)).data.toList.length ≤ 15 := by
    have e : ((wholeB s) ++ (behindB s)).size = (wholeB s).size + (behindB s).size := ByteArray.size_append
    show ((wholeB s) ++ (behindB s)).data.size ≤ 15
    have e2 : ((wholeB s) ++ (behindB s)).data.size = ((wholeB s) ++ (behindB s)).size := rfl
    omega
  exact Fl.quoW_ok (num15 h3 h2) (pow15 (by omega)).1 (pow15 (by omega)).2

/-- Which word a text is, and which error: 0 none, 2 no number's text. -/
def pOk (s : ByteArray) : Bool := s.toList == [110, 97, 110] || s.toList == [105, 110, 102] || s.toList == [45, 105, 110, 102] || goodU (restB s)
def pW (s : ByteArray) : Nat := if s.toList == [110, 97, 110] then 9221120237041090561 else if s.toList == [105, 110, 102] then 9218868437227405312 else if s.toList == [45, 105, 110, 102] then 18442240474082181120 else if goodU (restB s) then (if minus s then Fl.opp (wordU (restB s)) else wordU (restB s)) else 0
def pE (s : ByteArray) : Int := if pOk s then 0 else 2
theorem ite_ok {c : Prop} [Decidable c] {a b : Nat} (ha : Fl.Ok a) (hb : Fl.Ok b) : Fl.Ok (if c then a else b) := by
  split
  · exact ha
  · exact hb
theorem pW_ok (s : ByteArray) : Fl.Ok (pW s) := by
  have o1 : Fl.Ok 9221120237041090561 := by unfold Fl.Ok; omega
  have o2 : Fl.Ok 9218868437227405312 := by unfold Fl.Ok; omega
  have o3 : Fl.Ok 18442240474082181120 := by unfold Fl.Ok; omega
  have o4 : Fl.Ok 0 := by unfold Fl.Ok; omega
  unfold pW
  refine ite_ok o1 (ite_ok o2 (ite_ok o3 ?_))
  cases hu : goodU (restB s)
  · rw [if_neg (by simp)]; exact o4
  · rw [if_pos rfl]; exact ite_ok (Fl.opp_ok (wordU_ok hu)) (wordU_ok hu)

theorem rest_size (s : ByteArray) : (restB s).size ≤ s.size := by
  unfold restB
  split
  · simp [ByteArray.size_extract]
  · exact Nat.le_refl _

theorem parse_any (s : ByteArray) (hs : s.size ≤ maxLen) (w : World) :
    Calls Try.prog 13 #[.string s] w fun e w' => e = .returned (.tuple #[.float .f64 (pW s), .int .i64 (pE s)]) ∧ Below w.heap.size w w' := by
  have hr : (restB s).size ≤ maxLen := Nat.le_trans (rest_size s) hs
  cases h1 : s.toList == [110, 97, 110]
  · cases h2 : s.toList == [105, 110, 102]
    · cases h3 : s.toList == [45, 105, 110, 102]
      · cases hu : goodU (restB s)
        · have e1 : pW s = 0 := by unfold pW; simp only [h1, h2, h3, hu, Bool.false_eq_true, if_false]
          have e2 : pE s = 2 := by unfold pE pOk; rw [h1, h2, h3, hu]; rfl
          rw [e1, e2]
          exact parse_bad s hs h1 h2 h3 hu hr w
        · have e2 : pE s = 0 := by unfold pE pOk; rw [h1, h2, h3, hu]; rfl
          rw [e2]
          cases hm : minus s
          · have e1 : pW s = wordU (restB s) := by unfold pW; simp only [h1, h2, h3, hu, hm, Bool.false_eq_true, if_false, if_true]
            rw [e1]
            exact parse_pos s hs h1 h2 h3 hu hr hm w
          · have e1 : pW s = Op.negFloat .f64 (wordU (restB s)) := by rw [Fl.opp_eq (wordU_ok hu)]; unfold pW; simp only [h1, h2, h3, hu, hm, Bool.false_eq_true, if_false, if_true]
            rw [e1]
            exact parse_neg s hs h1 h2 h3 hu hr hm w
      · have e1 : pW s = 18442240474082181120 := by unfold pW; simp only [h1, h2, h3, Bool.false_eq_true, if_false, if_true]
        have e2 : pE s = 0 := by unfold pE pOk; rw [h1, h2, h3]; rfl
        rw [e1, e2, bytes_of (eq_of_beq h3)]
        exact parse_ninf w
    · have e1 : pW s = 9218868437227405312 := by unfold pW; simp only [h1, h2, Bool.false_eq_true, if_false, if_true]
      have e2 : pE s = 0 := by unfold pE pOk; rw [h1, h2]; rfl
      rw [e1, e2, bytes_of (eq_of_beq h2)]
      exact parse_inf w
  · have e1 : pW s = 9221120237041090561 := by unfold pW; simp only [h1, if_true]
    have e2 : pE s = 0 := by unfold pE pOk; rw [h1]; rfl
    rw [e1, e2, bytes_of (eq_of_beq h1)]
    exact parse_nan w
end Go.Proofs.Ytjmjlhcmicljiaa
