/- WeighGrows: the call returns true. -/
import Derived.Test.YtjmjlhcmicljiaaT1
import Derived.Test.YtjmjlhcmicljiaaL6
import Derived.Laws.BytesString
import Derived.OpenShut
import Derived.Deep.RegionHeld
namespace Go.Proofs.Ytjmjlhcmicljiaa
open Go.RowKit

theorem conv_one (W : World) (n : Int) : (convert 41 9 (.slice (some ⟨W.heap.size, 0, none⟩) 1 1)).run Try.prog (W.alloc (.cells #[.int .u8 n] 5)) = .ok (.string ⟨#[UInt8.ofNat n.toNat]⟩) (W.alloc (.cells #[.int .u8 n] 5)) := by
  rw [run_convert_bytes_string _ 41 9 5 _ _ _ Try.underlying41 Try.underlying5 Try.underlying9]
  rw [run_bytesToString _ _ _ _ [n]]
  · rfl
  · exact run_loadCells_list _ _ [.int .u8 n] (cell_one_new W (.int .u8 n) 5)

/-- The digit that a number makes. -/
def digB (n : Int) : UInt8 := UInt8.ofNat (48 + n % 10).toNat
theorem digB_nat (n : Int) : (digB n).toNat = 48 + (n % 10).toNat := by
  unfold digB
  have h1 : 0 ≤ n % 10 := Int.emod_nonneg _ (by omega)
  have h2 : n % 10 < 10 := Int.emod_lt_of_pos _ (by omega)
  rw [UInt8.toNat_ofNat']
  omega
theorem digB_dig (n : Int) : isDig (digB n) = true := by
  have h1 : 0 ≤ n % 10 := Int.emod_nonneg _ (by omega)
  have h2 : n % 10 < 10 := Int.emod_lt_of_pos _ (by omega)
  have := digB_nat n
  unfold isDig
  simp
  omega

theorem size_two (S : ByteArray) (x y : UInt8) : (S ++ ⟨#[x, y]⟩).size = S.size + 2 := by rw [ByteArray.size_append]; rfl
theorem size_one (S : ByteArray) (x : UInt8) : (S ++ ⟨#[x]⟩).size = S.size + 1 := by rw [ByteArray.size_append]; rfl
theorem chain {w a b : World} (h : Below w.heap.size w a) (k : Below a.heap.size a b) : Below w.heap.size w b := h.trans (k.mono h.size)

/-- What the four texts make, and how that stands. -/
structure Grown4 (S : ByteArray) (D : Int) (a b c h c10 : Nat) : Prop where
  pa : pW (S ++ ⟨#[46, 53]⟩) = a
  pb : pW (S ++ ⟨#[46, 53]⟩ ++ ⟨#[UInt8.ofNat (48 + D % 10).toNat]⟩) = b
  pc : pW S = c
  ph : pW (S ++ ⟨#[UInt8.ofNat (48 + D % 10).toNat]⟩) = h
  ea : pE (S ++ ⟨#[46, 53]⟩) = 0
  eb : pE (S ++ ⟨#[46, 53]⟩ ++ ⟨#[UInt8.ofNat (48 + D % 10).toNat]⟩) = 0
  ec : pE S = 0
  eh : pE (S ++ ⟨#[UInt8.ofNat (48 + D % 10).toNat]⟩) = 0
  sz : S.size ≤ 6
  oab : ordB a b ≤ 0
  oca : ordB c a = -1
  och : ordB c h ≤ 0
  mul : Ieee.double.mul c 4621819117588971520 = some c10
  add : Ieee.double.add c10 (floatOfInt .f64 (D % 10)) = some h
  half : Ieee.double.add c 4602678819172646912 = some a
  ha : (FloatKind.f64.format.order a a == some .eq) = true
  hh : (FloatKind.f64.format.order h h == some .eq) = true

set_option maxRecDepth 100000 in
set_option maxHeartbeats 1000000 in
theorem grows_core (b0 off len cap : Nat) (zs : List Int) (D : Int) (w : World) (hl : 1 ≤ len) (hl6 : len ≤ 6) (hlc : len ≤ cap)
    (hz : zs.length = cap) (H1 : Hid (∀ i, i < zs.length → w.cell? ⟨b0, off + i, none⟩ = some (.int .u8 (zs.getD i 0)))) (hb : b0 < w.heap.size)
    (H2 : Hid (∀ i, 0 ≤ zs.getD i 0 ∧ zs.getD i 0 ≤ 255)) (hD : 0 ≤ D ∧ D ≤ 255)
    (G : Hid (∀ S : ByteArray, S.data.toList = (zs.take len).map digB → ∃ a b c h c10, Grown4 S D a b c h c10)) :
    Calls Try.prog 9 #[.slice (some ⟨b0, off, none⟩) len cap, .int .u8 D] w fun e w' => e = .returned (.bool true) ∧ Below w.heap.size w w' := by
  have hcv := conv_one
  go_enter Try.func9, Try.ntmps9
  go_wp2_with fail
  refine (begun_any _).mono ?_
  rintro e w1 ⟨rfl, hb1⟩
  have B1 : Hid _ := hb1
  clear hb1
  go_wp2_with fail
  go_loopw [5, 6] (fun s i wr => ∃ (k : Nat) (S : ByteArray), k ≤ len ∧ i = .int .i64 k ∧ s = .string S ∧ Hid (S.data.toList = (zs.take k).map digB) ∧ Hid (Below w.heap.size w wr)) (fun _ i _ => len - (intOf i).toNat)
  case atStart => exact ⟨0, ⟨#[]⟩, by omega, rfl, rfl, (show _ = _ from rfl), B1⟩
  case round =>
    obtain ⟨k, S, hk, rfl, rfl, hS, hL⟩ := hrel
    by_cases hlt : k < len
    · have hc := (hL.out.cell (p := ⟨b0, off + k, none⟩) hb).trans (H1.out k (by omega))
      have hv := H2.out k
      have S2 : Hid ((S ++ ⟨#[UInt8.ofNat (48 + zs.getD k 0 % 10).toNat]⟩).data.toList = (zs.take (k + 1)).map digB) := by
        show _ = _
        rw [List.take_succ_eq_append_getElem (by omega), List.map_append, ← hS.out]
        have : zs.getD k 0 = zs[k] := by simp [List.getD, List.getElem?_eq_getElem (show k < zs.length by omega)]
        rw [this]
        simp [digB]
      have sz : S.size ≤ 6 := by
        have : S.data.toList.length = k := by rw [hS.out]; simp; omega
        have e : S.size = S.data.toList.length := by simp
        omega
      generalize hx : zs.getD k 0 = x at *
      clear hx
      go_wp2_with fail
      exact ⟨⟨k + 1, _, by omega, by go_num, rfl, S2, hL.out.alloc hL.out.size _⟩, by simp [intOf]; omega⟩
    · have hkl : k = len := by omega
      obtain ⟨a, b, c, h, c10, g⟩ := G.out S (by rw [hS.out, hkl])
      clear hkl
      have g' : Hid _ := g
      have oab := g.oab
      have och := g.och
      have ha := g.ha
      have hh := g.hh
      have ka : Hid (Fl.Ok a) := by rw [← g.pa]; exact pW_ok _
      have kb : Hid (Fl.Ok b) := by rw [← g.pb]; exact pW_ok _
      have kc : Hid (Fl.Ok c) := by rw [← g.pc]; exact pW_ok _
      have kh : Hid (Fl.Ok h) := by rw [← g.ph]; exact pW_ok _
      have hmul : ∀ (t : TypeId) (w : World), (binOp .mul t (.float .f64 c) (.float .f64 4621819117588971520)).run Try.prog w = .ok (.float .f64 c10) w := fun t w => run_float_arith w .mul t .f64 _ _ _ g.mul
      have hadd : ∀ (t : TypeId) (w : World), (binOp .add t (.float .f64 c10) (.float .f64 (floatOfInt .f64 (D % 10)))).run Try.prog w = .ok (.float .f64 h) w := fun t w => run_float_arith w .add t .f64 _ _ _ g.add
      have hhalf : ∀ (t : TypeId) (w : World), (binOp .add t (.float .f64 c) (.float .f64 4602678819172646912)).run Try.prog w = .ok (.float .f64 a) w := fun t w => run_float_arith w .add t .f64 _ _ _ g.half
      have sz := g.sz
      clear g
      go_wp2_with fail
      refine (parse_at _ a 0 (by rw [size_two]; omega) g'.out.pa g'.out.ea _).mono ?_
      rintro e w2 ⟨rfl, hb2⟩
      have B2 : Hid _ := hb2
      clear hb2
      go_wp2_with fail
      refine (parse_at _ b 0 (by rw [size_one, size_two]; omega) g'.out.pb g'.out.eb _).mono ?_
      rintro e w3 ⟨rfl, hb3⟩
      have B3 : Hid _ := hb3
      clear hb3
      go_wp2_with fail
      refine (parse_at S c 0 (by omega) g'.out.pc g'.out.ec _).mono ?_
      rintro e w4 ⟨rfl, hb4⟩
      have B4 : Hid _ := hb4
      clear hb4
      go_wp2_with fail
      refine (parse_at _ h 0 (by rw [size_one]; omega) g'.out.ph g'.out.eh _).mono ?_
      rintro e w5 ⟨rfl, hb5⟩
      have B5 : Hid _ := hb5
      clear hb5
      go_wp2_with fail
      refine (order_any a b ka.out kb.out _).mono ?_
      rintro e w' ⟨rfl, rfl⟩
      go_wp2_with fail
      refine (order_any c a kc.out ka.out _).mono ?_
      rintro e w' ⟨rfl, rfl⟩
      rw [g'.out.oca]
      go_wp2_with fail
      refine (order_any c h kc.out kh.out _).mono ?_
      rintro e w' ⟨rfl, rfl⟩
      go_wp2_with fail
      go_ret
      exact ⟨rfl, chain (chain (chain (chain (hL.out.alloc hL.out.size _) B2.out) B3.out) B4.out) B5.out⟩

theorem sum_lt {k b : Nat} {l : List UInt8} (h : l.all isDig = true) (hk : l.length ≤ k) (hb : 10 ^ k ≤ b) : numL l < b :=
  Nat.lt_of_lt_of_le (numL_lt l h) (Nat.le_trans (Nat.pow_le_pow_right (by omega) hk) hb)
theorem numL_two (l : List UInt8) (c d : UInt8) : numL (l ++ [c, d]) = (numL l * 10 + (c.toNat - 48)) * 10 + (d.toNat - 48) := by
  rw [show l ++ [c, d] = l ++ [c] ++ [d] from by simp, numL_snoc, numL_snoc]
theorem eq_self {x : Nat} (h : x ≤ 9218868437227405312) : (FloatKind.f64.format.order x x == some .eq) = true := by
  have n := num_of_le h
  have := Fl.is_eq n.2.2 n.2.2
  rw [show FloatKind.f64.format = Ieee.double from rfl, this, n.1]
  simp
theorem fN10 : Fl.fN 10 = 4621819117588971520 := by decide +kernel

/-- One digit at least. -/
theorem parse_plain {S : ByteArray} {A : List UInt8} (hS : S.data.toList = A) (h : A.all isDig = true) (h0 : 0 < A.length) (hl : A.length ≤ 15) : pW S = Fl.quoW (numL A) 1 ∧ pE S = 0 := by
  have e : S = ⟨A.toArray⟩ := by rw [← hS]
  cases A with
  | nil => cases h0
  | cons c l =>
    have hc : isDig c = true := by rw [List.all_cons, Bool.and_eq_true] at h; exact h.1
    obtain ⟨p1, p2⟩ := parse_first (l := l) hc
    rw [fin_plain h h0 hl] at p1 p2
    rw [e, p1, p2]
    exact ⟨by simp only [ansW, Bool.false_eq_true, if_false, Nat.pow_zero], rfl⟩
theorem parse_point {S : ByteArray} {A B : List UInt8} (hS : S.data.toList = A ++ 46 :: B) (h : A.all isDig = true) (h0 : 0 < A.length) (g : B.all isDig = true) (g0 : 0 < B.length) (hl : A.length + B.length ≤ 15) : pW S = Fl.quoW (numL (A ++ B)) (10 ^ B.length) ∧ pE S = 0 := by
  have e : S = ⟨(A ++ 46 :: B).toArray⟩ := by rw [← hS]
  cases A with
  | nil => cases h0
  | cons c l =>
    have hc : isDig c = true := by rw [List.all_cons, Bool.and_eq_true] at h; exact h.1
    obtain ⟨p1, p2⟩ := parse_first (l := l ++ 46 :: B) hc
    have f := fin_point h h0 g g0 hl
    rw [List.cons_append] at f
    rw [f] at p1 p2
    rw [e, List.cons_append, p1, p2]
    exact ⟨by simp only [ansW, Bool.false_eq_true, if_false], rfl⟩

theorem grown4 (S : ByteArray) (A : List UInt8) (D : Int) (hS : S.data.toList = A) (hA : A.all isDig = true) (h0 : 0 < A.length) (h6 : A.length ≤ 6) : ∃ a b c h c10, Grown4 S D a b c h c10 := by
  have dd := digB_dig D
  have dn := digB_nat D
  have d1 : 0 ≤ D % 10 := Int.emod_nonneg _ (by omega)
  have d2 : D % 10 < 10 := Int.emod_lt_of_pos _ (by omega)
  have hN : numL A < 1000000 := sum_lt hA h6 (by decide)
  have five : isDig 53 = true := by decide
  have n5 : (53 : UInt8).toNat - 48 = 5 := rfl
  have l1 : (S ++ ⟨#[46, 53]⟩).data.toList = A ++ 46 :: [53] := by simp [hS]
  have l2 : (S ++ ⟨#[46, 53]⟩ ++ ⟨#[UInt8.ofNat (48 + D % 10).toNat]⟩).data.toList = A ++ 46 :: [53, digB D] := by simp [hS, digB]
  have l3 : (S ++ ⟨#[UInt8.ofNat (48 + D % 10).toNat]⟩).data.toList = A ++ [digB D] := by simp [hS, digB]
  have t1 := parse_point l1 hA h0 (by simp [five]) (by decide) (by simp; omega)
  have t2 := parse_point l2 hA h0 (by simp [five, dd]) (by simp) (by simp; omega)
  have t3 := parse_plain hS hA h0 (by omega)
  have t4 := parse_plain l3 (by simp [hA, dd]) (by simp) (by simp; omega)
  rw [numL_snoc, n5] at t1
  rw [numL_two, n5] at t2
  rw [numL_snoc] at t4
  rw [show (digB D).toNat - 48 = (D % 10).toNat from by omega] at t2 t4
  simp only [List.length_cons, List.length_nil] at t1 t2
  generalize hx : (D % 10).toNat = x at *
  generalize numL A = N at *
  have hx10 : x < 10 := by omega
  have e1 : Fl.quoW (N * 10 + 5) (10 ^ (0 + 1)) = Fl.quoW (2 * N + 1) 2 := by
    have := quoW_ten (c := 5) (n := 2 * N + 1) (m := 2) (by omega) (by omega) (by omega) (by omega)
    rw [← this, show 5 * (2 * N + 1) = N * 10 + 5 from by omega]
  rw [e1] at t1
  rw [quoW_one (by omega)] at t3 t4
  have fx : floatOfInt .f64 (D % 10) = Fl.fN x := by
    unfold Fl.fN
    rw [← hx, Int.toNat_of_nonneg d1]
  have na : Fl.quoW (2 * N + 1) 2 ≤ 9218868437227405312 := quoW_num (by omega) (by omega) (by omega)
  have nb : Fl.quoW ((N * 10 + 5) * 10 + x) (10 ^ (0 + 1 + 1)) ≤ 9218868437227405312 := quoW_num (by omega) (by decide) (by decide)
  have nc : Fl.fN N ≤ 9218868437227405312 := by have := Fl.fN_num N (by omega); omega
  have nh : Fl.fN (N * 10 + x) ≤ 9218868437227405312 := by have := Fl.fN_num (N * 10 + x) (by omega); omega
  have vc := Fl.val_fN (n := N) (by omega)
  have vh := Fl.val_fN (n := N * 10 + x) (by omega)
  obtain ⟨_, _, _, _, _, _, va⟩ := Fl.quo_two (n := 2 * N + 1) (by omega) (by omega) 1 (by omega)
  rw [show (2 : Nat) ^ 1 = 2 from rfl] at va
  have up : 0 < Fl.unit := by
    unfold Fl.unit
    generalize 1074 = k
    exact Nat.two_pow_pos k
  refine ⟨_, _, _, _, Fl.fN (N * 10), ⟨t1.1, t2.1, t3.1, t4.1, t1.2, t2.2, t3.2, t4.2, ?_, ?_, ?_, ?_, ?_, ?_, ?_, eq_self na, eq_self nh⟩⟩
  · have : S.size = S.data.toList.length := by simp
    rw [this, hS]; exact h6
  · exact ord_le na nb (Fl.quo_ge (by omega) (by omega) (by omega) (by omega) (by decide) (by decide) (by rw [show (10 : Nat) ^ (0 + 1 + 1) = 100 from rfl]; omega))
  · apply ord_lt nc na
    have : N * Fl.unit * 2 < (2 * N + 1) * Fl.unit := by
      rw [Nat.mul_right_comm, Nat.mul_comm N 2]
      exact Nat.mul_lt_mul_of_pos_right (by omega) up
    omega
  · apply ord_le nc nh
    rw [vc, vh]
    exact Nat.mul_le_mul_right _ (by omega)
  · rw [← fN10]
    exact Fl.mul_fN (by omega) (by omega) (by omega)
  · rw [fx]
    exact Fl.add_fN (by omega) (by omega) (by omega)
  · exact Fl.add_half (by omega)

set_option maxHeartbeats 400000 in
theorem grows_short (a0 : Option Addr) (len cap : Nat) (D : Int) (hl : len < 1) (w : World) :
    Calls Try.prog 9 #[.slice a0 len cap, .int .u8 D] w fun e w' => e = .returned (.bool true) ∧ Below w.heap.size w w' := by
  have h2 : (len : Int) < 1 := by omega
  go_enter Try.func9, Try.ntmps9
  go_wp2_with fail
  refine (begun_any _).mono ?_
  rintro e w1 ⟨rfl, hb1⟩
  have B1 : Hid _ := hb1
  clear hb1
  go_wp2_with fail
  go_ret
  exact ⟨rfl, B1.out⟩
set_option maxHeartbeats 400000 in
theorem grows_long (a0 : Option Addr) (len cap : Nat) (D : Int) (hl : 6 < len) (w : World) :
    Calls Try.prog 9 #[.slice a0 len cap, .int .u8 D] w fun e w' => e = .returned (.bool true) ∧ Below w.heap.size w w' := by
  have h2 : 6 < (len : Int) := by omega
  go_enter Try.func9, Try.ntmps9
  go_wp2_with fail
  refine (begun_any _).mono ?_
  rintro e w1 ⟨rfl, hb1⟩
  have B1 : Hid _ := hb1
  clear hb1
  go_wp2_with fail
  go_ret
  exact ⟨rfl, B1.out⟩

theorem grows_row (x : Addr) (len cap : Nat) (zs : List Int) (D : Int) (w : World) (hlc : len ≤ cap) (hz : zs.length = cap)
    (hcell : ∀ i, i < zs.length → w.cell? (x.add i) = some (.int .u8 (zs.getD i 0))) (hwf : ∀ n ∈ zs, (Lit.int .u8 n).wf = true) (hD : (Lit.int .u8 D).wf = true) :
    Calls Try.prog 9 #[.slice (some x) len cap, .int .u8 D] w fun e w' => e = .returned (.bool true) ∧ Below w.heap.size w w' := by
  by_cases h1 : len < 1
  · exact grows_short _ _ _ _ h1 w
  · by_cases h6 : 6 < len
    · exact grows_long _ _ _ _ h6 w
    · have hD2 : 0 ≤ D ∧ D ≤ 255 := by simpa [Lit.wf, IntKind.min, IntKind.max, IntKind.signed, IntKind.bits] using hD
      have hr : ∀ i, 0 ≤ zs.getD i 0 ∧ zs.getD i 0 ≤ 255 := by
        intro i
        by_cases hi : i < zs.length
        · have e : zs.getD i 0 = zs[i] := by simp [List.getD, List.getElem?_eq_getElem hi]
          rw [e]
          simpa [Lit.wf, IntKind.min, IntKind.max, IntKind.signed, IntKind.bits] using hwf _ (List.getElem_mem hi)
        · have e : zs.getD i 0 = 0 := by simp [List.getD, List.getElem?_eq_none (Nat.le_of_not_lt hi)]
          rw [e]
          omega
      obtain ⟨b0, off, rfl, hc2⟩ := ints_at hcell (by omega)
      have hb : b0 < w.heap.size := World.block_lt_of_cell? w ⟨b0, off + 0, none⟩ (hc2 0 (by omega))
      refine grows_core b0 off len cap zs D w (by omega) (by omega) hlc hz hc2 hb hr hD2 ?_
      show ∀ S : ByteArray, S.data.toList = (zs.take len).map digB → _
      intro S hS
      refine grown4 S _ D hS ?_ ?_ ?_
      · rw [List.all_eq_true]
        intro c hc
        obtain ⟨n, _, rfl⟩ := List.mem_map.1 hc
        exact digB_dig n
      · simp; omega
      · simp; omega
end Go.Proofs.Ytjmjlhcmicljiaa
