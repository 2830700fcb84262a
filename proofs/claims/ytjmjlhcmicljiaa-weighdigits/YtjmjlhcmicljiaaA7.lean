/- WeighDigits: the call returns true. -/
import Derived.Test.YtjmjlhcmicljiaaT2
namespace Go.Proofs.Ytjmjlhcmicljiaa
open Go.RowKit

/-- What is left of the digits to make. -/
def digM (s x : Value) : Nat := match s with
  | .string b => (intOf x).toNat + (if b.size = 0 then 1 else 0)
  | _ => 0
theorem digM_str (b : ByteArray) (k : IntKind) (n : Nat) : digM (.string b) (.int k n) = n + (if b.size = 0 then 1 else 0) := by
  unfold digM; simp [intOf]
theorem fN1 : Fl.fN 1 = 4607182418800017408 := by decide +kernel
theorem ten_step {j : Nat} (h : j < 10) : Ieee.double.mul (Fl.fN (10 ^ j)) 4621819117588971520 = some (Fl.fN (10 ^ (j + 1))) := by
  have h1 : 10 ^ j ≤ 10 ^ 10 := Nat.pow_le_pow_right (by omega) (by omega)
  rw [← fN10, Nat.pow_succ]
  exact Fl.mul_fN (by omega) (by omega) (by omega)
theorem neg_at' {a : Nat} (ha : Fl.Ok a) (w : World) : (Op.unary .neg (.float .f64 a)).run Try.prog w = .ok (.float .f64 (Fl.opp a)) w := by
  rw [neg_run, Fl.opp_eq ha]
theorem empty_of (S : ByteArray) : S.toList.isEmpty = decide (S.size = 0) := by
  rw [ByteArray.toList_eq, Bool.eq_iff_iff, List.isEmpty_iff, decide_eq_true_iff]
  have : S.size = S.data.toList.length := by simp
  rw [this, List.length_eq_zero_iff]

/-- Digits, made one by one from the right. -/
structure Made (n X : Nat) (S : ByteArray) : Prop where
  dig : S.data.toList.all isDig = true
  num : n = X * 10 ^ S.size + numL S.data.toList
theorem byte_eq (X : Nat) : 48 + UInt8.ofNat (X % 10) = digB (X : Int) := by
  apply UInt8.toNat_inj.1
  rw [digB_nat, UInt8.toNat_add, UInt8.toNat_ofNat']
  have : (48 : UInt8).toNat = 48 := rfl
  omega
theorem made_next {n X : Nat} {S : ByteArray} (h : Made n X S) : Made n (X / 10) (⟨#[48 + UInt8.ofNat (X % 10)]⟩ ++ S) := by
  have l : ((⟨#[48 + UInt8.ofNat (X % 10)]⟩ : ByteArray) ++ S).data.toList = digB X :: S.data.toList := by simp [byte_eq]
  have sz : ((⟨#[48 + UInt8.ofNat (X % 10)]⟩ : ByteArray) ++ S).size = S.size + 1 := by
    rw [ByteArray.size_append, Nat.add_comm]; rfl
  have le : S.data.toList.length = S.size := by simp
  refine ⟨?_, ?_⟩
  · rw [l, List.all_cons, h.dig, digB_dig]; rfl
  · rw [l, sz, numL_cons, digB_nat, le, Nat.pow_succ, h.num]
    have e : 48 + ((X : Int) % 10).toNat - 48 = X % 10 := by omega
    rw [e, Nat.mul_comm (10 ^ S.size) 10, ← Nat.mul_assoc, ← Nat.add_assoc, ← Nat.add_mul, Nat.div_add_mod' X 10]

set_option maxRecDepth 100000 in
set_option maxHeartbeats 1600000 in
theorem digits_core (n p m : Nat) (w : World) (hn : n < 4294967296) (hp : p < 256) (hm : m < 256) :
    Calls Try.prog 7 #[.int .u32 n, .int .u8 p, .int .u8 m] w fun e w' => e = .returned (.bool true) ∧ Below w.heap.size w w' := by
  have hcv := conv_one
  go_enter Try.func7, Try.ntmps7
  go_wp2_with fail
  refine (begun_any _).mono ?_
  rintro e w1 ⟨rfl, hb1⟩
  have B1 : Hid _ := hb1
  clear hb1
  go_wp2_with fail
  go_loopw [7, 8] (fun s x wr => ∃ (X : Nat) (S : ByteArray), x = .int .u32 X ∧ s = .string S ∧ X ≤ n ∧ S.size ≤ 10 ∧ Hid (Made n X S) ∧ Hid (Below w.heap.size w wr)) (fun s x _ => digM s x)
  case atStart => exact ⟨n, ⟨#[]⟩, rfl, rfl, by omega, by decide, ⟨rfl, by show n = n * 10 ^ 0 + 0; omega⟩, B1⟩
  case round =>
    obtain ⟨X, S, rfl, rfl, hX, hSz, hS, hL⟩ := hrel
    by_cases hgo : 0 < X ∨ S.size = 0
    · have hS2 : Hid _ := made_next hS.out
      have sz2 : Hid (((⟨#[48 + UInt8.ofNat (X % 10)]⟩ : ByteArray) ++ S).size = S.size + 1) := by
        show _ = _
        rw [ByteArray.size_append, Nat.add_comm]; rfl
      have h10 : S.size + 1 ≤ 10 := by
        rcases hgo with h | h
        · apply Nat.lt_of_not_le
          intro hle
          have e := hS.out.num
          have h1 : 10 ^ 10 ≤ 10 ^ S.size := Nat.pow_le_pow_right (by omega) hle
          have h2 : 1 * 10 ^ S.size ≤ X * 10 ^ S.size := Nat.mul_le_mul_right _ h
          omega
        · omega
      have hms : digM (.string ((⟨#[48 + UInt8.ofNat (X % 10)]⟩ : ByteArray) ++ S)) (.int .u32 ((X / 10 : Nat) : Int)) < digM (.string S) (.int .u32 (X : Int)) := by
        rw [digM_str, digM_str, sz2.out, if_neg (by omega)]
        split <;> omega
      have HM : Hid _ := hms
      clear hms
      by_cases hX0 : 0 < X
      · clear hgo
        go_wp2_with fail
        go_roundw
        case rel => exact ⟨X / 10, _, by go_num, rfl, by omega, by rw [sz2.out]; exact h10, hS2, hL.out.alloc hL.out.size _⟩
        case measure => exact HM.out
      · have hE : S.toList.isEmpty = true := by rw [empty_of]; exact decide_eq_true (by omega)
        clear hgo
        go_wp2_with fail
        go_roundw
        case rel => exact ⟨X / 10, _, by go_num, rfl, by omega, by rw [sz2.out]; exact h10, hS2, hL.out.alloc hL.out.size _⟩
        case measure => exact HM.out
    · have hX00 : X = 0 := by omega
      subst hX00
      have hs1 : 1 ≤ S.size := by omega
      have hSE : S.toList.isEmpty = false := by rw [empty_of]; exact decide_eq_false (by omega)
      have hnum : n = numL S.data.toList := by have := hS.out.num; omega
      have hdig := hS.out.dig
      have hlen : S.data.toList.length = S.size := by simp
      clear hgo hX
      obtain ⟨t, ht⟩ : ∃ t, t = p % (S.size + 1) := ⟨_, rfl⟩
      have htl : t ≤ S.size := by have := Nat.mod_lt p (show 0 < S.size + 1 by omega); omega
      have hat : (p : Int) % ((S.size : Int) + 1) = (t : Int) := by rw [ht, Int.natCast_emod]; rfl
      obtain ⟨q, hq0⟩ : ∃ q, q = S.size - t := ⟨_, rfl⟩
      have hsub : (S.size : Int) - (t : Int) = (q : Int) := by omega
      obtain ⟨U, hU⟩ : ∃ U, S.extract 0 q = U := ⟨_, rfl⟩
      obtain ⟨V, hV⟩ : ∃ V, S.extract q S.size = V := ⟨_, rfl⟩
      have lU : U.data.toList = S.data.toList.take q := by rw [← hU, extract_list, List.drop_zero]
      have lV : V.data.toList = S.data.toList.drop q := by rw [← hV, extract_list, ← hlen, List.take_length]
      have lUV : U.data.toList ++ V.data.toList = S.data.toList := by rw [lU, lV, List.take_append_drop]
      have sU : U.size = q := by
        have : U.size = U.data.toList.length := by simp
        rw [this, lU, List.length_take]; omega
      have sV : V.size = t := by
        have : V.size = V.data.toList.length := by simp
        rw [this, lV, List.length_drop]; omega
      have lenU : U.data.toList.length = q := by rw [← sU]; simp
      have lenV : V.data.toList.length = t := by rw [← sV]; simp
      have eU : U.toList.isEmpty = decide (q = 0) := by rw [empty_of, sU]
      have eV : V.toList.isEmpty = decide (t = 0) := by rw [empty_of, sV]
      have dU : U.data.toList.all isDig = true := by rw [← lUV, List.all_append, Bool.and_eq_true] at hdig; exact hdig.1
      have dV : V.data.toList.all isDig = true := by rw [← lUV, List.all_append, Bool.and_eq_true] at hdig; exact hdig.2
      have nUV : numL (U.data.toList ++ V.data.toList) = n := by rw [lUV, hnum]
      have hp10 := pow15 (d := t) (by omega)
      have okx : Hid (Fl.Ok (Fl.quoW n (10 ^ t))) := Fl.quoW_ok (by omega) hp10.1 hp10.2
      have hxx := eq_self (quoW_num (n := n) (by omega) hp10.1 hp10.2)
      have hng := neg_at' okx.out
      have hdv : ∀ (ty : TypeId) (w : World), (binOp .quo ty (.float .f64 (floatOfInt .f64 (n : Int))) (.float .f64 (Fl.fN (10 ^ t)))).run Try.prog w = .ok (.float .f64 (Fl.quoW n (10 ^ t))) w := fun ty w => quo_run n (10 ^ t) (by omega) hp10.1 hp10.2 ty w
      have hU10 : U.size ≤ 10 := by omega
      have hV10 : V.size ≤ 10 := by omega
      by_cases ht0 : t = 0
      · have d : Hid (D3 U (⟨#[48]⟩ ++ U) (⟨#[45]⟩ ++ U) (Fl.quoW n (10 ^ t))) := by
          show D3 _ _ _ _
          have vn : V.data.toList = [] := List.length_eq_zero_iff.1 (by omega)
          rw [vn, List.append_nil] at nUV
          have := d3_plain (P := U) (Lg := ⟨#[48]⟩ ++ U) (Mi := ⟨#[45]⟩ ++ U) rfl (by simp) (by simp) dU (by omega) (by omega)
          rw [nUV] at this
          rw [ht0]
          exact this
        have vE : V.toList.isEmpty = true := by rw [eV]; exact decide_eq_true ht0
        have uE : U.toList.isEmpty = false := by rw [eU]; exact decide_eq_false (by omega)
        clear hnum hdig hlen ht hq0 lU lV lUV sU sV lenU lenV eU eV dU dV nUV hp10 ht0
        generalize hx : Fl.quoW n (10 ^ t) = x at *
        clear hx
        have q1 : Hid (Fl.Ok (Fl.opp x)) := Fl.opp_ok okx.out
        go_wp2_with fail
        refine (parse_at _ x 0 d.out.s1 d.out.p1 d.out.e1 _).mono ?_
        rintro e w2 ⟨rfl, hb2⟩
        have B2 : Hid _ := hb2
        clear hb2
        go_wp2_with fail
        refine (parse_at _ x 0 d.out.s2 d.out.p2 d.out.e2 _).mono ?_
        rintro e w3 ⟨rfl, hb3⟩
        have B3 : Hid _ := hb3
        clear hb3
        go_wp2_with fail
        refine (parse_at _ (Fl.opp x) 0 d.out.s3 d.out.p3 d.out.e3 _).mono ?_
        rintro e w4 ⟨rfl, hb4⟩
        have B4 : Hid _ := hb4
        clear hb4
        go_wp2_with fail
        go_loop [20, 21] (fun ten i => ∃ j : Nat, j ≤ t ∧ i = .int .i64 j ∧ ten = .float .f64 (Fl.fN (10 ^ j))) (fun _ i => t - (intOf i).toNat)
        case atStart => exact ⟨0, Nat.zero_le _, rfl, by rw [Nat.pow_zero, fN1]⟩
        case round =>
          obtain ⟨j, hj, rfl, rfl⟩ := hrel
          by_cases hjt : j < t
          · have hmul : ∀ (ty : TypeId) (w : World), (binOp .mul ty (.float .f64 (Fl.fN (10 ^ j))) (.float .f64 4621819117588971520)).run Try.prog w = .ok (.float .f64 (Fl.fN (10 ^ (j + 1)))) w := fun ty w => run_float_arith w .mul ty .f64 _ _ _ (ten_step (by omega))
            generalize Fl.fN (10 ^ j) = f1 at *
            generalize hf2 : Fl.fN (10 ^ (j + 1)) = f2 at *
            have F2 : Hid _ := hf2
            clear hf2
            go_wp2_with fail
            go_round
            case rel => exact ⟨j + 1, by omega, by go_num, by rw [F2.out]⟩
            case measure => simp [intOf]; omega
          · have hjt2 : j = t := by omega
            rw [hjt2]
            clear hjt2
            generalize Fl.fN (10 ^ t) = f1 at *
            go_wp2_with fail
            refine (same_any x x okx.out okx.out _).mono ?_
            rintro e w' ⟨rfl, rfl⟩
            rw [ordB_self]
            go_wp2_with fail
            refine (same_any (Fl.opp x) (Fl.opp x) q1.out q1.out _).mono ?_
            rintro e w' ⟨rfl, rfl⟩
            rw [ordB_self]
            go_wp2_with fail
            go_ret
            exact ⟨rfl, chain (chain (chain hL.out B2.out) B3.out) B4.out⟩

      · have vE : V.toList.isEmpty = false := by rw [eV]; exact decide_eq_false ht0
        by_cases hq1 : q = 0
        · have uE : U.toList.isEmpty = true := by rw [eU]; exact decide_eq_true hq1
          have un : U.data.toList = [] := List.length_eq_zero_iff.1 (by omega)
          rw [un, List.nil_append] at nUV
          by_cases hodd : m % 2 = 1
          · have hmod : ((m : Int) % 2 == 1) = true := beq_iff_eq.2 (by omega)
            have d : Hid (D3 (⟨#[48]⟩ ++ ⟨#[46]⟩ ++ V) (⟨#[48]⟩ ++ (⟨#[48]⟩ ++ ⟨#[46]⟩ ++ V) ++ ⟨#[48]⟩) (⟨#[45]⟩ ++ (⟨#[48]⟩ ++ ⟨#[46]⟩ ++ V)) (Fl.quoW n (10 ^ t))) := by
              show D3 _ _ _ _
              have := d3_point (P := ⟨#[48]⟩ ++ ⟨#[46]⟩ ++ V) (Lg := ⟨#[48]⟩ ++ (⟨#[48]⟩ ++ ⟨#[46]⟩ ++ V) ++ ⟨#[48]⟩) (Mi := ⟨#[45]⟩ ++ (⟨#[48]⟩ ++ ⟨#[46]⟩ ++ V)) (A := [48]) (B := V.data.toList) true (by simp) (by simp) (by simp) (by decide) (by decide) dV (by omega) (by rw [lenV]; show 1 + t ≤ 12; omega)
              rw [List.cons_append, List.nil_append, numL_nought, nUV, lenV] at this
              exact this
            clear hnum hdig hlen ht hq0 lU lV lUV sU sV lenU lenV eU eV dU dV nUV hp10 ht0 hq1 hodd un
            generalize hx : Fl.quoW n (10 ^ t) = x at *
            clear hx
            have q1 : Hid (Fl.Ok (Fl.opp x)) := Fl.opp_ok okx.out
            go_wp2_with fail
            refine (parse_at _ x 0 d.out.s1 d.out.p1 d.out.e1 _).mono ?_
            rintro e w2 ⟨rfl, hb2⟩
            have B2 : Hid _ := hb2
            clear hb2
            go_wp2_with fail
            refine (parse_at _ x 0 d.out.s2 d.out.p2 d.out.e2 _).mono ?_
            rintro e w3 ⟨rfl, hb3⟩
            have B3 : Hid _ := hb3
            clear hb3
            go_wp2_with fail
            refine (parse_at _ (Fl.opp x) 0 d.out.s3 d.out.p3 d.out.e3 _).mono ?_
            rintro e w4 ⟨rfl, hb4⟩
            have B4 : Hid _ := hb4
            clear hb4
            go_wp2_with fail
            go_loop [20, 21] (fun ten i => ∃ j : Nat, j ≤ t ∧ i = .int .i64 j ∧ ten = .float .f64 (Fl.fN (10 ^ j))) (fun _ i => t - (intOf i).toNat)
            case atStart => exact ⟨0, Nat.zero_le _, rfl, by rw [Nat.pow_zero, fN1]⟩
            case round =>
              obtain ⟨j, hj, rfl, rfl⟩ := hrel
              by_cases hjt : j < t
              · have hmul : ∀ (ty : TypeId) (w : World), (binOp .mul ty (.float .f64 (Fl.fN (10 ^ j))) (.float .f64 4621819117588971520)).run Try.prog w = .ok (.float .f64 (Fl.fN (10 ^ (j + 1)))) w := fun ty w => run_float_arith w .mul ty .f64 _ _ _ (ten_step (by omega))
                generalize Fl.fN (10 ^ j) = f1 at *
                generalize hf2 : Fl.fN (10 ^ (j + 1)) = f2 at *
                have F2 : Hid _ := hf2
                clear hf2
                go_wp2_with fail
                go_round
                case rel => exact ⟨j + 1, by omega, by go_num, by rw [F2.out]⟩
                case measure => simp [intOf]; omega
              · have hjt2 : j = t := by omega
                rw [hjt2]
                clear hjt2
                generalize Fl.fN (10 ^ t) = f1 at *
                go_wp2_with fail
                refine (same_any x x okx.out okx.out _).mono ?_
                rintro e w' ⟨rfl, rfl⟩
                rw [ordB_self]
                go_wp2_with fail
                refine (same_any (Fl.opp x) (Fl.opp x) q1.out q1.out _).mono ?_
                rintro e w' ⟨rfl, rfl⟩
                rw [ordB_self]
                go_wp2_with fail
                go_ret
                exact ⟨rfl, chain (chain (chain hL.out B2.out) B3.out) B4.out⟩

          · have hmod : ((m : Int) % 2 == 1) = false := beq_eq_false_iff_ne.2 (by omega)
            have d : Hid (D3 (⟨#[48]⟩ ++ ⟨#[46]⟩ ++ V) (⟨#[48]⟩ ++ (⟨#[48]⟩ ++ ⟨#[46]⟩ ++ V)) (⟨#[45]⟩ ++ (⟨#[48]⟩ ++ ⟨#[46]⟩ ++ V)) (Fl.quoW n (10 ^ t))) := by
              show D3 _ _ _ _
              have := d3_point (P := ⟨#[48]⟩ ++ ⟨#[46]⟩ ++ V) (Lg := ⟨#[48]⟩ ++ (⟨#[48]⟩ ++ ⟨#[46]⟩ ++ V)) (Mi := ⟨#[45]⟩ ++ (⟨#[48]⟩ ++ ⟨#[46]⟩ ++ V)) (A := [48]) (B := V.data.toList) false (by simp) (by simp) (by simp) (by decide) (by decide) dV (by omega) (by rw [lenV]; show 1 + t ≤ 12; omega)
              rw [List.cons_append, List.nil_append, numL_nought, nUV, lenV] at this
              exact this
            clear hnum hdig hlen ht hq0 lU lV lUV sU sV lenU lenV eU eV dU dV nUV hp10 ht0 hq1 hodd un
            generalize hx : Fl.quoW n (10 ^ t) = x at *
            clear hx
            have q1 : Hid (Fl.Ok (Fl.opp x)) := Fl.opp_ok okx.out
            go_wp2_with fail
            refine (parse_at _ x 0 d.out.s1 d.out.p1 d.out.e1 _).mono ?_
            rintro e w2 ⟨rfl, hb2⟩
            have B2 : Hid _ := hb2
            clear hb2
            go_wp2_with fail
            refine (parse_at _ x 0 d.out.s2 d.out.p2 d.out.e2 _).mono ?_
            rintro e w3 ⟨rfl, hb3⟩
            have B3 : Hid _ := hb3
            clear hb3
            go_wp2_with fail
            refine (parse_at _ (Fl.opp x) 0 d.out.s3 d.out.p3 d.out.e3 _).mono ?_
            rintro e w4 ⟨rfl, hb4⟩
            have B4 : Hid _ := hb4
            clear hb4
            go_wp2_with fail
            go_loop [20, 21] (fun ten i => ∃ j : Nat, j ≤ t ∧ i = .int .i64 j ∧ ten = .float .f64 (Fl.fN (10 ^ j))) (fun _ i => t - (intOf i).toNat)
            case atStart => exact ⟨0, Nat.zero_le _, rfl, by rw [Nat.pow_zero, fN1]⟩
            case round =>
              obtain ⟨j, hj, rfl, rfl⟩ := hrel
              by_cases hjt : j < t
              · have hmul : ∀ (ty : TypeId) (w : World), (binOp .mul ty (.float .f64 (Fl.fN (10 ^ j))) (.float .f64 4621819117588971520)).run Try.prog w = .ok (.float .f64 (Fl.fN (10 ^ (j + 1)))) w := fun ty w => run_float_arith w .mul ty .f64 _ _ _ (ten_step (by omega))
                generalize Fl.fN (10 ^ j) = f1 at *
                generalize hf2 : Fl.fN (10 ^ (j + 1)) = f2 at *
                have F2 : Hid _ := hf2
                clear hf2
                go_wp2_with fail
                go_round
                case rel => exact ⟨j + 1, by omega, by go_num, by rw [F2.out]⟩
                case measure => simp [intOf]; omega
              · have hjt2 : j = t := by omega
                rw [hjt2]
                clear hjt2
                generalize Fl.fN (10 ^ t) = f1 at *
                go_wp2_with fail
                refine (same_any x x okx.out okx.out _).mono ?_
                rintro e w' ⟨rfl, rfl⟩
                rw [ordB_self]
                go_wp2_with fail
                refine (same_any (Fl.opp x) (Fl.opp x) q1.out q1.out _).mono ?_
                rintro e w' ⟨rfl, rfl⟩
                rw [ordB_self]
                go_wp2_with fail
                go_ret
                exact ⟨rfl, chain (chain (chain hL.out B2.out) B3.out) B4.out⟩

        · have uE : U.toList.isEmpty = false := by rw [eU]; exact decide_eq_false hq1
          by_cases hodd : m % 2 = 1
          · have hmod : ((m : Int) % 2 == 1) = true := beq_iff_eq.2 (by omega)
            have d : Hid (D3 (U ++ ⟨#[46]⟩ ++ V) (⟨#[48]⟩ ++ (U ++ ⟨#[46]⟩ ++ V) ++ ⟨#[48]⟩) (⟨#[45]⟩ ++ (U ++ ⟨#[46]⟩ ++ V)) (Fl.quoW n (10 ^ t))) := by
              show D3 _ _ _ _
              have := d3_point (P := U ++ ⟨#[46]⟩ ++ V) (Lg := ⟨#[48]⟩ ++ (U ++ ⟨#[46]⟩ ++ V) ++ ⟨#[48]⟩) (Mi := ⟨#[45]⟩ ++ (U ++ ⟨#[46]⟩ ++ V)) (A := U.data.toList) (B := V.data.toList) true (by simp) (by simp) (by simp) dU (by omega) dV (by omega) (by omega)
              rw [nUV, lenV] at this
              exact this
            clear hnum hdig hlen ht hq0 lU lV lUV sU sV lenU lenV eU eV dU dV nUV hp10 ht0 hq1 hodd
            generalize hx : Fl.quoW n (10 ^ t) = x at *
            clear hx
            have q1 : Hid (Fl.Ok (Fl.opp x)) := Fl.opp_ok okx.out
            go_wp2_with fail
            refine (parse_at _ x 0 d.out.s1 d.out.p1 d.out.e1 _).mono ?_
            rintro e w2 ⟨rfl, hb2⟩
            have B2 : Hid _ := hb2
            clear hb2
            go_wp2_with fail
            refine (parse_at _ x 0 d.out.s2 d.out.p2 d.out.e2 _).mono ?_
            rintro e w3 ⟨rfl, hb3⟩
            have B3 : Hid _ := hb3
            clear hb3
            go_wp2_with fail
            refine (parse_at _ (Fl.opp x) 0 d.out.s3 d.out.p3 d.out.e3 _).mono ?_
            rintro e w4 ⟨rfl, hb4⟩
            have B4 : Hid _ := hb4
            clear hb4
            go_wp2_with fail
            go_loop [20, 21] (fun ten i => ∃ j : Nat, j ≤ t ∧ i = .int .i64 j ∧ ten = .float .f64 (Fl.fN (10 ^ j))) (fun _ i => t - (intOf i).toNat)
            case atStart => exact ⟨0, Nat.zero_le _, rfl, by rw [Nat.pow_zero, fN1]⟩
            case round =>
              obtain ⟨j, hj, rfl, rfl⟩ := hrel
              by_cases hjt : j < t
              · have hmul : ∀ (ty : TypeId) (w : World), (binOp .mul ty (.float .f64 (Fl.fN (10 ^ j))) (.float .f64 4621819117588971520)).run Try.prog w = .ok (.float .f64 (Fl.fN (10 ^ (j + 1)))) w := fun ty w => run_float_arith w .mul ty .f64 _ _ _ (ten_step (by omega))
                generalize Fl.fN (10 ^ j) = f1 at *
                generalize hf2 : Fl.fN (10 ^ (j + 1)) = f2 at *
                have F2 : Hid _ := hf2
                clear hf2
                go_wp2_with fail
                go_round
                case rel => exact ⟨j + 1, by omega, by go_num, by rw [F2.out]⟩
                case measure => simp [intOf]; omega
              · have hjt2 : j = t := by omega
                rw [hjt2]
                clear hjt2
                generalize Fl.fN (10 ^ t) = f1 at *
                go_wp2_with fail
                refine (same_any x x okx.out okx.out _).mono ?_
                rintro e w' ⟨rfl, rfl⟩
                rw [ordB_self]
                go_wp2_with fail
                refine (same_any (Fl.opp x) (Fl.opp x) q1.out q1.out _).mono ?_
                rintro e w' ⟨rfl, rfl⟩
                rw [ordB_self]
                go_wp2_with fail
                go_ret
                exact ⟨rfl, chain (chain (chain hL.out B2.out) B3.out) B4.out⟩

          · have hmod : ((m : Int) % 2 == 1) = false := beq_eq_false_iff_ne.2 (by omega)
            have d : Hid (D3 (U ++ ⟨#[46]⟩ ++ V) (⟨#[48]⟩ ++ (U ++ ⟨#[46]⟩ ++ V)) (⟨#[45]⟩ ++ (U ++ ⟨#[46]⟩ ++ V)) (Fl.quoW n (10 ^ t))) := by
              show D3 _ _ _ _
              have := d3_point (P := U ++ ⟨#[46]⟩ ++ V) (Lg := ⟨#[48]⟩ ++ (U ++ ⟨#[46]⟩ ++ V)) (Mi := ⟨#[45]⟩ ++ (U ++ ⟨#[46]⟩ ++ V)) (A := U.data.toList) (B := V.data.toList) false (by simp) (by simp) (by simp) dU (by omega) dV (by omega) (by omega)
              rw [nUV, lenV] at this
              exact this
            clear hnum hdig hlen ht hq0 lU lV lUV sU sV lenU lenV eU eV dU dV nUV hp10 ht0 hq1 hodd
            generalize hx : Fl.quoW n (10 ^ t) = x at *
            clear hx
            have q1 : Hid (Fl.Ok (Fl.opp x)) := Fl.opp_ok okx.out
            go_wp2_with fail
            refine (parse_at _ x 0 d.out.s1 d.out.p1 d.out.e1 _).mono ?_
            rintro e w2 ⟨rfl, hb2⟩
            have B2 : Hid _ := hb2
            clear hb2
            go_wp2_with fail
            refine (parse_at _ x 0 d.out.s2 d.out.p2 d.out.e2 _).mono ?_
            rintro e w3 ⟨rfl, hb3⟩
            have B3 : Hid _ := hb3
            clear hb3
            go_wp2_with fail
            refine (parse_at _ (Fl.opp x) 0 d.out.s3 d.out.p3 d.out.e3 _).mono ?_
            rintro e w4 ⟨rfl, hb4⟩
            have B4 : Hid _ := hb4
            clear hb4
            go_wp2_with fail
            go_loop [20, 21] (fun ten i => ∃ j : Nat, j ≤ t ∧ i = .int .i64 j ∧ ten = .float .f64 (Fl.fN (10 ^ j))) (fun _ i => t - (intOf i).toNat)
            case atStart => exact ⟨0, Nat.zero_le _, rfl, by rw [Nat.pow_zero, fN1]⟩
            case round =>
              obtain ⟨j, hj, rfl, rfl⟩ := hrel
              by_cases hjt : j < t
              · have hmul : ∀ (ty : TypeId) (w : World), (binOp .mul ty (.float .f64 (Fl.fN (10 ^ j))) (.float .f64 4621819117588971520)).run Try.prog w = .ok (.float .f64 (Fl.fN (10 ^ (j + 1)))) w := fun ty w => run_float_arith w .mul ty .f64 _ _ _ (ten_step (by omega))
                generalize Fl.fN (10 ^ j) = f1 at *
                generalize hf2 : Fl.fN (10 ^ (j + 1)) = f2 at *
                have F2 : Hid _ := hf2
                clear hf2
                go_wp2_with fail
                go_round
                case rel => exact ⟨j + 1, by omega, by go_num, by rw [F2.out]⟩
                case measure => simp [intOf]; omega
              · have hjt2 : j = t := by omega
                rw [hjt2]
                clear hjt2
                generalize Fl.fN (10 ^ t) = f1 at *
                go_wp2_with fail
                refine (same_any x x okx.out okx.out _).mono ?_
                rintro e w' ⟨rfl, rfl⟩
                rw [ordB_self]
                go_wp2_with fail
                refine (same_any (Fl.opp x) (Fl.opp x) q1.out q1.out _).mono ?_
                rintro e w' ⟨rfl, rfl⟩
                rw [ordB_self]
                go_wp2_with fail
                go_ret
                exact ⟨rfl, chain (chain (chain hL.out B2.out) B3.out) B4.out⟩


theorem digits_walk (n p m : Nat) (hn : (n : Int) ≤ IntKind.u32.max) (hp : (p : Int) ≤ IntKind.u8.max) (hm : (m : Int) ≤ IntKind.u8.max) (w : World) :
    Calls Try.prog 7 #[.int .u32 n, .int .u8 p, .int .u8 m] w fun e w' => e = .returned (.bool true) ∧ Below w.heap.size w w' := by
  have e1 : IntKind.u32.max = 4294967295 := rfl
  have e2 : IntKind.u8.max = 255 := rfl
  exact digits_core n p m w (by omega) (by omega) (by omega)
end Go.Proofs.Ytjmjlhcmicljiaa
