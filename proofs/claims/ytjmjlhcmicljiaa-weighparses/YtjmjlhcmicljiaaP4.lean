/- The reference's Parse, at every short text: nothing, and what begins with a minus. -/
import Derived.Test.YtjmjlhcmicljiaaP3
namespace Go.Proofs.Ytjmjlhcmicljiaa
open Go.RowKit

set_option maxRecDepth 100000 in
set_option maxHeartbeats 2000000 in
theorem refParse_nil (s : ByteArray) (hs : s.size ≤ 60) (h1 : (s.toList == [110, 97, 110]) = false) (h2 : (s.toList == [105, 110, 102]) = false) (h3 : (s.toList == [45, 105, 110, 102]) = false) (hz : ¬ 0 < s.size) (ans : Option (Nat × Nat)) (A : Hid (fin s.data.toList 0 0 none = ans)) (w : World) :
    Calls Try.prog 14 #[.string s] w fun e w' => e = .returned (.tuple #[.float .f64 (ansW false ans), .int .i64 (ansE ans)]) ∧ w' = w := by
  go_enter Try.func14, Try.ntmps14
  go_wp2_with fail
  clear h1 h2 h3
  go_loop [5, 6, 7, 8] (fun vn vd vp vi => ∃ k n d : Nat, k ≤ s.size ∧ vi = .int .i64 k ∧ vn = .int .i64 n ∧ vd = .int .i64 d ∧ d ≤ 15 ∧ Hid (n < 10 ^ d) ∧ (vp = .int .i64 (-1) ∧ Hid (d = k) ∧ Hid (fin (s.data.toList.drop k) n d none = ans) ∨ ∃ b q : Nat, vp = .int .i64 q ∧ Hid (q + b + 1 = k) ∧ Hid (d + 1 = k) ∧ Hid (0 < q) ∧ Hid (fin (s.data.toList.drop k) n d (some b) = ans))) (fun _ _ _ i => s.size - (intOf i).toNat)
  case atStart => exact ⟨0, 0, 0, Nat.zero_le _, rfl, rfl, rfl, by omega, (show (0 : Nat) < 10 ^ 0 by decide), .inl ⟨rfl, (show 0 = 0 from rfl), A⟩⟩
  case round =>
    clear A
    obtain ⟨k, n, d, hk, rfl, rfl, rfl, hd15, hn, hst⟩ := hrel
    by_cases hlt : k < s.size
    · exfalso
      omega
    · have hkz : k = s.size := by omega
      have Dn : Hid (s.data.toList.drop k = []) := List.drop_eq_nil_of_le (by rw [hkz]; simp)
      have hn53 : n < 9007199254740992 := Nat.lt_of_lt_of_le hn.out (Nat.le_trans (Nat.pow_le_pow_right (j := 15) (by omega) hd15) (by decide))
      rcases hst with ⟨rfl, hdk, A⟩ | ⟨b, q, rfl, hq1, hq2, hq3, A⟩
      · by_cases hd0 : d = 0
        · have N : Hid (ans = none) := by
            show _ = _
            rw [← A.out, Dn.out, fin, if_pos hd0]
          have b0 : ((d : Int) == 0) = true := beq_iff_eq.2 (by omega)
          clear hd0
          subst hkz
          go_wp2_with fail
          go_ret2
          exact ⟨by rw [N.out]; rfl, rfl⟩
        · have S : Hid (ans = some (n, 0)) := by
            show _ = _
            rw [← A.out, Dn.out, fin, if_neg hd0]
          have b0 : ((d : Int) == 0) = false := beq_eq_false_iff_ne.2 (by omega)
          have b1 : ((-1 : Int) == (s.size : Int) - 1) = false := beq_eq_false_iff_ne.2 (by have := hdk.out; omega)
          have hq : ∀ (t : TypeId) (w : World), (binOp .quo t (.float .f64 (floatOfInt .f64 (n : Int))) (.float .f64 (floatOfInt .f64 1))).run Try.prog w = .ok (.float .f64 (Fl.quoW n 1)) w := quo_run n 1 hn53 (by omega) (by omega)
          have QP : Hid (Fl.quoW n 1 < 9223372036854775808) := quoW_pos hn53 (by omega) (by omega)
          have W0 : Hid ((Fl.quoW n 1) = ansW false (some (n, 0))) := by show _ = _; rw [ansW_false, Nat.pow_zero]
          generalize hZ : Fl.quoW n 1 = Z at *
          clear hZ hd0
          go_wp2_with fail
          go_loop [9, 10] (fun t i => t = .int .i64 1 ∧ i = .int .i64 0) (fun _ _ => 0)
          case atStart => exact ⟨rfl, rfl⟩
          case round =>
            obtain ⟨rfl, rfl⟩ := hrel
            go_wp2_with fail
            go_ret2
            exact ⟨by rw [S.out]; exact congrArg (fun x => Ending.returned (.tuple #[.float .f64 x, .int .i64 0])) W0.out, rfl⟩
      · by_cases hb0 : b = 0
        · have N : Hid (ans = none) := by
            show _ = _
            rw [← A.out, Dn.out, fin, if_pos hb0]
          have b0 : ((d : Int) == 0) = false := beq_eq_false_iff_ne.2 (by have := hq2.out; have := hq1.out; have := hq3.out; omega)
          have b1 : ((q : Int) == (s.size : Int) - 1) = true := beq_iff_eq.2 (by have := hq1.out; omega)
          clear hkz
          go_wp2_with fail
          go_ret2
          exact ⟨by rw [N.out]; rfl, rfl⟩
        · have S : Hid (ans = some (n, b)) := by
            show _ = _
            rw [← A.out, Dn.out, fin, if_neg hb0]
          have b0 : ((d : Int) == 0) = false := beq_eq_false_iff_ne.2 (by have := hq2.out; have := hq1.out; have := hq3.out; omega)
          have b1 : ((q : Int) == (s.size : Int) - 1) = false := beq_eq_false_iff_ne.2 (by have := hq1.out; omega)
          have hqb : q + b + 1 = s.size := by have := hq1.out; omega
          have QB : Hid _ := hqb
          have hb15 : b ≤ 15 := by have := hq2.out; have := hq1.out; omega
          have hqs : (q : Int) + 1 ≤ s.size := by omega
          have hq := quo_run n (10 ^ b) hn53 (pow15 hb15).1 (pow15 hb15).2
          have QP : Hid (Fl.quoW n (10 ^ b) < 9223372036854775808) := quoW_pos hn53 (pow15 hb15).1 (pow15 hb15).2
          have W0 : Hid ((Fl.quoW n (10 ^ b)) = ansW false (some (n, b))) := by show _ = _; rw [ansW_false]
          generalize hZ : Fl.quoW n (10 ^ b) = Z at QP W0 hq
          generalize hM : (10 : Nat) ^ b = M at hq
          have HM : Hid _ := hM
          clear hZ hb0 hkz hqb hM
          go_wp2_with fail
          go_loop [9, 10] (fun t i => ∃ j : Nat, j ≤ b ∧ t = .int .i64 ((10 ^ j : Nat) : Int) ∧ i = .int .i64 ((q + 1 + j : Nat) : Int)) (fun _ i => s.size - (intOf i).toNat)
          case atStart => exact ⟨0, Nat.zero_le _, rfl, by go_num⟩
          case round =>
            obtain ⟨j, hj, rfl, rfl⟩ := hrel
            by_cases hjb : j < b
            · have hp : (10 : Nat) ^ j ≤ 10 ^ 14 := Nat.pow_le_pow_right (by omega) (by omega)
              have H : Hid (10 ^ (j + 1) = 10 ^ j * 10) := Nat.pow_succ 10 j
              generalize hP : (10 : Nat) ^ j = P at *
              have hi : q + 1 + j < s.size := by have := QB.out; omega
              generalize hI : q + 1 + j = I at *
              have HI : Hid _ := hI
              clear hP hI
              go_wp2_with fail
              go_round
              case rel => exact ⟨j + 1, by omega, by rw [H.out]; go_num, by have := HI.out; congr 1; omega⟩
              case measure => simp [intOf]; omega
            · have hj2 : j = b := by omega
              have hi : ¬ q + 1 + j < s.size := by have := QB.out; omega
              generalize hI : q + 1 + j = I at *
              clear hI
              rw [hj2, HM.out]
              clear hj2
              go_wp2_with fail
              go_ret2
              exact ⟨by rw [S.out]; exact congrArg (fun x => Ending.returned (.tuple #[.float .f64 x, .int .i64 0])) W0.out, rfl⟩


set_option maxRecDepth 100000 in
set_option maxHeartbeats 2000000 in
theorem refParse_neg (s r : ByteArray) (hr : Hid (s.extract 1 s.size = r)) (hs : s.size ≤ 60) (hrs : r.size ≤ 60) (h1 : (s.toList == [110, 97, 110]) = false) (h2 : (s.toList == [105, 110, 102]) = false) (h3 : (s.toList == [45, 105, 110, 102]) = false) (hz : 0 < s.size) (hm2 : ((s[0].toNat : Int) == 45) = true) (ans : Option (Nat × Nat)) (A : Hid (fin r.data.toList 0 0 none = ans)) (w : World) :
    Calls Try.prog 14 #[.string s] w fun e w' => e = .returned (.tuple #[.float .f64 (ansW true ans), .int .i64 (ansE ans)]) ∧ w' = w := by
  go_enter Try.func14, Try.ntmps14
  go_wp2_with fail
  rw [hr.out]
  clear h1 h2 h3 hm2
  go_loop [5, 6, 7, 8] (fun vn vd vp vi => ∃ k n d : Nat, k ≤ r.size ∧ vi = .int .i64 k ∧ vn = .int .i64 n ∧ vd = .int .i64 d ∧ d ≤ 15 ∧ Hid (n < 10 ^ d) ∧ (vp = .int .i64 (-1) ∧ Hid (d = k) ∧ Hid (fin (r.data.toList.drop k) n d none = ans) ∨ ∃ b q : Nat, vp = .int .i64 q ∧ Hid (q + b + 1 = k) ∧ Hid (d + 1 = k) ∧ Hid (0 < q) ∧ Hid (fin (r.data.toList.drop k) n d (some b) = ans))) (fun _ _ _ i => r.size - (intOf i).toNat)
  case atStart => exact ⟨0, 0, 0, Nat.zero_le _, rfl, rfl, rfl, by omega, (show (0 : Nat) < 10 ^ 0 by decide), .inl ⟨rfl, (show 0 = 0 from rfl), A⟩⟩
  case round =>
    clear A
    obtain ⟨k, n, d, hk, rfl, rfl, rfl, hd15, hn, hst⟩ := hrel
    by_cases hlt : k < r.size
    · have Dk : Hid _ := drop_cons r k hlt
      have hc1 : (r[k].toNat : Int) < 256 := by have := r[k].toNat_lt; omega
      rcases hst with ⟨rfl, hdk, A⟩ | ⟨b, q, rfl, hq1, hq2, hq3, A⟩
      · by_cases c46 : (r[k].toNat : Int) = 46
        · have b46 : ((r[k].toNat : Int) == 46) = true := beq_iff_eq.2 c46
          have C : Hid (r[k] = 46) := UInt8.toNat_inj.1 (by show _ = 46; omega)
          by_cases hk0 : 0 < k
          · have F : Hid (fin (r.data.toList.drop (k + 1)) n d (some 0) = ans) := by
              show _ = _
              rw [← A.out, Dk.out, fin, if_pos ⟨C.out, by have := hdk.out; omega⟩]
            clear c46
            go_wp2_with fail
            exact ⟨⟨k + 1, n, d, by omega, by go_num, rfl, rfl, hd15, hn, .inr ⟨0, k, rfl, (show k + 0 + 1 = k + 1 by omega), (show d + 1 = k + 1 by have := hdk.out; omega), hk0, F⟩⟩, by simp [intOf]; omega⟩
          · have N : Hid (ans = none) := by
              show _ = _
              rw [← A.out, Dk.out, fin, if_neg (by have := hdk.out; omega), if_neg]
              rw [C.out]
              rintro ⟨h, _⟩
              cases h
            have hk1 : k = 0 := by omega
            subst hk1
            clear hk0
            go_wp2_with fail
            go_ret2
            exact ⟨by rw [N.out]; rfl, rfl⟩
        · have b46 : ((r[k].toNat : Int) == 46) = false := beq_eq_false_iff_ne.2 c46
          have NC : Hid (¬ r[k] = 46) := fun h => c46 (by rw [h]; rfl)
          clear c46
          by_cases d1 : 48 ≤ (r[k].toNat : Int)
          · by_cases d2 : (r[k].toNat : Int) ≤ 57
            · by_cases hd : d < 15
              · skip
                have hp : n < 100000000000000 := Nat.lt_of_lt_of_le hn.out (Nat.pow_le_pow_right (j := 14) (by omega) (by omega))
                have G : Hid (isDig r[k] = true) := by
                  show _ = _
                  unfold isDig
                  simp
                  omega
                have F : Hid (fin (r.data.toList.drop (k + 1)) (n * 10 + (r[k].toNat - 48)) (d + 1) none = ans) := by
                  show _ = _
                  rw [← A.out, Dk.out, fin, if_neg (fun h => NC.out h.1), if_pos ⟨G.out, hd⟩]
                have hn2 : Hid (n * 10 + (r[k].toNat - 48) < 10 ^ (d + 1)) := by
                  show _ < _
                  have := hn.out
                  rw [Nat.pow_succ]
                  omega
                go_wp2_with fail
                exact ⟨⟨k + 1, n * 10 + (r[k].toNat - 48), d + 1, by omega, by go_num, by congr 1; omega, by go_num, by omega, hn2, .inl ⟨rfl, (show d + 1 = k + 1 by have := hdk.out; omega), F⟩⟩, by simp [intOf]; omega⟩
              · skip
                have N : Hid (ans = none) := by
                  show _ = _
                  rw [← A.out, Dk.out, fin, if_neg (fun h => NC.out h.1), if_neg]
                  rintro ⟨h, h2⟩
                  omega
                go_wp2_with fail
                go_ret2
                exact ⟨by rw [N.out]; rfl, rfl⟩
            · skip
              have N : Hid (ans = none) := by
                show _ = _
                rw [← A.out, Dk.out, fin, if_neg (fun h => NC.out h.1), if_neg]
                rintro ⟨h, h2⟩
                have h' := h
                unfold isDig at h'
                simp at h'
                omega
              go_wp2_with fail
              go_ret2
              exact ⟨by rw [N.out]; rfl, rfl⟩
          · skip
            have N : Hid (ans = none) := by
              show _ = _
              rw [← A.out, Dk.out, fin, if_neg (fun h => NC.out h.1), if_neg]
              rintro ⟨h, h2⟩
              have h' := h
              unfold isDig at h'
              simp at h'
              omega
            go_wp2_with fail
            go_ret2
            exact ⟨by rw [N.out]; rfl, rfl⟩
      · by_cases c46 : (r[k].toNat : Int) = 46
        · have b46 : ((r[k].toNat : Int) == 46) = true := beq_iff_eq.2 c46
          have N : Hid (ans = none) := by
            show _ = _
            rw [← A.out, Dk.out, fin, if_neg]
            rintro ⟨h, h2⟩
            have h' := h
            unfold isDig at h'
            simp at h'
            omega
          go_wp2_with fail
          go_ret2
          exact ⟨by rw [N.out]; rfl, rfl⟩
        · have b46 : ((r[k].toNat : Int) == 46) = false := beq_eq_false_iff_ne.2 c46
          clear c46
          by_cases d1 : 48 ≤ (r[k].toNat : Int)
          · by_cases d2 : (r[k].toNat : Int) ≤ 57
            · by_cases hd : d < 15
              · skip
                have hp : n < 100000000000000 := Nat.lt_of_lt_of_le hn.out (Nat.pow_le_pow_right (j := 14) (by omega) (by omega))
                have G : Hid (isDig r[k] = true) := by
                  show _ = _
                  unfold isDig
                  simp
                  omega
                have F : Hid (fin (r.data.toList.drop (k + 1)) (n * 10 + (r[k].toNat - 48)) (d + 1) (some (b + 1)) = ans) := by
                  show _ = _
                  rw [← A.out, Dk.out, fin, if_pos ⟨G.out, hd⟩]
                have hn2 : Hid (n * 10 + (r[k].toNat - 48) < 10 ^ (d + 1)) := by
                  show _ < _
                  have := hn.out
                  rw [Nat.pow_succ]
                  omega
                go_wp2_with fail
                exact ⟨⟨k + 1, n * 10 + (r[k].toNat - 48), d + 1, by omega, by go_num, by congr 1; omega, by go_num, by omega, hn2, .inr ⟨b + 1, q, rfl, (show q + (b + 1) + 1 = k + 1 by have := hq1.out; omega), (show d + 1 + 1 = k + 1 by have := hq2.out; omega), hq3, F⟩⟩, by simp [intOf]; omega⟩
              · skip
                have N : Hid (ans = none) := by
                  show _ = _
                  rw [← A.out, Dk.out, fin, if_neg]
                  rintro ⟨h, h2⟩
                  omega
                go_wp2_with fail
                go_ret2
                exact ⟨by rw [N.out]; rfl, rfl⟩
            · skip
              have N : Hid (ans = none) := by
                show _ = _
                rw [← A.out, Dk.out, fin, if_neg]
                rintro ⟨h, h2⟩
                have h' := h
                unfold isDig at h'
                simp at h'
                omega
              go_wp2_with fail
              go_ret2
              exact ⟨by rw [N.out]; rfl, rfl⟩
          · skip
            have N : Hid (ans = none) := by
              show _ = _
              rw [← A.out, Dk.out, fin, if_neg]
              rintro ⟨h, h2⟩
              have h' := h
              unfold isDig at h'
              simp at h'
              omega
            go_wp2_with fail
            go_ret2
            exact ⟨by rw [N.out]; rfl, rfl⟩
    · have hkz : k = r.size := by omega
      have Dn : Hid (r.data.toList.drop k = []) := List.drop_eq_nil_of_le (by rw [hkz]; simp)
      have hn53 : n < 9007199254740992 := Nat.lt_of_lt_of_le hn.out (Nat.le_trans (Nat.pow_le_pow_right (j := 15) (by omega) hd15) (by decide))
      rcases hst with ⟨rfl, hdk, A⟩ | ⟨b, q, rfl, hq1, hq2, hq3, A⟩
      · by_cases hd0 : d = 0
        · have N : Hid (ans = none) := by
            show _ = _
            rw [← A.out, Dn.out, fin, if_pos hd0]
          have b0 : ((d : Int) == 0) = true := beq_iff_eq.2 (by omega)
          clear hd0
          subst hkz
          go_wp2_with fail
          go_ret2
          exact ⟨by rw [N.out]; rfl, rfl⟩
        · have S : Hid (ans = some (n, 0)) := by
            show _ = _
            rw [← A.out, Dn.out, fin, if_neg hd0]
          have b0 : ((d : Int) == 0) = false := beq_eq_false_iff_ne.2 (by omega)
          have b1 : ((-1 : Int) == (r.size : Int) - 1) = false := beq_eq_false_iff_ne.2 (by have := hdk.out; omega)
          have hq : ∀ (t : TypeId) (w : World), (binOp .quo t (.float .f64 (floatOfInt .f64 (n : Int))) (.float .f64 (floatOfInt .f64 1))).run Try.prog w = .ok (.float .f64 (Fl.quoW n 1)) w := quo_run n 1 hn53 (by omega) (by omega)
          have QP : Hid (Fl.quoW n 1 < 9223372036854775808) := quoW_pos hn53 (by omega) (by omega)
          have W0 : Hid (Fl.opp (Fl.quoW n 1) = ansW true (some (n, 0))) := by show _ = _; rw [ansW_true, Nat.pow_zero]
          generalize hZ : Fl.quoW n 1 = Z at *
          clear hZ hd0
          go_wp2_with fail
          go_loop [9, 10] (fun t i => t = .int .i64 1 ∧ i = .int .i64 0) (fun _ _ => 0)
          case atStart => exact ⟨rfl, rfl⟩
          case round =>
            obtain ⟨rfl, rfl⟩ := hrel
            go_wp2_with fail
            refine (copysign_neg _ QP.out _).mono ?_
            rintro e w' ⟨rfl, rfl⟩
            go_wp2_with fail
            go_ret2
            exact ⟨by rw [S.out]; exact congrArg (fun x => Ending.returned (.tuple #[.float .f64 x, .int .i64 0])) W0.out, rfl⟩
      · by_cases hb0 : b = 0
        · have N : Hid (ans = none) := by
            show _ = _
            rw [← A.out, Dn.out, fin, if_pos hb0]
          have b0 : ((d : Int) == 0) = false := beq_eq_false_iff_ne.2 (by have := hq2.out; have := hq1.out; have := hq3.out; omega)
          have b1 : ((q : Int) == (r.size : Int) - 1) = true := beq_iff_eq.2 (by have := hq1.out; omega)
          clear hkz
          go_wp2_with fail
          go_ret2
          exact ⟨by rw [N.out]; rfl, rfl⟩
        · have S : Hid (ans = some (n, b)) := by
            show _ = _
            rw [← A.out, Dn.out, fin, if_neg hb0]
          have b0 : ((d : Int) == 0) = false := beq_eq_false_iff_ne.2 (by have := hq2.out; have := hq1.out; have := hq3.out; omega)
          have b1 : ((q : Int) == (r.size : Int) - 1) = false := beq_eq_false_iff_ne.2 (by have := hq1.out; omega)
          have hqb : q + b + 1 = r.size := by have := hq1.out; omega
          have QB : Hid _ := hqb
          have hb15 : b ≤ 15 := by have := hq2.out; have := hq1.out; omega
          have hqs : (q : Int) + 1 ≤ r.size := by omega
          have hq := quo_run n (10 ^ b) hn53 (pow15 hb15).1 (pow15 hb15).2
          have QP : Hid (Fl.quoW n (10 ^ b) < 9223372036854775808) := quoW_pos hn53 (pow15 hb15).1 (pow15 hb15).2
          have W0 : Hid (Fl.opp (Fl.quoW n (10 ^ b)) = ansW true (some (n, b))) := by show _ = _; rw [ansW_true]
          generalize hZ : Fl.quoW n (10 ^ b) = Z at QP W0 hq
          generalize hM : (10 : Nat) ^ b = M at hq
          have HM : Hid _ := hM
          clear hZ hb0 hkz hqb hM
          go_wp2_with fail
          go_loop [9, 10] (fun t i => ∃ j : Nat, j ≤ b ∧ t = .int .i64 ((10 ^ j : Nat) : Int) ∧ i = .int .i64 ((q + 1 + j : Nat) : Int)) (fun _ i => r.size - (intOf i).toNat)
          case atStart => exact ⟨0, Nat.zero_le _, rfl, by go_num⟩
          case round =>
            obtain ⟨j, hj, rfl, rfl⟩ := hrel
            by_cases hjb : j < b
            · have hp : (10 : Nat) ^ j ≤ 10 ^ 14 := Nat.pow_le_pow_right (by omega) (by omega)
              have H : Hid (10 ^ (j + 1) = 10 ^ j * 10) := Nat.pow_succ 10 j
              generalize hP : (10 : Nat) ^ j = P at *
              have hi : q + 1 + j < r.size := by have := QB.out; omega
              generalize hI : q + 1 + j = I at *
              have HI : Hid _ := hI
              clear hP hI
              go_wp2_with fail
              go_round
              case rel => exact ⟨j + 1, by omega, by rw [H.out]; go_num, by have := HI.out; congr 1; omega⟩
              case measure => simp [intOf]; omega
            · have hj2 : j = b := by omega
              have hi : ¬ q + 1 + j < r.size := by have := QB.out; omega
              generalize hI : q + 1 + j = I at *
              clear hI
              rw [hj2, HM.out]
              clear hj2
              go_wp2_with fail
              refine (copysign_neg _ QP.out _).mono ?_
              rintro e w' ⟨rfl, rfl⟩
              go_wp2_with fail
              go_ret2
              exact ⟨by rw [S.out]; exact congrArg (fun x => Ending.returned (.tuple #[.float .f64 x, .int .i64 0])) W0.out, rfl⟩


theorem refParse_any (s : ByteArray) (hs : s.size ≤ 60) (h1 : (s.toList == [110, 97, 110]) = false) (h2 : (s.toList == [105, 110, 102]) = false) (h3 : (s.toList == [45, 105, 110, 102]) = false) (w : World) :
    Calls Try.prog 14 #[.string s] w fun e w' => e = .returned (.tuple #[.float .f64 (pW s), .int .i64 (pE s)]) ∧ w' = w := by
  obtain ⟨e1, e2⟩ := parse_ans h1 h2 h3
  rw [e1, e2]
  by_cases hz : 0 < s.size
  · have hm := minus_eq s hz
    cases hm2 : ((s[0].toNat : Int) == 45)
    · rw [hm2] at hm
      have hr : restB s = s := by unfold restB; rw [hm]; rfl
      rw [hm, hr]
      exact refParse_pos s hs h1 h2 h3 hz hm2 _ (show _ = _ from rfl) w
    · rw [hm2] at hm
      have hr : restB s = s.extract 1 s.size := by unfold restB; rw [hm]; rfl
      rw [hm]
      exact refParse_neg s (restB s) hr.symm hs (Nat.le_trans (rest_size s) hs) h1 h2 h3 hz hm2 _ (show _ = _ from rfl) w
  · have hm := minus_nil s hz
    have hr : restB s = s := by unfold restB; rw [hm]; rfl
    rw [hm, hr]
    exact refParse_nil s hs h1 h2 h3 hz _ (show _ = _ from rfl) w
end Go.Proofs.Ytjmjlhcmicljiaa
