/- FoldEdges: the call returns true. -/
import Derived.Test.YthfadeoanjjiaaaH1
namespace Go.Proofs.Ythfadeoanjjiaaa
open Go.RowKit Srt

set_option maxHeartbeats 400000 in
theorem copysign_zero (w : World) :
    Calls Try.prog 25 #[.float .f64 0, .float .f64 13830554455654793216] w fun e w' => e = .returned (.float .f64 9223372036854775808) ∧ w' = w := by
  have h := bits_ext
  have k := frombits_ext
  go_enter Try.func25, Try.ntmps25
  go_wp2
  go_ret
  exact ⟨rfl, rfl⟩

set_option maxRecDepth 100000 in
set_option maxHeartbeats 40000000 in
theorem edges_walk (w : World) : Calls Try.prog 5 #[] w fun e w' => e = .returned (.bool true) ∧ Below w.heap.size w w' := by
  have hneg : ∀ w, (Op.unary .neg (.float .f64 9218868437227405312)).run Try.prog w = .ok (.float .f64 18442240474082181120) w := fun w => (neg_at (okw (by decide)) w).trans (by rw [show Fl.opp 9218868437227405312 = 18442240474082181120 from by decide +kernel])
  go_enter Try.func5, Try.ntmps5
  go_wp2_with fail
  refine (inf_pos _).mono ?_
  rintro e w' ⟨rfl, rfl⟩
  go_wp2_with fail
  refine (nan_raw _).mono ?_
  rintro e w' ⟨rfl, rfl⟩
  go_wp2_with fail
  refine (copysign_zero _).mono ?_
  rintro e w' ⟨rfl, rfl⟩
  have s1 : Hid _ := sl_lit w' [9221120237041090561, 0, 9223372036854775808, 9221120237041090561] _ rfl
  go_wp2_with fail
  refine (least_any _ 4 4 _ _ (by omega) s1 (ok_list (by decide))).mono ?_
  rintro e W1 ⟨⟨x, is, rfl, hx⟩, hw⟩
  obtain ⟨rfl, rfl⟩ := ext_is hx.out 2 (by omega) (by decide +kernel) (by decide +kernel)
  rw [show at' [9221120237041090561, 0, 9223372036854775808, 9221120237041090561] 2 = 9223372036854775808 from rfl]
  have b1 : Hid (Below w'.heap.size w' W1) := by show Below _ _ _; rw [hw]; exact (Below.refl _ _).alloc (Nat.le_refl _) _
  clear hx hw s1
  have s2 : Hid _ := sl_lit W1 [9221120237041090561, 9223372036854775808, 0] _ rfl
  go_wp2_with fail
  refine (most_any _ 3 3 _ _ (by omega) s2 (ok_list (by decide))).mono ?_
  rintro e W2 ⟨⟨x, is, rfl, hx⟩, hw⟩
  obtain ⟨rfl, rfl⟩ := ext_is hx.out 2 (by omega) (by decide +kernel) (by decide +kernel)
  rw [show at' [9221120237041090561, 9223372036854775808, 0] 2 = 0 from rfl]
  have b2 : Hid (Below w'.heap.size w' W2) := by show Below _ _ _; rw [hw]; exact b1.out.alloc b1.out.size _
  clear hx hw s2 b1
  have s3 : Hid _ := sl_lit W2 [9221120237041090561] _ rfl
  go_wp2_with fail
  refine (least_any _ 1 1 _ _ (by omega) s3 (ok_list (by decide))).mono ?_
  rintro e W3 ⟨⟨x, is, rfl, hx⟩, hw⟩
  obtain rfl := ext_none hx.out (by decide +kernel)
  have b3 : Hid (Below w'.heap.size w' W3) := by show Below _ _ _; rw [hw]; exact b2.out.alloc b2.out.size _
  clear hx hw s3 b2
  go_wp2_with fail
  refine (begun_any _).mono ?_
  rintro e W4 ⟨rfl, hb⟩
  have b4 : Hid (Below w'.heap.size w' W4) := chain b3.out hb
  clear hb b3
  go_wp2_with fail
  refine (times_any 9218868437227405312 0 _).mono ?_
  rintro e W5 ⟨r5, q, rfl, hr, hw⟩
  have r5n := got_nan hr.out (show Ieee.double.mul 9218868437227405312 (floatOfInt .f64 0) = none by decide +kernel)
  have r5o : Hid (Fl.Ok r5) := hr.out.ok
  have r5s : Hid ((ordB r5 9221120237041090561 == 0) = true) := by show _ = _; rw [ordB_nan r5n nan_word]; rfl
  clear r5n
  have b5 : Hid (Below w'.heap.size w' W5) := by show Below _ _ _; rw [hw]; exact b4.out.trans (below_drewN _ _ _)
  clear hr hw b4
  go_wp2_with fail
  refine (refSame_any r5 9221120237041090561 r5o.out (okw (by decide)) _).mono ?_
  rintro e wx ⟨rfl, hx⟩
  obtain rfl := hx.symm
  clear hx
  rw [r5s.out]
  go_wp2_with fail
  refine (times_any 9223372036854775808 3 _).mono ?_
  rintro e W6 ⟨r, q, rfl, hr, hw⟩
  obtain rfl := got_lit hr.out (show Ieee.double.mul 9223372036854775808 (floatOfInt .f64 3) = some 9223372036854775808 by decide +kernel)
  have b6 : Hid (Below w'.heap.size w' W6) := by show Below _ _ _; rw [hw]; exact b5.out.trans (below_drewN _ _ _)
  clear hr hw b5
  go_wp2_with fail
  refine (refSame_any 9223372036854775808 9223372036854775808 (okw (by decide)) (okw (by decide)) _).mono ?_
  rintro e wx ⟨rfl, hx⟩
  obtain rfl := hx.symm
  clear hx
  rw [show (ordB 9223372036854775808 9223372036854775808 == 0) = true from by decide +kernel]
  go_wp2_with fail
  refine (times_any 13830554455654793216 0 _).mono ?_
  rintro e W7 ⟨r, q, rfl, hr, hw⟩
  obtain rfl := got_lit hr.out (show Ieee.double.mul 13830554455654793216 (floatOfInt .f64 0) = some 9223372036854775808 by decide +kernel)
  have b7 : Hid (Below w'.heap.size w' W7) := by show Below _ _ _; rw [hw]; exact b6.out.trans (below_drewN _ _ _)
  clear hr hw b6
  go_wp2_with fail
  refine (refSame_any 9223372036854775808 9223372036854775808 (okw (by decide)) (okw (by decide)) _).mono ?_
  rintro e wx ⟨rfl, hx⟩
  obtain rfl := hx.symm
  clear hx
  rw [show (ordB 9223372036854775808 9223372036854775808 == 0) = true from by decide +kernel]
  have s8 : Hid _ := sl_lit W7 [9223372036854775808] _ rfl
  go_wp2_with fail
  refine (sum_any _ 1 1 _ _ (by omega) s8).mono ?_
  rintro e W8 ⟨r, rfl, hr, hb⟩
  obtain rfl := got_lit hr.out (show sumO (at' [9223372036854775808]) 1 = some 0 by decide +kernel)
  have b8 : Hid (Below w'.heap.size w' W8) := chain (b7.out.alloc b7.out.size _) hb
  clear hr hb s8 b7
  go_wp2_with fail
  refine (refSame_any 0 0 (okw (by decide)) (okw (by decide)) _).mono ?_
  rintro e wx ⟨rfl, hx⟩
  obtain rfl := hx.symm
  clear hx
  rw [show (ordB 0 0 == 0) = true from by decide +kernel]
  have s9 : Hid _ := sl_lit W8 [9218868437227405312, 18442240474082181120] _ rfl
  go_wp2_with fail
  refine (sum_any _ 2 2 _ _ (by omega) s9).mono ?_
  rintro e W9 ⟨r9, rfl, hr, hb⟩
  have r9n := got_nan hr.out (show sumO (at' [9218868437227405312, 18442240474082181120]) 2 = none by decide +kernel)
  have r9o : Hid (Fl.Ok r9) := hr.out.ok
  have r9s : Hid ((ordB r9 9221120237041090561 == 0) = true) := by show _ = _; rw [ordB_nan r9n nan_word]; rfl
  clear r9n
  have b9 : Hid (Below w'.heap.size w' W9) := chain (b8.out.alloc b8.out.size _) hb
  clear hr hb s9 b8
  go_wp2_with fail
  refine (refSame_any r9 9221120237041090561 r9o.out (okw (by decide)) _).mono ?_
  rintro e wx ⟨rfl, hx⟩
  obtain rfl := hx.symm
  clear hx
  rw [r9s.out]
  have s10 : Hid _ := sl_lit W9 [18442240474082181120, 4617315517961601024] _ rfl
  go_wp2_with fail
  refine (sum_any _ 2 2 _ _ (by omega) s10).mono ?_
  rintro e W10 ⟨r, rfl, hr, hb⟩
  obtain rfl := got_lit hr.out (show sumO (at' [18442240474082181120, 4617315517961601024]) 2 = some 18442240474082181120 by decide +kernel)
  have b10 : Hid (Below w'.heap.size w' W10) := chain (b9.out.alloc b9.out.size _) hb
  clear hr hb s10 b9
  go_wp2_with fail
  refine (refSame_any 18442240474082181120 18442240474082181120 (okw (by decide)) (okw (by decide)) _).mono ?_
  rintro e wx ⟨rfl, hx⟩
  obtain rfl := hx.symm
  clear hx
  rw [show (ordB 18442240474082181120 18442240474082181120 == 0) = true from by decide +kernel]
  go_wp2_with fail
  refine (refSame_any 9223372036854775808 9223372036854775808 (okw (by decide)) (okw (by decide)) _).mono ?_
  rintro e wx ⟨rfl, hx⟩
  obtain rfl := hx.symm
  clear hx
  rw [show (ordB 9223372036854775808 9223372036854775808 == 0) = true from by decide +kernel]
  go_wp2_with fail
  refine (refSame_any 0 0 (okw (by decide)) (okw (by decide)) _).mono ?_
  rintro e wx ⟨rfl, hx⟩
  obtain rfl := hx.symm
  clear hx
  rw [show (ordB 0 0 == 0) = true from by decide +kernel]
  have s11 : Hid _ := sl_lit W10 [9214871658872686752, 9214871658872686752, 18442240474082181120] _ rfl
  go_wp2_with fail
  refine (sum_any _ 3 3 _ _ (by omega) s11).mono ?_
  rintro e W11 ⟨r11, rfl, hr, hb⟩
  have r11n := got_nan hr.out (show sumO (at' [9214871658872686752, 9214871658872686752, 18442240474082181120]) 3 = none by decide +kernel)
  have r11o : Hid (Fl.Ok r11) := hr.out.ok
  have r11s : Hid ((ordB r11 9221120237041090561 == 0) = true) := by show _ = _; rw [ordB_nan r11n nan_word]; rfl
  clear r11n
  have b11 : Hid (Below w'.heap.size w' W11) := chain (b10.out.alloc b10.out.size _) hb
  clear hr hb s11 b10
  go_wp2_with fail
  refine (refSame_any r11 9221120237041090561 r11o.out (okw (by decide)) _).mono ?_
  rintro e wx ⟨rfl, hx⟩
  obtain rfl := hx.symm
  clear hx
  rw [r11s.out]
  go_wp2_with fail
  go_ret
  exact ⟨rfl, b11.out⟩

end Go.Proofs.Ythfadeoanjjiaaa
