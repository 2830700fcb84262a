/- How a byte and a run are shown. -/
import Derived.Test.YtkclkhfcmjhogaaDoorL1
import Derived.Laws.Runes
namespace Go.Proofs.YtkclkhfcmjhogaaDoor
open Go.RowKit
set_option linter.unusedVariables false

/-- The text of these bytes. -/
def str (l : List Nat) : ByteArray := ⟨(l.map UInt8.ofNat).toArray⟩
theorem str_append (l m : List Nat) : str l ++ str m = str (l ++ m) := by
  apply ByteArray.ext
  simp [str]
theorem str_size (l : List Nat) : (str l).size = l.length := by
  show ((l.map UInt8.ofNat).toArray).size = _
  simp
theorem bs_str (l : List Nat) (h : ∀ c ∈ l, c < 256) : bs (str l) = l := by
  unfold bs str
  simp only [List.map_map]
  conv => rhs; rw [← List.map_id l]
  apply List.map_congr_left
  intro c hc
  have := h c hc
  simp; omega
theorem str_bs (S : ByteArray) : str (bs S) = S := bs_inj (bs_str _ (bs_lt S))

theorem enc_one (c : Nat) (h : c < 128) : Utf8.encode (c : Int) = str [c] := by
  have hx : ∀ c : Fin 128, Utf8.encode (c.val : Int) = str [c.val] := by decide +kernel
  exact hx ⟨c, h⟩
theorem hex_run (k : Nat) (h : k < 16) (w : World) : (Instr.slice 9 (.string ⟨#[48, 49, 50, 51, 52, 53, 54, 55, 56, 57, 97, 98, 99, 100, 101, 102]⟩) (some (.int .u8 (k : Int))) (some (.int .u8 ((k : Int) + 1))) none).run Tryd.prog w = .ok (.string (str [hexd k])) w := by
  have hx : ∀ k : Fin 16, (⟨#[48, 49, 50, 51, 52, 53, 54, 55, 56, 57, 97, 98, 99, 100, 101, 102]⟩ : ByteArray).extract k.val (k.val + 1) = str [hexd k.val] := by decide +kernel
  rw [run_slice_string_if w 9 _ .u8 .u8 _ _ Tryd.underlying9, if_pos (by constructor; omega; show _ ≤ ((16 : Nat) : Int); omega), if_pos (by omega)]
  rw [show ((k : Int)).toNat = k from by omega, show ((k : Int) + 1).toNat = k + 1 from by omega, hx ⟨k, h⟩]

theorem lo4 (c : Nat) (h : c < 256) : bits .and .u8 (c : Int) 15 = ((c % 16 : Nat) : Int) := by
  have hx : ∀ c : Fin 256, bits .and .u8 ((c.val : Nat) : Int) 15 = ((c.val % 16 : Nat) : Int) := by decide +kernel
  exact hx ⟨c, h⟩
theorem mk_lt {c : Nat} (h : mk c = true) : c < 128 := by unfold mk at h; simp at h; omega
theorem seen_lt {c : Nat} (h : seen c = true) : c < 128 := by unfold seen at h; simp at h; omega

set_option maxHeartbeats 1000000 in
theorem signOf_any (c : Nat) (hc : c < 256) (w : World) : Calls Tryd.prog 76 #[.int .u8 (c : Int)] w fun e w' => e = .returned (.string (str (shn c))) ∧ ∃ n, w' = w.drewN n := by
  have hm := fun W => isMark_any c hc W
  have hs := fun W => isSeen_any c hc W
  cases h1 : mk c with
  | true =>
    have he := enc_one c (mk_lt h1)
    have hz : (str [c]).size = 1 := str_size _
    have hx : (⟨#[92]⟩ : ByteArray) ++ str [c] = str (shn c) := by
      rw [show (⟨#[92]⟩ : ByteArray) = str [92] from rfl, str_append, shn, if_pos h1]; rfl
    rw [h1] at hm
    clear h1 hs
    generalize str (shn c) = T at *
    go_enter Tryd.func76, Tryd.ntmps76
    go_wp2_with (go_at_call 93; refine (hm _).mono ?_; rintro e w' ⟨rfl, rfl⟩)
    go_ret
    exact ⟨rfl, 0, rfl⟩
  | false =>
    cases h2 : seen c with
    | true =>
      have he := enc_one c (seen_lt h2)
      have hx : str (shn c) = str [c] := by rw [shn, if_neg (by rw [h1]; simp), if_pos h2]
      rw [hx]
      rw [h1] at hm
      rw [h2] at hs
      clear h1 h2 hx
      go_enter Tryd.func76, Tryd.ntmps76
      go_wp2_with (first | (go_at_call 93; refine (hm _).mono ?_; rintro e w' ⟨rfl, rfl⟩) | (go_at_call 94; refine (hs _).mono ?_; rintro e w' ⟨rfl, rfl⟩))
      go_ret
      exact ⟨rfl, 0, rfl⟩
    | false =>
      have hx : str (shn c) = str [92, 120, hexd (c / 16), hexd (c % 16)] := by rw [shn, if_neg (by rw [h1]; simp), if_neg (by rw [h2]; simp)]
      rw [hx]
      rw [h1] at hm
      rw [h2] at hs
      clear h1 h2 hx
      have k1 := hex_run (c / 16) (by omega)
      have k2 := hex_run (c % 16) (by omega)
      have q1 : (c : Int) / 16 = ((c / 16 : Nat) : Int) := by omega
      have q2 := lo4 c hc
      have z1 : c / 16 < 16 := by omega
      have z2 : c % 16 < 16 := by omega
      generalize c / 16 = a at *
      generalize c % 16 = b at *
      have w1 : IntKind.u8.wrap ((a : Int) + 1) = (a : Int) + 1 := by rw [IntKind.wrap_u8]; omega
      have w2 : IntKind.u8.wrap ((b : Int) + 1) = (b : Int) + 1 := by rw [IntKind.wrap_u8]; omega
      have s1 : (⟨#[92, 120]⟩ : ByteArray) ++ str [hexd a] = str [92, 120, hexd a] := str_append [92, 120] [hexd a]
      have s2 : str [92, 120, hexd a] ++ str [hexd b] = str [92, 120, hexd a, hexd b] := str_append _ _
      have y1 : (str [hexd a]).size = 1 := str_size _
      have y2 : (str [hexd b]).size = 1 := str_size _
      have y3 : (str [92, 120, hexd a]).size = 3 := str_size _
      generalize str [hexd a] = A at *
      generalize str [hexd b] = B at *
      generalize str [92, 120, hexd a] = C at *
      generalize str [92, 120, hexd a, hexd b] = D at *
      go_enter Tryd.func76, Tryd.ntmps76
      go_wp2_with (first | (go_at_call 93; refine (hm _).mono ?_; rintro e w' ⟨rfl, rfl⟩) | (go_at_call 94; refine (hs _).mono ?_; rintro e w' ⟨rfl, rfl⟩))
      go_quiet (fail)
      go_wp2_with fail
      go_ret
      exact ⟨rfl, _, rfl⟩

theorem drew_add (w : World) (n m : Nat) : (w.drewN n).drewN m = w.drewN (n + m) := by
  simp [World.drewN, Nat.add_assoc]
theorem sign_quiet (c : Nat) (hc : c < 256) (w : World) (n : Nat) : Calls Tryd.prog 76 #[.int .u8 (c : Int)] (w.drewN n) fun e w'' => e = .returned (.string (str (shn c))) ∧ ∃ m, w'' = w.drewN m :=
  (signOf_any c hc (w.drewN n)).mono fun _ _ ⟨he, m, hm⟩ => ⟨he, n + m, by rw [hm, drew_add]⟩
theorem shn_le (c : Nat) : (shn c).length ≤ 4 := by
  unfold shn; split
  · simp
  · split <;> simp

set_option maxHeartbeats 1000000 in
theorem show_one (a : Nat) (ha : a < 256) (w : World) : Calls Tryd.prog 79 #[.agg #[.int .u8 (a : Int), .int .u8 (a : Int)]] w fun e w' => e = .returned (.string (str (shn a))) ∧ Hid (Qt w w') := by
  go_enter Tryd.func79, Tryd.ntmps79
  go_wp2_with (go_at_call 76; refine (signOf_any a ha _).mono ?_; rintro e w1 ⟨rfl, n, hw⟩)
  go_ret
  exact ⟨rfl, ((Qt.refl w).alloc _).comp (Mv.drewN _ _ n)⟩
set_option maxHeartbeats 1000000 in
theorem show_two (a b : Nat) (ha : a < 256) (hb : b < 256) (hab : b = a + 1) (w : World) : Calls Tryd.prog 79 #[.agg #[.int .u8 (a : Int), .int .u8 (b : Int)]] w fun e w' => e = .returned (.string (str (shn a ++ shn b))) ∧ Hid (Qt w w') := by
  have h1 : (b : Int) - (a : Int) = 1 := by omega
  have h2 : IntKind.u8.wrap ((b : Int) - (a : Int)) = 1 := by rw [h1]; rfl
  have hx := str_append (shn a) (shn b)
  have y1 : (str (shn a)).size ≤ 4 := by rw [str_size]; exact shn_le a
  have y2 : (str (shn b)).size ≤ 4 := by rw [str_size]; exact shn_le b
  have k1 := sign_quiet a ha
  have k2 := sign_quiet b hb
  clear hab
  generalize str (shn a) = A at *
  generalize str (shn b) = B at *
  generalize str (shn a ++ shn b) = C at *
  go_enter Tryd.func79, Tryd.ntmps79
  go_wp2_with fail
  have c0 : (w.alloc (.cells #[.int .u8 (a : Int), .int .u8 (b : Int)] 99)).cell? ⟨w.heap.size, 0, none⟩ = some (.int .u8 (a : Int)) := by simp
  have c1 : (w.alloc (.cells #[.int .u8 (a : Int), .int .u8 (b : Int)] 99)).cell? ⟨w.heap.size, 1, none⟩ = some (.int .u8 (b : Int)) := by simp
  have Q : Hid (Qt w (w.alloc (.cells #[.int .u8 (a : Int), .int .u8 (b : Int)] 99))) := (Qt.refl w).alloc _
  generalize w.alloc (.cells #[.int .u8 (a : Int), .int .u8 (b : Int)] 99) = W at *
  go_quiet ((first | (go_at_call 76; with_reducible exact k1 _ _) | (go_at_call 76; with_reducible exact k2 _ _)))
  go_wp2_with fail
  go_ret
  exact ⟨rfl, Q.out.comp (Mv.drewN _ _ _)⟩

set_option maxHeartbeats 1000000 in
theorem show_more (a b d : Nat) (ha : a < 256) (hb : b < 256) (hab : b = a + d) (hd : 2 ≤ d) (w : World) : Calls Tryd.prog 79 #[.agg #[.int .u8 (a : Int), .int .u8 (b : Int)]] w fun e w' => e = .returned (.string (str (shn a ++ 45 :: shn b))) ∧ Hid (Qt w w') := by
  have h1 : (b : Int) - (a : Int) = (d : Int) := by omega
  have h2 : IntKind.u8.wrap (d : Int) = (d : Int) := by rw [IntKind.wrap_u8]; omega
  have h3 : ((d : Int) == 0) = false := by simp; omega
  have h4 : ((d : Int) == 1) = false := by simp; omega
  have hx : str (shn a) ++ (⟨#[45]⟩ : ByteArray) = str (shn a ++ [45]) := str_append (shn a) [45]
  have hx2 : str (shn a ++ [45]) ++ str (shn b) = str (shn a ++ 45 :: shn b) := by rw [str_append]; simp
  have y1 : (str (shn a)).size ≤ 4 := by rw [str_size]; exact shn_le a
  have y2 : (str (shn b)).size ≤ 4 := by rw [str_size]; exact shn_le b
  have y3 : (str (shn a ++ [45])).size ≤ 5 := by rw [str_size]; have := shn_le a; simp; omega
  have k1 := sign_quiet a ha
  have k2 := sign_quiet b hb
  clear hab hd
  generalize str (shn a) = A at *
  generalize str (shn b) = B at *
  generalize str (shn a ++ [45]) = C at *
  generalize str (shn a ++ 45 :: shn b) = D at *
  go_enter Tryd.func79, Tryd.ntmps79
  go_wp2_with fail
  have c0 : (w.alloc (.cells #[.int .u8 (a : Int), .int .u8 (b : Int)] 99)).cell? ⟨w.heap.size, 0, none⟩ = some (.int .u8 (a : Int)) := by simp
  have c1 : (w.alloc (.cells #[.int .u8 (a : Int), .int .u8 (b : Int)] 99)).cell? ⟨w.heap.size, 1, none⟩ = some (.int .u8 (b : Int)) := by simp
  have Q : Hid (Qt w (w.alloc (.cells #[.int .u8 (a : Int), .int .u8 (b : Int)] 99))) := (Qt.refl w).alloc _
  generalize w.alloc (.cells #[.int .u8 (a : Int), .int .u8 (b : Int)] 99) = W at *
  go_quiet ((first | (go_at_call 76; with_reducible exact k1 _ _) | (go_at_call 76; with_reducible exact k2 _ _)))
  go_wp2_with fail
  go_ret
  exact ⟨rfl, Q.out.comp (Mv.drewN _ _ _)⟩

theorem show_any (a b : Nat) (hab : a ≤ b) (hb : b < 256) (w : World) : Calls Tryd.prog 79 #[.agg #[.int .u8 (a : Int), .int .u8 (b : Int)]] w fun e w' => e = .returned (.string (str (rtx (a, b)))) ∧ Hid (Qt w w') := by
  unfold rtx
  simp only
  by_cases h1 : b = a
  · rw [if_pos h1, h1]
    exact show_one a (by omega) w
  · rw [if_neg h1]
    by_cases h2 : b = a + 1
    · rw [if_pos h2]
      exact show_two a b (by omega) hb h2 w
    · rw [if_neg h2]
      exact show_more a b (b - a) (by omega) hb (by omega) (by omega) w

end Go.Proofs.YtkclkhfcmjhogaaDoor
