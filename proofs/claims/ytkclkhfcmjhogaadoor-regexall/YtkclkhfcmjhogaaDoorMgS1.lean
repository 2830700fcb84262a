/- How a byte and a run are shown. -/
import Derived.Test.YtkclkhfcmjhogaaDoorMgL
import Derived.Laws.Runes
namespace Go.Proofs.YtkclkhfcmjhogaaDoor
open Go.RowKit
set_option linter.unusedVariables false

/-- The text of these bytes. -/
def str (l : List Nat) : ByteArray := ⟨(l.map UInt8.ofNat).toArray⟩
theorem str_append (l m : List Nat) : str l ++ str m = str (l ++ m) := by
  apply ByteArray.ext
  simp [str]
theorem str_size (l : List Nat) : (str l).size = l.length := by
  show ((l.map UInt8.ofNat).toArray).size = _
  simp
theorem bs_str (l : List Nat) (h : ∀ c ∈ l, c < 256) : bs (str l) = l := by
  unfold bs str
  simp only [List.map_map]
  conv => rhs; rw [← List.map_id l]
  apply List.map_congr_left
  intro c hc
  have := h c hc
  simp; omega
theorem str_bs (S : ByteArray) : str (bs S) = S := bs_inj (bs_str _ (bs_lt S))

theorem enc_one (c : Nat) (h : c < 128) : Utf8.encode (c : Int) = str [c] := by
  have hx : ∀ c : Fin 128, Utf8.encode (c.val : Int) = str [c.val] := by decide +kernel
  exact hx ⟨c, h⟩
theorem hex_run (k : Nat) (h : k < 16) (w : World) : (Instr.slice 9 (.string ⟨#[48, 49, 50, 51, 52, 53, 54, 55, 56, 57, 97, 98, 99, 100, 101, 102]⟩) (some (.int .u8 (k : Int))) (some (.int .u8 ((k : Int) + 1))) none).run Tryd.prog w = .ok (.string (str [hexd k])) w := by
  have hx : ∀ k : Fin 16, (⟨#[48, 49, 50, 51, 52, 53, 54, 55, 56, 57, 97, 98, 99, 100, 101, 102]⟩ : ByteArray).extract k.val (k.val + 1) = str [hexd k.val] := by decide +kernel
  rw [run_slice_string_if w 9 _ .u8 .u8 _ _ Tryd.underlying9, if_pos (by constructor; omega; show _ ≤ ((16 : Nat) : Int); omega), if_pos (by omega)]
  rw [show ((k : Int)).toNat = k from by omega, show ((k : Int) + 1).toNat = k + 1 from by omega, hx ⟨k, h⟩]

theorem lo4 (c : Nat) (h : c < 256) : bits .and .u8 (c : Int) 15 = ((c % 16 : Nat) : Int) := by
  have hx : ∀ c : Fin 256, bits .and .u8 ((c.val : Nat) : Int) 15 = ((c.val % 16 : Nat) : Int) := by decide +kernel
  exact hx ⟨c, h⟩
theorem mk_lt {c : Nat} (h : mk c = true) : c < 128 := by unfold mk at h; simp at h; omega
theorem seen_lt {c : Nat} (h : seen c = true) : c < 128 := by unfold seen at h; simp at h; omega

set_option maxHeartbeats 1000000 in
theorem signOf_any (c : Nat) (hc : c < 256) (w : World) : Calls Tryd.prog 76 #[.int .u8 (c : Int)] w fun e w' => e = .returned (.string (str (shn c))) ∧ ∃ n, w' = w.drewN n := by
  have hm := fun W => isMark_any c hc W
  have hs := fun W => isSeen_any c hc W
  cases h1 : mk c with
  | true =>
    have he := enc_one c (mk_lt h1)
    have hz : (str [c]).size = 1 := str_size _
    have hx : (⟨#[92]⟩ : ByteArray) ++ str [c] = str (shn c) := by
      rw [show (⟨#[92]⟩ : ByteArray) = str [92] from rfl, str_append, shn, if_pos h1]; rfl
    rw [h1] at hm
    clear h1 hs
    generalize str (shn c) = T at *
    go_enter Tryd.func76, Tryd.ntmps76
    go_wp2_with (go_at_call 93; refine (hm _).mono ?_; rintro e w' ⟨rfl, rfl⟩)
    go_ret
    exact ⟨rfl, 0, rfl⟩
  | false =>
    cases h2 : seen c with
    | true =>
      have he := enc_one c (seen_lt h2)
      have hx : str (shn c) = str [c] := by rw [shn, if_neg (by rw [h1]; simp), if_pos h2]
      rw [hx]
      rw [h1] at hm
      rw [h2] at hs
      clear h1 h2 hx
      go_enter Tryd.func76, Tryd.ntmps76
      go_wp2_with (first | (go_at_call 93; refine (hm _).mono ?_; rintro e w' ⟨rfl, rfl⟩) | (go_at_call 94; refine (hs _).mono ?_; rintro e w' ⟨rfl, rfl⟩))
      go_ret
      exact ⟨rfl, 0, rfl⟩
    | false =>
      have hx : str (shn c) = str [92, 120, hexd (c / 16), hexd (c % 16)] := by rw [shn, if_neg (by rw [h1]; simp), if_neg (by rw [h2]; simp)]
      rw [hx]
      rw [h1] at hm
      rw [h2] at hs
      clear h1 h2 hx
      have k1 := hex_run (c / 16) (by omega)
      have k2 := hex_run (c % 16) (by omega)
      have q1 : (c : Int) / 16 = ((c / 16 : Nat) : Int) := by omega
      have q2 := lo4 c hc
      have z1 : c / 16 < 16 := by omega
      have z2 : c % 16 < 16 := by omega
      generalize c / 16 = a at *
      generalize c % 16 = b at *
      have w1 : IntKind.u8.wrap ((a : Int) + 1) = (a : Int) + 1 := by rw [IntKind.wrap_u8]; omega
      have w2 : IntKind.u8.wrap ((b : Int) + 1) = (b : Int) + 1 := by rw [IntKind.wrap_u8]; omega
      have s1 : (⟨#[92, 120]⟩ : ByteArray) ++ str [hexd a] = str [92, 120, hexd a] := str_append [92, 120] [hexd a]
      have s2 : str [92, 120, hexd a] ++ str [hexd b] = str [92, 120, hexd a, hexd b] := str_append _ _
      have y1 : (str [hexd a]).size = 1 := str_size _
      have y2 : (str [hexd b]).size = 1 := str_size _
      have y3 : (str [92, 120, hexd a]).size = 3 := str_size _
      generalize str [hexd a] = A at *
      generalize str [hexd b] = B at *
      generalize str [92, 120, hexd a] = C at *
      generalize str [92, 120, hexd a, hexd b] = D at *
      go_enter Tryd.func76, Tryd.ntmps76
      go_wp2_with (first | (go_at_call 93; refine (hm _).mono ?_; rintro e w' ⟨rfl, rfl⟩) | (go_at_call 94; refine (hs _).mono ?_; rintro e w' ⟨rfl, rfl⟩))
      go_quiet (fail)
      go_wp2_with fail
      go_ret
      exact ⟨rfl, _, rfl⟩

theorem drew_add (w : World) (n m : Nat) : (w.drewN n).drewN m = w.drewN (n + m) := by
  simp [World.drewN, Nat.add_assoc]
theorem sign_quiet (c : Nat) (hc : c < 256) (w : World) (n : Nat) : Calls Tryd.prog 76 #[.int .u8 (c : Int)] (w.drewN n) fun e w'' => e = .returned (.string (str (shn c))) ∧ ∃ m, w'' = w.drewN m :=
  (signOf_any c hc (w.drewN n)).mono fun _ _ ⟨he, m, hm⟩ => ⟨he, n + m, by rw [hm, drew_add]⟩
theorem shn_le (c : Nat) : (shn c).length ≤ 4 := by
  unfold shn; split
  · simp
  · split <;> simp

set_option maxHeartbeats 1000000 in
theorem show_one (a : Nat) (ha : a < 256) (w : World) : Calls Tryd.prog 79 #[.agg #[.int .u8 (a : Int), .int .u8 (a : Int)]] w fun e w' => e = .returned (.string (str (shn a))) ∧ Hid (Qt w w') := by
  go_enter Tryd.func79, Tryd.ntmps79
  go_wp2_with (go_at_call 76; refine (signOf_any a ha _).mono ?_; rintro e w1 ⟨rfl, n, hw⟩)
  go_ret
  exact ⟨rfl, ((Qt.refl w).alloc _).comp (Mv.drewN _ _ n)⟩
set_option maxHeartbeats 1000000 in
theorem show_two (a b : Nat) (ha : a < 256) (hb : b < 256) (hab : b = a + 1) (w : World) : Calls Tryd.prog 79 #[.agg #[.int .u8 (a : Int), .int .u8 (b : Int)]] w fun e w' => e = .returned (.string (str (shn a ++ shn b))) ∧ Hid (Qt w w') := by
  have h1 : (b : Int) - (a : Int) = 1 := by omega
  have h2 : IntKind.u8.wrap ((b : Int) - (a : Int)) = 1 := by rw [h1]; rfl
  have hx := str_append (shn a) (shn b)
  have y1 : (str (shn a)).size ≤ 4 := by rw [str_size]; exact shn_le a
  have y2 : (str (shn b)).size ≤ 4 := by rw [str_size]; exact shn_le b
  have k1 := sign_quiet a ha
  have k2 := sign_quiet b hb
  clear hab
  generalize str (shn a) = A at *
  generalize str (shn b) = B at *
  generalize str (shn a ++ shn b) = C at *
  go_enter Tryd.func79, Tryd.ntmps79
  go_wp2_with fail
  have c0 : (w.alloc (.cells #[.int .u8 (a : Int), .int .u8 (b : Int)] 99)).cell? ⟨w.heap.size, 0, none⟩ = some (.int .u8 (a : Int)) := by simp
  have c1 : (w.alloc (.cells #[.int .u8 (a : Int), .int .u8 (b : Int)] 99)).cell? ⟨w.heap.size, 1, none⟩ = some (.int .u8 (b : Int)) := by simp
  have Q : Hid (Qt w (w.alloc (.cells #[.int .u8 (a : Int), .int .u8 (b : Int)] 99))) := (Qt.refl w).alloc _
  generalize w.alloc (.cells #[.int .u8 (a : Int), .int .u8 (b : Int)] 99) = W at *
  go_quiet ((first | (go_at_call 76; with_reducible exact k1 _ _) | (go_at_call 76; with_reducible exact k2 _ _)))
  go_wp2_with fail
  go_ret
  exact ⟨rfl, Q.out.comp (Mv.drewN _ _ _)⟩

set_option maxHeartbeats 1000000 in
theorem show_more (a b d : Nat) (ha : a < 256) (hb : b < 256) (hab : b = a + d) (hd : 2 ≤ d) (w : World) : Calls Tryd.prog 79 #[.agg #[.int .u8 (a : Int), .int .u8 (b : Int)]] w fun e w' => e = .returned (.string (str (shn a ++ 45 :: shn b))) ∧ Hid (Qt w w') := by
  have h1 : (b : Int) - (a : Int) = (d : Int) := by omega
  have h2 : IntKind.u8.wrap (d : Int) = (d : Int) := by rw [IntKind.wrap_u8]; omega
  have h3 : ((d : Int) == 0) = false := by simp; omega
  have h4 : ((d : Int) == 1) = false := by simp; omega
  have hx : str (shn a) ++ (⟨#[45]⟩ : ByteArray) = str (shn a ++ [45]) := str_append (shn a) [45]
  have hx2 : str (shn a ++ [45]) ++ str (shn b) = str (shn a ++ 45 :: shn b) := by rw [str_append]; simp
  have y1 : (str (shn a)).size ≤ 4 := by rw [str_size]; exact shn_le a
  have y2 : (str (shn b)).size ≤ 4 := by rw [str_size]; exact shn_le b
  have y3 : (str (shn a ++ [45])).size ≤ 5 := by rw [str_size]; have := shn_le a; simp; omega
  have k1 := sign_quiet a ha
  have k2 := sign_quiet b hb
  clear hab hd
  generalize str (shn a) = A at *
  generalize str (shn b) = B at *
  generalize str (shn a ++ [45]) = C at *
  generalize str (shn a ++ 45 :: shn b) = D at *
  go_enter Tryd.func79, Tryd.ntmps79
  go_wp2_with fail
  have c0 : (w.alloc (.cells #[.int .u8 (a : Int), .int .u8 (b : Int)] 99)).cell? ⟨w.heap.size, 0, none⟩ = some (.int .u8 (a : Int)) := by simp
  have c1 : (w.alloc (.cells #[.int .u8 (a : Int), .int .u8 (b : Int)] 99)).cell? ⟨w.heap.size, 1, none⟩ = some (.int .u8 (b : Int)) := by simp
  have Q : Hid (Qt w (w.alloc (.cells #[.int .u8 (a : Int), .int .u8 (b : Int)] 99))) := (Qt.refl w).alloc _
  generalize w.alloc (.cells #[.int .u8 (a : Int), .int .u8 (b : Int)] 99) = W at *
  go_quiet ((first | (go_at_call 76; with_reducible exact k1 _ _) | (go_at_call 76; with_reducible exact k2 _ _)))
  go_wp2_with fail
  go_ret
  exact ⟨rfl, Q.out.comp (Mv.drewN _ _ _)⟩

theorem show_any (a b : Nat) (hab : a ≤ b) (hb : b < 256) (w : World) : Calls Tryd.prog 79 #[.agg #[.int .u8 (a : Int), .int .u8 (b : Int)]] w fun e w' => e = .returned (.string (str (rtx (a, b)))) ∧ Hid (Qt w w') := by
  unfold rtx
  simp only
  by_cases h1 : b = a
  · rw [if_pos h1, h1]
    exact show_one a (by omega) w
  · rw [if_neg h1]
    by_cases h2 : b = a + 1
    · rw [if_pos h2]
      exact show_two a b (by omega) hb h2 w
    · rw [if_neg h2]
      exact show_more a b (b - a) (by omega) hb (by omega) (by omega) w

end Go.Proofs.YtkclkhfcmjhogaaDoor

namespace Go.Proofs.YtkclkhfcmjhogaaDoor
open Go.RowKit
set_option linter.unusedVariables false

theorem info62 : Tryd.prog.info? 102 = some Tryd.t102 := by kernel_rfl
theorem size62 : Tryd.t102.size ≠ 0 := by decide +kernel
theorem lies62 : liesAt Tryd.prog Tryd.prog.depth 102 (2 / Tryd.prog.cellsOf 102) 0 102 1 = true := by kernel_rfl

/-- Bytes as cells. -/
def nc (l : List Nat) : List Value := l.map fun (c : Nat) => Value.int .u8 (c : Int)
theorem nc_append (l m : List Nat) : nc (l ++ m) = nc l ++ nc m := List.map_append
theorem nc_length (l : List Nat) : (nc l).length = l.length := List.length_map ..
theorem nc_str (m : List Nat) (h : ∀ c ∈ m, c < 256) : Lib.strCells (str m) = nc m := by
  unfold Lib.strCells nc str
  simp only [List.map_map]
  apply List.map_congr_left
  intro c hc
  have := h c hc
  simp; omega
theorem nc_bytes (m : List Nat) (h : ∀ c ∈ m, c < 256) : Lib.byteCells (m.map UInt8.ofNat) = nc m := by
  unfold Lib.byteCells nc
  simp only [List.map_map]
  apply List.map_congr_left
  intro c hc
  have := h c hc
  simp; omega
/-- A text that is built: l are its bytes. -/
abbrev Bu (b : Nat) (l : List Nat) (w : World) : Prop := Lib.BuilderAt 102 5 b b (.pointer (some ⟨b, 0, none⟩)) (nc l) w

set_option maxHeartbeats 1000000 in
set_option maxRecDepth 100000 in
theorem check_used (b : Nat) (w : World) (h0 : w.cell? ⟨b, 0, none⟩ = some (.pointer (some ⟨b, 0, none⟩))) :
    Calls Tryd.prog 95 #[.pointer (some ⟨b, 0, none⟩)] w fun e w' => e = .returned (.tuple #[]) ∧ w' = w := by
  go_enter Tryd.func95, Tryd.ntmps95
  go_wp2
  rw [Lib.run_neq_ptr_same w _ Tryd.underlying100 info62]
  go_wp2
  go_end0
  exact ⟨rfl, rfl⟩
set_option maxHeartbeats 1000000 in
set_option maxRecDepth 100000 in
theorem check_new (b : Nat) (w : World) (h0 : w.cell? ⟨b, 0, none⟩ = some (.pointer none)) (hsh : w.shape? b = some (102, 2)) (hfz : w.frozen? ⟨b, 0, none⟩ = false) :
    Calls Tryd.prog 95 #[.pointer (some ⟨b, 0, none⟩)] w fun e w' => e = .returned (.tuple #[]) ∧ w' = w.setCell ⟨b, 0, none⟩ (.pointer (some ⟨b, 0, none⟩)) := by
  go_enter Tryd.func95, Tryd.ntmps95
  go_wp2
  rw [Lib.run_to_unsafe w ⟨b, 0, none⟩ Tryd.underlying100 Tryd.underlying125 info62 size62 hsh (Nat.zero_lt_succ 1)]
  simp only [Result.andThen]
  rw [Oper.upon_value]
  go_wp2
  rw [run_callFunc_extern Tryd.func102 (by kernel_rfl) (by kernel_rfl) (by kernel_rfl) (e := Extern.AbiNoEscape.same) (by kernel_rfl)]
  rw [Lib.run_noEscape]
  simp only [Result.andThen]
  rw [Oper.upon_value]
  go_wp2
  rw [Lib.run_from_unsafe w ⟨b, 0, none⟩ Tryd.underlying125 Tryd.underlying100 info62 hsh lies62]
  simp only [Result.andThen]
  rw [Oper.upon_value]
  go_wp2
  go_end0
  exact ⟨rfl, rfl⟩
theorem check_any (b : Nat) (bs : List Value) (w : World) (h : Lib.IsBuilder 102 5 b b bs w) :
    Calls Tryd.prog 95 #[.pointer (some ⟨b, 0, none⟩)] w fun e w' => e = .returned (.tuple #[]) ∧ (Lib.BuilderAt 102 5 b b (.pointer (some ⟨b, 0, none⟩)) bs w' ∧ Below b w w') := by
  rcases h with h | h
  · refine (check_new b w h.cell0 h.shape h.frozen0).mono ?_
    rintro e w' ⟨rfl, rfl⟩
    exact ⟨rfl, h.used _, (Below.refl b w).setCell (p := ⟨b, 0, none⟩) h.1 _⟩
  · refine (check_used b w h.cell0).mono ?_
    rintro e w' ⟨rfl, rfl⟩
    exact ⟨rfl, h, Below.refl b _⟩

theorem info5s : Tryd.prog.info? 5 = some Tryd.t5 := by kernel_rfl
theorem zero5 : Tryd.t5.zero = some (.int .u8 0) := by kernel_rfl
theorem size5 : Tryd.t5.size = 1 := by kernel_rfl
theorem bytes5 : Tryd.t5.bytes = 1 := by kernel_rfl

set_option maxHeartbeats 2000000 in
set_option maxRecDepth 100000 in
theorem write_byte (b : Nat) (l : List Nat) (c : Nat) (w : World) (h : Hid (Lib.IsBuilder 102 5 b b (nc l) w)) (hl : l.length < 1000000) (hb : b ≤ w.heap.size) :
    Calls Tryd.prog 77 #[.pointer (some ⟨b, 0, none⟩), .int .u8 (c : Int)] w fun e w' => e = .returned .nilIface ∧ Hid (Bu b (l ++ [c]) w' ∧ Below b w w') := by
  go_enter Tryd.func77, Tryd.ntmps77
  go_wp2_with (go_at_call 95; refine (check_any b (nc l) _ h.out).mono ?_)
  rintro e w1 ⟨rfl, h1, hb1⟩
  obtain ⟨hB, v, hbk, hown, hne⟩ := h1
  have c0 : w1.cell? ⟨b, 0, none⟩ = some (.pointer (some ⟨b, 0, none⟩)) := by rw [Lib.cell_of_heap hbk]; rfl
  have c1 : w1.cell? ⟨b, 1, none⟩ = some v := by rw [Lib.cell_of_heap hbk]; rfl
  go_wp2_with (at_builtin; refine wpList_append_own _ rfl _ _ 37 rfl b 5 Tryd.t5 (.int .u8 0) 1 1 Tryd.underlying37 info5s zero5 size5 bytes5 rfl (by decide) _ _ _ rfl (hown.alloc _) ⟨w1.heap.size, 0, none⟩ 1 1 [.int .u8 (c : Int)] rfl rfl ?c1 ?c2 ?c3 ?c4 ?c5 ?_)
  case c1 =>
    intro j u hj
    match j, hj with
    | 0, hj => simp at hj; subst hj; simp [Addr.add]
  case c2 => intro u hu; simp at hu; subst hu; rfl
  case c3 => rw [nc_length]; unfold maxLen; omega
  case c4 => rw [nc_length]; omega
  case c5 => have := hb1.size; simp; omega
  intro v' w2 hown' hgrow _
  have hlt : b < w1.heap.size := (Array.getElem?_eq_some_iff.1 hbk).1
  have hb2 : w2.heap[b]? = some (.cells #[.pointer (some ⟨b, 0, none⟩), v] 102 (0, 0)) := by
    rw [hgrow.block b (by simp; omega) (fun e => hne e.symm), Lib.alloc_old w1 _ b hlt]
    exact hbk
  have d0 : w2.cell? ⟨b, 0, none⟩ = some (.pointer (some ⟨b, 0, none⟩)) := by rw [Lib.cell_of_heap hb2]; rfl
  have d1 : w2.cell? ⟨b, 1, none⟩ = some v := by rw [Lib.cell_of_heap hb2]; rfl
  have f1 : w2.frozen? ⟨b, 1, none⟩ = false := Lib.frozen_of_heap hb2 1
  obtain ⟨ao, n', cap, rfl⟩ : ∃ ao n' cap, v' = .slice ao n' cap := by
    rcases hown'.2 with ⟨hv, _⟩ | ⟨g, cap, cur, hv, _⟩
    · exact ⟨_, _, _, hv⟩
    · exact ⟨_, _, _, hv⟩
  go_wp2
  go_ret
  refine ⟨rfl, ?_, ?_⟩
  · exact Lib.BuilderAt.put (T := 102) (e := 5) hB hb2 (bs' := nc (l ++ [c])) (by rw [nc_append]; simpa [nc] using hown') (by decide)
  · exact ((hb1.alloc (Nat.le_trans hb hb1.size) _).grown hgrow (by simp; omega) (fun k hk => (hown.lt k hk).1)).setCell (p := ⟨b, 1, none⟩) hB _

set_option maxHeartbeats 2000000 in
set_option maxRecDepth 100000 in
theorem write_string (b : Nat) (l m : List Nat) (w : World) (h : Hid (Bu b l w)) (hl : l.length < 1000000) (hm : m.length < 1000) (hc : ∀ c ∈ m, c < 256) :
    Calls Tryd.prog 78 #[.pointer (some ⟨b, 0, none⟩), .string (str m)] w fun e w' => e = .returned (.tuple #[.int .i64 m.length, .nilIface]) ∧ Hid (Bu b (l ++ m) w' ∧ Below b w w') := by
  have hz : (str m).size = m.length := str_size m
  have HC : Hid (Lib.strCells (str m) = nc m) := nc_str m hc
  clear hc
  generalize str m = T at *
  go_enter Tryd.func78, Tryd.ntmps78
  go_wp2_with (go_at_call 95; refine (check_any b (nc l) _ (.inr h.out)).mono ?_)
  rintro e w1 ⟨rfl, h1, hb1⟩
  obtain ⟨hB, v, hbk, hown, hne⟩ := h1
  have hlt : b < w1.heap.size := (Array.getElem?_eq_some_iff.1 hbk).1
  have c0 : w1.cell? ⟨b, 0, none⟩ = some (.pointer (some ⟨b, 0, none⟩)) := by rw [Lib.cell_of_heap hbk]; rfl
  have c1 : w1.cell? ⟨b, 1, none⟩ = some v := by rw [Lib.cell_of_heap hbk]; rfl
  go_wp2_with (at_builtin; refine Lib.wpList_append_own_string _ rfl _ _ 37 9 rfl b 5 Tryd.t5 Tryd.underlying37 Tryd.underlying9 info5s zero5 size5 bytes5 _ _ _ rfl hown T rfl ?c3 ?c4 ?c5 ?_)
  case c3 => rw [nc_length]; unfold maxLen; omega
  case c4 => rw [nc_length]; omega
  case c5 => omega
  intro v' w2 hown' hgrow _
  have hb2 : w2.heap[b]? = some (.cells #[.pointer (some ⟨b, 0, none⟩), v] 102 (0, 0)) := by
    rw [hgrow.block b hlt (fun e => hne e.symm)]
    exact hbk
  have d0 : w2.cell? ⟨b, 0, none⟩ = some (.pointer (some ⟨b, 0, none⟩)) := by rw [Lib.cell_of_heap hb2]; rfl
  have d1 : w2.cell? ⟨b, 1, none⟩ = some v := by rw [Lib.cell_of_heap hb2]; rfl
  have f1 : w2.frozen? ⟨b, 1, none⟩ = false := Lib.frozen_of_heap hb2 1
  obtain ⟨ao, n', cap, rfl⟩ : ∃ ao n' cap, v' = .slice ao n' cap := by
    rcases hown'.2 with ⟨hv, _⟩ | ⟨g, cap, cur, hv, _⟩
    · exact ⟨_, _, _, hv⟩
    · exact ⟨_, _, _, hv⟩
  go_wp2
  go_ret2
  refine ⟨by simp, ?_, ?_⟩
  · exact Lib.BuilderAt.put (T := 102) (e := 5) hB hb2 (bs' := nc (l ++ m)) (by rw [nc_append, ← HC.out]; simpa [Lib.strCells_length, hz] using hown') (by decide)
  · exact (hb1.grown hgrow (by omega) (fun k hk => (hown.lt k hk).1)).setCell (p := ⟨b, 1, none⟩) hB _

end Go.Proofs.YtkclkhfcmjhogaaDoor
