/- PieceApart. -/
import Derived.Test.YtjelclomigmlmaaE3
namespace Go.Proofs.Ytjelclomigmlmaa
open Go.RowKit

theorem apart_list (B s u : List Int) (x y : Nat) (hx : x + 5 ≤ y) (hB : y + 7 ≤ B.length) :
    ((B.take x ++ s ++ B.drop (x + 5)).take (y + s.length - 5)) ++ u ++ ((B.take x ++ s ++ B.drop (x + 5)).drop (y + s.length + 2)) = (B.take y ++ u ++ B.drop (y + 7)).take x ++ s ++ (B.take y ++ u ++ B.drop (y + 7)).drop (x + 5) := by
  have l1 : (B.take x ++ s).length = x + s.length := by rw [List.length_append, List.length_take]; omega
  have e1 : (B.take x ++ s ++ B.drop (x + 5)).take (y + s.length - 5) = B.take x ++ s ++ (B.drop (x + 5)).take (y - (x + 5)) := by
    rw [List.take_append, List.take_of_length_le (by rw [l1]; omega), l1, show y + s.length - 5 - (x + s.length) = y - (x + 5) by omega]
  have e2 : (B.take x ++ s ++ B.drop (x + 5)).drop (y + s.length + 2) = B.drop (y + 7) := by
    rw [List.drop_append, List.drop_eq_nil_of_le (by rw [l1]; omega), l1, List.nil_append, List.drop_drop]
    congr 1; omega
  have e3 : (B.take y ++ u ++ B.drop (y + 7)).take x = B.take x := by
    rw [List.append_assoc, List.take_append_of_le_length (by rw [List.length_take]; omega), List.take_take, Nat.min_eq_left (by omega)]
  have e4 : (B.take y ++ u ++ B.drop (y + 7)).drop (x + 5) = (B.drop (x + 5)).take (y - (x + 5)) ++ u ++ B.drop (y + 7) := by
    rw [List.append_assoc, List.drop_append_of_le_length (by rw [List.length_take]; omega), List.drop_take, ← List.append_assoc]
  rw [e1, e2, e3, e4]
  simp only [List.append_assoc]

/-- The file of a hundred bytes. -/
abbrev L100 : List Bt := sp1 ⟨false, 0, 100⟩

theorem apart_same (G : Nat → Int) (f g : Nat → Int) (A0 : Nat → Int) (x y ns nu : Nat) (hx : x < 40) (hy1 : 50 ≤ y) (hy2 : y < 90) :
    (ins (ins L100 x (x + 5) 0 ns) (y + ns - 5) (y + ns + 2) (0 + ns) nu).map (bt G (catI (catI A0 0 f) (0 + ns) g)) = (ins (ins L100 y (y + 7) 0 nu) x (x + 5) (0 + nu) ns).map (bt G (catI (catI A0 0 g) (0 + nu) f)) := by
  have W0 : Wf 100 0 L100 := wf_file 100
  rw [bt_ins (ins_wf W0 x (x + 5) ns), bt_ins (ins_wf W0 y (y + 7) nu), bt_ins W0, bt_ins W0]
  have := apart_list (L100.map (bt G A0)) ((List.range ns).map f) ((List.range nu).map g) x y (by omega) (by rw [List.length_map, sp1_length]; show y + 7 ≤ 100 - 0; omega)
  rw [List.length_map, List.length_range] at this
  exact this

theorem sl_qt {w w' : World} {a : Option Addr} {n : Nat} {V : Nat → Value} (h : Sl w a n V) (b : Below w.heap.size w w') : Sl w' a n V := h.below b

set_option maxHeartbeats 4000000 in
theorem apart_any (w : World) (a b : Int) (ha : 0 ≤ a ∧ a ≤ 255) (hb : 0 ≤ b ∧ b ≤ 255) (sa : Option Addr) (ns cs : Nat) (f : Nat → Int) (hs : Hid (Sl w sa ns (By f))) (zs : Hid (sa = none → ns = 0 ∧ cs = 0)) (ua : Option Addr) (nu cu : Nat) (g : Nat → Int) (hu : Hid (Sl w ua nu (By g))) (zu : Hid (ua = none → nu = 0 ∧ cu = 0)) (h1 : ns ≤ 20) (h2 : nu ≤ 20) :
    Calls Try.prog 6 #[.int .u8 a, .int .u8 b, .slice sa ns cs, .slice ua nu cu] w fun e w' => e = .returned (.bool true) ∧ Below w.heap.size w w' := by
  obtain ⟨a1, a2⟩ := ha
  obtain ⟨b1, b2⟩ := hb
  have h1z : (ns : Int) ≤ 20 := by omega
  have h2z : (nu : Int) ≤ 20 := by omega
  go_enter Try.func6, Try.ntmps6
  go_wp2_with fail
  refine (begun_any w).mono ?_
  rintro e w1 ⟨rfl, bl⟩
  have B1 : Hid (Below w.heap.size w w1) := bl
  clear bl
  go_wp2_with fail
  obtain ⟨x, hx⟩ : ∃ x : Nat, a % 40 = (x : Int) := ⟨(a % 40).toNat, by omega⟩
  obtain ⟨y, hy⟩ : ∃ y : Nat, 50 + b % 40 = (y : Int) := ⟨(50 + b % 40).toNat, by omega⟩
  have hx1 : x < 40 := by omega
  have hy1 : 50 ≤ y := by omega
  have hy2 : y < 90 := by omega
  rw [hx, hy]
  clear hx hy a1 a2 b1 b2
  refine (new_any 100 (by omega) w1).mono ?_
  rintro e w2 ⟨p, rfl, hp, T2⟩
  have T2a : Hid (Tx w2 p 100 L100 0 (fun _ => 0) (fun k => k < w1.heap.size)) := T2.out.1
  have Q2 : Hid (Qt w1 w2) := T2.out.2
  clear T2
  go_wp2_with fail
  refine (new_any 100 (by omega) w2).mono ?_
  rintro e w3 ⟨q, rfl, hq, T3⟩
  have TW : Hid (Two w w3 p 100 L100 0 (fun _ => 0) q 100 L100 0 (fun _ => 0)) := by
    have h1 := T3.out.1
    have h2 := T2a.out.qt T3.out.2
    have s1 := B1.out.size
    have s2 := Q2.out.size
    refine ⟨_, _, h2, h1, fun k hk => ?_, fun k hk => ⟨.inl (by omega), by show k < w2.heap.size; omega⟩, (B1.out.trans (Q2.out.below _ s1)).trans (T3.out.2.below _ (Nat.le_trans s1 s2))⟩
    by_cases hl : k < w2.heap.size
    · exact .inr hl
    · exact .inl (.inr ⟨by omega, hk⟩)
  clear T3 T2a Q2 B1 hp hq
  go_wp2_with fail
  refine (TW.out.edit x (x + 5) _ _ rfl (by omega) sa ns cs f (by omega) (by rw [sp1_length]; show x + 5 ≤ 100 - 0; omega) (by omega) (hs.out.below TW.out.below) zs.out (by omega) (by rw [sp1_length]; show 100 - 0 + ns ≤ _; omega)).mono ?_
  rintro e w4 ⟨rfl, TW4⟩
  have e4 : Hid ((ins L100 x (x + 5) 0 ns).length = 95 + ns) := by
    show _ = _
    rw [ins_length _ _ _ _ _ (by omega) (by rw [sp1_length]; show x + 5 ≤ 100 - 0; omega), sp1_length]
    show 100 - 0 - (x + 5 - x) + ns = _
    omega
  clear TW
  go_wp2_with fail
  refine (TW4.out.edit (y + ns - 5) (y + ns + 2) _ _ (by omega) (by omega) ua nu cu g (by omega) (by rw [e4.out]; omega) (by omega) (hu.out.below TW4.out.below) zu.out (by omega) (by rw [e4.out]; omega)).mono ?_
  rintro e w5 ⟨rfl, TW5⟩
  have e5 : Hid ((ins (ins L100 x (x + 5) 0 ns) (y + ns - 5) (y + ns + 2) (0 + ns) nu).length = 88 + ns + nu) := by
    show _ = _
    rw [ins_length _ _ _ _ _ (by omega) (by rw [e4.out]; omega), e4.out]
    omega
  clear TW4 e4
  go_wp2_with fail
  refine (TW5.out.swap.edit y (y + 7) _ _ rfl (by omega) ua nu cu g (by omega) (by rw [sp1_length]; show y + 7 ≤ 100 - 0; omega) (by omega) (hu.out.below TW5.out.below) zu.out (by omega) (by rw [sp1_length]; show 100 - 0 + nu ≤ _; omega)).mono ?_
  rintro e w6 ⟨rfl, TW6⟩
  have e6 : Hid ((ins L100 y (y + 7) 0 nu).length = 93 + nu) := by
    show _ = _
    rw [ins_length _ _ _ _ _ (by omega) (by rw [sp1_length]; show y + 7 ≤ 100 - 0; omega), sp1_length]
    show 100 - 0 - (y + 7 - y) + nu = _
    omega
  clear TW5
  go_wp2_with fail
  refine (TW6.out.edit x (x + 5) _ _ rfl (by omega) sa ns cs f (by omega) (by rw [e6.out]; omega) (by omega) (hs.out.below TW6.out.below) zs.out (by omega) (by rw [e6.out]; omega)).mono ?_
  rintro e w7 ⟨rfl, TW7⟩
  have e7 : Hid ((ins (ins L100 y (y + 7) 0 nu) x (x + 5) (0 + nu) ns).length = 88 + ns + nu) := by
    show _ = _
    rw [ins_length _ _ _ _ _ (by omega) (by rw [e6.out]; omega), e6.out]
    omega
  have SM := apart_same Gr f g (fun _ => 0) x y ns nu hx1 hy1 hy2
  clear TW6 e6
  have SMH : Hid _ := SM
  clear SM
  generalize (ins (ins L100 x (x + 5) 0 ns) (y + ns - 5) (y + ns + 2) (0 + ns) nu) = LP at *
  generalize (ins (ins L100 y (y + 7) 0 nu) x (x + 5) (0 + nu) ns) = LQ at *
  generalize catI (catI (fun _ => 0) 0 f) (0 + ns) g = AP at *
  generalize catI (catI (fun _ => 0) 0 g) (0 + nu) f = AQ at *
  go_wp2_with fail
  obtain ⟨YQ, tq⟩ := TW7.out.right
  refine (len_any tq).mono ?_
  rintro e w8 ⟨rfl, q8⟩
  have TW8 : Hid (Two w w8 _ _ _ _ _ _ _ _ _ _) := TW7.out.qt q8.out
  clear TW7 tq q8
  rw [e5.out]
  go_wp2_with fail
  obtain ⟨YP, tp⟩ := TW8.out.left
  refine (len_any tp).mono ?_
  rintro e w9 ⟨rfl, q9⟩
  have TW9 : Hid (Two w w9 _ _ _ _ _ _ _ _ _ _) := TW8.out.qt q9.out
  clear TW8 tp q9
  rw [e7.out]
  go_wp2_with fail
  obtain ⟨YQ, tq⟩ := TW9.out.right
  refine (spell_any tq (by omega)).mono ?_
  rintro e w10 ⟨rfl, q10⟩
  have TW10 : Hid (Two w w10 _ _ _ _ _ _ _ _ _ _) := TW9.out.qt q10.out
  clear TW9 tq q10
  rw [SMH.out]
  obtain ⟨tx, htx⟩ : ∃ tx, tx = strOfNums (LQ.map (bt Gr AQ)) := ⟨_, rfl⟩
  have TXE : Hid (tx = strOfNums (LQ.map (bt Gr AQ))) := htx
  rw [← htx]
  clear htx
  go_wp2_with fail
  obtain ⟨YP, tp⟩ := TW10.out.left
  refine (spell_any tp (by omega)).mono ?_
  rintro e w11 ⟨rfl, q11⟩
  have BB := (TW10.out.qt q11.out).below
  rw [← TXE.out]
  clear TXE SMH
  go_wp2_with fail
  go_ret
  exact ⟨by simp, BB⟩

set_option maxHeartbeats 1000000 in
theorem apart_out (w : World) (a b : Int) (sa : Option Addr) (ns cs : Nat) (ua : Option Addr) (nu cu : Nat) (h : 20 < ns ∨ 20 < nu) :
    Calls Try.prog 6 #[.int .u8 a, .int .u8 b, .slice sa ns cs, .slice ua nu cu] w fun e w' => e = .returned (.bool true) ∧ Below w.heap.size w w' := by
  by_cases h1 : 20 < ns
  · have h1z : (20 : Int) < ns := by omega
    clear h
    go_enter Try.func6, Try.ntmps6
    go_wp2_with fail
    refine (begun_any w).mono ?_
    rintro e w1 ⟨rfl, bl⟩
    have B1 : Hid (Below w.heap.size w w1) := bl
    clear bl
    go_wp2_with fail
    go_ret
    exact ⟨rfl, B1.out⟩
  · have h1z : (ns : Int) ≤ 20 := by omega
    have h2z : (20 : Int) < nu := by omega
    clear h
    go_enter Try.func6, Try.ntmps6
    go_wp2_with fail
    refine (begun_any w).mono ?_
    rintro e w1 ⟨rfl, bl⟩
    have B1 : Hid (Below w.heap.size w w1) := bl
    clear bl
    go_wp2_with fail
    go_ret
    exact ⟨rfl, B1.out⟩

theorem u8_wf {x : Int} (h : (Lit.int .u8 x).wf = true) : 0 ≤ x ∧ x ≤ 255 := by
  simpa [Lit.wf, IntKind.min, IntKind.max, IntKind.signed, IntKind.bits] using h
theorem pieceApart_row (W : World) (a : Int) (wa : (Lit.int .u8 a).wf = true) (b : Int) (wb : (Lit.int .u8 b).wf = true) (sa : Option Addr) (ns cs : Nat) (f : Nat → Int) (s : Sl W sa ns (fun i => .int .u8 (f i))) (_o : ∀ i, (Lit.int .u8 (f i)).wf = true) (e : sa = none → ns = 0 ∧ cs = 0) (ua : Option Addr) (nu cu : Nat) (g : Nat → Int) (u : Sl W ua nu (fun i => .int .u8 (g i))) (_o' : ∀ i, (Lit.int .u8 (g i)).wf = true) (e' : ua = none → nu = 0 ∧ cu = 0) :
    Calls Try.prog 6 #[.int .u8 a, .int .u8 b, .slice sa ns cs, .slice ua nu cu] W fun e w' => e = .returned (.bool true) ∧ Below W.heap.size W w' := by
  by_cases h : 20 < ns ∨ 20 < nu
  · exact apart_out W a b sa ns cs ua nu cu h
  · exact apart_any W a b (u8_wf wa) (u8_wf wb) sa ns cs f s e ua nu cu g u e' (by omega) (by omega)
end Go.Proofs.Ytjelclomigmlmaa
