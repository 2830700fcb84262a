/- The walk of FileNew. -/
import Derived.Test.YtjlnmkoggobbgaaH1
namespace Go.Proofs.Ytjlnmkoggobbgaa
open Go.RowKit

set_option maxHeartbeats 1000000 in
theorem fnew_long (a : Option Addr) (n c : Nat) (s m : Int) (w : World) (hn : 200 < n) :
    Calls Try.prog 10 #[.slice a n c, .int .u8 s, .int .u8 m] w fun e w' => e = .returned (.bool true) ∧ Below w.heap.size w w' := by
  have hz : (200 : Int) < n := by omega
  go_enter Try.func10, Try.ntmps10
  go_wp2_with fail
  refine (begun5 w).mono ?_
  rintro e W ⟨rfl, B⟩
  have B' : Hid _ := B
  clear B
  go_wp2_with fail
  go_ret
  exact ⟨rfl, B'.out⟩

set_option maxRecDepth 100000 in
set_option maxHeartbeats 4000000 in
theorem fnew_walk (a : Option Addr) (n c : Nat) (f : Nat → Int) (s m : Int) (w : World) (hn : n ≤ 200) (hs0 : 0 ≤ s) (hs1 : s ≤ 255) (hm0 : 0 ≤ m) (hm1 : m ≤ 255) (hl : Hid (Sl w a n (By f))) :
    Calls Try.prog 10 #[.slice a n c, .int .u8 s, .int .u8 m] w fun e w' => e = .returned (.bool true) ∧ Below w.heap.size w w' := by
  have hz : (n : Int) ≤ 200 := by omega
  obtain ⟨k, hk⟩ : ∃ k : Nat, (1 : Int) + s % 30 = k := ⟨(1 + s % 30).toNat, by omega⟩
  have hk1 : 1 ≤ k ∧ k ≤ 30 := by omega
  have HK : Hid _ := hk
  clear hk
  go_enter Try.func10, Try.ntmps10
  go_wp2_with fail
  refine (begun5 w).mono ?_
  rintro e W ⟨rfl, B⟩
  have B0 : Hid (Below w.heap.size w W) := B
  clear B
  go_wp2_with fail
  rw [HK.out]
  refine (new_ok a n c k f W (by omega) (by omega) (by omega) (hl.out.below B0.out)).mono ?_
  rintro e W1 ⟨d, rfl, hd, P1, B1⟩
  have B2 : Hid (Below w.heap.size w W1) := B0.out.trans (B1.out.mono B0.out.size)
  have DB : Hid (w.heap.size ≤ d.base) := by show _ ≤ _; rw [hd.out.1]; exact B0.out.size
  obtain ⟨-, -, dn, dz, df⟩ := hd.out
  have DN : Hid (d.n = n) := dn
  have DF : Hid (d.f = f) := df
  clear dn dz df hd B1 HK
  go_wp2_with fail
  refine (fnew_of (Y := fun j => j < w.heap.size) P1.out (fun j hj => ⟨Nat.lt_of_lt_of_le hj B2.out.size, .inl (by have := DB.out; omega)⟩)).mono ?_
  rintro e W2 ⟨rfl, F2⟩
  have B3 : Hid (Below w.heap.size w W2) := B2.out.trans (F2.out.2.mono B2.out.size)
  generalize W1.heap.size + 1 = q at *
  have BT := bytes_ok F2.out.1 0 n (by omega) (by rw [DN.out]; omega) (by simp) (fun s _ => none_fails _ _ _ s)
  rw [Nat.sub_zero, show ((0 : Nat) : Int) = 0 from rfl] at BT
  go_wp2_with fail
  refine BT.mono ?_
  rintro e W3 ⟨xa, xc, rfl, T3⟩
  clear BT
  have B4 : Hid (Below w.heap.size w W3) := below_mv B3.out T3.out.2.2 (Nat.le_refl _) (fun j hj h => h hj)
  have R3 : Hid (([] ++ rr (cap (m % 9)) [] (0 / d.sz) (cntp d.sz 0 n)).length ≤ 5001) := rr_small _ _ _ _ _ _ (by omega)
  generalize [] ++ rr (cap (m % 9)) [] (0 / d.sz) (cntp d.sz 0 n) = R at *
  generalize rk (cap (m % 9)) [] (0 / d.sz) (cntp d.sz 0 n) = l at *
  have TP : Hid (d.top ≤ W2.heap.size) := F2.out.1.top
  have BS : Hid (w.heap.size ≤ W2.heap.size) := B3.out.size
  go_wp2_with fail
  go_loopw [12] (fun vi wr => ∃ (i : Nat), i ≤ n ∧ vi = .int .i64 i ∧ Hid (∃ g, Own wr W2.heap.size 5 (.slice xa n xc) n (By g)) ∧ Hid (Fs wr q d (m % 9) l (fun _ => false) R (fun j => j < w.heap.size ∨ bk xa = some j)) ∧ Hid (Below w.heap.size w wr)) (fun vi _ => n - (intOf vi).toNat)
  case atStart => exact ⟨0, by omega, rfl, ⟨_, T3.out.2.1⟩, T3.out.1, B4⟩
  case round =>
    obtain ⟨i, hi, rfl, O, F, B⟩ := hrel
    by_cases hlt : i < n
    · have hltz : (i : Int) < n := by omega
      obtain ⟨g, Og⟩ := O.out
      rcases Og.slice with ⟨e, h0⟩ | ⟨gb, cc, e, _⟩
      · omega
      cases e
      have h1 := (Og.at hlt).1
      have h2 := (Og.at hlt).2
      have HO : Hid (Own wr W2.heap.size 5 (.slice (some ⟨gb, 0, none⟩) n xc) n (By g)) := Og
      have hb := Og.blk gb rfl
      have HB : Hid _ := hb
      clear Og hb O
      unfold By at h1
      generalize g i = x at h1
      go_wp2_with fail
      exact ⟨⟨i + 1, by omega, by go_num, ⟨_, HO.out.setB i _⟩, F.out.poke ⟨gb, i, none⟩ _ rfl (by have := HB.out; have := TP.out; show d.top ≤ gb; omega), B.out.setCell (by have := HB.out; have := BS.out; show _ ≤ gb; omega) _⟩, by simp [intOf]; omega⟩
    · obtain rfl : i = n := by omega
      have BT := bytes_ok F.out 0 i (by omega) (by rw [DN.out]; omega) (by have := R3.out; omega) (fun s _ => none_fails _ _ _ s)
      rw [Nat.sub_zero, show ((0 : Nat) : Int) = 0 from rfl] at BT
      go_wp2_with fail
      refine BT.mono ?_
      rintro e W4 ⟨ya, yc, rfl, T4⟩
      clear BT
      have B5 : Hid (Below w.heap.size w W4) := below_mv B.out T4.out.2.2 (Nat.le_refl _) (fun j hj h => h (.inl hj))
      have hv1 := conv_any ya i yc f W4 ((own_sl' T4.out.2.1).1.congr (fun j _ => by unfold By; dsimp only; rw [DF.out, Nat.zero_add]))
      have hv2 := conv_any a i c f W4 (hl.out.below B5.out)
      generalize txt f i = t at hv1 hv2
      go_wp2_with fail
      go_ret
      exact ⟨rfl, B5.out⟩

theorem fileNew_row (W : World) (a : Option Addr) (n c : Nat) (f : Nat → Int) (s : Sl W a n (fun i => .int .u8 (f i))) (_o : ∀ i, (Lit.int .u8 (f i)).wf = true) (_e : a = none → n = 0 ∧ c = 0) (x : Int) (wx : (Lit.int .u8 x).wf = true) (y : Int) (wy : (Lit.int .u8 y).wf = true) :
    Calls Try.prog 10 #[.slice a n c, .int .u8 x, .int .u8 y] W fun e w' => e = .returned (.bool true) ∧ Below W.heap.size W w' := by
  by_cases h : n ≤ 200
  · exact fnew_walk a n c f x y W h (b8 wx).1 (b8 wx).2 (b8 wy).1 (b8 wy).2 s
  · exact fnew_long a n c x y W (by omega)
end Go.Proofs.Ytjlnmkoggobbgaa
