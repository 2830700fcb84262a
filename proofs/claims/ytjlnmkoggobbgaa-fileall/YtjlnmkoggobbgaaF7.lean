/- A window. -/
import Derived.Test.YtjlnmkoggobbgaaF6
namespace Go.Proofs.Ytjlnmkoggobbgaa
open Go.RowKit

section
variable {w : World} {q : Nat} {d : Pd} {mo : Int} {l : List Int} {bad : Nat → Bool} {R : List Int} {Y : Nat → Prop}


set_option maxHeartbeats 4000000 in
set_option maxRecDepth 20000 in
theorem window_bad (h : Fs w q d mo l bad R Y) (a b i0 T : Nat) (hab : a < b) (hb : b ≤ d.n) (hi0 : Hid (i0 = a / d.sz)) (hT : Hid ((∀ s, s < T + 1 → (i0 + s) * d.sz < b) ∧ fails (cap mo) l i0 bad T)) (hR : R.length < 20000) (hf : Hid (∀ s, s < T → ¬ fails (cap mo) l i0 bad s)) :
    Calls Try.prog 45 #[.pointer (some ⟨q, 0, none⟩), .int .i64 a, .int .i64 b] w fun e w' => e = .panicked fchain ∧ Hid (Fs w' q d mo (rk (cap mo) l i0 T) bad (R ++ rr (cap mo) l i0 (T + 1)) Y ∧ Mv (fun j => ¬ Y j) w w') := by
  have hsm := h.small
  have hcnt : Hid _ := h.cnt
  obtain ⟨sz, hsz⟩ : ∃ sz, sz = d.sz := ⟨_, rfl⟩
  obtain ⟨W, hmk, hO, hB⟩ := made0b w (b - a) (by omega) (fun j => d.f (a + j))
  have W0 : Hid (Wi w W q d mo l bad R Y a b i0 0 (some ⟨w.heap.size, 0, none⟩) 0 (b - a)) := Wi.start h hO hB (by rw [hi0.out]; exact Nat.div_mul_le_self _ _)
  obtain ⟨hfp, hbpl, hcs, hql⟩ : w.cell? ⟨q, 0, none⟩ = some (.pointer (some ⟨d.bp, 0, none⟩)) ∧ d.bp < w.heap.size ∧ w.cell? ⟨d.bp, 0, none⟩ = some (.int .i64 sz) ∧ q < w.heap.size := by
    obtain ⟨c, ra, rc, S, X, h, e⟩ := h
    rw [hsz]
    exact ⟨h.fp, World.block_lt_of_cell? _ _ h.P.cs, h.P.cs, World.block_lt_of_cell? _ _ h.fp⟩
  have hfp1 : W.cell? ⟨q, 0, none⟩ = some (.pointer (some ⟨d.bp, 0, none⟩)) := (hB.cell (p := ⟨q, 0, none⟩) hql).trans hfp
  have hcs1 : W.cell? ⟨d.bp, 0, none⟩ = some (.int .i64 sz) := (hB.cell (p := ⟨d.bp, 0, none⟩) hbpl).trans hcs
  have SZ := size_any d.bp sz W hcs1
  have HSZ : Hid _ := hsz
  have HLOW : Hid (∀ i, i0 ≤ i → a < i * sz + sz) := fun i hi => win_low (by omega) (by rw [hsz]; exact hi0.out) hi
  have hmk2 : (Instr.makeSlice 22 (.int .i64 0) (.int .i64 ((b : Int) - a))).run Try.prog w = .ok (.slice (some ⟨w.heap.size, 0, none⟩) 0 (b - a)) W := by
    rw [show ((b : Int) - a) = ((b - a : Nat) : Int) by omega]; exact hmk
  have habz : ((a : Int) == b) = false := by rw [beq_eq_false_iff_ne]; omega
  have hbz : (b : Int) ≤ 5000 := by omega
  have haz : (a : Int) < b := by omega
  have hszn : ¬ sz = 0 := by omega
  have hsz1 : ¬ (sz : Int) = 0 := by omega
  have hszp : 0 < sz := by omega
  have HSM : Hid _ := hsm
  clear h hO hB hfp hbpl hcs hql hcs1 hmk hsz hsm
  go_enter Try.func45, Try.ntmps45
  go_wp2_with fail
  refine SZ.mono ?_
  rintro e w1 ⟨rfl, hw⟩
  obtain rfl := hw.symm
  clear hw SZ hmk2 hfp1
  go_wp2_with fail
  go_loopw [7, 9] (fun vb vi wr => ∃ (t i xn xc : Nat) (xa : Option Addr), vb = .slice xa xn xc ∧ vi = .int .i64 i ∧ t ≤ T ∧ i ≤ 5000 ∧ Hid (i = i0 + t) ∧ Hid (Wi w wr q d mo l bad R Y a b i0 t xa xn xc)) (fun _ vi _ => 6000 - (intOf vi).toNat)
  case atStart =>
    have hq : (a : Int) / sz = ((i0 : Nat) : Int) := by rw [hi0.out, ← HSZ.out]; rfl
    have hle : i0 ≤ a := by rw [hi0.out]; exact Nat.div_le_self _ _
    refine ⟨0, i0, 0, b - a, _, rfl, ?_, Nat.zero_le _, by omega, rfl, W0⟩
    rw [hq]
    congr 1
    exact wrap64_small (by omega) (by omega)
  case round =>
    obtain ⟨t, i, xn, xc, xa, rfl, rfl, ht, hi5, hi, H⟩ := hrel
    by_cases hlt : t < T
    · obtain ⟨s, hs⟩ : ∃ s, s = i * sz := ⟨_, rfl⟩
      have hsb : s < b := by rw [hs, hi.out, HSZ.out]; exact hT.out.1 t (by omega)
      have hib : i < b := Nat.lt_of_le_of_lt (by rw [hs]; exact Nat.le_mul_of_pos_right i hszp) hsb
      have hmul : (i : Int) * sz = (s : Int) := by rw [hs, Int.natCast_mul]
      have hsbz : (s : Int) < b := by omega
      have HS : Hid _ := hs
      clear hs
      have him : i0 + t < d.m := (hcnt.out _).1 (Nat.lt_of_lt_of_le (hT.out.1 t (by omega)) hb)
      have ht5 : t ≤ 5000 := by have := hi.out; omega
      have PC := H.out.page (hf.out t hlt) him (by omega)
      have hxn : xn = min b (i * sz) - a := by have := H.out.n; unfold wl at this; rw [← hi.out, ← HSZ.out] at this; exact this
      rw [← hi.out] at PC
      obtain ⟨m, hm⟩ : ∃ m, m = plen d i := ⟨_, rfl⟩
      rw [← hm] at PC
      obtain ⟨hh, hhh⟩ : ∃ hh, hh = min (b - s) sz := ⟨_, rfl⟩
      obtain ⟨lo, hlo⟩ : ∃ lo, lo = a - s := ⟨_, rfl⟩
      have hm2 : m = min sz (d.n - s) := by rw [hm, HS.out, HSZ.out]; rfl
      have NN := win_step HS.out hm2 hxn hsb hb hab hlo hhh (by rw [HS.out]; exact HLOW.out i (by rw [hi.out]; omega)) hszp
      obtain ⟨n1, n2, n3, n4, n5, n6⟩ := NN
      have AP : Hid (∀ (w2 : World) (g : Nat), Got wr w2 q d mo (rk (cap mo) l i0 (t + 1)) bad (R ++ rr (cap mo) l i0 (t + 1)) (fun j => Y j ∨ bk xa = some j) i g → ∃ xa' xc' W, (Builtin.append_ #[22, 22] 22 #[.slice xa xn xc, .slice (some ⟨g, lo, none⟩) (hh - lo) (m - lo)]).run Try.prog w2 = .ok (.slice xa' (xn + (hh - lo)) xc') W ∧ Wi w W q d mo l bad R Y a b i0 (t + 1) xa' (xn + (hh - lo)) xc') := by
        intro w2 g G
        rw [hi.out] at G
        refine H.out.app G (by rw [← hi.out, ← hm]; exact n1) (by unfold wl; rw [← hi.out, ← HSZ.out]; exact n2) (by rw [← hi.out, ← HSZ.out]; exact n3) (by have := HSM.out; omega) _
      have h2 : (lo : Int) ≤ hh := by omega
      have h3 : (hh : Int) ≤ m := by omega
      have h4 : ¬ m = lo := by omega
      have HH : Hid _ := hhh
      have HL : Hid _ := hlo
      clear hm hm2 n1 n2 n3 n4 n5 n6 hlo hhh him hxn
      go_wp2_with fail
      refine PC.mono ?_
      rintro e w2 ⟨g, rfl, G⟩
      clear PC
      obtain ⟨xa', xc', W2, hr, H2⟩ := AP.out w2 g G.out
      have HW : Hid _ := H2
      clear AP H2
      by_cases hsa : s ≤ a
      · by_cases hbs : b - s ≤ sz
        · have dummy : True := trivial
          have hlo : (a : Int) - s = lo := by have := HL.out; omega
          have hhh : (b : Int) - s = hh := by have := HH.out; omega
          have hle : (hh : Int) ≤ sz := by have := HH.out; omega
          clear HL HH
          go_wp2_with (at_builtin; first | (refine wpList_append_given rfl _ _ 22 rfl _ _ _ W2 rfl rfl hr ?_))
          go_wp2_with fail
          exact ⟨⟨t + 1, i + 1, _, xc', xa', rfl, by go_num, by omega, by omega, by show _ = _; rw [hi.out]; omega, HW⟩, by simp [intOf]; omega⟩
        · have dummy : True := trivial
          have hlo : (a : Int) - s = lo := by have := HL.out; omega
          obtain ⟨bb, hhh⟩ : ∃ bb : Nat, (b : Int) - s = bb := ⟨b - s, by omega⟩
          have hle : (sz : Int) < bb := by omega
          obtain rfl : hh = sz := by have := HH.out; omega
          clear HL HH
          go_wp2_with (at_builtin; first | (refine wpList_append_given rfl _ _ 22 rfl _ _ _ W2 rfl rfl hr ?_))
          go_wp2_with fail
          exact ⟨⟨t + 1, i + 1, _, xc', xa', rfl, by go_num, by omega, by omega, by show _ = _; rw [hi.out]; omega, HW⟩, by simp [intOf]; omega⟩
      · by_cases hbs : b - s ≤ sz
        · have dummy : True := trivial
          have hlo : (a : Int) - s ≤ 0 := by omega
          obtain rfl : lo = 0 := by have := HL.out; omega
          have hhh : (b : Int) - s = hh := by have := HH.out; omega
          have hle : (hh : Int) ≤ sz := by have := HH.out; omega
          clear HL HH
          go_wp2_with (at_builtin; first | (refine wpList_append_given rfl _ _ 22 rfl _ _ _ W2 rfl rfl hr ?_))
          go_wp2_with fail
          exact ⟨⟨t + 1, i + 1, _, xc', xa', rfl, by go_num, by omega, by omega, by show _ = _; rw [hi.out]; omega, HW⟩, by simp [intOf]; omega⟩
        · have dummy : True := trivial
          have hlo : (a : Int) - s ≤ 0 := by omega
          obtain rfl : lo = 0 := by have := HL.out; omega
          obtain ⟨bb, hhh⟩ : ∃ bb : Nat, (b : Int) - s = bb := ⟨b - s, by omega⟩
          have hle : (sz : Int) < bb := by omega
          obtain rfl : hh = sz := by have := HH.out; omega
          clear HL HH
          go_wp2_with (at_builtin; first | (refine wpList_append_given rfl _ _ 22 rfl _ _ _ W2 rfl rfl hr ?_))
          go_wp2_with fail
          exact ⟨⟨t + 1, i + 1, _, xc', xa', rfl, by go_num, by omega, by omega, by show _ = _; rw [hi.out]; omega, HW⟩, by simp [intOf]; omega⟩
    · obtain rfl : t = T := by omega
      obtain ⟨s, hs⟩ : ∃ s, s = i * sz := ⟨_, rfl⟩
      have hsb : s < b := by rw [hs, hi.out, HSZ.out]; exact hT.out.1 t (by omega)
      have hmul : (i : Int) * sz = (s : Int) := by rw [hs, Int.natCast_mul]
      have hsbz : (s : Int) < b := by omega
      have him : i0 + t < d.m := (hcnt.out _).1 (Nat.lt_of_lt_of_le (hT.out.1 t (by omega)) hb)
      have ht5 : t ≤ 5000 := by have := hi.out; omega
      have PC := H.out.page_bad hT.out.2 him (by omega)
      rw [← hi.out] at PC
      clear hs him
      go_wp2_with fail
      refine PC.mono ?_
      rintro e w2 ⟨rfl, G⟩
      clear PC
      exact ⟨rfl, rfl, G⟩

end
end Go.Proofs.Ytjlnmkoggobbgaa
