/- The statement's own walk, page by page. -/
import Derived.Test.YtjlnmkoggobbgaaR8
namespace Go.Proofs.Ytjlnmkoggobbgaa
open Go.RowKit

/-- The one page that fails. -/
def badf (x : Int) : Nat → Bool := fun j => decide (x = (j : Int))

/-- What the walk has behind t pages. -/
structure Wk (w0 wr : World) (r : Nat) (mo : Int) (l : List Int) (i0 t : Nat) (ka0 va0 : Option Addr) (ka : Option Addr) (kc : Nat) (va : Option Addr) (vc : Nat) (xa : Option Addr) (xn xc : Nat) (L R : List Int) : Prop where
  rf : Rf wr r mo (zt L) ka kc va vc
  O : Own wr w0.heap.size 3 (.slice xa xn xc) xn (In (lof R))
  n : xn = R.length
  M : Mv (fun j => j = r) w0 wr
  kn : ∀ j, bk ka = some j → bk ka0 = some j ∨ w0.heap.size ≤ j
  vn : ∀ j, bk va = some j → bk va0 = some j ∨ w0.heap.size ≤ j
  sep : ∀ j, bk xa = some j → bk ka ≠ some j ∧ bk va ≠ some j
  eL : L = rk (cap mo) l i0 t
  eR : R = rr (cap mo) l i0 t
  rl : r < w0.heap.size
/-- What it leaves. -/
def Wd (w w' : World) (r : Nat) (mo : Int) (ka0 va0 : Option Addr) (xa : Option Addr) (xc : Nat) (L R : List Int) : Prop :=
  ∃ ka kc va vc, Rf w' r mo (zt L) ka kc va vc ∧ Own w' w.heap.size 3 (.slice xa R.length xc) R.length (In (lof R)) ∧ Mv (fun j => j = r) w w' ∧ (∀ j, bk ka = some j → bk ka0 = some j ∨ w.heap.size ≤ j) ∧ (∀ j, bk va = some j → bk va0 = some j ∨ w.heap.size ≤ j)

section
variable {w0 wr : World} {r : Nat} {mo : Int} {l : List Int} {i0 t : Nat} {ka0 va0 : Option Addr} {ka : Option Addr} {kc : Nat} {va : Option Addr} {vc : Nat} {xa : Option Addr} {xn xc : Nat} {L R : List Int}
theorem Wk.left {w2 : World} {ka' : Option Addr} {kc' : Nat} {va' : Option Addr} {vc' : Nat} {L' R' : List Int} {t' : Nat} (h : Wk w0 wr r mo l i0 t ka0 va0 ka kc va vc xa xn xc L R) (H : Left wr w2 r mo (zt L') ka va ka' kc' va' vc') (eL : L' = rk (cap mo) l i0 t') (eR : R' = rr (cap mo) l i0 t') (hR : R' = R) : Wk w0 w2 r mo l i0 t' ka0 va0 ka' kc' va' vc' xa xn xc L' R' := by
  obtain ⟨h1, h2, h3, h4⟩ := H
  subst hR
  have hx : ∀ j, bk xa = some j → w0.heap.size ≤ j ∧ j < wr.heap.size := fun j hj => h.O.blk j (by rw [own_blk]; exact hj)
  have hs := h.M.size
  refine ⟨h1, h.O.mv h2 (fun j hj e => ?_), h.n, h.M.trans h2 (fun _ _ e => e), fun j hj => ?_, fun j hj => ?_, fun j hj => ⟨fun e => ?_, fun e => ?_⟩, eL, eR, h.rl⟩
  · have h5 := (h.O.blk j hj).1
    have h6 := h.rl
    have e' : j = r := e
    omega
  · rcases h3 j hj with e | e
    · exact h.kn j e
    · exact .inr (by omega)
  · rcases h4 j hj with e | e
    · exact h.vn j e
    · exact .inr (by omega)
  · rcases h3 j e with e | e
    · exact (h.sep j hj).1 e
    · have := hx j hj; omega
  · rcases h4 j e with e | e
    · exact (h.sep j hj).2 e
    · have := hx j hj; omega

/-- A reading is noted. -/
theorem Wk.note (h : Wk w0 wr r mo l i0 t ka0 va0 ka kc va vc xa xn xc L R) (x : Int) (hn : xn < 60000) :
    ∃ xa' xc' W, (Builtin.append_ #[31, 31] 31 #[.slice xa xn xc, .slice (some ⟨wr.heap.size, 0, none⟩) 1 1]).run Try.prog (wr.alloc (.cells #[.int .i64 x] 3)) = .ok (.slice xa' (xn + 1) xc') W ∧
      Rf W r mo (zt L) ka kc va vc ∧ Own W w0.heap.size 3 (.slice xa' (xn + 1) xc') (xn + 1) (In (lof (R ++ [x]))) ∧ Mv (fun j => j = r) w0 W ∧ (∀ j, bk xa' = some j → bk ka ≠ some j ∧ bk va ≠ some j) := by
  have O1 : Own wr w0.heap.size 3 (.slice xa xn xc) xn (In (lof (R ++ [x]))) := h.O.congr (fun j hj => by
    have hj' : j < R.length := by rw [← h.n]; exact hj
    unfold In lof
    rw [List.getElem?_append_left hj'])
  have hx : ∀ j, bk xa = some j → w0.heap.size ≤ j ∧ j < wr.heap.size := fun j hj => h.O.blk j (by rw [own_blk]; exact hj)
  obtain ⟨xa', xc', W, hr, O2, M2, K2, _⟩ := more wr w0.heap.size xa xn xc (lof (R ++ [x])) O1 (by omega) x (by
    unfold lof
    rw [h.n, List.getElem?_append_right (Nat.le_refl _), Nat.sub_self]
    rfl) h.M.size wr.heap.size rfl
  refine ⟨xa', xc', W, hr, h.rf.mv M2 (fun e => by have := hx _ e; have := h.rl; omega) (fun j hj e => (h.sep j e).1 hj) (fun j hj e => (h.sep j e).2 hj), O2, h.M.trans M2 (fun j hj e => by have := hx j e; omega), fun j hj => ?_⟩
  rcases K2 with K2 | ⟨g, k1, k2⟩
  · exact h.sep j (K2 ▸ hj)
  · have e := Option.some.inj (k1 ▸ hj)
    exact ⟨fun e2 => by have := h.rf.bl.1 j e2; omega, fun e2 => by have := h.rf.bl.2 j e2; omega⟩
theorem Wk.over (h : Wk w0 wr r mo l i0 t ka0 va0 ka kc va vc xa xn xc L R) : Wd w0 wr r mo ka0 va0 xa xc L R := by
  have hO := h.O
  rw [h.n] at hO
  exact ⟨ka, kc, va, vc, h.rf, hO, h.M, h.kn, h.vn⟩

set_option maxHeartbeats 1000000 in
theorem walk_none (a b sz bx : Int) (hab : b ≤ a) (h0 : 0 < sz) (h1 : sz ≤ 512) (ha : 0 ≤ a) (hb : a ≤ 5000) (w : World) : Calls Try.prog 28 #[.pointer (some ⟨r, 0, none⟩), .int .i64 a, .int .i64 b, .int .i64 sz, .int .i64 bx] w fun e w' => e = .returned (.tuple #[.slice none 0 0, .int .i64 0]) ∧ w' = w := by
  have hz : ¬ sz = 0 := by omega
  go_enter Try.func28, Try.ntmps28
  go_wp2_with fail
  go_loop [12, 13] (fun vr vi => vr = .slice none 0 0 ∧ ∃ i : Int, vi = .int .i64 i) (fun _ _ => 0)
  case atStart => exact ⟨rfl, _, rfl⟩
  case round =>
    obtain ⟨rfl, i, rfl⟩ := hrel
    go_wp2_with fail
    go_ret2
    exact ⟨rfl, rfl⟩
end

set_option maxHeartbeats 8000000 in
set_option maxRecDepth 20000 in
theorem walk_ok {w : World} {r : Nat} {mo : Int} {l : List Int} {ka0 : Option Addr} {kc0 : Nat} {va0 : Option Addr} {vc0 : Nat} (h : Hid (Rf w r mo (zt l) ka0 kc0 va0 vc0)) (hn : Hid l.Nodup) (hl : Hid (l.length ≤ cap mo)) (hl2 : l.length ≤ 5000) (a b i0 sz T : Nat) (bx : Int) (hab : a < b) (hb : b ≤ 5000) (h0 : 0 < sz) (h1 : sz ≤ 512) (hi0 : Hid (i0 = a / sz)) (hT : Hid ((∀ s, s < T → (i0 + s) * sz < b) ∧ b ≤ (i0 + T) * sz)) (hf : Hid (∀ s, s < T → ¬ fails (cap mo) l i0 (badf bx) s)) :
    Calls Try.prog 28 #[.pointer (some ⟨r, 0, none⟩), .int .i64 a, .int .i64 b, .int .i64 sz, .int .i64 bx] w fun e w' => ∃ xa xc, e = .returned (.tuple #[.slice xa (rr (cap mo) l i0 T).length xc, .int .i64 0]) ∧ Hid (Wd w w' r mo ka0 va0 xa xc (rk (cap mo) l i0 T) (rr (cap mo) l i0 T)) := by
  have hrl : Hid (r < w.heap.size) := World.block_lt_of_cell? _ _ h.out.c0
  have K0 : Hid (Wk w w r mo l i0 0 ka0 va0 ka0 kc0 va0 vc0 none 0 0 l []) := ⟨h.out, own_nil _ _ _ _, rfl, Mv.refl _ _, fun j hj => .inl hj, fun j hj => .inl hj, fun j hj => (by cases hj), rfl, rfl, hrl.out⟩
  have haz : (a : Int) < b := by omega
  have hbz : (b : Int) ≤ 5000 := by omega
  have hszn : ¬ sz = 0 := by omega
  have hsz1 : ¬ (sz : Int) = 0 := by omega
  clear h
  go_enter Try.func28, Try.ntmps28
  go_wp2_with fail
  go_loopw [12, 13] (fun vr vi wr => ∃ (t i xn xc : Nat) (xa : Option Addr), vr = .slice xa xn xc ∧ vi = .int .i64 i ∧ t ≤ T ∧ i ≤ 5000 ∧ xn ≤ 5000 ∧ Hid (i = i0 + t) ∧ Hid (∃ ka kc va vc L R, Wk w wr r mo l i0 t ka0 va0 ka kc va vc xa xn xc L R)) (fun _ vi _ => 6000 - (intOf vi).toNat)
  case atStart =>
    have hq : (a : Int) / sz = ((i0 : Nat) : Int) := by rw [hi0.out]; rfl
    have hle : i0 ≤ a := by rw [hi0.out]; exact Nat.div_le_self _ _
    refine ⟨0, i0, 0, 0, none, rfl, ?_, Nat.zero_le _, by omega, by omega, rfl, _, _, _, _, _, _, K0.out⟩
    rw [hq]
    congr 1
    exact wrap64_small (by omega) (by omega)
  case round =>
    obtain ⟨t, i, xn, xc, xa, rfl, rfl, ht, hi5, hxn5, hi, H⟩ := hrel
    obtain ⟨ka, kc, va, vc, L, R, K⟩ := H.out
    have ht5 : t ≤ 5000 := by have := hi.out; omega
    obtain ⟨k1, k2, k3⟩ := rk_keep hn.out hl.out i0 t
    rw [← K.eL] at k1 k2 k3
    have kb := rr_le (cap mo) l i0 t
    rw [← K.eR, ← K.n] at kb
    have LB : Hid (xn ≤ t) := kb
    by_cases hlt : t < T
    · obtain ⟨s, hs⟩ : ∃ s, s = i * sz := ⟨_, rfl⟩
      have hsb : s < b := by rw [hs, hi.out]; exact hT.out.1 t hlt
      have hib : i < b := Nat.lt_of_le_of_lt (by rw [hs]; exact Nat.le_mul_of_pos_right i h0) hsb
      have hmul : (i : Int) * sz = (s : Int) := by rw [hs, Int.natCast_mul]
      have hsbz : (s : Int) < b := by omega
      clear hs
      by_cases hm : (i : Int) ∈ L
      · have GH := zget_hit K.rf k1 k2 (by omega) hm
        have HR2 : rr (cap mo) l i0 (t + 1) = R := by rw [rk_hit (by rw [← K.eL, ← hi.out]; exact hm), ← K.eR]
        have HL2 : step (cap mo) L i = rk (cap mo) l i0 (t + 1) := by rw [K.eL, hi.out]; rfl
        have FIN : Hid (∀ w2 ka' kc' va' vc', Left wr w2 r mo (zt (step (cap mo) L i)) ka va ka' kc' va' vc' → Wk w w2 r mo l i0 (t + 1) ka0 va0 ka' kc' va' vc' xa xn xc (step (cap mo) L i) R) := fun w2 ka' kc' va' vc' H => K.left H HL2 HR2.symm rfl
        clear k1 k2 k3 kb K hm HR2 HL2
        go_wp2_with fail
        refine GH.mono ?_
        rintro e w2 ⟨rfl, ka', kc', va', vc', G⟩
        clear GH
        have K2 : Hid _ := FIN.out w2 ka' kc' va' vc' G.out
        clear FIN
        go_wp2_with fail
        exact ⟨⟨t + 1, i + 1, xn, xc, xa, rfl, by go_num, by omega, by omega, by omega, by show _ = _; rw [hi.out]; omega, _, _, _, _, _, _, K2.out⟩, by simp [intOf]; omega⟩
      · have GM := zget_miss K.rf (by omega) hm
        obtain ⟨xa', xc', W, hr, rf2, O2, M2, S2⟩ := K.note (i : Int) (by omega)
        have GP := zput rf2 k1 k2 (by omega) (i : Int)
        have HR2 : R ++ [(i : Int)] = rr (cap mo) l i0 (t + 1) := by rw [rk_miss (by rw [← K.eL, ← hi.out]; exact hm), ← K.eR, hi.out]
        have HL2 : step (cap mo) L i = rk (cap mo) l i0 (t + 1) := by rw [K.eL, hi.out]; rfl
        have hbx : ((i : Int) == bx) = false := by
          rw [beq_eq_false_iff_ne]
          intro e
          exact hf.out t hlt ⟨by rw [← K.eL, ← hi.out]; exact hm, by unfold badf; rw [decide_eq_true_iff, ← e, hi.out]⟩
        have FIN : Hid (∀ w2 ka' kc' va' vc', Left W w2 r mo (zt (step (cap mo) L i)) ka va ka' kc' va' vc' → Wk w w2 r mo l i0 (t + 1) ka0 va0 ka' kc' va' vc' xa' (xn + 1) xc' (step (cap mo) L i) (R ++ [(i : Int)])) := by
          intro w2 ka' kc' va' vc' H
          obtain ⟨h1, h2, h3, h4⟩ := H
          have hx : ∀ j, bk xa' = some j → w.heap.size ≤ j ∧ j < W.heap.size := fun j hj => O2.blk j (by rw [own_blk]; exact hj)
          have hs := M2.size
          refine ⟨h1, O2.mv h2 (fun j hj e => ?_), by rw [List.length_append, ← K.n]; rfl, M2.trans h2 (fun _ _ e => e), fun j hj => ?_, fun j hj => ?_, fun j hj => ⟨fun e => ?_, fun e => ?_⟩, HL2, HR2, K.rl⟩
          · have h5 := (O2.blk j hj).1
            have h6 := K.rl
            have e' : j = r := e
            omega
          · rcases h3 j hj with e | e
            · exact K.kn j e
            · exact .inr (by omega)
          · rcases h4 j hj with e | e
            · exact K.vn j e
            · exact .inr (by omega)
          · rcases h3 j e with e | e
            · exact (S2 j hj).1 e
            · have := hx j hj; omega
          · rcases h4 j e with e | e
            · exact (S2 j hj).2 e
            · have := hx j hj; omega
        clear k1 k2 k3 kb K hm HR2 HL2 rf2 O2 M2 S2
        go_wp2_with fail
        refine GM.mono ?_
        rintro e w' ⟨rfl, hw⟩
        obtain rfl := hw.symm
        clear hw GM
        go_wp2_with (at_builtin; first | (refine wpList_append_given rfl _ _ 31 rfl _ _ _ W rfl rfl hr ?_))
        go_wp2_with fail
        refine GP.mono ?_
        rintro e w2 ⟨g, o, rfl, ka', kc', va', vc', G⟩
        clear GP
        have K2 : Hid _ := FIN.out w2 ka' kc' va' vc' G.out
        clear FIN
        go_wp2_with fail
        exact ⟨⟨t + 1, i + 1, xn + 1, xc', xa', rfl, by go_num, by omega, by omega, by have := LB.out; have := hi.out; omega, by show _ = _; rw [hi.out]; omega, _, _, _, _, _, _, K2.out⟩, by simp [intOf]; omega⟩
    · have hTt : t = T := by omega
      obtain ⟨s, hs⟩ : ∃ s, s = i * sz := ⟨_, rfl⟩
      have hsb : b ≤ s := by rw [hs, hi.out, hTt]; exact hT.out.2
      have hmul : (i : Int) * sz = (s : Int) := by rw [hs, Int.natCast_mul]
      have hsbz : (b : Int) ≤ s := by omega
      have hmul5 : i * sz ≤ 5000 * 512 := Nat.mul_le_mul hi5 h1
      have hs5 : s ≤ 2560000 := by omega
      have hs5z : (s : Int) ≤ 2560000 := by omega
      subst hTt
      have FIN : Hid (Wd w wr r mo ka0 va0 xa xc (rk (cap mo) l i0 t) (rr (cap mo) l i0 t)) := by
        have := K.over
        rw [K.eL, K.eR] at this
        exact this
      have HN : Hid (xn = (rr (cap mo) l i0 t).length) := by show _ = _; rw [K.n, K.eR]
      clear hs K k1 k2 k3 kb hmul5
      go_wp2_with fail
      go_ret2
      exact ⟨xa, xc, by rw [HN.out]; rfl, FIN⟩

set_option maxHeartbeats 8000000 in
set_option maxRecDepth 20000 in
theorem walk_bad {w : World} {r : Nat} {mo : Int} {l : List Int} {ka0 : Option Addr} {kc0 : Nat} {va0 : Option Addr} {vc0 : Nat} (h : Hid (Rf w r mo (zt l) ka0 kc0 va0 vc0)) (hn : Hid l.Nodup) (hl : Hid (l.length ≤ cap mo)) (hl2 : l.length ≤ 5000) (a b i0 sz T : Nat) (bx : Int) (hab : a < b) (hb : b ≤ 5000) (h0 : 0 < sz) (h1 : sz ≤ 512) (hi0 : Hid (i0 = a / sz)) (hT : Hid ((∀ s, s < T + 1 → (i0 + s) * sz < b) ∧ fails (cap mo) l i0 (badf bx) T)) (hf : Hid (∀ s, s < T → ¬ fails (cap mo) l i0 (badf bx) s)) :
    Calls Try.prog 28 #[.pointer (some ⟨r, 0, none⟩), .int .i64 a, .int .i64 b, .int .i64 sz, .int .i64 bx] w fun e w' => ∃ xa xc, e = .returned (.tuple #[.slice xa (rr (cap mo) l i0 (T + 1)).length xc, .int .i64 11]) ∧ Hid (Wd w w' r mo ka0 va0 xa xc (rk (cap mo) l i0 T) (rr (cap mo) l i0 (T + 1))) := by
  have hrl : Hid (r < w.heap.size) := World.block_lt_of_cell? _ _ h.out.c0
  have K0 : Hid (Wk w w r mo l i0 0 ka0 va0 ka0 kc0 va0 vc0 none 0 0 l []) := ⟨h.out, own_nil _ _ _ _, rfl, Mv.refl _ _, fun j hj => .inl hj, fun j hj => .inl hj, fun j hj => (by cases hj), rfl, rfl, hrl.out⟩
  have haz : (a : Int) < b := by omega
  have hbz : (b : Int) ≤ 5000 := by omega
  have hszn : ¬ sz = 0 := by omega
  have hsz1 : ¬ (sz : Int) = 0 := by omega
  clear h
  go_enter Try.func28, Try.ntmps28
  go_wp2_with fail
  go_loopw [12, 13] (fun vr vi wr => ∃ (t i xn xc : Nat) (xa : Option Addr), vr = .slice xa xn xc ∧ vi = .int .i64 i ∧ t ≤ T ∧ i ≤ 5000 ∧ xn ≤ 5000 ∧ Hid (i = i0 + t) ∧ Hid (∃ ka kc va vc L R, Wk w wr r mo l i0 t ka0 va0 ka kc va vc xa xn xc L R)) (fun _ vi _ => 6000 - (intOf vi).toNat)
  case atStart =>
    have hq : (a : Int) / sz = ((i0 : Nat) : Int) := by rw [hi0.out]; rfl
    have hle : i0 ≤ a := by rw [hi0.out]; exact Nat.div_le_self _ _
    refine ⟨0, i0, 0, 0, none, rfl, ?_, Nat.zero_le _, by omega, by omega, rfl, _, _, _, _, _, _, K0.out⟩
    rw [hq]
    congr 1
    exact wrap64_small (by omega) (by omega)
  case round =>
    obtain ⟨t, i, xn, xc, xa, rfl, rfl, ht, hi5, hxn5, hi, H⟩ := hrel
    obtain ⟨ka, kc, va, vc, L, R, K⟩ := H.out
    have ht5 : t ≤ 5000 := by have := hi.out; omega
    obtain ⟨k1, k2, k3⟩ := rk_keep hn.out hl.out i0 t
    rw [← K.eL] at k1 k2 k3
    have kb := rr_le (cap mo) l i0 t
    rw [← K.eR, ← K.n] at kb
    have LB : Hid (xn ≤ t) := kb
    by_cases hlt : t < T
    · obtain ⟨s, hs⟩ : ∃ s, s = i * sz := ⟨_, rfl⟩
      have hsb : s < b := by rw [hs, hi.out]; exact hT.out.1 t (by omega)
      have hib : i < b := Nat.lt_of_le_of_lt (by rw [hs]; exact Nat.le_mul_of_pos_right i h0) hsb
      have hmul : (i : Int) * sz = (s : Int) := by rw [hs, Int.natCast_mul]
      have hsbz : (s : Int) < b := by omega
      clear hs
      by_cases hm : (i : Int) ∈ L
      · have GH := zget_hit K.rf k1 k2 (by omega) hm
        have HR2 : rr (cap mo) l i0 (t + 1) = R := by rw [rk_hit (by rw [← K.eL, ← hi.out]; exact hm), ← K.eR]
        have HL2 : step (cap mo) L i = rk (cap mo) l i0 (t + 1) := by rw [K.eL, hi.out]; rfl
        have FIN : Hid (∀ w2 ka' kc' va' vc', Left wr w2 r mo (zt (step (cap mo) L i)) ka va ka' kc' va' vc' → Wk w w2 r mo l i0 (t + 1) ka0 va0 ka' kc' va' vc' xa xn xc (step (cap mo) L i) R) := fun w2 ka' kc' va' vc' H => K.left H HL2 HR2.symm rfl
        clear k1 k2 k3 kb K hm HR2 HL2
        go_wp2_with fail
        refine GH.mono ?_
        rintro e w2 ⟨rfl, ka', kc', va', vc', G⟩
        clear GH
        have K2 : Hid _ := FIN.out w2 ka' kc' va' vc' G.out
        clear FIN
        go_wp2_with fail
        exact ⟨⟨t + 1, i + 1, xn, xc, xa, rfl, by go_num, by omega, by omega, by omega, by show _ = _; rw [hi.out]; omega, _, _, _, _, _, _, K2.out⟩, by simp [intOf]; omega⟩
      · have GM := zget_miss K.rf (by omega) hm
        obtain ⟨xa', xc', W, hr, rf2, O2, M2, S2⟩ := K.note (i : Int) (by omega)
        have GP := zput rf2 k1 k2 (by omega) (i : Int)
        have HR2 : R ++ [(i : Int)] = rr (cap mo) l i0 (t + 1) := by rw [rk_miss (by rw [← K.eL, ← hi.out]; exact hm), ← K.eR, hi.out]
        have HL2 : step (cap mo) L i = rk (cap mo) l i0 (t + 1) := by rw [K.eL, hi.out]; rfl
        have hbx : ((i : Int) == bx) = false := by
          rw [beq_eq_false_iff_ne]
          intro e
          exact hf.out t hlt ⟨by rw [← K.eL, ← hi.out]; exact hm, by unfold badf; rw [decide_eq_true_iff, ← e, hi.out]⟩
        have FIN : Hid (∀ w2 ka' kc' va' vc', Left W w2 r mo (zt (step (cap mo) L i)) ka va ka' kc' va' vc' → Wk w w2 r mo l i0 (t + 1) ka0 va0 ka' kc' va' vc' xa' (xn + 1) xc' (step (cap mo) L i) (R ++ [(i : Int)])) := by
          intro w2 ka' kc' va' vc' H
          obtain ⟨h1, h2, h3, h4⟩ := H
          have hx : ∀ j, bk xa' = some j → w.heap.size ≤ j ∧ j < W.heap.size := fun j hj => O2.blk j (by rw [own_blk]; exact hj)
          have hs := M2.size
          refine ⟨h1, O2.mv h2 (fun j hj e => ?_), by rw [List.length_append, ← K.n]; rfl, M2.trans h2 (fun _ _ e => e), fun j hj => ?_, fun j hj => ?_, fun j hj => ⟨fun e => ?_, fun e => ?_⟩, HL2, HR2, K.rl⟩
          · have h5 := (O2.blk j hj).1
            have h6 := K.rl
            have e' : j = r := e
            omega
          · rcases h3 j hj with e | e
            · exact K.kn j e
            · exact .inr (by omega)
          · rcases h4 j hj with e | e
            · exact K.vn j e
            · exact .inr (by omega)
          · rcases h3 j e with e | e
            · exact (S2 j hj).1 e
            · have := hx j hj; omega
          · rcases h4 j e with e | e
            · exact (S2 j hj).2 e
            · have := hx j hj; omega
        clear k1 k2 k3 kb K hm HR2 HL2 rf2 O2 M2 S2
        go_wp2_with fail
        refine GM.mono ?_
        rintro e w' ⟨rfl, hw⟩
        obtain rfl := hw.symm
        clear hw GM
        go_wp2_with (at_builtin; first | (refine wpList_append_given rfl _ _ 31 rfl _ _ _ W rfl rfl hr ?_))
        go_wp2_with fail
        refine GP.mono ?_
        rintro e w2 ⟨g, o, rfl, ka', kc', va', vc', G⟩
        clear GP
        have K2 : Hid _ := FIN.out w2 ka' kc' va' vc' G.out
        clear FIN
        go_wp2_with fail
        exact ⟨⟨t + 1, i + 1, xn + 1, xc', xa', rfl, by go_num, by omega, by omega, by have := LB.out; have := hi.out; omega, by show _ = _; rw [hi.out]; omega, _, _, _, _, _, _, K2.out⟩, by simp [intOf]; omega⟩
    · obtain rfl : t = T := by omega
      obtain ⟨s, hs⟩ : ∃ s, s = i * sz := ⟨_, rfl⟩
      have hsb : s < b := by rw [hs, hi.out]; exact hT.out.1 t (by omega)
      have hib : i < b := Nat.lt_of_le_of_lt (by rw [hs]; exact Nat.le_mul_of_pos_right i h0) hsb
      have hmul : (i : Int) * sz = (s : Int) := by rw [hs, Int.natCast_mul]
      have hsbz : (s : Int) < b := by omega
      clear hs
      have hm : (i : Int) ∉ L := by rw [K.eL, hi.out]; exact hT.out.2.1
      have GM := zget_miss K.rf (by omega) hm
      obtain ⟨xa', xc', W, hr, rf2, O2, M2, S2⟩ := K.note (i : Int) (by omega)
      have HR2 : R ++ [(i : Int)] = rr (cap mo) l i0 (t + 1) := by rw [rk_miss (by rw [← K.eL, ← hi.out]; exact hm), ← K.eR, hi.out]
      have hbx : ((i : Int) == bx) = true := by
        have := hT.out.2.2
        unfold badf at this
        rw [decide_eq_true_iff] at this
        rw [beq_iff_eq, this, hi.out]
      have FIN : Hid (Wd w W r mo ka0 va0 xa' xc' (rk (cap mo) l i0 t) (rr (cap mo) l i0 (t + 1))) := by
        rw [← HR2, ← K.eL]
        refine ⟨ka, kc, va, vc, rf2, ?_, M2, K.kn, K.vn⟩
        rw [List.length_append, ← K.n]
        exact O2
      have HN : Hid (xn + 1 = (rr (cap mo) l i0 (t + 1)).length) := by show _ = _; rw [← HR2, List.length_append, ← K.n]; rfl
      clear k1 k2 k3 kb K hm HR2 rf2 O2 M2 S2
      go_wp2_with fail
      refine GM.mono ?_
      rintro e w' ⟨rfl, hw⟩
      obtain rfl := hw.symm
      clear hw GM
      go_wp2_with (at_builtin; first | (refine wpList_append_given rfl _ _ 31 rfl _ _ _ W rfl rfl hr ?_))
      go_wp2_with fail
      go_ret2
      exact ⟨xa', xc', by rw [← HN.out]; rfl, FIN⟩
end Go.Proofs.Ytjlnmkoggobbgaa
