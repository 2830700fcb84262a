/- The cache that is a list: Put. -/
import Derived.Test.YtjlnmkoggobbgaaR6
import Derived.Deep.QuietTactic
import Derived.BigQuiet
import Derived.BigRegion
namespace Go.Proofs.Ytjlnmkoggobbgaa
open Go.RowKit

set_option maxHeartbeats 8000000 in
set_option maxRecDepth 100000 in
theorem rput (w : World) (r : Nat) (mo : Int) (T : List Pr) (ka : Option Addr) (kc : Nat) (va : Option Addr) (vc : Nat) (h : Rf w r mo T ka kc va vc) (hl : T.length < 20000) (hn : nodupT T) (k z : Int) :
    Calls Try.prog 41 #[.pointer (some ⟨r, 0, none⟩), .int .i64 k, .int .i64 z] w fun e w' => e = .returned (.tuple #[.int .i64 (tG mo T k z), .bool (!tOk mo T k)]) ∧ ∃ ka' kc' va' vc', Hid (Left w w' r mo (tS mo T k z) ka va ka' kc' va' vc') := by
  have D := rdrop w r mo T ka kc va vc h (by omega) hn k
  have hlt : Hid ((tdel T k).length < 20000) := Nat.lt_of_le_of_lt (List.length_filter_le _ _) hl
  have hok : Hid (∀ b : Bool, tOk mo T k = b → ((b = true → ((tdel T k).length : Int) + 1 ≤ max mo 1) ∧ (b = false → max mo 1 < ((tdel T k).length : Int) + 1)) ∧ tS mo T k z = (if b then (k, z) :: tdel T k else ((k, z) :: tdel T k).dropLast) ∧ tG mo T k z = if b then 0 else kT ((k, z) :: tdel T k) (tdel T k).length) := by
    rintro b rfl
    refine ⟨⟨fun h => ?_, fun h => ?_⟩, rfl, rfl⟩
    · unfold tOk at h
      rw [decide_eq_true_iff] at h
      exact h
    · unfold tOk at h
      rw [decide_eq_false_iff_not] at h
      omega
  generalize tdel T k = T0 at D hlt hok
  generalize tOk mo T k = ok at hok ⊢
  generalize tS mo T k z = TS at hok ⊢
  generalize tG mo T k z = TG at hok ⊢
  have hok := hok.out ok rfl
  have hS : Hid _ := hok.2.1
  have hG : Hid _ := hok.2.2
  have hO : Hid _ := hok.1
  clear h hl hn hok
  go_enter Try.func41, Try.ntmps41
  go_wp2_with fail
  refine D.mono ?_
  rintro e w1 ⟨rfl, ka1, kc1, va1, vc1, L1⟩
  clear D
  obtain ⟨a1, c1, W1, a2, c2, W2, p1, p2, t1, b1⟩ := ord1 w1 k z ka1 va1 T0.length kc1 vc1 _ _ L1.out.1.sk L1.out.1.sv L1.out.1.nk L1.out.1.nv (by have := hlt.out; omega)
  obtain ⟨a3, c3, W3, a4, c4, W4, p3, p4, t3, b3⟩ := ord2 w1 k z ka1 va1 T0.length kc1 vc1 _ _ L1.out.1.sk L1.out.1.sv L1.out.1.nk L1.out.1.nv (by have := hlt.out; omega)
  obtain ⟨a5, c5, W5, a6, c6, W6, p5, p6, t5, b5⟩ := ord3 w1 k z ka1 va1 T0.length kc1 vc1 _ _ L1.out.1.sk L1.out.1.sv L1.out.1.nk L1.out.1.nv (by have := hlt.out; omega)
  obtain ⟨⟨x1, x2, x3, x4⟩, x5⟩ := L1.out.1.lay t1
  obtain ⟨⟨y1, y2, y3, y4⟩, y5⟩ := L1.out.1.lay t3
  obtain ⟨⟨z1, z2, z3, z4⟩, z5⟩ := L1.out.1.lay t5
  have q1 := L1.out.1.c1
  have q2 := L1.out.1.c2
  have hrl : r < w1.heap.size := World.block_lt_of_cell? _ _ q1
  have u1 := (b1.cell (p := ⟨r, 1, none⟩) hrl).trans q1
  have u2 := (b1.cell (p := ⟨r, 2, none⟩) hrl).trans q2
  have u3 := (b3.cell (p := ⟨r, 1, none⟩) hrl).trans q1
  have u4 := (b3.cell (p := ⟨r, 2, none⟩) hrl).trans q2
  have u5 := (b5.cell (p := ⟨r, 1, none⟩) hrl).trans q1
  have u6 := (b5.cell (p := ⟨r, 2, none⟩) hrl).trans q2
  have hrl1 : r < W1.heap.size := Nat.lt_of_lt_of_le hrl b1.size
  have u7 : (W1.alloc (.cells #[.int .i64 z] 3)).cell? ⟨r, 2, none⟩ = some (.slice va1 T0.length vc1) := (Mv.alloc (fun _ => False) W1 _).cell u2 (fun h => h)
  clear t1 t3 t5 b1 b3 b5
  go_upto_region 2 with fail
  go_cut [] from 12 to 31 (fun wx => ∃ ka' kc' va' vc', Hid (Rf wx r mo ((k, z) :: T0) ka' kc' va' vc' ∧ Mv (fun j => j = r) w1 wx ∧ (∀ j, bk ka' = some j → w1.heap.size ≤ j) ∧ ∀ j, bk va' = some j → w1.heap.size ≤ j))
  case first =>
    go_region_law (first
      | ((with_reducible show (if _ then Oper.wp _ _ _ ((w1.alloc (.cells #[.int .i64 k] 3)).drew) _ _ else _)); refine step_append_given rfl (.tmp 15) (.tmp 19) 31 rfl _ _ _ rfl rfl W1 p1 ?_)
      | ((with_reducible show (if _ then Oper.wp _ _ _ (W1.alloc (.cells #[.int .i64 z] 3)) _ _ else _)); refine step_append_given rfl (.tmp 22) (.tmp 26) 31 rfl _ _ _ rfl rfl W2 p2 ?_)
      | ((with_reducible show (if _ then Oper.wp _ _ _ (((w1.alloc (.cells #[.int .i64 k] 3)).alloc (.cells #[.int .i64 z] 3)).drew) _ _ else _)); refine step_append_given rfl (.tmp 15) (.tmp 19) 31 rfl _ _ _ rfl rfl W3 p3 ?_)
      | ((with_reducible show (if _ then Oper.wp _ _ _ (W3) _ _ else _)); refine step_append_given rfl (.tmp 22) (.tmp 26) 31 rfl _ _ _ rfl rfl W4 p4 ?_)
      | ((with_reducible show (if _ then Oper.wp _ _ _ (((w1.alloc (.cells #[.int .i64 z] 3)).alloc (.cells #[.int .i64 k] 3)).drew) _ _ else _)); refine step_append_given rfl (.tmp 15) (.tmp 19) 31 rfl _ _ _ rfl rfl W5 p5 ?_)
      | ((with_reducible show (if _ then Oper.wp _ _ _ (W5) _ _ else _)); refine step_append_given rfl (.tmp 22) (.tmp 26) 31 rfl _ _ _ rfl rfl W6 p6 ?_))
    all_goals (go_wp2_with fail; go_meet; first | exact ⟨a1, c1, a2, c2, x5⟩ | exact ⟨a3, c3, a4, c4, y5⟩ | exact ⟨a5, c5, a6, c6, z5⟩)
  case rest =>
    obtain ⟨ka2, kc2, va2, vc2, R2⟩ := hcut
    clear p1 p2 p3 p4 p5 p6 x1 x2 x3 x4 x5 y1 y2 y3 y4 y5 z1 z2 z3 z4 z5 q1 q2 hrl u1 u2 u3 u4 u5 u6 u7 hrl1
    have L2 : Hid (Left w wc r mo ((k, z) :: T0) ka va ka2 kc2 va2 vc2) := L1.out.comp ⟨R2.out.1, R2.out.2.1, fun j hj => .inr (R2.out.2.2.1 j hj), fun j hj => .inr (R2.out.2.2.2 j hj)⟩
    obtain ⟨n, hn⟩ : ∃ n, n = T0.length + 1 := ⟨_, rfl⟩
    have hn20 : n ≤ 20000 := by have := hlt.out; omega
    have c0 := R2.out.1.c0
    have c1 : wc.cell? ⟨r, 1, none⟩ = some (.slice ka2 n kc2) := by rw [hn]; exact R2.out.1.c1
    have c2 : wc.cell? ⟨r, 2, none⟩ = some (.slice va2 n vc2) := by rw [hn]; exact R2.out.1.c2
    have z1 := R2.out.1.z1
    have z2 := R2.out.1.z2
    have hn1 : 1 ≤ n := by omega
    have hnz : (n : Int) ≤ 20000 := by omega
    have hn1z : (1 : Int) ≤ n := by omega
    obtain ⟨b1, o1, rfl, _, e1⟩ := R2.out.1.sk T0.length (by simp)
    obtain ⟨b2, o2, rfl, _, e2⟩ := R2.out.1.sv T0.length (by simp)
    have e1 : wc.cell? ⟨b1, o1 + (n - 1), none⟩ = some (.int .i64 (kT ((k, z) :: T0) T0.length)) := by
      rw [show n - 1 = T0.length by omega]; exact e1
    clear e2
    have HN : Hid _ := hn
    have hkc : n - 1 ≤ kc2 := by have := R2.out.1.lk; rw [List.length_cons] at this; omega
    have hvc : n - 1 ≤ vc2 := by have := R2.out.1.lv; rw [List.length_cons] at this; omega
    have hkcz : (n : Int) - 1 ≤ kc2 := by omega
    have hvcz : (n : Int) - 1 ≤ vc2 := by omega
    have SH : Hid (Rf ((wc.setCell ⟨r, 1, none⟩ (.slice (some ⟨b1, o1, none⟩) (n - 1) kc2)).setCell ⟨r, 2, none⟩ (.slice (some ⟨b2, o2, none⟩) (n - 1) vc2)) r mo ((k, z) :: T0).dropLast (some ⟨b1, o1, none⟩) kc2 (some ⟨b2, o2, none⟩) vc2 ∧ Mv (fun j => j = r) wc ((wc.setCell ⟨r, 1, none⟩ (.slice (some ⟨b1, o1, none⟩) (n - 1) kc2)).setCell ⟨r, 2, none⟩ (.slice (some ⟨b2, o2, none⟩) (n - 1) vc2))) := by
      have := R2.out.1.short (by simp)
      rw [List.length_cons, ← hn] at this
      exact this
    clear hn
    cases ok with
    | true =>
      have hle := hO.out.1 rfl
      rw [show T0.length = n - 1 by have := HN.out; omega] at hle
      by_cases hmo : mo < 1
      · have hle2 : (n : Int) ≤ 1 := by rw [Int.max_eq_right (by omega)] at hle; omega
        clear hle
        go_wp2_with fail
        go_region
        go_wp2_with fail
        go_ret2
        exact ⟨by rw [hG.out]; rfl, _, _, _, _, by rw [hS.out]; exact L2.out.mv ⟨rfl, rfl, rfl, Nat.le_refl _, fun _ _ _ => rfl⟩⟩
      · have hmo1 : 1 ≤ mo := by omega
        have hle2 : (n : Int) ≤ mo := by rw [Int.max_eq_left (by omega)] at hle; omega
        clear hle hmo
        go_wp2_with fail
        go_region
        go_wp2_with fail
        go_ret2
        exact ⟨by rw [hG.out]; rfl, _, _, _, _, by rw [hS.out]; exact L2.out.mv ⟨rfl, rfl, rfl, Nat.le_refl _, fun _ _ _ => rfl⟩⟩
    | false =>
      have hle := hO.out.2 rfl
      rw [show T0.length = n - 1 by have := HN.out; omega] at hle
      have hc1 : (n : Int) - 1 = ((n - 1 : Nat) : Int) := by omega
      generalize kT ((k, z) :: T0) T0.length = lst at e1 hG
      by_cases hmo : mo < 1
      · have hle2 : (1 : Int) < n := by rw [Int.max_eq_right (by omega)] at hle; omega
        clear hle
        go_wp2_with fail
        go_region
        go_wp2_with fail
        go_quiet (fail)
        go_wp2_with fail
        go_region
        go_wp2_with fail
        go_ret2
        exact ⟨by rw [hG.out]; rfl, _, _, _, _, by rw [hS.out]; exact (L2.out.comp ⟨SH.out.1, SH.out.2, fun j hj => .inl hj, fun j hj => .inl hj⟩).mv ⟨rfl, rfl, rfl, Nat.le_refl _, fun _ _ _ => rfl⟩⟩
      · have hmo1 : 1 ≤ mo := by omega
        have hle2 : mo < (n : Int) := by rw [Int.max_eq_left (by omega)] at hle; omega
        clear hle hmo
        go_wp2_with fail
        go_region
        go_wp2_with fail
        go_quiet (fail)
        go_wp2_with fail
        go_region
        go_wp2_with fail
        go_ret2
        exact ⟨by rw [hG.out]; rfl, _, _, _, _, by rw [hS.out]; exact (L2.out.comp ⟨SH.out.1, SH.out.2, fun j hj => .inl hj, fun j hj => .inl hj⟩).mv ⟨rfl, rfl, rfl, Nat.le_refl _, fun _ _ _ => rfl⟩⟩

end Go.Proofs.Ytjlnmkoggobbgaa
