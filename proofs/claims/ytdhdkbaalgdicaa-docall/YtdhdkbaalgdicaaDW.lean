/- What of the pieces lies in a window: within. -/
import Derived.Test.YtdhdkbaalgdicaaTX
import Derived.Deep.CutRange
import Derived.Deep.CutBlock
namespace Go.Proofs.Ytdhdkbaalgdicaa
open Go.RowKit

/-- What of one piece; what of pieces. -/
def one (p : Pc) (f t : Int) : List Pc := if max f 0 < min t ((p.to - p.fr : Nat) : Int) then [⟨p.ad, p.fr + (max f 0).toNat, p.fr + (min t ((p.to - p.fr : Nat) : Int)).toNat⟩] else []
def wi : List Pc → Int → Int → List Pc
  | [], _, _ => []
  | p :: r, f, t => one p f t ++ wi r (f - ((p.to - p.fr : Nat) : Int)) (t - ((p.to - p.fr : Nat) : Int))
theorem wi_snoc (p : Pc) : ∀ (ps : List Pc) (f t : Int), wi (ps ++ [p]) f t = wi ps f t ++ one p (f - ((spl ps).length : Int)) (t - ((spl ps).length : Int))
  | [], f, t => by simp [wi, spl_nil]
  | q :: r, f, t => by
    show one q f t ++ wi (r ++ [p]) _ _ = (one q f t ++ wi r _ _) ++ _
    rw [wi_snoc p r, List.append_assoc, spl_cons, List.length_append, sp1_length]
    congr 3
    · push_cast; omega
    · push_cast; omega
theorem sp1_part (a : Bool) (u v x y : Nat) (hy : y ≤ v - u) : sp1 ⟨a, u + x, u + y⟩ = ((sp1 ⟨a, u, v⟩).take y).drop x := by
  apply List.ext_getElem?
  intro i
  rw [List.getElem?_drop, List.getElem?_take]
  by_cases hi : x + i < y
  · rw [if_pos hi, sp1_get (by show i < u + y - (u + x); omega), sp1_get (by show x + i < v - u; omega)]
    show some (a, u + x + i) = some (a, u + (x + i))
    rw [Nat.add_assoc]
  · rw [if_neg hi]
    exact List.getElem?_eq_none (by rw [sp1_length]; show u + y - (u + x) ≤ i; omega)
theorem one_spl (p : Pc) (f t : Int) : spl (one p f t) = ((sp1 p).take t.toNat).drop f.toNat := by
  unfold one
  split
  · rename_i h
    obtain ⟨a, u, v⟩ := p
    have h : max f 0 < min t ((v - u : Nat) : Int) := h
    show spl [⟨a, u + (max f 0).toNat, u + (min t ((v - u : Nat) : Int)).toNat⟩] = _
    have e1 : (max f 0).toNat = f.toNat := by omega
    rw [spl_cons, spl_nil, List.append_nil, sp1_part a u v _ _ (by omega), e1]
    congr 1
    by_cases ht : t ≤ ((v - u : Nat) : Int)
    · rw [Int.min_eq_left ht]
    · rw [Int.min_eq_right (by omega), Int.toNat_natCast, List.take_of_length_le (by rw [sp1_length]; exact Nat.le_refl _), List.take_of_length_le (by rw [sp1_length]; show v - u ≤ _; omega)]
  · rename_i h
    rw [spl_nil]
    refine (List.drop_eq_nil_of_le ?_).symm
    rw [List.length_take, sp1_length]
    omega
theorem wi_spl : ∀ (ps : List Pc) (f t : Int), spl (wi ps f t) = ((spl ps).take t.toNat).drop f.toNat
  | [], f, t => by simp [wi, spl_nil]
  | p :: r, f, t => by
    rw [wi, spl_append, one_spl, wi_spl r, spl_cons, List.take_append, List.drop_append, sp1_length]
    congr 1
    have e1 : (t - ((p.to - p.fr : Nat) : Int)).toNat = t.toNat - (p.to - p.fr) := by omega
    rw [e1, List.length_take, sp1_length]
    by_cases h : t.toNat ≤ p.to - p.fr
    · rw [show t.toNat - (p.to - p.fr) = 0 by omega]; simp
    · congr 1; omega
theorem one_pos (p : Pc) (f t : Int) : ∀ q ∈ one p f t, q.fr < q.to := by
  unfold one
  split
  · intro q hq
    simp only [List.mem_singleton] at hq
    subst hq
    show p.fr + _ < p.fr + _
    omega
  · intro q hq; cases hq
theorem wi_pos : ∀ (ps : List Pc) (f t : Int), ∀ q ∈ wi ps f t, q.fr < q.to
  | [], f, t => by intro q hq; cases hq
  | p :: r, f, t => by
    intro q hq
    rcases List.mem_append.1 hq with h | h
    · exact one_pos p f t q h
    · exact wi_pos r _ _ q h
theorem one_len (p : Pc) (f t : Int) : (one p f t).length ≤ 1 := by unfold one; split <;> simp
theorem wi_len : ∀ (ps : List Pc) (f t : Int), (wi ps f t).length ≤ ps.length
  | [], f, t => Nat.le_refl _
  | p :: r, f, t => by
    rw [wi, List.length_append, List.length_cons]
    have := one_len p f t
    have := wi_len r (f - ((p.to - p.fr : Nat) : Int)) (t - ((p.to - p.fr : Nat) : Int))
    omega

/-- New pieces. -/
def Wn (w wr : World) (v : Value) (ps : List Pc) : Prop := Op3 wr w.heap.size v ps ∧ Qt w wr
theorem Wn.qt {w wr w' : World} {v : Value} {ps : List Pc} (h : Wn w wr v ps) (q : Qt wr w') : Wn w w' v ps := ⟨q.owns h.1 (fun _ _ h => h), h.2.comp q⟩
theorem Wn.put {w wr w' : World} {v v' : Value} {ps qs : List Pc} (h : Wn w wr v ps) (p : PutLeft wr w' w.heap.size v v' qs) : Wn w w' v' qs :=
  ⟨p.1, h.2.trans p.2.1 (fun j hj e => by have := (ow_blk h.1 j e).1; omega)⟩

theorem app_part (w1 : World) (base : Nat) (v : Value) (l : List Pc) (ad : Bool) (x : Nat) (A B : Int) (hA : 0 ≤ A) (hB : 0 ≤ B) (h : Op3 w1 base v l) (hl : l.length < 90000) (hb : base ≤ w1.heap.size) (K : Nat) (hK : K = w1.heap.size) :
    ∃ v' W, (Builtin.append_ #[64, 64] 64 #[v, .slice (some ⟨K, 0, none⟩) 1 1]).run Try.prog (w1.alloc (.cells #[.bool ad, .int .i64 ((x : Int) + A), .int .i64 ((x : Int) + B)] 67)) = .ok v' W ∧ PutLeft w1 W base v v' (l ++ [⟨ad, x + A.toNat, x + B.toNat⟩]) := by
  subst hK
  obtain ⟨v', W, hr, P⟩ := append_two w1 base v l ad (x + A.toNat) (x + B.toNat) h hl hb
  rw [show ((x + A.toNat : Nat) : Int) = (x : Int) + A by omega, show ((x + B.toNat : Nat) : Int) = (x : Int) + B by omega] at hr
  exact ⟨v', W, hr, P⟩

set_option maxHeartbeats 4000000 in
set_option maxRecDepth 20000 in
theorem within_any (a : Option Addr) (c : Nat) (ps : List Pc) (F T : Nat) (w : World) (h : Hid (zLi w a c ps)) (fit : Hid (Fit ps)) (hl : ps.length ≤ 20000) (hF : F ≤ 20000) (hT : T ≤ 20000) (hS : Hid ((spl ps).length ≤ 20000)) :
    Calls Try.prog 42 #[.slice a ps.length c, .int .i64 F, .int .i64 T] w fun e w' => ∃ v, e = .returned v ∧ Hid (Wn w w' v (wi ps F T)) := by
  obtain ⟨N, hN⟩ : ∃ N, N = ps.length := ⟨_, rfl⟩
  have HN : Hid (N = ps.length) := hN
  rw [← hN] at hl ⊢
  clear hN
  go_enter Try.func42, Try.ntmps42
  go_wp2_with fail
  go_loopw [1, 2, 7, 15] (fun vf vt vin vi wr => ∃ (i : Nat) (f t : Int), i ≤ N ∧ -20000 ≤ f ∧ f ≤ 20000 ∧ -20000 ≤ t ∧ t ≤ 20000 ∧ vf = .int .i64 f ∧ vt = .int .i64 t ∧ vi = .int .i64 i ∧ Hid (f = F - ((spl (ps.take i)).length : Int) ∧ t = T - ((spl (ps.take i)).length : Int)) ∧ Hid (Wn w wr vin (wi (ps.take i) F T))) (fun _ _ _ vi _ => N - (intOf vi).toNat)
  case atStart => exact ⟨0, F, T, by omega, by omega, by omega, by omega, by omega, rfl, rfl, rfl, ⟨by simp [spl], by simp [spl]⟩, ow_nil _ _ _ _, Qt.refl w⟩
  case round =>
    obtain ⟨i, f, t, hi, f1, f2, t1, t2, rfl, rfl, rfl, E, W0⟩ := hrel
    by_cases hlt : i < N
    · have hltz : (i : Int) < (N : Int) := by omega
      obtain ⟨q, hq⟩ : ∃ p, ps[i]? = some p := ⟨ps[i]'(by have := HN.out; omega), List.getElem?_eq_getElem _⟩
      obtain ⟨b, off, rfl, hb, d0, d1, d2⟩ := ls_get (h.out.ls.qt W0.out.2) hq
      have ft := fit.out q (List.mem_of_getElem? hq)
      obtain ⟨ad, x, y⟩ := q
      simp only at d0 d1 d2 ft
      obtain ⟨ft1, ft2⟩ := ft
      obtain ⟨z, hz, hzy⟩ : ∃ z : Nat, (y : Int) - x = z ∧ y - x = z := ⟨y - x, by omega, rfl⟩
      have ONE : Hid (wi (ps.take (i + 1)) F T = wi (ps.take i) F T ++ one ⟨ad, x, y⟩ f t) := by
        show _ = _
        rw [take_succ_get hq, wi_snoc, E.out.1, E.out.2]
      have OE : Hid (one ⟨ad, x, y⟩ f t = if max f 0 < min t (z : Int) then [⟨ad, x + (max f 0).toNat, x + (min t (z : Int)).toNat⟩] else []) := by
        show one _ _ _ = _
        unfold one
        rw [show ((⟨ad, x, y⟩ : Pc).to - (⟨ad, x, y⟩ : Pc).fr) = z from hzy]
      have NE : Hid (f - (z : Int) = F - ((spl (ps.take (i + 1))).length : Int) ∧ t - (z : Int) = T - ((spl (ps.take (i + 1))).length : Int)) := by
        show _ ∧ _
        rw [take_succ_get hq, spl_append, List.length_append, spl_cons, spl_nil, List.append_nil, sp1_length]
        have := E.out
        show _ = _ - ((_ + (y - x) : Nat) : Int) ∧ _ = _ - ((_ + (y - x) : Nat) : Int)
        omega
      have NB : -20000 ≤ f - (z : Int) ∧ -20000 ≤ t - (z : Int) := by
        have h1 := NE.out
        have h2 : (spl (ps.take (i + 1))).length ≤ (spl ps).length := by
          conv => rhs; rw [← List.take_append_drop (i + 1) ps, spl_append, List.length_append]
          omega
        have h3 := hS.out
        omega
      obtain ⟨nb1, nb2⟩ := NB

      have Q1 : Hid (Wn w (wr.alloc (.cells #[.bool ad, .int .i64 x, .int .i64 y] 67)) u7 (wi (ps.take i) F T)) := W0.out.qt ((Qt.refl wr).alloc _)
      have WL : Hid ((wi (ps.take i) F T).length < 90000) := by
        have h1 := wi_len (ps.take i) F T
        rw [List.length_take] at h1
        show _ < _
        omega
      clear hq hb hzy h
      by_cases hf : f < 0
      · by_cases ht : (z : Int) < t
        · by_cases hab : 0 < (z : Int)
          · obtain ⟨v', W, hr, P0⟩ := app_part (wr.alloc (.cells #[.bool ad, .int .i64 x, .int .i64 y] 67)) w.heap.size u7 _ ad x 0 (z : Int) (by omega) (by omega) Q1.out.1 WL.out Q1.out.2.size (wr.heap.size + 1) (by simp)
            have FIN : Hid (Wn w W v' (wi (ps.take (i + 1)) F T)) := by
              have h1 := Q1.out.put P0
              show Wn _ _ _ _
              rw [ONE.out, OE.out, show max f 0 = 0 by omega, show min t (z : Int) = (z : Int) by omega, if_pos hab]
              exact h1
            rw [Int.add_zero] at hr
            clear P0 Q1 OE ONE WL
            go_wp2_with (at_builtin; first | (refine wpList_append_given rfl _ _ 64 rfl _ _ _ W rfl rfl hr ?_))
            exact ⟨⟨i + 1, f - z, t - z, by omega, by omega, by omega, by omega, by omega, by go_num, by go_num, by go_num, NE, FIN⟩, by simp [intOf]; omega⟩
          · have FIN : Hid (Wn w (wr.alloc (.cells #[.bool ad, .int .i64 x, .int .i64 y] 67)) u7 (wi (ps.take (i + 1)) F T)) := by
              show Wn _ _ _ _
              rw [ONE.out, OE.out, show max f 0 = 0 by omega, show min t (z : Int) = (z : Int) by omega, if_neg hab, List.append_nil]
              exact Q1.out
            clear Q1 OE ONE WL
            go_wp2_with fail
            exact ⟨⟨i + 1, f - z, t - z, by omega, by omega, by omega, by omega, by omega, by go_num, by go_num, by go_num, NE, FIN⟩, by simp [intOf]; omega⟩
        · by_cases hab : 0 < t
          · obtain ⟨v', W, hr, P0⟩ := app_part (wr.alloc (.cells #[.bool ad, .int .i64 x, .int .i64 y] 67)) w.heap.size u7 _ ad x 0 t (by omega) (by omega) Q1.out.1 WL.out Q1.out.2.size (wr.heap.size + 1) (by simp)
            have FIN : Hid (Wn w W v' (wi (ps.take (i + 1)) F T)) := by
              have h1 := Q1.out.put P0
              show Wn _ _ _ _
              rw [ONE.out, OE.out, show max f 0 = 0 by omega, show min t (z : Int) = t by omega, if_pos hab]
              exact h1
            rw [Int.add_zero] at hr
            clear P0 Q1 OE ONE WL
            go_wp2_with (at_builtin; first | (refine wpList_append_given rfl _ _ 64 rfl _ _ _ W rfl rfl hr ?_))
            exact ⟨⟨i + 1, f - z, t - z, by omega, by omega, by omega, by omega, by omega, by go_num, by go_num, by go_num, NE, FIN⟩, by simp [intOf]; omega⟩
          · have FIN : Hid (Wn w (wr.alloc (.cells #[.bool ad, .int .i64 x, .int .i64 y] 67)) u7 (wi (ps.take (i + 1)) F T)) := by
              show Wn _ _ _ _
              rw [ONE.out, OE.out, show max f 0 = 0 by omega, show min t (z : Int) = t by omega, if_neg hab, List.append_nil]
              exact Q1.out
            clear Q1 OE ONE WL
            go_wp2_with fail
            exact ⟨⟨i + 1, f - z, t - z, by omega, by omega, by omega, by omega, by omega, by go_num, by go_num, by go_num, NE, FIN⟩, by simp [intOf]; omega⟩
      · by_cases ht : (z : Int) < t
        · by_cases hab : f < (z : Int)
          · obtain ⟨v', W, hr, P0⟩ := app_part (wr.alloc (.cells #[.bool ad, .int .i64 x, .int .i64 y] 67)) w.heap.size u7 _ ad x f (z : Int) (by omega) (by omega) Q1.out.1 WL.out Q1.out.2.size (wr.heap.size + 1) (by simp)
            have FIN : Hid (Wn w W v' (wi (ps.take (i + 1)) F T)) := by
              have h1 := Q1.out.put P0
              show Wn _ _ _ _
              rw [ONE.out, OE.out, show max f 0 = f by omega, show min t (z : Int) = (z : Int) by omega, if_pos hab]
              exact h1
            skip
            clear P0 Q1 OE ONE WL
            go_wp2_with (at_builtin; first | (refine wpList_append_given rfl _ _ 64 rfl _ _ _ W rfl rfl hr ?_))
            exact ⟨⟨i + 1, f - z, t - z, by omega, by omega, by omega, by omega, by omega, by go_num, by go_num, by go_num, NE, FIN⟩, by simp [intOf]; omega⟩
          · have FIN : Hid (Wn w (wr.alloc (.cells #[.bool ad, .int .i64 x, .int .i64 y] 67)) u7 (wi (ps.take (i + 1)) F T)) := by
              show Wn _ _ _ _
              rw [ONE.out, OE.out, show max f 0 = f by omega, show min t (z : Int) = (z : Int) by omega, if_neg hab, List.append_nil]
              exact Q1.out
            clear Q1 OE ONE WL
            go_wp2_with fail
            exact ⟨⟨i + 1, f - z, t - z, by omega, by omega, by omega, by omega, by omega, by go_num, by go_num, by go_num, NE, FIN⟩, by simp [intOf]; omega⟩
        · by_cases hab : f < t
          · obtain ⟨v', W, hr, P0⟩ := app_part (wr.alloc (.cells #[.bool ad, .int .i64 x, .int .i64 y] 67)) w.heap.size u7 _ ad x f t (by omega) (by omega) Q1.out.1 WL.out Q1.out.2.size (wr.heap.size + 1) (by simp)
            have FIN : Hid (Wn w W v' (wi (ps.take (i + 1)) F T)) := by
              have h1 := Q1.out.put P0
              show Wn _ _ _ _
              rw [ONE.out, OE.out, show max f 0 = f by omega, show min t (z : Int) = t by omega, if_pos hab]
              exact h1
            skip
            clear P0 Q1 OE ONE WL
            go_wp2_with (at_builtin; first | (refine wpList_append_given rfl _ _ 64 rfl _ _ _ W rfl rfl hr ?_))
            exact ⟨⟨i + 1, f - z, t - z, by omega, by omega, by omega, by omega, by omega, by go_num, by go_num, by go_num, NE, FIN⟩, by simp [intOf]; omega⟩
          · have FIN : Hid (Wn w (wr.alloc (.cells #[.bool ad, .int .i64 x, .int .i64 y] 67)) u7 (wi (ps.take (i + 1)) F T)) := by
              show Wn _ _ _ _
              rw [ONE.out, OE.out, show max f 0 = f by omega, show min t (z : Int) = t by omega, if_neg hab, List.append_nil]
              exact Q1.out
            clear Q1 OE ONE WL
            go_wp2_with fail
            exact ⟨⟨i + 1, f - z, t - z, by omega, by omega, by omega, by omega, by omega, by go_num, by go_num, by go_num, NE, FIN⟩, by simp [intOf]; omega⟩
    · obtain rfl : i = N := by omega
      have FIN : Hid (Wn w wr u7 (wi ps F T)) := by
        have := W0.out
        rw [List.take_of_length_le (by have := HN.out; omega)] at this
        exact this
      go_wp2_with fail
      go_ret
      exact ⟨_, rfl, FIN⟩
end Go.Proofs.Ytdhdkbaalgdicaa
