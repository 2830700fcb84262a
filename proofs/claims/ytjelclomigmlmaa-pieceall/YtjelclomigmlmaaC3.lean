/- Lists of pieces, one behind the other: join. -/
import Derived.Test.YtjelclomigmlmaaC2
namespace Go.Proofs.Ytjelclomigmlmaa
open Go.RowKit

theorem putP_length (l : List Pc) (p : Pc) : (putP l p).length ≤ l.length + 1 := by
  by_cases e : p.to = p.fr
  · rw [putP_none _ _ e]; omega
  · rcases last_cases l with rfl | ⟨l', q, rfl⟩
    · rw [putP_nil _ e]; simp
    · rw [putP_snoc _ _ _ e]
      split <;> simp
theorem fold_length : ∀ (ps l : List Pc), (ps.foldl putP l).length ≤ l.length + ps.length
  | [], l => by simp
  | p :: ps, l => by
    rw [List.foldl_cons]
    have h1 := fold_length ps (putP l p)
    have h2 := putP_length l p
    simp; omega
theorem take_succ_get {α : Type} {l : List α} {i : Nat} {x : α} (h : l[i]? = some x) : l.take (i + 1) = l.take i ++ [x] := by
  rw [List.take_add_one, h]; rfl

/-- Pieces that are sound. -/
def Fit (ps : List Pc) : Prop := ∀ p ∈ ps, p.fr ≤ p.to ∧ p.to < 1000000

/-- A list that is handed in: where, its room, its pieces. -/
abbrev Sg := Option Addr × Nat × List Pc
def sv (s : Sg) : Value := .slice s.1 s.2.2.length s.2.1
structure Jn (w : World) (la : Option Addr) (Ts : List Sg) : Prop where
  lay : Ls w la (Ts.map sv)
  each : ∀ s ∈ Ts, Ls w s.1 (cellsP s.2.2) ∧ Fit s.2.2
theorem Jn.qt {w w' : World} {la : Option Addr} {Ts : List Sg} (h : Jn w la Ts) (q : Qt w w') : Jn w' la Ts := ⟨h.lay.qt q, fun s hs => ⟨(h.each s hs).1.qt q, (h.each s hs).2⟩⟩
/-- The pieces of the first i lists. -/
def pre (Ts : List Sg) (i : Nat) : List Pc := (Ts.take i).flatMap (·.2.2)
theorem pre_succ {Ts : List Sg} {i : Nat} {s : Sg} (h : Ts[i]? = some s) : pre Ts (i + 1) = pre Ts i ++ s.2.2 := by
  unfold pre; rw [take_succ_get h, List.flatMap_append]; simp

/-- What has been joined so far. -/
def Jd (w wr : World) (v : Value) (qs : List Pc) : Prop := Op3 wr w.heap.size v (qs.foldl putP []) ∧ Qt w wr
theorem Jd.put {w wr w' : World} {v v' : Value} {qs : List Pc} {p : Pc} (h : Jd w wr v qs) (o : Obj) (k : PutLeft (wr.alloc o) w' w.heap.size v v' (putP (qs.foldl putP []) p)) : Jd w w' v' (qs ++ [p]) := by
  refine ⟨by rw [List.foldl_append]; exact k.1, ?_⟩
  refine (h.2.alloc o).trans k.2.1 (fun j hj e => ?_)
  have := (ow_blk h.1 j e).1
  omega

set_option maxHeartbeats 2000000 in
theorem join_any (la : Option Addr) (lc : Nat) (Ts : List Sg) (w : World) (h : Hid (Jn w la Ts)) (hl : (pre Ts Ts.length).length < 70000) (hk : Ts.length < 1000) :
    Calls Try.prog 27 #[.slice la Ts.length lc] w fun e w' => ∃ v', e = .returned v' ∧ Hid (Jd w w' v' (pre Ts Ts.length)) := by
  have HL : Hid _ := hl
  clear hl
  obtain ⟨k, hk'⟩ : ∃ k, k = Ts.length := ⟨_, rfl⟩
  have K : Hid _ := hk'
  rw [← hk'] at hk ⊢
  clear hk'
  go_enter Try.func27, Try.ntmps27
  go_wp2_with fail
  go_loopw [3, 10] (fun vj vi wr => ∃ i : Nat, i ≤ k ∧ vi = .int .i64 i ∧ Hid (Jd w wr vj (pre Ts i))) (fun _ vi _ => k - (intOf vi).toNat)
  case atStart => exact ⟨0, by omega, rfl, ow_nil _ _ _ _, Qt.refl w⟩
  case round =>
    obtain ⟨i, hi, rfl, J⟩ := hrel
    by_cases hlt : i < k
    · have hltz : (i : Int) < (k : Int) := by omega
      obtain ⟨s, hs⟩ : ∃ s, Ts[i]? = some s := ⟨Ts[i]'(by have := K.out; omega), List.getElem?_eq_getElem _⟩
      obtain ⟨b, off, rfl, hb, hc0⟩ := (h.out.qt J.out.2).lay i (sv s) (by rw [List.getElem?_map, hs]; rfl)
      have hm : s ∈ Ts := List.mem_of_getElem? hs
      have S1 : Hid (Ls w s.1 (cellsP s.2.2)) := (h.out.each s hm).1
      have S2 : Hid (Fit s.2.2) := (h.out.each s hm).2
      have PR : Hid (pre Ts (i + 1) = pre Ts i ++ s.2.2) := pre_succ hs
      have PL : Hid ((pre Ts i).length + s.2.2.length < 70000) := by
        have h1 : pre Ts Ts.length = pre Ts (i + 1) ++ (Ts.drop (i + 1)).flatMap (·.2.2) := by
          unfold pre; rw [← List.flatMap_append, List.take_append_drop, List.take_length]
        have h2 := HL.out
        rw [h1, PR.out, List.length_append, List.length_append] at h2
        show _ < _
        omega
      obtain ⟨sa, sc, ps⟩ := s
      have hc : wr.cell? ⟨b, off + i, none⟩ = some (.slice sa ps.length sc) := hc0
      clear hs hm hc0
      obtain ⟨n, hn⟩ : ∃ n, n = ps.length := ⟨_, rfl⟩
      have N : Hid _ := hn
      rw [← hn] at hc
      clear hn
      have hn' : n < 70000 := by have h1 := N.out; have h2 := PL.out; simp only at h2; omega
      simp only at S1 S2 PR PL
      go_wp2_with fail
      go_loopw [3, 16] (fun vj vi wr => ∃ j : Nat, j ≤ n ∧ vi = .int .i64 j ∧ Hid (Jd w wr vj (pre Ts i ++ ps.take j))) (fun _ vi _ => n - (intOf vi).toNat)
      case atStart => exact ⟨0, by omega, rfl, by rw [List.take_zero, List.append_nil]; exact J⟩
      case round =>
        clear J
        obtain ⟨j, hj, rfl, J⟩ := hrel
        by_cases hlt2 : j < n
        · have hlt2z : (j : Int) < (n : Int) := by omega
          obtain ⟨p, hp⟩ : ∃ p, ps[j]? = some p := ⟨ps[j]'(by have := N.out; omega), List.getElem?_eq_getElem _⟩
          obtain ⟨b2, off2, rfl, hb2, c0, c1, c2⟩ := ls_get (S1.out.qt J.out.2) hp
          have ft := S2.out p (List.mem_of_getElem? hp)
          have TS : Hid (ps.take (j + 1) = ps.take j ++ [p]) := take_succ_get hp
          have LB : Hid ((pre Ts i ++ ps.take j).length < 80000) := by
            show _ < _
            rw [List.length_append, List.length_take]
            have := PL.out
            omega
          clear hp hc hb
          go_wp2_with fail
          have q := (J.out.2.alloc (.cells #[.bool p.ad, .int .i64 p.fr, .int .i64 p.to] 50)).size
          refine (put_any _ w.heap.size _ p (wr.alloc (.cells #[.bool p.ad, .int .i64 p.fr, .int .i64 p.to] 50)) ((Mv.alloc (fun _ => False) wr _).owns J.out.1 (fun _ _ h => h)) ft.2 (Nat.lt_of_le_of_lt (fold_length _ _) (by have := LB.out; simp only [List.length_nil]; omega)) ft.1 q).mono ?_
          rintro e w' ⟨v', rfl, P⟩
          have J2 : Hid (Jd w w' v' (pre Ts i ++ ps.take (j + 1))) := by
            have := J.out.put _ P.out
            rw [List.append_assoc, ← TS.out] at this
            exact this
          clear P J q c0 c1 c2
          go_wp2_with fail
          go_roundw
          case rel => exact ⟨j + 1, by omega, by go_num, J2⟩
          case measure => simp [intOf]; omega
        · obtain rfl : j = n := by omega
          go_wp2_with fail
          go_roundw
          case rel => exact ⟨i + 1, by omega, by go_num, by
            have := J.out
            rw [List.take_of_length_le (by have := N.out; omega), ← PR.out] at this
            exact this⟩
          case measure => simp [intOf]; omega
    · obtain rfl : i = k := by omega
      go_wp2_with fail
      go_ret
      exact ⟨_, rfl, J⟩
end Go.Proofs.Ytjelclomigmlmaa
