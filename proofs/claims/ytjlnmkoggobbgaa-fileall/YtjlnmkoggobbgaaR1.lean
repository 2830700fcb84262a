/- The cache that is a list: what lies there, and which place a key has. -/
import Derived.Test.YtjlnmkoggobbgaaP3
import Derived.Deep.QuietTactic
import Derived.BigQuiet
namespace Go.Proofs.Ytjlnmkoggobbgaa
open Go.RowKit

abbrev Pr := Int × Int
def kT (T : List Pr) (i : Nat) : Int := (T[i]?.map Prod.fst).getD 0
def vT (T : List Pr) (i : Nat) : Int := (T[i]?.map Prod.snd).getD 0
theorem kT_of {T : List Pr} {i : Nat} {p : Pr} (h : T[i]? = some p) : kT T i = p.1 := by unfold kT; rw [h]; rfl
theorem vT_of {T : List Pr} {i : Nat} {p : Pr} (h : T[i]? = some p) : vT T i = p.2 := by unfold vT; rw [h]; rfl

structure Rf (w : World) (r : Nat) (mo : Int) (T : List Pr) (ka : Option Addr) (kc : Nat) (va : Option Addr) (vc : Nat) : Prop where
  c0 : w.cell? ⟨r, 0, none⟩ = some (.int .i64 mo)
  c1 : w.cell? ⟨r, 1, none⟩ = some (.slice ka T.length kc)
  c2 : w.cell? ⟨r, 2, none⟩ = some (.slice va T.length vc)
  z1 : w.frozen? ⟨r, 1, none⟩ = false
  z2 : w.frozen? ⟨r, 2, none⟩ = false
  sk : Sl w ka T.length (In (kT T))
  sv : Sl w va T.length (In (vT T))
  nk : ka = none → T.length = 0 ∧ kc = 0
  nv : va = none → T.length = 0 ∧ vc = 0
  lk : T.length ≤ kc
  lv : T.length ≤ vc
  dk : bk ka ≠ some r
  dv : bk va ≠ some r
  bl : (∀ j, bk ka = some j → j < w.heap.size) ∧ ∀ j, bk va = some j → j < w.heap.size

theorem Rf.mv {S : Nat → Prop} {w w' : World} {r : Nat} {mo : Int} {T : List Pr} {ka : Option Addr} {kc : Nat} {va : Option Addr} {vc : Nat} (h : Rf w r mo T ka kc va vc) (hm : Mv S w w') (h0 : ¬ S r) (h1 : ∀ j, bk ka = some j → ¬ S j) (h2 : ∀ j, bk va = some j → ¬ S j) : Rf w' r mo T ka kc va vc := by
  have hl := World.block_lt_of_cell? _ _ h.c0
  refine ⟨hm.cell h.c0 h0, hm.cell h.c1 h0, hm.cell h.c2 h0, (hm.frozen (p := ⟨r, 1, none⟩) hl h0).trans h.z1, (hm.frozen (p := ⟨r, 2, none⟩) hl h0).trans h.z2, h.sk.mv hm ?_, h.sv.mv hm ?_, h.nk, h.nv, h.lk, h.lv, h.dk, h.dv, fun j hj => Nat.lt_of_lt_of_le (h.bl.1 j hj) hm.size, fun j hj => Nat.lt_of_lt_of_le (h.bl.2 j hj) hm.size⟩
  · rintro p rfl; exact h1 _ rfl
  · rintro p rfl; exact h2 _ rfl

set_option maxHeartbeats 1000000 in
theorem at_none (w : World) (r : Nat) (a : Option Addr) (m cp : Nat) (f : Nat → Int) (k : Int) (hc : w.cell? ⟨r, 1, none⟩ = some (.slice a m cp)) (hs : Hid (Sl w a m (In f))) (hm : m < 100000) (hk : Hid (∀ j, j < m → f j ≠ k)) :
    Calls Try.prog 47 #[.pointer (some ⟨r, 0, none⟩), .int .i64 k] w fun e w' => e = .returned (.int .i64 (-1)) ∧ w' = w := by
  go_enter Try.func47, Try.ntmps47
  go_wp2_with fail
  go_loopw [5] (fun vi wr => ∃ i : Nat, i ≤ m ∧ vi = .int .i64 i ∧ wr = w) (fun vi _ => m - (intOf vi).toNat)
  case atStart => exact ⟨0, by omega, rfl, by trivial⟩
  case round =>
    obtain ⟨i, hi, rfl, rfl⟩ := hrel
    by_cases hlt : i < m
    · have hltz : (i : Int) < (m : Int) := by omega
      obtain ⟨b1, o1, rfl, _, hc1⟩ := hs.out i hlt
      have hd1 : wr.cell? ⟨b1, o1 + i, none⟩ = some (.int .i64 (f i)) := hc1
      have hne : (f i == k) = false := by rw [beq_eq_false_iff_ne]; exact hk.out i hlt
      clear hc1
      generalize f i = x at hd1 hne
      go_wp2_with fail
      exact ⟨⟨i + 1, by omega, by go_num, by trivial⟩, by simp [intOf]; omega⟩
    · obtain rfl : i = m := by omega
      go_wp2_with fail
      go_ret
      exact ⟨rfl, rfl⟩

set_option maxHeartbeats 1000000 in
theorem at_some (w : World) (r : Nat) (a : Option Addr) (m cp : Nat) (f : Nat → Int) (t : Nat) (hc : w.cell? ⟨r, 1, none⟩ = some (.slice a m cp)) (hs : Hid (Sl w a m (In f))) (hm : m < 100000) (ht : t < m) (hk : Hid (∀ j, j < t → f j ≠ f t)) :
    Calls Try.prog 47 #[.pointer (some ⟨r, 0, none⟩), .int .i64 (f t)] w fun e w' => e = .returned (.int .i64 t) ∧ w' = w := by
  go_enter Try.func47, Try.ntmps47
  go_wp2_with fail
  go_loopw [5] (fun vi wr => ∃ i : Nat, i ≤ t ∧ vi = .int .i64 i ∧ wr = w) (fun vi _ => m - (intOf vi).toNat)
  case atStart => exact ⟨0, by omega, rfl, by trivial⟩
  case round =>
    obtain ⟨i, hi, rfl, rfl⟩ := hrel
    have hltz : (i : Int) < (m : Int) := by omega
    obtain ⟨b1, o1, rfl, _, hc1⟩ := hs.out i (by omega)
    have hd1 : wr.cell? ⟨b1, o1 + i, none⟩ = some (.int .i64 (f i)) := hc1
    clear hc1
    by_cases hlt : i < t
    · have hne : (f i == f t) = false := by rw [beq_eq_false_iff_ne]; exact hk.out i hlt
      generalize f i = x at hd1 hne
      go_wp2_with fail
      exact ⟨⟨i + 1, by omega, by go_num, by trivial⟩, by simp [intOf]; omega⟩
    · obtain rfl : i = t := by omega
      have hne : (f i == f i) = true := by simp
      go_wp2_with fail
      go_ret
      exact ⟨rfl, rfl⟩

/-- A row without its i-th: the two appends. -/
theorem cutrow (w : World) (b off m cap i s : Nat) (hs : s = i + 1) (f : Nat → Int) (h : Sl w (some ⟨b, off, none⟩) m (In f)) (hi : i < m) (hc : m ≤ cap) (hm : m < 40000) :
    ∃ p2 a1 c1 W1 a2 c2 W2, (if cap = s then some (⟨b, off, none⟩ : Addr) else some ⟨b, off + s, none⟩) = some p2 ∧
      (Builtin.append_ #[31, 31] 31 #[.slice (some ⟨w.heap.size, 0, none⟩) 0 0, .slice (some ⟨b, off, none⟩) i cap]).run Try.prog (w.drew.alloc (.cells #[] 3)) = .ok (.slice a1 i c1) W1 ∧
      (Builtin.append_ #[31, 31] 31 #[.slice a1 i c1, .slice (some p2) (m - s) (cap - s)]).run Try.prog W1 = .ok (.slice a2 (m - 1) c2) W2 ∧
      Own W2 w.heap.size 3 (.slice a2 (m - 1) c2) (m - 1) (In fun j => if j < i then f j else f (j + 1)) ∧ Below w.heap.size w W2 ∧ Below w.heap.size w W1 := by
  obtain ⟨p2, hp2, S2⟩ : ∃ p2 : Addr, (if cap = s then some (⟨b, off, none⟩ : Addr) else some ⟨b, off + s, none⟩) = some p2 ∧ Sl w.drew (some p2) (m - s) (In fun j => f (s + j)) := by
    by_cases hct : cap = s
    · refine ⟨_, if_pos hct, ?_⟩
      intro j hj
      omega
    · refine ⟨_, if_neg hct, ?_⟩
      intro j hj
      obtain ⟨b', o', e, hb, hc⟩ := h (s + j) (by omega)
      cases e
      exact ⟨b, off + s, rfl, hb, by rw [Nat.add_assoc]; exact hc⟩
  have S1 : Sl w.drew (some ⟨b, off, none⟩) i (In f) := fun j hj => h j (by omega)
  obtain ⟨a1, c1, W1, a2, c2, W2, hr1, hr2, o2, b2, b1⟩ := parts w.drew ⟨b, off, none⟩ p2 cap i (m - s) (cap - s) s f S1 S2 (by omega)
  have e1 : i + (m - s) = m - 1 := by omega
  rw [e1] at hr2 o2
  refine ⟨p2, a1, c1, W1, a2, c2, W2, hp2, hr1, hr2, o2.congr (fun j hj => ?_), ⟨b2.os, b2.tape, b2.output, b2.size, b2.block⟩, ⟨b1.os, b1.tape, b1.output, b1.size, b1.block⟩⟩
  unfold In
  dsimp only
  by_cases h : j < i
  · rw [if_pos h, if_pos h]
  · rw [if_neg h, if_neg h]
    congr 2
    omega

end Go.Proofs.Ytjlnmkoggobbgaa
