/- Bytes of a set in their order. -/
import Derived.Test.YtkclkhfcmjhogaaDoorMgR
import Derived.Test.YtkclkhfcmjhogaaDoorMgA
import Derived.Test.YtkclkhfcmjhogaaDoorMgV
import Derived.Test.YtkclkhfcmjhogaaDoorMgS3
namespace Go.Proofs.YtkclkhfcmjhogaaDoor
set_option linter.unusedVariables false

theorem upl_pre (p : Nat → Bool) {m n : Nat} (h : m ≤ n) : ∃ t, upl p n = upl p m ++ t := by
  induction n with
  | zero => obtain rfl : m = 0 := by omega
            exact ⟨[], by simp⟩
  | succ n ih =>
    by_cases e : m = n + 1
    · subst e; exact ⟨[], by simp⟩
    · obtain ⟨t, ht⟩ := ih (by omega)
      cases hp : p n with
      | true => exact ⟨t ++ [n], by rw [upl_yes hp, ht, List.append_assoc]⟩
      | false => exact ⟨t, by rw [upl_no hp, ht]⟩
theorem upl_mono (p : Nat → Bool) {m n : Nat} (h : m ≤ n) : (upl p m).length ≤ (upl p n).length := by
  obtain ⟨t, ht⟩ := upl_pre p h
  rw [ht, List.length_append]; omega
theorem upl_gap {p : Nat → Bool} {m a c : Nat} (h : (upl p a).length ≤ (upl p m).length) (h1 : m ≤ c) (h2 : c < a) : p c = false := by
  cases hp : p c with
  | false => rfl
  | true =>
    have e1 := upl_mono p h1
    have e2 := upl_mono p (show c + 1 ≤ a by omega)
    rw [upl_yes hp, List.length_append] at e2
    simp at e2; omega
/-- The byte at i. -/
theorem upl_at {p : Nat → Bool} : ∀ {n i : Nat} (h : i < (upl p n).length), (upl p n)[i] < n ∧ p (upl p n)[i] = true ∧ (upl p (upl p n)[i]).length = i := by
  intro n
  induction n with
  | zero => intro i h; simp [upl] at h
  | succ n ih =>
    intro i h
    cases hp : p n with
    | false =>
      have e := upl_no hp
      have h' : i < (upl p n).length := by rw [e] at h; exact h
      have hx : (upl p (n + 1))[i] = (upl p n)[i] := by simp only [e]
      rw [hx]
      have := ih h'
      exact ⟨by omega, this.2⟩
    | true =>
      have e := upl_yes hp
      have hl : i < (upl p n).length + 1 := by rw [e, List.length_append] at h; simpa using h
      by_cases g : i < (upl p n).length
      · have hx : (upl p (n + 1))[i] = (upl p n)[i] := by simp only [e]; exact List.getElem_append_left g
        rw [hx]
        have := ih g
        exact ⟨by omega, this.2⟩
      · obtain rfl : i = (upl p n).length := by omega
        have hx : (upl p (n + 1))[(upl p n).length] = n := by simp only [e]; simp
        rw [hx]
        exact ⟨by omega, hp, rfl⟩
/-- Where a byte stands. -/
theorem upl_pos {p : Nat → Bool} {n a : Nat} (ha : a < n) (hp : p a = true) : ∃ h : (upl p a).length < (upl p n).length, (upl p n)[(upl p a).length] = a := by
  obtain ⟨t, ht⟩ := upl_pre p (show a + 1 ≤ n by omega)
  rw [upl_yes hp, List.append_assoc] at ht
  have hl : (upl p a).length < (upl p n).length := by rw [ht]; simp
  refine ⟨hl, ?_⟩
  simp only [ht]
  simp
def ub (p : Nat → Bool) (i : Nat) : Nat := (upl p 256).getD i 0
theorem ub_at {p : Nat → Bool} {i : Nat} (h : i < (upl p 256).length) : ub p i < 256 ∧ p (ub p i) = true ∧ (upl p (ub p i)).length = i ∧ (upl p (ub p i + 1)).length = i + 1 := by
  have := upl_at h
  have e : ub p i = (upl p 256)[i] := by simp [ub, List.getD, h]
  rw [e]
  refine ⟨this.1, this.2.1, this.2.2, ?_⟩
  rw [upl_yes this.2.1, List.length_append, this.2.2]; rfl
theorem ub_pos {p : Nat → Bool} {a : Nat} (ha : a < 256) (hp : p a = true) : (upl p a).length < (upl p 256).length ∧ ub p (upl p a).length = a := by
  obtain ⟨h, e⟩ := upl_pos ha hp
  exact ⟨h, by simp [ub, List.getD, h, e]⟩
theorem ub_lt {p : Nat → Bool} {i : Nat} (h : i + 1 < (upl p 256).length) : ub p i + 1 ≤ ub p (i + 1) := by
  have h1 := ub_at (show i < (upl p 256).length by omega)
  have h2 := ub_at h
  by_cases g : ub p i + 1 ≤ ub p (i + 1)
  · exact g
  · have := upl_mono p (show ub p (i + 1) ≤ ub p i by omega)
    omega

/-- What is shown below the byte i: its runs, and what their text is. -/
structure Up (p : Nat → Bool) (i m : Nat) (R : List (Nat × Nat)) : Prop where
  len : (upl p m).length = i
  le : m ≤ 256
  spec : ∀ L, Runs p m L → Runs p 0 (R ++ L)
/-- A run from the byte at i to the byte at k. -/
structure Rpu (p : Nat → Bool) (i k : Nat) : Prop where
  le : i ≤ k
  lt : k < (upl p 256).length
  at_ : ub p k = ub p i + (k - i)
  all : ∀ c, ub p i ≤ c → c ≤ ub p k → p c = true
theorem Rpu.start {p : Nat → Bool} {i : Nat} (h : i < (upl p 256).length) : Rpu p i i :=
  ⟨by omega, h, by omega, fun c h1 h2 => by obtain rfl : c = ub p i := by omega
                                            exact (ub_at h).2.1⟩
theorem Rpu.next {p : Nat → Bool} {i k : Nat} (r : Rpu p i k) (h : k + 1 < (upl p 256).length) (e : ub p (k + 1) = ub p k + 1) : Rpu p i (k + 1) :=
  ⟨by have := r.le; omega, h, by have := r.le; have := r.at_; omega, fun c h1 h2 => by
    by_cases g : c ≤ ub p k
    · exact r.all c h1 g
    · obtain rfl : c = ub p (k + 1) := by omega
      exact (ub_at h).2.1⟩
/-- A run that ends. -/
theorem Rpu.stop {p : Nat → Bool} {i k m : Nat} {R : List (Nat × Nat)} (r : Rpu p i k) (h : k + 1 < (upl p 256).length → ub p (k + 1) ≠ ub p k + 1) (u : Up p i m R) : Up p (k + 1) (ub p k + 1) (R ++ [(ub p i, ub p k)]) := by
  have hi : i < (upl p 256).length := Nat.lt_of_le_of_lt r.le r.lt
  have h1 := ub_at hi
  have h2 := ub_at r.lt
  refine ⟨h2.2.2.2, by omega, fun L hL => ?_⟩
  rw [List.append_assoc]
  refine u.spec _ ?_
  have hm : m ≤ ub p i := by
    by_cases g : m ≤ ub p i
    · exact g
    · have := upl_mono p (show ub p i + 1 ≤ m by omega)
      have := u.len
      omega
  refine ⟨hm, by have := r.at_; omega, h2.1, fun c c1 c2 => upl_gap (by rw [u.len, h1.2.2.1]; omega) c1 c2, r.all, fun hb => ?_, hL⟩
  cases hp : p (ub p k + 1) with
  | false => rfl
  | true =>
    obtain ⟨e1, e2⟩ := ub_pos hb hp
    rw [h2.2.2.2] at e1 e2
    exact absurd e2 (h e1)
theorem Up.end_ {p : Nat → Bool} {i m : Nat} {R : List (Nat × Nat)} (u : Up p i m R) (h : i = (upl p 256).length) : Runs p 0 R := by
  have := u.spec [] (fun b b1 b2 => upl_gap (a := 256) (by rw [u.len, h]; omega) b1 b2)
  rwa [List.append_nil] at this
theorem Up.zero (p : Nat → Bool) : Up p 0 0 [] := ⟨rfl, by omega, fun L h => h⟩

theorem runs_len0 {p : Nat → Bool} (h : (upl p 256).length = 0) : Runs p 0 [] := fun b b1 b2 => upl_gap (a := 256) (m := 0) (by omega) b1 b2
theorem runs_len1 {p : Nat → Bool} (h : (upl p 256).length = 1) : Runs p 0 [(ub p 0, ub p 0)] :=
  (Rpu.stop (Rpu.start (by omega)) (fun g => by omega) (Up.zero p)).end_ (by omega)
theorem upl_full {p : Nat → Bool} (h : (upl p 256).length = 256) : ∀ c, c < 256 → p c = true := by
  intro c hc
  have e : (List.filter p (List.range 256)).length = (List.range 256).length := by rw [List.length_range]; exact h
  rw [List.length_filter_eq_length_iff] at e
  exact e c (List.mem_range.2 hc)
theorem runs_len256 {p : Nat → Bool} (h : (upl p 256).length = 256) : Runs p 0 [(0, 255)] :=
  ⟨by omega, by omega, by omega, fun c _ h => by omega, fun c _ h2 => upl_full h c (by omega), fun h => by omega, fun b h1 h2 => by omega⟩
/-- How it is shown where it is none of the three. -/
theorem shw_long {p : Nat → Bool} {R : List (Nat × Nat)} (r : Runs p 0 R) (h0 : (upl p 256).length ≠ 0) (h1 : (upl p 256).length ≠ 1) (h2 : (upl p 256).length ≠ 256) : shw R = 91 :: (R.flatMap rtx ++ [93]) := by
  match R, r with
  | [], r =>
    have := ub_at (show 0 < (upl p 256).length by omega)
    have e := r (ub p 0) (by omega) this.1
    rw [this.2.1] at e; cases e
  | [(a, b)], r =>
    unfold shw
    simp only
    obtain ⟨r1, r2, r3, r4, r5, r6, r7⟩ := r
    have a0 := ub_at (show 0 < (upl p 256).length by omega)
    have a1 := ub_at (show 1 < (upl p 256).length by omega)
    have a2 := ub_lt (show 0 + 1 < (upl p 256).length by omega)
    rw [if_neg, if_neg]
    · simp
    · rintro ⟨rfl, rfl⟩
      apply h2
      have : upl p 256 = List.range 256 := by
        unfold upl
        rw [List.filter_eq_self]
        intro c hc
        exact r5 c (by omega) (by have := List.mem_range.1 hc; omega)
      rw [this, List.length_range]
    · rintro rfl
      have hin : ∀ c, c < 256 → p c = true → c = a := by
        intro c hc hp
        rcases Nat.lt_trichotomy c a with g | g | g
        · rw [r4 c (by omega) g] at hp; cases hp
        · exact g
        · rw [r7 c (by omega) hc] at hp; cases hp
      have e0 := hin _ a0.1 a0.2.1
      have e1 := hin _ a1.1 a1.2.1
      simp at a2
      omega
  | (a, b) :: s :: l, r => simp [shw]
theorem rtx_of {a k : Nat} : rtx (a, a + k) = if k = 0 then shn a else if k = 1 then shn a ++ shn (a + k) else shn a ++ 45 :: shn (a + k) := by
  unfold rtx
  simp only
  by_cases h : k = 0
  · rw [if_pos h, if_pos (by omega)]
  · rw [if_neg h, if_neg (by omega)]
    by_cases h2 : k = 1
    · rw [if_pos h2, if_pos (by omega)]
    · rw [if_neg h2, if_neg (by omega)]

end Go.Proofs.YtkclkhfcmjhogaaDoor

namespace Go.Proofs.YtkclkhfcmjhogaaDoor
open Go.RowKit
set_option linter.unusedVariables false

theorem rp_ex (p : Nat → Bool) (i : Nat) : ∀ (d k : Nat), (upl p 256).length - k ≤ d → Rpu p i k → ∃ k, Rpu p i k ∧ (k + 1 < (upl p 256).length → ub p (k + 1) ≠ ub p k + 1)
  | 0, k, h, r => by have := r.lt; omega
  | d + 1, k, h, r => by
    by_cases g : k + 1 < (upl p 256).length ∧ ub p (k + 1) = ub p k + 1
    · exact rp_ex p i d (k + 1) (by omega) (r.next g.1 g.2)
    · exact ⟨k, r, fun h1 h2 => g ⟨h1, h2⟩⟩
theorem up_ex (p : Nat → Bool) : ∀ (d i m : Nat) (R : List (Nat × Nat)), (upl p 256).length - i ≤ d → Up p i m R → ∃ R, Runs p 0 R
  | 0, i, m, R, h, u => ⟨R, u.end_ (by have := upl_mono p u.le; have := u.len; omega)⟩
  | d + 1, i, m, R, h, u => by
    by_cases g : i < (upl p 256).length
    · obtain ⟨k, r, e⟩ := rp_ex p i _ i (Nat.le_refl _) (Rpu.start g)
      exact up_ex p d (k + 1) _ _ (by have := r.le; omega) (r.stop e u)
    · exact ⟨R, u.end_ (by have := upl_mono p u.le; have := u.len; omega)⟩
theorem runs_ex (p : Nat → Bool) : ∃ R, Runs p 0 R := up_ex p _ 0 0 [] (Nat.le_refl _) (Up.zero p)
/-- There is one that tells how sets are shown. -/
theorem gd_ex : ∃ g : (Nat → Bool) → List Nat, Gd g := by
  have h : ∀ p : Nat → Bool, ∃ l : List Nat, ∃ R, Runs p 0 R ∧ l = shw R := fun p => by
    obtain ⟨R, hR⟩ := runs_ex p
    exact ⟨_, R, hR, rfl⟩
  exact ⟨fun p => Classical.choose (h p), fun p => Classical.choose_spec (h p)⟩
end Go.Proofs.YtkclkhfcmjhogaaDoor

namespace Go.Proofs.YtkclkhfcmjhogaaDoor
open Go.RowKit
set_option linter.unusedVariables false

/-- What list tells. -/
def Lt (p : Nat → Bool) (w : World) (e : Ending) (w' : World) : Prop := ∃ v, e = .returned v ∧ Ol w' w.heap.size v (upl p 256) ∧ Qt w w'
set_option maxRecDepth 20000 in
set_option maxHeartbeats 4000000 in
theorem rlist_any (p : Nat → Bool) (w : World) : Calls Tryd.prog 59 #[.agg #[.int .u64 (limb p 0), .int .u64 (limb p 1), .int .u64 (limb p 2), .int .u64 (limb p 3)]] w fun e w' => Lt p w e w' := by
  go_enter Tryd.func59, Tryd.ntmps59
  go_wp2_with fail
  have HB : Hid (Bk w.heap.size p (w.alloc (.cells #[.int .u64 (limb p 0), .int .u64 (limb p 1), .int .u64 (limb p 2), .int .u64 (limb p 3)] 25))) := heap_alloc_new _ _
  have HS : Hid (w.heap.size + 1 ≤ (w.alloc (.cells #[.int .u64 (limb p 0), .int .u64 (limb p 1), .int .u64 (limb p 2), .int .u64 (limb p 3)] 25)).heap.size) := by show _ ≤ _; simp
  have HQ : Hid (Qt w (w.alloc (.cells #[.int .u64 (limb p 0), .int .u64 (limb p 1), .int .u64 (limb p 2), .int .u64 (limb p 3)] 25))) := (Qt.refl w).alloc _
  generalize w.alloc (.cells #[.int .u64 (limb p 0), .int .u64 (limb p 1), .int .u64 (limb p 2), .int .u64 (limb p 3)] 25) = W0 at *
  go_loopw [3, 4] (fun s3 s4 wr => ∃ i : Nat, i ≤ 256 ∧ s4 = .int .i64 i ∧ Hid (Rn W0 wr (w.heap.size + 1) s3 (upl p i))) (fun _ s4 _ => 256 - (intOf s4).toNat)
  case atStart => exact ⟨0, by omega, rfl, (Ol.nil _ _).out, Mv.refl _ _⟩
  case round =>
    obtain ⟨i, hi, rfl, B⟩ := hrel
    obtain ⟨v, hv⟩ : ∃ v, v = u3 := ⟨_, rfl⟩
    subst hv
    by_cases hlt : i < 256
    · obtain ⟨k0, k1, k2, k3, _⟩ := Bk.facts (Rn.bk B HB (by omega))
      have wz : IntKind.u8.wrap (i : Int) = (i : Int) := by rw [IntKind.wrap_u8]; omega
      have hh := rhas_any p i hlt
      cases hp : p i with
      | false =>
        have HU : Hid (upl p (i + 1) = upl p i) := upl_no hp
        rw [hp] at hh
        clear hp
        go_wp2_with fail
        refine (hh _).mono ?_
        rintro e w2 ⟨rfl, q2⟩
        go_wp2_with fail
        refine ⟨⟨i + 1, by omega, by go_num, ?_⟩, by simp [intOf]; omega⟩
        rw [HU.out]; exact Rn.qt B q2
      | true =>
        have HU : Hid (upl p (i + 1) = upl p i ++ [i]) := upl_yes hp
        rw [hp] at hh
        clear hp
        go_wp2_with fail
        refine (hh _).mono ?_
        rintro e w2 ⟨rfl, q2⟩
        obtain ⟨v', W, hr, B2⟩ := Rn.push (Rn.qt B q2) HS.out (Nat.lt_of_le_of_lt (upl_len _ _) (by omega)) i
        clear k0 k1 k2 k3 hh
        go_wp2_with (at_builtin; first | (refine wpList_append_given rfl _ _ 37 rfl _ _ _ W rfl rfl hr ?_))
        refine ⟨⟨i + 1, by omega, by go_num, ?_⟩, by simp [intOf]; omega⟩
        rw [HU.out]; exact B2
    · obtain rfl : i = 256 := by omega
      go_wp2_with fail
      go_ret
      exact ⟨v, rfl, ow_mono B.out.own (fun j hj => Nat.le_of_succ_le (ow_blk B.out.own j hj).1), Mv.trans HQ.out B.out.mv (fun j hj h => by omega)⟩

end Go.Proofs.YtkclkhfcmjhogaaDoor

namespace Go.Proofs.YtkclkhfcmjhogaaDoor
open Go.RowKit
set_option linter.unusedVariables false

theorem join_ol {w : World} {base b2 : Nat} {v u : Value} {l m : List Nat} (h : Hid (Ol w base v l)) (k : Hid (Ol w b2 u m)) (hb : base ≤ w.heap.size) (hl : l.length + m.length < 90000) :
    ∃ v' W, (Builtin.append_ #[37, 37] 37 #[v, u]).run Tryd.prog w = .ok v' W ∧ Hid (Ol W base v' (l ++ m)) ∧ Hid (Mv (fun j => base ≤ j) w W) := by
  obtain ⟨a, cap, rfl, hs, h1, h2, _⟩ := ow_ls k.out
  obtain ⟨v', W, hr, hown, hgr, _⟩ := append_ow 37 37 5 Tryd.t5 (.int .u8 0) 1 1 Tryd.underlying37 info5 zero5 size5 bytes5 (by rfl) (by omega) (by omega) w base v l.length m.length cap (nc l) (nc m) a h.out hs (by simp [nc]) (by intro x hx; unfold nc at hx; rw [List.mem_map] at hx; obtain ⟨c, _, rfl⟩ := hx; rfl) (by omega) h2 hb
  refine ⟨v', W, hr, ?_, ?_⟩
  · show W.ownsRow _ _ _ _ _ _
    rw [nc_append, List.length_append]; exact hown
  · exact Mv.mono (Mv.of_grown hgr) (fun j hj e => (ow_blk h.out j e).1)
theorem step_join {ops : Array Oper} {o : Oper} {a : Act} {w : World} {K : Act → World → Prop} {Q : Exit → Act → World → Prop} {E : Prop} (hgd : o.guard = none) (s x : Operand)
    (ho : o.op = .call { callee := .builtin .append, args := #[s, x], argTypes := #[37, 37] }) (hty : o.type = 37)
    {base b2 : Nat} {v u : Value} {l m : List Nat} (hs : a.eval s = v) (hx : a.eval x = u) (h : Hid (Ol w base v l)) (k : Hid (Ol w b2 u m)) (hb : base ≤ w.heap.size) (hl : l.length + m.length < 90000)
    (H : ∀ v' W, Hid (Ol W base v' (l ++ m)) → Hid (Mv (fun j => base ≤ j) w W) → K (a.put o.dst v') W) :
    if Region.wanted o (yielded ops a.tmps) = true then Oper.wp Tryd.prog o a w K Q else E := by
  have hw : Region.wanted o (yielded ops a.tmps) = true := by simp [Region.wanted, hgd]
  rw [if_pos hw]
  obtain ⟨v', W, hr, h1, h2⟩ := join_ol h k hb hl
  exact wp_append_given s x 37 ho v u v' W hs hx (by rw [hty]; exact hr) (H v' W h1 h2)

theorem hold8m {W w' : World} {S : Nat → Prop} {g0 g1 : Nat} {p q : Nat → Bool} (h0 : Hid (Bk g0 p W)) (h1 : Hid (Bk g1 q W)) (n0 : ¬ S g0) (n1 : ¬ S g1) (m : Hid (Mv S W w')) :
    w'.cell? ⟨g0, 0, none⟩ = some (.int .u64 (limb p 0)) ∧ w'.cell? ⟨g0, 1, none⟩ = some (.int .u64 (limb p 1)) ∧ w'.cell? ⟨g0, 2, none⟩ = some (.int .u64 (limb p 2)) ∧ w'.cell? ⟨g0, 3, none⟩ = some (.int .u64 (limb p 3)) ∧ w'.cell? ⟨g1, 0, none⟩ = some (.int .u64 (limb q 0)) ∧ w'.cell? ⟨g1, 1, none⟩ = some (.int .u64 (limb q 1)) ∧ w'.cell? ⟨g1, 2, none⟩ = some (.int .u64 (limb q 2)) ∧ w'.cell? ⟨g1, 3, none⟩ = some (.int .u64 (limb q 3)) ∧ Hid (Mv S W w') := by
  obtain ⟨a0, a1, a2, a3, _⟩ := Bk.facts (Bk.mv h0 m.out n0)
  obtain ⟨b0, b1, b2, b3, _⟩ := Bk.facts (Bk.mv h1 m.out n1)
  exact ⟨a0, a1, a2, a3, b0, b1, b2, b3, m⟩
theorem inl_ou (p q : Nat → Bool) : Like (inl (upl p 256 ++ upl q 256)) (ou p q) := by
  intro b hb
  have h1 := inl_upl p b hb
  have h2 := inl_upl q b hb
  unfold inl at *
  unfold ou
  rw [← h1, ← h2, Bool.eq_iff_iff]
  simp

theorem list_in (p : Nat → Bool) (W0 : World) (B : Nat) (hB : B + 1 ≤ W0.heap.size) (X : World) (m : Hid (Mv (fun j => B ≤ j) W0 X)) : Calls Tryd.prog 59 #[.agg #[.int .u64 (limb p 0), .int .u64 (limb p 1), .int .u64 (limb p 2), .int .u64 (limb p 3)]] X fun e w' => ∃ v, e = .returned v ∧ Hid (Ol w' (B + 1) v (upl p 256)) ∧ Hid (Mv (fun j => B ≤ j) W0 w') ∧ Hid (Qt X w') := by
  refine (rlist_any p X).mono ?_
  rintro e w' ⟨v, rfl, o, k⟩
  exact ⟨v, rfl, ow_mono o (fun j hj => Nat.le_trans (Nat.le_trans hB m.out.size) (ow_blk o j hj).1), m.out.trans k (fun j hj h => h.elim), k⟩

end Go.Proofs.YtkclkhfcmjhogaaDoor

namespace Go.Proofs.YtkclkhfcmjhogaaDoor
open Go.RowKit
set_option linter.unusedVariables false

set_option maxRecDepth 20000 in
set_option maxHeartbeats 2000000 in
theorem shown_any (c : Nat) (hc : c < 256) (w : World) : Calls Tryd.prog 60 #[.int .u8 (c : Int)] w fun e w' => e = .returned (.string (str (shn c))) ∧ Hid (Qt w w') := by
  have hm := in_marks c hc w
  cases h1 : mk c with
  | true =>
    have hx : shn c = [92, c] := by rw [shn, if_pos h1]
    rw [hx]
    rw [h1] at hm
    have cv : ∀ W : World, (convert 37 9 (.slice (some ⟨W.heap.size, 0, none⟩) 2 2)).run Tryd.prog (W.alloc (.cells #[.int .u8 92, .int .u8 (c : Int)] 5)) = .ok (.string (str [92, c])) (W.alloc (.cells #[.int .u8 92, .int .u8 (c : Int)] 5)) := fun W => conv_new W [92, c] 2 2 rfl
    clear h1 hx
    generalize str [92, c] = T at *
    go_enter Tryd.func60, Tryd.ntmps60
    go_wp2_with fail
    refine hm.mono ?_
    rintro e w' ⟨rfl, rfl⟩
    go_wp2_with fail
    go_ret
    exact ⟨rfl, (Qt.refl _).alloc _⟩
  | false =>
    rw [h1] at hm
    cases h2 : seen c with
    | true =>
      have hx : shn c = [c] := by rw [shn, if_neg (by rw [h1]; simp), if_pos h2]
      rw [hx]
      have cv : ∀ W : World, (convert 37 9 (.slice (some ⟨W.heap.size, 0, none⟩) 1 1)).run Tryd.prog (W.alloc (.cells #[.int .u8 (c : Int)] 5)) = .ok (.string (str [c])) (W.alloc (.cells #[.int .u8 (c : Int)] 5)) := fun W => conv_new W [c] 1 1 rfl
      have hb : 33 ≤ c ∧ c ≤ 126 := by unfold seen at h2; simp at h2; omega
      have b1 : (33 : Int) ≤ (c : Int) := by omega
      have b2 : (c : Int) ≤ 126 := by omega
      clear h1 h2 hx
      generalize str [c] = T at *
      go_enter Tryd.func60, Tryd.ntmps60
      go_wp2_with fail
      refine hm.mono ?_
      rintro e w' ⟨rfl, rfl⟩
      go_wp2_with fail
      go_ret
      exact ⟨rfl, (Qt.refl _).alloc _⟩
    | false =>
      have hx : shn c = hxs c := by rw [shn, if_neg (by rw [h1]; simp), if_neg (by rw [h2]; simp)]; rfl
      rw [hx]
      have hb : ¬ (33 ≤ c ∧ c ≤ 126) := by intro h; unfold seen at h2; simp at h2; omega
      clear h1 h2 hx
      have i1 := idx_u8 ⟨#[48, 49, 50, 51, 52, 53, 54, 55, 56, 57, 97, 98, 99, 100, 101, 102]⟩ (c / 16) (show c / 16 < 16 by omega)
      have i2 := idx_u8 ⟨#[48, 49, 50, 51, 52, 53, 54, 55, 56, 57, 97, 98, 99, 100, 101, 102]⟩ (c % 16) (show c % 16 < 16 by omega)
      rw [hexd_at _ (by omega)] at i1 i2
      have cv : ∀ W : World, (convert 37 9 (.slice (some ⟨W.heap.size, 0, none⟩) 4 4)).run Tryd.prog (W.alloc (.cells #[.int .u8 92, .int .u8 120, .int .u8 (hexd (c / 16) : Int), .int .u8 (hexd (c % 16) : Int)] 5)) = .ok (.string (str (hxs c))) (W.alloc (.cells #[.int .u8 92, .int .u8 120, .int .u8 (hexd (c / 16) : Int), .int .u8 (hexd (c % 16) : Int)] 5)) := fun W => conv_new W (hxs c) 4 4 rfl
      have cvd : (convert 37 9 (.slice (some ⟨w.heap.size, 0, none⟩) 4 4)).run Tryd.prog (w.alloc (.cells #[.int .u8 92, .int .u8 120, .int .u8 (hexd (c / 16) : Int), .int .u8 (hexd (c % 16) : Int)] 5)).drew = .ok (.string (str (hxs c))) (w.alloc (.cells #[.int .u8 92, .int .u8 120, .int .u8 (hexd (c / 16) : Int), .int .u8 (hexd (c % 16) : Int)] 5)).drew := cv w.drew
      have q1 : (c : Int) / 16 = ((c / 16 : Nat) : Int) := by omega
      have q2 : (c : Int) % 16 = ((c % 16 : Nat) : Int) := by omega
      have q3 : IntKind.u8.wrap ((c / 16 : Nat) : Int) = ((c / 16 : Nat) : Int) := by rw [IntKind.wrap_u8]; omega
      have q4 : IntKind.u8.wrap ((c % 16 : Nat) : Int) = ((c % 16 : Nat) : Int) := by rw [IntKind.wrap_u8]; omega
      have z1 : c / 16 < 16 := by omega
      have z2 : c % 16 < 16 := by omega
      generalize str (hxs c) = T at *
      generalize hexd (c / 16) = A at *
      generalize hexd (c % 16) = B at *
      generalize c / 16 = x at *
      generalize c % 16 = y at *
      clear cv
      by_cases hlo : 33 ≤ c
      · have b1 : (33 : Int) ≤ (c : Int) := by omega
        have b2 : ¬ (c : Int) ≤ 126 := by omega
        go_enter Tryd.func60, Tryd.ntmps60
        go_wp2_with fail
        refine hm.mono ?_
        rintro e w' ⟨rfl, rfl⟩
        go_wp2_with fail
        go_region
        go_wp2_with fail
        go_ret
        exact ⟨rfl, Qt.drew ((Qt.refl _).alloc _)⟩
      · have b1 : ¬ (33 : Int) ≤ (c : Int) := by omega
        go_enter Tryd.func60, Tryd.ntmps60
        go_wp2_with fail
        refine hm.mono ?_
        rintro e w' ⟨rfl, rfl⟩
        go_wp2_with fail
        go_region
        go_wp2_with fail
        go_ret
        exact ⟨rfl, Qt.drew ((Qt.refl _).alloc _)⟩

end Go.Proofs.YtkclkhfcmjhogaaDoor

namespace Go.Proofs.YtkclkhfcmjhogaaDoor
open Go.RowKit
set_option linter.unusedVariables false

theorem grow0 {T : ByteArray} {R : List (Nat × Nat)} {a : Nat} (h : T = str (91 :: R.flatMap rtx)) : T ++ str (shn a) = str (91 :: (R ++ [(a, a)]).flatMap rtx) := by
  rw [h, str_append]
  congr 1
  simp [rtx]
theorem grow1 {T : ByteArray} {R : List (Nat × Nat)} {a b : Nat} (hb : b = a + 1) (h : T = str (91 :: R.flatMap rtx)) : (T ++ str (shn a)) ++ str (shn b) = str (91 :: (R ++ [(a, b)]).flatMap rtx) := by
  rw [h, str_append, str_append]
  congr 1
  subst hb
  simp [rtx]
theorem grow2 {T : ByteArray} {R : List (Nat × Nat)} {a b : Nat} (hb : a + 2 ≤ b) (h : T = str (91 :: R.flatMap rtx)) : ((T ++ str (shn a)) ++ (⟨#[45]⟩ : ByteArray)) ++ str (shn b) = str (91 :: (R ++ [(a, b)]).flatMap rtx) := by
  rw [h, str_append, show (⟨#[45]⟩ : ByteArray) = str [45] from rfl, str_append, str_append]
  congr 1
  have h1 : ¬ b = a := by omega
  have h2 : ¬ b = a + 1 := by omega
  simp [rtx, h1, h2]
theorem size_add (a b : ByteArray) : (a ++ b).size = a.size + b.size := by simp

set_option maxRecDepth 20000 in
set_option maxHeartbeats 4000000 in
theorem rshow_any (p : Nat → Bool) (w : World) : Calls Tryd.prog 43 #[.agg #[.int .u64 (limb p 0), .int .u64 (limb p 1), .int .u64 (limb p 2), .int .u64 (limb p 3)]] w fun e w' => Sw p w e w' := by
  have HN : Hid ((upl p 256).length ≤ 256) := upl_len p 256
  go_enter Tryd.func43, Tryd.ntmps43
  go_wp2_with fail
  refine (rlist_any p _).mono ?_
  rintro e w1 ⟨v, rfl, o, q⟩
  have O : Hid (Ol w1 w.heap.size v (upl p 256)) := ow_mono o (fun j hj => Nat.le_trans (by simp) (ow_blk o j hj).1)
  have Q1 : Hid (Qt w w1) := Qt.comp ((Qt.refl w).alloc _) q
  clear o q
  obtain ⟨a, cap, rfl, hs, hcap, hblk⟩ := Ol.sl O
  by_cases n0 : (upl p 256).length = 0
  · have HR : Hid (Runs p 0 []) := runs_len0 n0
    generalize (upl p 256).length = n at *
    subst n0
    clear hs
    go_wp2_with fail
    go_ret
    exact ⟨[], HR.out, rfl, Q1.out⟩
  · by_cases n1 : (upl p 256).length = 1
    · have HR : Hid (Runs p 0 [(ub p 0, ub p 0)]) := runs_len1 n1
      obtain ⟨b, off, ha, hbl, hc⟩ := hs 0 (by omega)
      have U := (ub_at (p := p) (show 0 < (upl p 256).length by omega)).1
      have hc : w1.cell? ⟨b, off, none⟩ = some (.int .u8 (ub p 0 : Int)) := hc
      generalize (upl p 256).length = n at *
      subst n1
      subst ha
      have SC := fun W => shown_any (ub p 0) U W
      clear hs
      have HU : Hid (str (shw [(ub p 0, ub p 0)]) = str (shn (ub p 0))) := by show _ = _; simp [shw]
      generalize ub p 0 = c at *
      go_wp2_with fail
      refine (SC _).mono ?_
      rintro e w2 ⟨rfl, q2⟩
      go_wp2_with fail
      go_ret
      exact ⟨_, HR.out, by rw [HU.out]; rfl, Q1.out.comp q2.out⟩
    · by_cases n2 : (upl p 256).length = 256
      · have HR : Hid (Runs p 0 [(0, 255)]) := runs_len256 n2
        generalize (upl p 256).length = n at *
        subst n2
        clear hs
        go_wp2_with fail
        go_ret
        exact ⟨_, HR.out, rfl, Q1.out⟩
      · have HW : Hid (∀ R, Runs p 0 R → shw R = 91 :: (R.flatMap rtx ++ [93])) := fun R r => shw_long r n0 n1 n2
        have HF : Hid (∀ i, i < (upl p 256).length → ∃ b off, a = some ⟨b, off, none⟩ ∧ ∀ wr, Qt w1 wr → wr.cell? ⟨b, off + i, none⟩ = some (.int .u8 (ub p i : Int))) := by
          intro i hi
          obtain ⟨b, off, ha, hbl, hc⟩ := hs i hi
          exact ⟨b, off, ha, fun wr qr => qr.cell (p := ⟨b, off + i, none⟩) hc (fun h => h)⟩
        have z0 : (((upl p 256).length : Int) == 0) = false := by rw [beq_eq_false_iff_ne]; omega
        have z1 : (((upl p 256).length : Int) == 1) = false := by rw [beq_eq_false_iff_ne]; omega
        have z2 : (((upl p 256).length : Int) == 256) = false := by rw [beq_eq_false_iff_ne]; omega
        obtain ⟨n, hn⟩ : ∃ n, n = (upl p 256).length := ⟨_, rfl⟩
        have HM : Hid (n = (upl p 256).length) := hn
        rw [← hn] at HN hcap z0 z1 z2
        rw [← hn]
        clear hs n0 n1 n2 O hblk hn
        go_wp2_with fail
        go_loopw [4, 5, 6] (fun s4 s5 s6 wr => ∃ (i m : Nat) (R : List (Nat × Nat)) (T : ByteArray), i ≤ n ∧ s4 = .string T ∧ s5 = .int .i64 i ∧ Hid (T = str (91 :: R.flatMap rtx)) ∧ Hid (Up p i m R) ∧ T.size ≤ 1 + 9 * i ∧ Hid (Qt w1 wr)) (fun _ s5 _ _ => n - (intOf s5).toNat)
        case atStart => exact ⟨0, 0, [], _, by omega, rfl, rfl, rfl, Up.zero p, by decide, Qt.refl _⟩
        case round =>
          obtain ⟨i, m, R, T, hi, rfl, rfl, HT, HU, hT, QR⟩ := hrel
          by_cases hlt : i < n
          · go_wp2_with fail
            go_loopw [6] (fun s6 wq => ∃ k : Nat, s6 = .int .i64 k ∧ k < n ∧ Hid (Rpu p i k) ∧ Hid (Qt w1 wq)) (fun s6 _ => n - (intOf s6).toNat)
            case atStart => exact ⟨i, rfl, hlt, Rpu.start (by rw [← HM.out]; exact hlt), QR⟩
            case round =>
              obtain ⟨k, rfl, hk, HR, QK⟩ := hrel
              obtain ⟨b, off, rfl, hcell⟩ := HF.out k (by rw [← HM.out]; exact hk)
              have c0 := hcell _ QK.out
              clear hcell
              have hn := HN.out
              by_cases h1 : k + 1 < n
              · obtain ⟨b', off', hab, hcell⟩ := HF.out (k + 1) (by rw [← HM.out]; exact h1)
                cases hab
                have c1 := hcell _ QK.out
                clear hcell
                have e1 : (k : Int) + 1 = ((k + 1 : Nat) : Int) := by omega
                have w1' : IntKind.i64.wrap ((k + 1 : Nat) : Int) = ((k + 1 : Nat) : Int) := by rw [IntKind.wrap_i64]; omega
                have t1 : decide (((k + 1 : Nat) : Int) < (n : Int)) = true := by simp; omega
                have i1 : ((k + 1 : Nat) : Int) < (n : Int) := by omega
                have i2 : (0 : Int) ≤ ((k + 1 : Nat) : Int) := by omega
                have i3 : (k : Int) < (n : Int) := by omega
                have i4 : (0 : Int) ≤ (k : Int) := by omega
                have hu := ub_lt (p := p) (show k + 1 < (upl p 256).length by rw [← HM.out]; exact h1)
                have hv := (ub_at (p := p) (show k + 1 < (upl p 256).length by rw [← HM.out]; exact h1)).1
                have u1 : IntKind.u8.wrap ((ub p k : Int) + 1) = (ub p k : Int) + 1 := by rw [IntKind.wrap_u8]; omega
                by_cases h2 : ub p (k + 1) = ub p k + 1
                · have HX : Hid (Rpu p i (k + 1)) := HR.out.next (by rw [← HM.out]; exact h1) h2
                  have t2 : ((ub p (k + 1) : Int) == (ub p k : Int) + 1) = true := by simp; omega
                  clear hu hv h2
                  generalize ub p (k + 1) = A at *
                  generalize ub p k = B at *
                  generalize hk1 : k + 1 = k1 at *
                  go_wp2_with fail
                  go_quiet (fail)
                  go_wp2_with fail
                  refine ⟨⟨k1, rfl, h1, HX, QK.out.comp (Mv.drewN _ _ _)⟩, by simp [intOf]; omega⟩
                · have HX : Hid (Up p (k + 1) (ub p k + 1) (R ++ [(ub p i, ub p k)])) := HR.out.stop (fun _ => h2) HU.out
                  have t2 : ((ub p (k + 1) : Int) == (ub p k : Int) + 1) = false := by simp; omega
                  clear hu hv
                  have HIL : Hid (i < (upl p 256).length) := by rw [← HM.out]; exact hlt
                  have HKL : Hid (k < (upl p 256).length) := by rw [← HM.out]; exact hk
                  have SA := fun W => shown_any (ub p i) (ub_at HIL.out).1 W
                  have SB := fun W => shown_any (ub p k) (ub_at HKL.out).1 W
                  have y1 : (str (shn (ub p i))).size ≤ 4 := by rw [str_size]; exact shn_le _
                  have y2 : (str (shn (ub p k))).size ≤ 4 := by rw [str_size]; exact shn_le _
                  have SZ := size_add T (str (shn (ub p i)))
                  have HK : Hid (∀ W, Qt wr W → W.cell? ⟨b, off + k, none⟩ = some (.int .u8 (ub p k : Int))) := fun W q => q.cell (p := ⟨b, off + k, none⟩) c0 (fun h => h)
                  rcases (show k = i ∨ k = i + 1 ∨ i + 2 ≤ k from by have := HR.out.le; omega) with hd | hd | hd
                  · have E : Hid (_ = _) := grow0 (a := ub p i) HT.out
                    have HX2 : Hid (Up p (k + 1) (ub p k + 1) (R ++ [(ub p i, ub p i)])) := by have := HX.out; rw [hd] at this ⊢; exact this
                    subst hd
                    have t5 : decide ((k : Int) < (k : Int)) = false := by simp
                    have t6 : decide (((k + 1 : Nat) : Int) < (k : Int)) = false := by simp; omega
                    clear HX SB y2 HK
                    generalize ub p (k + 1) = A1 at *
                    generalize hk1 : k + 1 = k1 at *
                    generalize str (shn (ub p k)) = A at *
                    go_wp2_with fail
                    go_quiet (fail)
                    go_wp2_with fail
                    refine (SA _).mono ?_
                    rintro e w5 ⟨rfl, q5⟩
                    have Q5 : Hid (Qt w1 w5) := Qt.comp (QK.out.comp (Mv.drewN _ _ nq)) q5.out
                    go_wp2_with fail
                    refine ⟨⟨k1, _, _, _, by omega, rfl, rfl, E, HX2, by omega, Q5⟩, by simp [intOf]; omega⟩
                  · have E : Hid (_ = _) := grow1 (a := ub p i) (b := ub p k) (by have := HR.out.at_; omega) HT.out
                    obtain ⟨b', off', hab, hcell⟩ := HF.out i HIL.out
                    cases hab
                    have ci := hcell _ QK.out
                    clear hcell
                    have e2 : (i : Int) + 1 = (k : Int) := by omega
                    have w2' : IntKind.i64.wrap (k : Int) = (k : Int) := by rw [IntKind.wrap_i64]; omega
                    have t5 : decide ((k : Int) < (k : Int)) = false := by simp
                    have t6 : decide ((i : Int) < (k : Int)) = true := by simp; omega
                    have i5 : (i : Int) < (n : Int) := by omega
                    have i6 : (0 : Int) ≤ (i : Int) := by omega
                    have SZ2 := size_add (T ++ str (shn (ub p i))) (str (shn (ub p k)))
                    have HD : Hid (k = i + 1) := hd
                    clear hd
                    generalize ub p (k + 1) = A1 at *
                    generalize hk1 : k + 1 = k1 at *
                    generalize str (shn (ub p k)) = B at *
                    generalize str (shn (ub p i)) = A at *
                    go_wp2_with fail
                    go_quiet (fail)
                    go_wp2_with fail
                    refine (SA _).mono ?_
                    rintro e w5 ⟨rfl, q5⟩
                    have Q5 : Hid (Qt wr w5) := Qt.comp (Mv.drewN _ _ nq) q5.out
                    have ck := HK.out _ Q5.out
                    clear c0 ci HK
                    go_wp2_with fail
                    refine (SB _).mono ?_
                    rintro e w6 ⟨rfl, q6⟩
                    go_wp2_with fail
                    have hd := HD.out
                    refine ⟨⟨k1, _, _, _, by omega, rfl, rfl, E, HX, by omega, (QK.out.comp Q5.out).comp q6.out⟩, by simp [intOf]; omega⟩
                  · have E : Hid (_ = _) := grow2 (a := ub p i) (b := ub p k) (by have := HR.out.at_; omega) HT.out
                    obtain ⟨b', off', hab, hcell⟩ := HF.out i HIL.out
                    cases hab
                    have ci := hcell _ QK.out
                    clear hcell
                    have e2 : (i : Int) + 1 = ((i + 1 : Nat) : Int) := by omega
                    have w2' : IntKind.i64.wrap ((i + 1 : Nat) : Int) = ((i + 1 : Nat) : Int) := by rw [IntKind.wrap_i64]; omega
                    have t5 : decide (((i + 1 : Nat) : Int) < (k : Int)) = true := by simp; omega
                    have t6 : decide ((i : Int) < (k : Int)) = true := by simp; omega
                    have i5 : (i : Int) < (n : Int) := by omega
                    have i6 : (0 : Int) ≤ (i : Int) := by omega
                    have SZ2 : ((T ++ str (shn (ub p i))) ++ (⟨#[45]⟩ : ByteArray)).size = (T ++ str (shn (ub p i))).size + 1 := size_add _ _
                    have SZ3 := size_add ((T ++ str (shn (ub p i))) ++ (⟨#[45]⟩ : ByteArray)) (str (shn (ub p k)))
                    generalize ub p (k + 1) = A1 at *
                    generalize hk1 : k + 1 = k1 at *
                    generalize hi1 : i + 1 = i1' at *
                    generalize str (shn (ub p k)) = B at *
                    generalize str (shn (ub p i)) = A at *
                    go_wp2_with fail
                    go_quiet (fail)
                    go_wp2_with fail
                    refine (SA _).mono ?_
                    rintro e w5 ⟨rfl, q5⟩
                    have Q5 : Hid (Qt wr w5) := Qt.comp (Mv.drewN _ _ nq) q5.out
                    have ck := HK.out _ Q5.out
                    clear c0 ci HK
                    go_wp2_with fail
                    refine (SB _).mono ?_
                    rintro e w6 ⟨rfl, q6⟩
                    go_wp2_with fail
                    refine ⟨⟨k1, _, _, _, by omega, rfl, rfl, E, HX, by omega, (QK.out.comp Q5.out).comp q6.out⟩, by simp [intOf]; omega⟩
              · have HX : Hid (Up p (k + 1) (ub p k + 1) (R ++ [(ub p i, ub p k)])) := HR.out.stop (fun g => by rw [← HM.out] at g; exact absurd g h1) HU.out
                have e1 : (k : Int) + 1 = ((k + 1 : Nat) : Int) := by omega
                have w1' : IntKind.i64.wrap ((k + 1 : Nat) : Int) = ((k + 1 : Nat) : Int) := by rw [IntKind.wrap_i64]; omega
                have t1 : decide (((k + 1 : Nat) : Int) < (n : Int)) = false := by simp; omega
                have i3 : (k : Int) < (n : Int) := by omega
                have i4 : (0 : Int) ≤ (k : Int) := by omega
                have HIL : Hid (i < (upl p 256).length) := by rw [← HM.out]; exact hlt
                have HKL : Hid (k < (upl p 256).length) := by rw [← HM.out]; exact hk
                have SA := fun W => shown_any (ub p i) (ub_at HIL.out).1 W
                have SB := fun W => shown_any (ub p k) (ub_at HKL.out).1 W
                have y1 : (str (shn (ub p i))).size ≤ 4 := by rw [str_size]; exact shn_le _
                have y2 : (str (shn (ub p k))).size ≤ 4 := by rw [str_size]; exact shn_le _
                have SZ := size_add T (str (shn (ub p i)))
                have HK : Hid (∀ W, Qt wr W → W.cell? ⟨b, off + k, none⟩ = some (.int .u8 (ub p k : Int))) := fun W q => q.cell (p := ⟨b, off + k, none⟩) c0 (fun h => h)
                rcases (show k = i ∨ k = i + 1 ∨ i + 2 ≤ k from by have := HR.out.le; omega) with hd | hd | hd
                · have E : Hid (_ = _) := grow0 (a := ub p i) HT.out
                  have HX2 : Hid (Up p (k + 1) (ub p k + 1) (R ++ [(ub p i, ub p i)])) := by have := HX.out; rw [hd] at this ⊢; exact this
                  subst hd
                  have t5 : decide ((k : Int) < (k : Int)) = false := by simp
                  have t6 : decide (((k + 1 : Nat) : Int) < (k : Int)) = false := by simp; omega
                  clear HX SB y2 HK
                  generalize hk1 : k + 1 = k1 at *
                  generalize str (shn (ub p k)) = A at *
                  go_wp2_with fail
                  go_quiet (fail)
                  go_wp2_with fail
                  refine (SA _).mono ?_
                  rintro e w5 ⟨rfl, q5⟩
                  have Q5 : Hid (Qt w1 w5) := Qt.comp (QK.out.comp (Mv.drewN _ _ nq)) q5.out
                  go_wp2_with fail
                  refine ⟨⟨k1, _, _, _, by omega, rfl, rfl, E, HX2, by omega, Q5⟩, by simp [intOf]; omega⟩
                · have E : Hid (_ = _) := grow1 (a := ub p i) (b := ub p k) (by have := HR.out.at_; omega) HT.out
                  obtain ⟨b', off', hab, hcell⟩ := HF.out i HIL.out
                  cases hab
                  have ci := hcell _ QK.out
                  clear hcell
                  have e2 : (i : Int) + 1 = (k : Int) := by omega
                  have w2' : IntKind.i64.wrap (k : Int) = (k : Int) := by rw [IntKind.wrap_i64]; omega
                  have t5 : decide ((k : Int) < (k : Int)) = false := by simp
                  have t6 : decide ((i : Int) < (k : Int)) = true := by simp; omega
                  have i5 : (i : Int) < (n : Int) := by omega
                  have i6 : (0 : Int) ≤ (i : Int) := by omega
                  have SZ2 := size_add (T ++ str (shn (ub p i))) (str (shn (ub p k)))
                  have HD : Hid (k = i + 1) := hd
                  clear hd
                  generalize hk1 : k + 1 = k1 at *
                  generalize str (shn (ub p k)) = B at *
                  generalize str (shn (ub p i)) = A at *
                  go_wp2_with fail
                  go_quiet (fail)
                  go_wp2_with fail
                  refine (SA _).mono ?_
                  rintro e w5 ⟨rfl, q5⟩
                  have Q5 : Hid (Qt wr w5) := Qt.comp (Mv.drewN _ _ nq) q5.out
                  have ck := HK.out _ Q5.out
                  clear c0 ci HK
                  go_wp2_with fail
                  refine (SB _).mono ?_
                  rintro e w6 ⟨rfl, q6⟩
                  go_wp2_with fail
                  have hd := HD.out
                  refine ⟨⟨k1, _, _, _, by omega, rfl, rfl, E, HX, by omega, (QK.out.comp Q5.out).comp q6.out⟩, by simp [intOf]; omega⟩
                · have E : Hid (_ = _) := grow2 (a := ub p i) (b := ub p k) (by have := HR.out.at_; omega) HT.out
                  obtain ⟨b', off', hab, hcell⟩ := HF.out i HIL.out
                  cases hab
                  have ci := hcell _ QK.out
                  clear hcell
                  have e2 : (i : Int) + 1 = ((i + 1 : Nat) : Int) := by omega
                  have w2' : IntKind.i64.wrap ((i + 1 : Nat) : Int) = ((i + 1 : Nat) : Int) := by rw [IntKind.wrap_i64]; omega
                  have t5 : decide (((i + 1 : Nat) : Int) < (k : Int)) = true := by simp; omega
                  have t6 : decide ((i : Int) < (k : Int)) = true := by simp; omega
                  have i5 : (i : Int) < (n : Int) := by omega
                  have i6 : (0 : Int) ≤ (i : Int) := by omega
                  have SZ2 : ((T ++ str (shn (ub p i))) ++ (⟨#[45]⟩ : ByteArray)).size = (T ++ str (shn (ub p i))).size + 1 := size_add _ _
                  have SZ3 := size_add ((T ++ str (shn (ub p i))) ++ (⟨#[45]⟩ : ByteArray)) (str (shn (ub p k)))
                  generalize hk1 : k + 1 = k1 at *
                  generalize hi1 : i + 1 = i1' at *
                  generalize str (shn (ub p k)) = B at *
                  generalize str (shn (ub p i)) = A at *
                  go_wp2_with fail
                  go_quiet (fail)
                  go_wp2_with fail
                  refine (SA _).mono ?_
                  rintro e w5 ⟨rfl, q5⟩
                  have Q5 : Hid (Qt wr w5) := Qt.comp (Mv.drewN _ _ nq) q5.out
                  have ck := HK.out _ Q5.out
                  clear c0 ci HK
                  go_wp2_with fail
                  refine (SB _).mono ?_
                  rintro e w6 ⟨rfl, q6⟩
                  go_wp2_with fail
                  refine ⟨⟨k1, _, _, _, by omega, rfl, rfl, E, HX, by omega, (QK.out.comp Q5.out).comp q6.out⟩, by simp [intOf]; omega⟩
          · obtain rfl : i = n := by omega
            have HRR : Hid (Runs p 0 R) := HU.out.end_ HM.out
            have HS : Hid (T ++ (⟨#[93]⟩ : ByteArray) = str (shw R)) := by
              show _ = _
              rw [HW.out R HRR.out, HT.out, show (⟨#[93]⟩ : ByteArray) = str [93] from rfl, str_append]
              rfl
            have hn := HN.out
            clear HT
            go_wp2_with fail
            go_ret
            exact ⟨R, HRR.out, by rw [← HS.out]; rfl, Q1.out.comp QR.out⟩
end Go.Proofs.YtkclkhfcmjhogaaDoor
