/- show, Show. -/
import Derived.Test.YtkclkhfcmjhogaaDoorV3
namespace Go.Proofs.YtkclkhfcmjhogaaDoor
open Go.RowKit
set_option linter.unusedVariables false

theorem exs0 : (⟨#[42, 43, 63]⟩ : ByteArray).extract 0 3 = str [42, 43, 63] := by decide +kernel
theorem exs1 : (⟨#[42, 43, 63]⟩ : ByteArray).extract 1 3 = str [43, 63] := by decide +kernel
theorem exs2 : (⟨#[42, 43, 63]⟩ : ByteArray).extract 2 3 = str [63] := by decide +kernel
theorem ext4 : (str [42, 43, 63]).extract 0 1 = str [42] := by decide +kernel
theorem ext5 : (str [43, 63]).extract 0 1 = str [43] := by decide +kernel
theorem ext6 : (str [63]).extract 0 1 = str [63] := by decide +kernel
theorem str_sz3 : (str [42, 43, 63]).size = 3 := rfl
theorem str_sz2 : (str [43, 63]).size = 2 := rfl
theorem str_sz1 : (str [63]).size = 1 := rfl
theorem Rt9.first {base : Nat} {w : World} {v : Value} {t : List Nat} {U : List (List Nat)} (h : Rt9 base w v (t :: U)) : ∃ b o n c, v = .slice (some ⟨b, o, none⟩) n c ∧ 0 < n ∧ w.cell? ⟨b, o, none⟩ = some (.string (str t)) := by
  obtain ⟨a, c, hv, hls, hc, _, _⟩ := ow_ls h
  obtain ⟨b, o, rfl, hb, hcell⟩ := hls 0 _ rfl
  exact ⟨b, o, _, c, hv, by simp, by simpa using hcell⟩

/-- What show tells. -/
def ShC (g : (Nat → Bool) → List Nat) (x : RX) : Prop := ∀ (K : Nat → Prop) (a : Option Addr) (c : Nat) (w : World), Parts x.args K w a c → Hid (Tab w) → x.nodes ≤ 40 → x.formed = true → Calls Tryd.prog 42 #[.agg #[.int .i64 x.kind, .int .u64 (limb x.set 0), .int .u64 (limb x.set 1), .int .u64 (limb x.set 2), .int .u64 (limb x.set 3), .slice a x.args.length c]] w fun e w' => e = .returned (.string (str (x.sh g))) ∧ Hid (Qt w w')

set_option maxHeartbeats 4000000 in
theorem show_step (g : (Nat → Bool) → List Nat) (hg : Gd g) (X : RX) (IH : ∀ x ∈ X.args, ShC g x) : ShC g X := by
  intro K a c w hp hT hX hXf
  have q0 := Mv.alloc (fun _ => False) w (.cells #[.int .i64 X.kind, .int .u64 (limb X.set 0), .int .u64 (limb X.set 1), .int .u64 (limb X.set 2), .int .u64 (limb X.set 3), .slice a X.args.length c] 28)
  have hargs := showArgs_any g hg X hX hXf IH K a c _ (hp.mv q0 (fun _ _ h => h)) (hT.out.qt q0)
  have hset := fun W (q : Hid (Qt w W)) => showc_of (p := X.set) hg W (hT.out.qt q.out)
  rw [sv_cells] at hset
  have PB : Hid (B6 w.heap.size (.int .i64 X.kind) (.int .u64 (limb X.set 0)) (.int .u64 (limb X.set 1)) (.int .u64 (limb X.set 2)) (.int .u64 (limb X.set 3)) (.slice a X.args.length c) (w.alloc (.cells #[.int .i64 X.kind, .int .u64 (limb X.set 0), .int .u64 (limb X.set 1), .int .u64 (limb X.set 2), .int .u64 (limb X.set 3), .slice a X.args.length c] 28))) := heap_alloc_new w _
  have Q0 : Hid (Qt w (w.alloc (.cells #[.int .i64 X.kind, .int .u64 (limb X.set 0), .int .u64 (limb X.set 1), .int .u64 (limb X.set 2), .int .u64 (limb X.set 3), .slice a X.args.length c] 28))) := q0
  obtain ⟨b0, b1, b2, b3, b4, b5, _, _, _, _, _, _⟩ := B6.facts PB
  have hk := formed_kind hXf
  have HA : Hid (X.sh g = if X.kind = 1 then g X.set else joinK X.kind (texts g X.kind X.args)) := sh_at g X
  have HSL : Hid ((X.sh g).length ≤ 120200) := by have := sh_len hg X; show _ ≤ _; omega
  have HN40 : Hid ((texts g X.kind X.args).length ≤ 1000) := by show _ ≤ _; rw [texts_len]; have h1 := nodes_at X; have h2 := len_le_sum X.args; omega
  have HNE : Hid (X.kind = 1 ∨ texts g X.kind X.args ≠ []) := by
    rcases hk with h | h
    · exact .inl h
    · right
      intro e
      have hl := texts_len g X.kind X.args
      rw [e] at hl
      rw [formed_at, Bool.and_eq_true] at hXf
      have hn := hXf.1
      unfold RX.node node at hn
      rw [← hl] at hn
      simp only [List.length_nil] at hn
      split at hn
      · simp at hn
      · split at hn
        · simp at hn
        · split at hn
          · omega
          · cases hn
  generalize X.sh g = T at *
  generalize texts g X.kind X.args = U at *
  clear hXf hX IH hp q0
  generalize limb X.set 0 = x0 at *
  generalize limb X.set 1 = x1 at *
  generalize limb X.set 2 = x2 at *
  generalize limb X.set 3 = x3 at *
  generalize X.args.length = n at *
  generalize hkk : X.kind = k at *
  clear hkk
  rcases hk with rfl | rfl | rfl | rfl | rfl | rfl
  · go_enter Tryd.func42, Tryd.ntmps42
    go_wp2_with fail
    refine hargs.mono ?_
    rintro e1 w1 ⟨v, rfl, R1, q1⟩
    have PB1 := B6.mv PB.out q1.out (fun h => h)
    have Q1 : Hid (Qt w w1) := Q0.out.comp q1.out
    clear b0 b1 b2 b3 b4 b5
    obtain ⟨b0, b1, b2, b3, b4, b5, _, _, _, _, _, _⟩ := B6.facts PB1
    have hs1 := hset w1 Q1
    have HE : Hid (T = g X.set) := by have := HA.out; simp at this; exact this
    go_wp2_with fail
    refine hs1.mono ?_
    rintro e2 w2 ⟨rfl, q2⟩
    go_wp2_with fail
    go_ret
    exact ⟨by rw [HE.out]; rfl, Q1.out.comp q2.out⟩
  · have HE : Hid (T = ([] : List Nat).intercalate U) := by show _ = _; rw [HA.out, if_neg (by decide)]; unfold joinK; rw [if_pos rfl, inter_nil]
    have HNU : Hid (U ≠ []) := HNE.out.resolve_left (by decide)
    go_enter Tryd.func42, Tryd.ntmps42
    go_wp2_with fail
    refine hargs.mono ?_
    rintro e1 w1 ⟨v, rfl, R1, q1⟩
    have PB1 := B6.mv PB.out q1.out (fun h => h)
    have Q1 : Hid (Qt w w1) := Q0.out.comp q1.out
    clear b0 b1 b2 b3 b4 b5
    obtain ⟨b0, b1, b2, b3, b4, b5, _, _, _, _, _, _⟩ := B6.facts PB1
    have hs1 := joins R1.out HNU.out [] (by rw [← HE.out]; exact Nat.le_trans HSL.out (by decide)) HN40.out
    rw [← HE.out, show str [] = ⟨#[]⟩ from rfl] at hs1
    go_wp2_with fail
    refine hs1.mono ?_
    rintro e2 w2 ⟨rfl, q2⟩
    go_wp2_with fail
    go_ret
    exact ⟨rfl, Q1.out.comp q2.out⟩
  · have HE : Hid (T = [124].intercalate U) := by show _ = _; rw [HA.out, if_neg (by decide)]; unfold joinK; rw [if_neg (by decide), if_pos rfl]
    have HNU : Hid (U ≠ []) := HNE.out.resolve_left (by decide)
    go_enter Tryd.func42, Tryd.ntmps42
    go_wp2_with fail
    refine hargs.mono ?_
    rintro e1 w1 ⟨v, rfl, R1, q1⟩
    have PB1 := B6.mv PB.out q1.out (fun h => h)
    have Q1 : Hid (Qt w w1) := Q0.out.comp q1.out
    clear b0 b1 b2 b3 b4 b5
    obtain ⟨b0, b1, b2, b3, b4, b5, _, _, _, _, _, _⟩ := B6.facts PB1
    have hs1 := joins R1.out HNU.out [124] (by rw [← HE.out]; exact Nat.le_trans HSL.out (by decide)) HN40.out
    rw [← HE.out, show str [124] = ⟨#[124]⟩ from rfl] at hs1
    go_wp2_with fail
    refine hs1.mono ?_
    rintro e2 w2 ⟨rfl, q2⟩
    go_wp2_with fail
    go_ret
    exact ⟨rfl, Q1.out.comp q2.out⟩
  · have HNU : Hid (U ≠ []) := HNE.out.resolve_left (by decide)
    obtain ⟨t, U2, hU⟩ : ∃ t U2, U = t :: U2 := by cases U with | nil => exact absurd rfl HNU.out | cons t U2 => exact ⟨t, U2, rfl⟩
    have HE : Hid (str t ++ str [42] = str T) := by show _ = _; rw [HA.out, if_neg (by decide), hU, str_append]; rfl
    have htl : t.length ≤ 120200 := by have h1 := HSL.out; have h2 := congrArg ByteArray.size HE.out; rw [ByteArray.size_append, str_size, str_size, str_size] at h2; simp at h2; omega
    have hsz : (str t).size ≤ 120200 := by rw [str_size]; exact htl
    have E1 := exs0
    have E2 := ext4
    have E3 := str_sz3
    rw [hU] at hargs
    clear hU htl
    go_enter Tryd.func42, Tryd.ntmps42
    go_wp2_with fail
    refine hargs.mono ?_
    rintro e1 w1 ⟨v, rfl, R1, q1⟩
    have PB1 := B6.mv PB.out q1.out (fun h => h)
    have Q1 : Hid (Qt w w1) := Q0.out.comp q1.out
    clear b0 b1 b2 b3 b4 b5
    obtain ⟨b0, b1, b2, b3, b4, b5, _, _, _, _, _, _⟩ := B6.facts PB1
    obtain ⟨bb, oo, nn, cc, hv, hpos, hcell⟩ := R1.out.first
    subst hv
    have hpos2 : (0 : Int) < (nn : Int) := by omega
    have HEQ := HE.out
    have hz1 : (str [42]).size = 1 := rfl
    have W0 : IntKind.i64.wrap 0 = 0 := by decide
    go_wp2_with fail
    go_quiet (fail)
    go_wp2_with fail
    go_ret
    exact ⟨by rw [← HEQ]; rfl, Q1.out.trans (Mv.drewN (fun _ => False) w1 nq) (fun _ _ h => h.elim)⟩
  · have HNU : Hid (U ≠ []) := HNE.out.resolve_left (by decide)
    obtain ⟨t, U2, hU⟩ : ∃ t U2, U = t :: U2 := by cases U with | nil => exact absurd rfl HNU.out | cons t U2 => exact ⟨t, U2, rfl⟩
    have HE : Hid (str t ++ str [43] = str T) := by show _ = _; rw [HA.out, if_neg (by decide), hU, str_append]; rfl
    have htl : t.length ≤ 120200 := by have h1 := HSL.out; have h2 := congrArg ByteArray.size HE.out; rw [ByteArray.size_append, str_size, str_size, str_size] at h2; simp at h2; omega
    have hsz : (str t).size ≤ 120200 := by rw [str_size]; exact htl
    have E1 := exs1
    have E2 := ext5
    have E3 := str_sz2
    rw [hU] at hargs
    clear hU htl
    go_enter Tryd.func42, Tryd.ntmps42
    go_wp2_with fail
    refine hargs.mono ?_
    rintro e1 w1 ⟨v, rfl, R1, q1⟩
    have PB1 := B6.mv PB.out q1.out (fun h => h)
    have Q1 : Hid (Qt w w1) := Q0.out.comp q1.out
    clear b0 b1 b2 b3 b4 b5
    obtain ⟨b0, b1, b2, b3, b4, b5, _, _, _, _, _, _⟩ := B6.facts PB1
    obtain ⟨bb, oo, nn, cc, hv, hpos, hcell⟩ := R1.out.first
    subst hv
    have hpos2 : (0 : Int) < (nn : Int) := by omega
    have HEQ := HE.out
    have hz1 : (str [43]).size = 1 := rfl
    have W0 : IntKind.i64.wrap 1 = 1 := by decide
    go_wp2_with fail
    go_quiet (fail)
    go_wp2_with fail
    go_ret
    exact ⟨by rw [← HEQ]; rfl, Q1.out.trans (Mv.drewN (fun _ => False) w1 nq) (fun _ _ h => h.elim)⟩
  · have HNU : Hid (U ≠ []) := HNE.out.resolve_left (by decide)
    obtain ⟨t, U2, hU⟩ : ∃ t U2, U = t :: U2 := by cases U with | nil => exact absurd rfl HNU.out | cons t U2 => exact ⟨t, U2, rfl⟩
    have HE : Hid (str t ++ str [63] = str T) := by show _ = _; rw [HA.out, if_neg (by decide), hU, str_append]; rfl
    have htl : t.length ≤ 120200 := by have h1 := HSL.out; have h2 := congrArg ByteArray.size HE.out; rw [ByteArray.size_append, str_size, str_size, str_size] at h2; simp at h2; omega
    have hsz : (str t).size ≤ 120200 := by rw [str_size]; exact htl
    have E1 := exs2
    have E2 := ext6
    have E3 := str_sz1
    rw [hU] at hargs
    clear hU htl
    go_enter Tryd.func42, Tryd.ntmps42
    go_wp2_with fail
    refine hargs.mono ?_
    rintro e1 w1 ⟨v, rfl, R1, q1⟩
    have PB1 := B6.mv PB.out q1.out (fun h => h)
    have Q1 : Hid (Qt w w1) := Q0.out.comp q1.out
    clear b0 b1 b2 b3 b4 b5
    obtain ⟨b0, b1, b2, b3, b4, b5, _, _, _, _, _, _⟩ := B6.facts PB1
    obtain ⟨bb, oo, nn, cc, hv, hpos, hcell⟩ := R1.out.first
    subst hv
    have hpos2 : (0 : Int) < (nn : Int) := by omega
    have HEQ := HE.out
    have hz1 : (str [63]).size = 1 := rfl
    have W0 : IntKind.i64.wrap 2 = 2 := by decide
    go_wp2_with fail
    go_quiet (fail)
    go_wp2_with fail
    go_ret
    exact ⟨by rw [← HEQ]; rfl, Q1.out.trans (Mv.drewN (fun _ => False) w1 nq) (fun _ _ h => h.elim)⟩
theorem showAll (g : (Nat → Bool) → List Nat) (hg : Gd g) : ∀ x, ShC g x := by
  refine RX.ind ?_
  intro k p l ih
  exact show_step g hg ⟨k, p, l⟩ ih
set_option maxHeartbeats 1000000 in
/-- Show, of an expression that may be. -/
theorem showX_any (g : (Nat → Bool) → List Nat) (hg : Gd g) (X : RX) (K : Nat → Prop) (a : Option Addr) (c : Nat) (w : World) (hK : ∀ j, K j → j < w.heap.size) (hp : Parts X.args K w a c) (hT : Hid (Tab w)) (hm : may X = 0) : Calls Tryd.prog 22 #[.agg #[.int .i64 X.kind, .int .u64 (limb X.set 0), .int .u64 (limb X.set 1), .int .u64 (limb X.set 2), .int .u64 (limb X.set 3), .slice a X.args.length c]] w fun e w' => e = .returned (.string (str (X.sh g))) ∧ Hid (Qt w w') := by
  obtain ⟨h1, h2, h3⟩ : X.formed = true ∧ X.nodes ≤ 40 ∧ X.depth ≤ 12 := by
    unfold may at hm
    split at hm
    · cases hm
    · rename_i hf
      split at hm
      · rename_i h; exact ⟨by simpa using hf, h⟩
      · cases hm
  have ht : X.tall < 90000 := by have := tall_nodes X; omega
  have q0 := Mv.alloc (fun _ => False) w (.cells #[.int .i64 X.kind, .int .u64 (limb X.set 0), .int .u64 (limb X.set 1), .int .u64 (limb X.set 2), .int .u64 (limb X.set 3), .slice a X.args.length c] 28)
  have hmay := may_any X K a c _ (fun j hj => Nat.lt_of_lt_of_le (hK j hj) q0.size) (hp.mv q0 (fun _ _ h => h)) ht
  rw [hm] at hmay
  have hsh := fun W (q : Hid (Qt w W)) => showAll g hg X K a c W (hp.mv q.out (fun _ _ h => h)) (hT.out.qt q.out) h2 h1
  clear hm ht h1 h2 h3 hp hK
  unfold xv at hmay
  go_enter Tryd.func22, Tryd.ntmps22
  go_wp2_with fail
  refine hmay.mono ?_
  rintro e1 w1 ⟨rfl, q1⟩
  have Q1 : Hid (Qt w w1) := ((Qt.refl w).alloc _).comp q1.out
  obtain ⟨b0, b1, b2, b3, b4, b5⟩ := box6 q1
  have hs := hsh w1 Q1
  go_wp2_with fail
  refine hs.mono ?_
  rintro e2 w2 ⟨rfl, q2⟩
  go_wp2_with fail
  go_ret
  exact ⟨rfl, Q1.out.comp q2.out⟩

end Go.Proofs.YtkclkhfcmjhogaaDoor
