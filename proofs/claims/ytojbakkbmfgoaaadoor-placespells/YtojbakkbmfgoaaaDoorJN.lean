/- join: numbers of either, each once. -/
import Derived.Test.YtojbakkbmfgoaaaDoorCB
namespace Go.Proofs.YtojbakkbmfgoaaaDoor
open Go.RowKit
set_option linter.unusedVariables false
set_option linter.unusedSimpArgs false

/-- One number more, if it is not there. -/
def ins (L : List Nat) (d : Nat) : List Nat := if L.any (· == d) then L else L ++ [d]
def jn (A B : List Nat) : List Nat := B.foldl ins A
theorem ins_mem {L : List Nat} {d c : Nat} : c ∈ ins L d ↔ c ∈ L ∨ c = d := by
  unfold ins
  by_cases h : L.any (· == d) = true
  · rw [if_pos h]
    obtain ⟨e, he, hd⟩ := List.any_eq_true.1 h
    obtain rfl : e = d := by simpa using hd
    constructor
    · exact .inl
    · rintro (h | rfl)
      · exact h
      · exact he
  · rw [if_neg h]; simp
theorem ins_nodup {L : List Nat} {d : Nat} (h : L.Nodup) : (ins L d).Nodup := by
  unfold ins
  by_cases h1 : L.any (· == d) = true
  · rw [if_pos h1]; exact h
  · rw [if_neg h1]
    rw [List.nodup_append]
    refine ⟨h, by simp, fun a ha b hb e => ?_⟩
    obtain rfl : b = d := by simpa using hb
    exact h1 (List.any_eq_true.2 ⟨a, ha, by simpa using e⟩)
theorem ins_len (L : List Nat) (d : Nat) : (ins L d).length ≤ L.length + 1 := by
  unfold ins; split <;> simp
theorem jn_mem : ∀ {B A : List Nat} {c : Nat}, c ∈ jn A B ↔ c ∈ A ∨ c ∈ B
  | [], A, c => by simp [jn]
  | d :: B, A, c => by
    show c ∈ jn (ins A d) B ↔ _
    rw [jn_mem, ins_mem, List.mem_cons, or_assoc]
theorem jn_nodup : ∀ {B A : List Nat}, A.Nodup → (jn A B).Nodup
  | [], A, h => h
  | d :: B, A, h => jn_nodup (B := B) (ins_nodup h)
theorem jn_len : ∀ (B A : List Nat), (jn A B).length ≤ A.length + B.length
  | [], A => by simp [jn]
  | d :: B, A => by
    have h1 := jn_len B (ins A d)
    have h2 := ins_len A d
    show (jn (ins A d) B).length ≤ _
    simp only [List.length_cons]; omega
theorem jn_take {A B : List Nat} {i d : Nat} (h : B[i]? = some d) : jn A (B.take (i + 1)) = ins (jn A (B.take i)) d := by
  unfold jn
  rw [List.take_add_one, h, List.foldl_append]; rfl
theorem any_take {L : List Nat} {m c d : Nat} (h : L[m]? = some c) : (L.take (m + 1)).any (· == d) = ((L.take m).any (· == d) || c == d) := by
  rw [List.take_add_one, h, List.any_append]; simp
theorem beq_int (u d : Nat) : ((u : Int) == (d : Int)) = (u == d) := by
  rw [Bool.eq_iff_iff, beq_iff_eq, beq_iff_eq]; omega
theorem few_nodup : ∀ {n : Nat} {l : List Nat}, l.Nodup → (∀ c ∈ l, c < n) → l.length ≤ n
  | 0, l, _, h => by
    cases l with
    | nil => simp
    | cons a l => have := h a (by simp); omega
  | n + 1, l, hd, h => by
    have h1 := few_nodup (n := n) (l := l.filter (fun c => c ≠ n)) (hd.filter _) (fun c hc => by
      have h2 := List.mem_filter.1 hc
      have h3 := h c h2.1
      have h4 : c ≠ n := by simpa using h2.2
      omega)
    have h5 : l.length = (l.filter (fun c => c ≠ n)).length + (l.filter (fun c => c = n)).length := by
      clear h1 h hd
      induction l with
      | nil => rfl
      | cons a l ih => by_cases e : a = n <;> simp [e] at ih ⊢ <;> omega
    have h6 : (l.filter (fun c => c = n)).length ≤ 1 := by
      have h7 : (l.filter (fun c => c = n)).Nodup := hd.filter _
      match hm : l.filter (fun c => c = n), h7 with
      | [], _ => simp
      | [a], _ => simp
      | a :: b :: m, h7 =>
        have ha : a ∈ l.filter (fun c => c = n) := by rw [hm]; simp
        have hb : b ∈ l.filter (fun c => c = n) := by rw [hm]; simp
        have e1 : a = n := by simpa using (List.mem_filter.1 ha).2
        have e2 : b = n := by simpa using (List.mem_filter.1 hb).2
        rw [List.nodup_cons] at h7
        exact absurd (by rw [e1, e2]; simp) h7.1
    omega

set_option maxRecDepth 20000 in
set_option maxHeartbeats 8000000 in
theorem join_any (A B : List Nat) (hA : A.length ≤ 1000) (hB : B.length ≤ 1000) (s t : Value) (w : World) (hs : Hid (Is w s A)) (ht : Hid (Is w t B)) : Calls Tryd.prog 14 #[s, t] w fun e w' => ∃ v, e = .returned v ∧ Hid (Oi w' w.heap.size v (jn A B)) ∧ Hid (Qt w w') := by
  obtain ⟨sa, sc, rfl⟩ := hs.out.form
  obtain ⟨ta, tc, rfl⟩ := ht.out.form
  have HB : Hid (∀ i, (jn A (B.take i)).length < 90000) := fun i => by
    have h1 := jn_len (B.take i) A
    have h2 : (B.take i).length ≤ B.length := by rw [List.length_take]; omega
    omega
  have QE : Hid (Qt w (w.alloc (.cells #[] 3))) := Mv.alloc _ _ _
  obtain ⟨v0, W0, hr0, hO0, hM0, _⟩ := Oi.app (Oi.empty w w.heap.size (Nat.le_refl _)) (hs.out.qt QE.out) (by simp; omega) QE.out.size
  rw [List.nil_append] at hO0
  have QW0 : Hid (Qt w W0) := Mv.trans QE.out hM0 (fun j hj e => by
    have e2 : w.heap.size = j := Option.some.inj e
    omega)
  obtain ⟨a0, n0, c0, e0⟩ := Oi.form (show Hid _ from hO0)
  obtain rfl := e0
  have O0 : Hid (Oi W0 w.heap.size (.slice a0 n0 c0) (jn A (B.take 0))) := hO0
  clear hO0 hM0
  go_enter Tryd.func14, Tryd.ntmps14
  go_wp2_with (at_builtin; refine wpList_append_given rfl _ _ 34 rfl _ _ _ W0 rfl rfl hr0 ?_)
  go_loopw [5, 6] (fun s5 s6 wr => ∃ (i : Nat) (oa : Option Addr) (on oc : Nat), i ≤ B.length ∧ s6 = .int .i64 i ∧ s5 = .slice oa on oc ∧ Hid (Oi wr w.heap.size (.slice oa on oc) (jn A (B.take i))) ∧ Hid (Qt w wr)) (fun _ s6 _ => B.length - (intOf s6).toNat)
  case atStart => exact ⟨0, _, _, _, by omega, rfl, rfl, O0, QW0⟩
  case round =>
    obtain ⟨i, oa, on, oc, hi, rfl, rfl, O, Q⟩ := hrel
    by_cases hlt : i < B.length
    · obtain ⟨d, hd⟩ : ∃ d, B[i]? = some d := ⟨_, List.getElem?_eq_getElem hlt⟩
      have HJ := jn_take (A := A) hd
      have HLn := HB.out i
      have HNx : Hid (jn A (B.take (i + 1)) = ins (jn A (B.take i)) d) := HJ
      generalize jn A (B.take i) = L at *
      have hon : on = L.length := by
        obtain ⟨p, c, e, _⟩ := O.out.is
        exact (Value.slice.inj e).2.1
      subst hon
      obtain ⟨tb, to, tp, e, _, kd⟩ := (ht.out.qt Q.out).at hd
      obtain ⟨rfl, _, rfl⟩ := Value.slice.inj e
      have HKd : Hid (∀ w', Qt wr w' → w'.cell? ⟨tb, to + i, none⟩ = some (.int .i64 (d : Int))) := fun w' q => q.cell (p := ⟨tb, to + i, none⟩) kd (fun h => h)
      have hbi : (i : Int) < (B.length : Int) := by omega
      have HLB : Hid (L.length < 90000) := HLn
      clear e hd kd HJ HLn
      go_wp2_with fail
      go_loopw [7, 8] (fun s7 s8 w2 => ∃ k : Nat, k ≤ L.length ∧ s8 = .int .i64 k ∧ s7 = .bool ((L.take k).any (· == d)) ∧ Hid (Qt wr w2)) (fun _ s8 _ => L.length - (intOf s8).toNat)
      case atStart => exact ⟨0, by omega, rfl, rfl, Qt.refl _⟩
      case round =>
        obtain ⟨k, hk, rfl, rfl, QK⟩ := hrel
        by_cases hkl : k < L.length
        · obtain ⟨u, hu⟩ : ∃ u, L[k]? = some u := ⟨_, List.getElem?_eq_getElem hkl⟩
          obtain ⟨ob, oo, op, e, _, ku⟩ := (O.out.is.qt QK.out).at hu
          obtain ⟨rfl, _, rfl⟩ := Value.slice.inj e
          have k1 := HKd.out wr QK.out
          have hki : (k : Int) < (L.length : Int) := by omega
          have hbk : k < 90000 := by have := HLB.out; omega
          have HNX : Hid ((L.take (k + 1)).any (· == d) = ((L.take k).any (· == d) || u == d)) := any_take hu
          clear e
          cases hin : (L.take k).any (· == d) with
          | true =>
            have HT2 : Hid ((L.take (k + 1)).any (· == d) = true) := (by rw [HNX.out, hin]; rfl : _ = true)
            go_wp2_with fail
            go_quiet (fail)
            go_wp2_with fail
            exact ⟨⟨k + 1, by omega, by go_num, by rw [HT2.out], QK.out.comp (Mv.drewN (fun _ => False) _ _)⟩, by simp [intOf]; omega⟩
          | false =>
            have HT2 : Hid ((L.take (k + 1)).any (· == d) = (u == d)) := (by rw [HNX.out, hin]; rfl : _ = (u == d))
            go_wp2_with fail
            go_quiet (fail)
            go_wp2_with fail
            exact ⟨⟨k + 1, by omega, by go_num, by rw [HT2.out, beq_int], QK.out.comp (Mv.drewN (fun _ => False) _ _)⟩, by simp [intOf]; omega⟩
        · obtain rfl : k = L.length := by omega
          rw [List.take_length]
          have hbi2 : i < 90000 := by omega
          have k1 := HKd.out wr QK.out
          cases hin : L.any (· == d) with
          | true =>
            have HE : Hid (Oi wr w.heap.size (.slice oa L.length oc) (jn A (B.take (i + 1)))) := (by
              rw [HNx.out, show ins L d = L from by unfold ins; rw [if_pos hin]]; exact O.out.qt QK.out : Oi _ _ _ _)
            go_wp2_with fail
            go_roundw
            case rel => exact ⟨i + 1, oa, L.length, oc, by omega, by go_num, rfl, HE, Q.out.comp QK.out⟩
            case measure => simp [intOf]; omega
          | false =>
            obtain ⟨v', W, hr, hO, hM, _⟩ := Oi.push (O.out.qt QK.out) HLB.out (Nat.le_trans Q.out.size QK.out.size) d
            have hBk := ow_blk (O.out.qt QK.out)
            have HQ : Hid (Qt w W) := Mv.trans (Q.out.comp QK.out) hM (fun j hj e => by have := (hBk j e).1; omega)
            obtain ⟨va, vn, vc, e⟩ := Oi.form (show Hid _ from hO)
            obtain rfl := e
            have HE : Hid (Oi W w.heap.size (.slice va vn vc) (jn A (B.take (i + 1)))) := (by
              rw [HNx.out, show ins L d = L ++ [d] from by unfold ins; rw [if_neg (by rw [hin]; decide)]]; exact hO : Oi _ _ _ _)
            clear hO hM hBk
            go_wp2_with (at_builtin; refine wpList_append_given rfl _ _ 34 rfl _ _ _ W rfl rfl hr ?_)
            go_roundw
            case rel => exact ⟨i + 1, va, vn, vc, by omega, by go_num, rfl, HE, HQ⟩
            case measure => simp [intOf]; omega
    · obtain rfl : i = B.length := by omega
      rw [List.take_length] at O
      go_wp2_with fail
      go_ret
      exact ⟨_, rfl, O, Q⟩

end Go.Proofs.YtojbakkbmfgoaaaDoor
