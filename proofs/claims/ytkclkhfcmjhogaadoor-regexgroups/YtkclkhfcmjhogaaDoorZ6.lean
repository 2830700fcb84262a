/- spansOf: what is asked of the parts; the matrices of an expression. -/
import Derived.Test.YtkclkhfcmjhogaaDoorZ5
import Derived.Test.YtkclkhfcmjhogaaDoorH2
import Derived.Test.YtkclkhfcmjhogaaDoorK8
namespace Go.Proofs.YtkclkhfcmjhogaaDoor
open Go.RowKit
set_option linter.unusedVariables false

/-- Which places an expression leads to, out of those of its parts. -/
def mtK (N : Nat) (k : Int) : List Mat → Mat
  | [] => fun _ _ => false
  | m :: ms => if k = 2 then ms.foldl (thenM N) m else if k = 3 then ms.foldl orM m else if k = 4 then starM N m else if k = 5 then thenM N m (starM N m) else orM m idM
def RX.mt (bt : Nat → Nat) (n : Nat) : RX → Mat := RX.fold (fun k p l R => if k = 1 then setM p bt n else mtK (n + 1) k R)
theorem mt_eq (bt : Nat → Nat) (n : Nat) (k : Int) (p : Nat → Bool) (l : List RX) : RX.mt bt n ⟨k, p, l⟩ = if k = 1 then setM p bt n else mtK (n + 1) k (l.map (RX.mt bt n)) := by rw [RX.mt, RX.fold_eq]
theorem mt_at (bt : Nat → Nat) (n : Nat) (x : RX) : x.mt bt n = if x.kind = 1 then setM x.set bt n else mtK (n + 1) x.kind (x.args.map (RX.mt bt n)) := by obtain ⟨k, p, l⟩ := x; exact mt_eq bt n k p l
theorem foldl_fwd {N : Nat} {g : Mat → Mat → Mat} (hg : ∀ a b, Fwd N a → Fwd N b → Fwd N (g a b)) : ∀ (ms : List Mat) (m : Mat), Fwd N m → (∀ x ∈ ms, Fwd N x) → Fwd N (ms.foldl g m)
  | [], m, h, _ => h
  | x :: ms, m, h, hx => foldl_fwd hg ms (g m x) (hg m x h (hx x (by simp))) (fun y hy => hx y (by simp [hy]))
theorem mt_fwd (bt : Nat → Nat) (n : Nat) : ∀ x : RX, Fwd (n + 1) (x.mt bt n) := by
  refine RX.ind ?_
  intro k p l ih
  rw [mt_eq]
  split
  · exact setM_fwd p bt n
  · cases l with
    | nil => intro i j h; simp [mtK] at h
    | cons x l =>
      have h0 := ih x (by simp)
      have hl : ∀ m ∈ l.map (RX.mt bt n), Fwd (n + 1) m := by
        intro m hm
        obtain ⟨y, hy, rfl⟩ := List.mem_map.1 hm
        exact ih y (by simp [hy])
      rw [List.map_cons, mtK]
      split
      · exact foldl_fwd (fun a b ha hb => thenM_fwd ha hb) _ _ h0 hl
      · split
        · exact foldl_fwd (fun a b ha hb => orM_fwd ha hb) _ _ h0 hl
        · split
          · exact starM_fwd h0
          · split
            · exact thenM_fwd h0 (starM_fwd h0)
            · exact orM_fwd h0 (idM_fwd _)
/-- What spansOf tells. -/
def Ts (w : World) (N : Nat) (F : Mat) (e : Ending) (w' : World) : Prop := ∃ g, e = .returned (.slice (some ⟨g, 0, none⟩) N N) ∧ Hid (Sl w' (some ⟨g, 0, none⟩) N (Ux F)) ∧ Hid (Qt w w')
theorem Tm.ts {w w' : World} {N : Nat} {F : Mat} {e : Ending} (h : Tm w N F e w') : Ts w N F e w' := by
  obtain ⟨g, h1, h2, h3⟩ := h
  obtain ⟨a, c, hv, hs, _⟩ := h2.out.sl
  obtain ⟨rfl, _, _⟩ := Value.slice.inj hv
  exact ⟨g, h1, hs, h3⟩
def SpC (bt : Nat → Nat) (n : Nat) (x : RX) : Prop := ∀ (K : Nat → Prop) (a wa : Option Addr) (c wc : Nat) (w : World), Parts x.args K w a c → Hid (Sl w wa n (Bn bt)) → Hid (Tab w) → x.formed = true → Calls Tryd.prog 44 #[.agg #[.int .i64 x.kind, .int .u64 (limb x.set 0), .int .u64 (limb x.set 1), .int .u64 (limb x.set 2), .int .u64 (limb x.set 3), .slice a x.args.length c], .slice wa n wc] w fun e w' => Ts w (n + 1) (x.mt bt n) e w'

set_option maxHeartbeats 4000000 in
theorem spans_set (bt : Nat → Nat) (n : Nat) (hn : n ≤ 60) (hb : ∀ i, i < n → bt i < 256) (p : Nat → Bool) (a wa : Option Addr) (m c wc : Nat) (w : World) (hw : Hid (Sl w wa n (Bn bt))) :
    Calls Tryd.prog 44 #[.agg #[.int .i64 1, .int .u64 (limb p 0), .int .u64 (limb p 1), .int .u64 (limb p 2), .int .u64 (limb p 3), .slice a m c], .slice wa n wc] w fun e w' => Ts w (n + 1) (setM p bt n) e w' := by
  have qa := Mv.alloc (fun _ => False) w (.cells #[.int .i64 1, .int .u64 (limb p 0), .int .u64 (limb p 1), .int .u64 (limb p 2), .int .u64 (limb p 3), .slice a m c] 28)
  have hs := setX_any p bt wa n wc _ hn hb (show Hid _ from hw.out.mv qa (fun _ _ h => h))
  have PB : Hid (B6 w.heap.size (.int .i64 1) (.int .u64 (limb p 0)) (.int .u64 (limb p 1)) (.int .u64 (limb p 2)) (.int .u64 (limb p 3)) (.slice a m c) (w.alloc (.cells #[.int .i64 1, .int .u64 (limb p 0), .int .u64 (limb p 1), .int .u64 (limb p 2), .int .u64 (limb p 3), .slice a m c] 28))) := heap_alloc_new w _
  obtain ⟨b0, b1, b2, b3, b4, b5, _, _, _, _, _, _⟩ := B6.facts PB
  have QA : Hid (Qt w (w.alloc (.cells #[.int .i64 1, .int .u64 (limb p 0), .int .u64 (limb p 1), .int .u64 (limb p 2), .int .u64 (limb p 3), .slice a m c] 28))) := qa
  clear qa hn hb
  go_enter Tryd.func44, Tryd.ntmps44
  go_wp2_with fail
  refine hs.mono ?_
  intro e1 w1 h1
  obtain ⟨g, rfl, h2, h3⟩ := h1.ts
  go_wp2_with fail
  go_ret
  exact ⟨g, rfl, h2, QA.out.comp h3.out⟩

/-- The signs. -/
theorem Parts.first {x : RX} {l : List RX} {K : Nat → Prop} {w : World} {a : Option Addr} {c : Nat} (h : Parts (x :: l) K w a c) : ∃ b o a' c', a = some ⟨b, o, none⟩ ∧ Parts x.args K w a' c' ∧ w.cell? ⟨b, o, none⟩ = some (.int .i64 x.kind) ∧ w.cell? ⟨b, o + 1, none⟩ = some (.int .u64 (limb x.set 0)) ∧ w.cell? ⟨b, o + 2, none⟩ = some (.int .u64 (limb x.set 1)) ∧ w.cell? ⟨b, o + 3, none⟩ = some (.int .u64 (limb x.set 2)) ∧ w.cell? ⟨b, o + 4, none⟩ = some (.int .u64 (limb x.set 3)) ∧ w.cell? ⟨b, o + 5, none⟩ = some (.slice a' x.args.length c') := by
  obtain ⟨b, o, a', c', ha, hp, q0, q1, q2, q3, q4, q5⟩ := h.at (i := 0) (x := x) rfl
  simp only [Nat.zero_mul, Nat.add_zero] at q0 q1 q2 q3 q4 q5
  exact ⟨b, o, a', c', ha, hp, q0, q1, q2, q3, q4, q5⟩

set_option maxHeartbeats 4000000 in
theorem spans_sign (bt : Nat → Nat) (n : Nat) (hn : n ≤ 60) (k : Int) (hk : k = 4 ∨ k = 5 ∨ k = 6) (p : Nat → Bool) (x : RX) (hx : SpC bt n x) (hxf : x.formed = true) (K : Nat → Prop) (a wa : Option Addr) (c wc : Nat) (w : World) (hp : Parts [x] K w a c) (hw : Hid (Sl w wa n (Bn bt))) (hT : Hid (Tab w)) :
    Calls Tryd.prog 44 #[.agg #[.int .i64 k, .int .u64 (limb p 0), .int .u64 (limb p 1), .int .u64 (limb p 2), .int .u64 (limb p 3), .slice a 1 c], .slice wa n wc] w fun e w' => Ts w (n + 1) (mtK (n + 1) k [x.mt bt n]) e w' := by
  have qa := Mv.alloc (fun _ => False) w (.cells #[.int .i64 k, .int .u64 (limb p 0), .int .u64 (limb p 1), .int .u64 (limb p 2), .int .u64 (limb p 3), .slice a 1 c] 28)
  obtain ⟨b, o, a', c', ha, hp2, q0, q1, q2, q3, q4, q5⟩ := (hp.mv qa (fun _ _ h => h)).first
  subst ha
  have hsp := hx K a' wa c' wc _ hp2 (show Hid _ from hw.out.mv qa (fun _ _ h => h)) (hT.out.qt qa) hxf
  have PB : Hid (B6 w.heap.size (.int .i64 k) (.int .u64 (limb p 0)) (.int .u64 (limb p 1)) (.int .u64 (limb p 2)) (.int .u64 (limb p 3)) (.slice (some ⟨b, o, none⟩) 1 c) (w.alloc (.cells #[.int .i64 k, .int .u64 (limb p 0), .int .u64 (limb p 1), .int .u64 (limb p 2), .int .u64 (limb p 3), .slice (some ⟨b, o, none⟩) 1 c] 28))) := heap_alloc_new w _
  obtain ⟨b0, b1, b2, b3, b4, b5, _, _, _, _, _, _⟩ := B6.facts PB
  have QA : Hid (Qt w (w.alloc (.cells #[.int .i64 k, .int .u64 (limb p 0), .int .u64 (limb p 1), .int .u64 (limb p 2), .int .u64 (limb p 3), .slice (some ⟨b, o, none⟩) 1 c] 28))) := qa
  have HF : Hid (Fwd (n + 1) (x.mt bt n)) := mt_fwd bt n x
  have HN : Hid (n ≤ 60) := hn
  generalize x.mt bt n = F at *
  clear qa hn hp hp2 hx hxf
  generalize limb p 0 = y0 at *
  generalize limb p 1 = y1 at *
  generalize limb p 2 = y2 at *
  generalize limb p 3 = y3 at *
  rcases hk with rfl | rfl | rfl
  · go_enter Tryd.func44, Tryd.ntmps44
    go_wp2_with fail
    refine hsp.mono ?_
    intro e1 w1 h1
    obtain ⟨g, rfl, h2, h3⟩ := h1
    have PB1 := B6.mv PB.out h3.out (fun h => h)
    have hag := againX_any (n + 1) F (some ⟨g, 0, none⟩) (n + 1) w1 (by have := HN.out; omega) HF.out h2 (hT.out.qt (QA.out.comp h3.out))
    clear b0 b1 b2 b3 b4 b5 q0 q1 q2 q3 q4 q5
    obtain ⟨b0, b1, b2, b3, b4, b5, _, _, _, _, _, _⟩ := B6.facts PB1
    go_wp2_with fail
    refine hag.mono ?_
    intro e2 w2 h4
    obtain ⟨g2, rfl, h5, h6⟩ := h4.ts
    go_wp2_with fail
    go_ret
    exact ⟨g2, rfl, h5, (QA.out.comp h3.out).comp h6.out⟩
  · go_enter Tryd.func44, Tryd.ntmps44
    go_wp2_with fail
    refine hsp.mono ?_
    intro e1 w1 h1
    obtain ⟨g, rfl, h2, h3⟩ := h1
    have PB1 := B6.mv PB.out h3.out (fun h => h)
    have hag := againX_any (n + 1) F (some ⟨g, 0, none⟩) (n + 1) w1 (by have := HN.out; omega) HF.out h2 (hT.out.qt (QA.out.comp h3.out))
    clear b0 b1 b2 b3 b4 b5 q0 q1 q2 q3 q4 q5
    obtain ⟨b0, b1, b2, b3, b4, b5, _, _, _, _, _, _⟩ := B6.facts PB1
    go_wp2_with fail
    refine hag.mono ?_
    intro e2 w2 h4
    obtain ⟨g2, rfl, h5, h6⟩ := h4.ts
    have hth := thenX_any (n + 1) F (starM (n + 1) F) (some ⟨g, 0, none⟩) (some ⟨g2, 0, none⟩) (n + 1) (n + 1) w2 (by have := HN.out; omega) HF.out (show Hid _ from h2.out.mv h6.out (fun _ _ h => h)) h5 (hT.out.qt ((QA.out.comp h3.out).comp h6.out))
    go_wp2_with fail
    refine hth.mono ?_
    intro e3 w3 h7
    obtain ⟨g3, rfl, h8, h9⟩ := h7.ts
    go_wp2_with fail
    go_ret
    exact ⟨g3, rfl, h8, ((QA.out.comp h3.out).comp h6.out).comp h9.out⟩
  · go_enter Tryd.func44, Tryd.ntmps44
    go_wp2_with fail
    refine hsp.mono ?_
    intro e1 w1 h1
    obtain ⟨g, rfl, h2, h3⟩ := h1
    have PB1 := B6.mv PB.out h3.out (fun h => h)
    have hno := nothing_any wa n wc w1 HN.out
    clear b0 b1 b2 b3 b4 b5 q0 q1 q2 q3 q4 q5
    obtain ⟨b0, b1, b2, b3, b4, b5, _, _, _, _, _, _⟩ := B6.facts PB1
    go_wp2_with fail
    refine hno.mono ?_
    intro e2 w2 h4
    obtain ⟨g2, rfl, h5, h6⟩ := h4.ts
    have hth := orX_any (n + 1) F idM (some ⟨g, 0, none⟩) (some ⟨g2, 0, none⟩) (n + 1) (n + 1) w2 (by have := HN.out; omega) (show Hid _ from h2.out.mv h6.out (fun _ _ h => h)) h5
    go_wp2_with fail
    refine hth.mono ?_
    intro e3 w3 h7
    obtain ⟨g3, rfl, h8, h9⟩ := h7.ts
    go_wp2_with fail
    go_ret
    exact ⟨g3, rfl, h8, ((QA.out.comp h3.out).comp h6.out).comp h9.out⟩

end Go.Proofs.YtkclkhfcmjhogaaDoor
