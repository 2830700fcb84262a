/- spansOf: what is asked of the parts; the matrices of an expression. -/
import Derived.Test.YtkclkhfcmjhogaaDoorMgZ3
import Derived.Test.YtkclkhfcmjhogaaDoorMgH1
import Derived.Test.YtkclkhfcmjhogaaDoorMgK5
namespace Go.Proofs.YtkclkhfcmjhogaaDoor
open Go.RowKit
set_option linter.unusedVariables false

/-- Which places an expression leads to, out of those of its parts. -/
def mtK (N : Nat) (k : Int) : List Mat → Mat
  | [] => fun _ _ => false
  | m :: ms => if k = 2 then ms.foldl (thenM N) m else if k = 3 then ms.foldl orM m else if k = 4 then starM N m else if k = 5 then thenM N m (starM N m) else orM m idM
def RX.mt (bt : Nat → Nat) (n : Nat) : RX → Mat := RX.fold (fun k p l R => if k = 1 then setM p bt n else mtK (n + 1) k R)
theorem mt_eq (bt : Nat → Nat) (n : Nat) (k : Int) (p : Nat → Bool) (l : List RX) : RX.mt bt n ⟨k, p, l⟩ = if k = 1 then setM p bt n else mtK (n + 1) k (l.map (RX.mt bt n)) := by rw [RX.mt, RX.fold_eq]
theorem mt_at (bt : Nat → Nat) (n : Nat) (x : RX) : x.mt bt n = if x.kind = 1 then setM x.set bt n else mtK (n + 1) x.kind (x.args.map (RX.mt bt n)) := by obtain ⟨k, p, l⟩ := x; exact mt_eq bt n k p l
theorem foldl_fwd {N : Nat} {g : Mat → Mat → Mat} (hg : ∀ a b, Fwd N a → Fwd N b → Fwd N (g a b)) : ∀ (ms : List Mat) (m : Mat), Fwd N m → (∀ x ∈ ms, Fwd N x) → Fwd N (ms.foldl g m)
  | [], m, h, _ => h
  | x :: ms, m, h, hx => foldl_fwd hg ms (g m x) (hg m x h (hx x (by simp))) (fun y hy => hx y (by simp [hy]))
theorem mt_fwd (bt : Nat → Nat) (n : Nat) : ∀ x : RX, Fwd (n + 1) (x.mt bt n) := by
  refine RX.ind ?_
  intro k p l ih
  rw [mt_eq]
  split
  · exact setM_fwd p bt n
  · cases l with
    | nil => intro i j h; simp [mtK] at h
    | cons x l =>
      have h0 := ih x (by simp)
      have hl : ∀ m ∈ l.map (RX.mt bt n), Fwd (n + 1) m := by
        intro m hm
        obtain ⟨y, hy, rfl⟩ := List.mem_map.1 hm
        exact ih y (by simp [hy])
      rw [List.map_cons, mtK]
      split
      · exact foldl_fwd (fun a b ha hb => thenM_fwd ha hb) _ _ h0 hl
      · split
        · exact foldl_fwd (fun a b ha hb => orM_fwd ha hb) _ _ h0 hl
        · split
          · exact starM_fwd h0
          · split
            · exact thenM_fwd h0 (starM_fwd h0)
            · exact orM_fwd h0 (idM_fwd _)
/-- What spansOf tells. -/
def Ts (w : World) (N : Nat) (F : Mat) (e : Ending) (w' : World) : Prop := ∃ g, e = .returned (.slice (some ⟨g, 0, none⟩) N N) ∧ Hid (Sl w' (some ⟨g, 0, none⟩) N (Ux F)) ∧ Hid (Qt w w')
theorem Tm.ts {w w' : World} {N : Nat} {F : Mat} {e : Ending} (h : Tm w N F e w') : Ts w N F e w' := by
  obtain ⟨g, h1, h2, h3⟩ := h
  obtain ⟨a, c, hv, hs, _⟩ := h2.out.sl
  obtain ⟨rfl, _, _⟩ := Value.slice.inj hv
  exact ⟨g, h1, hs, h3⟩
def SpC (bt : Nat → Nat) (n : Nat) (x : RX) : Prop := ∀ (K : Nat → Prop) (a wa : Option Addr) (c wc : Nat) (w : World), Parts x.args K w a c → Hid (Sl w wa n (Bn bt)) → Hid (Tab w) → x.formed = true → Calls Tryd.prog 44 #[.agg #[.int .i64 x.kind, .int .u64 (limb x.set 0), .int .u64 (limb x.set 1), .int .u64 (limb x.set 2), .int .u64 (limb x.set 3), .slice a x.args.length c], .slice wa n wc] w fun e w' => Ts w (n + 1) (x.mt bt n) e w'

set_option maxHeartbeats 4000000 in
theorem spans_set (bt : Nat → Nat) (n : Nat) (hn : n ≤ 60) (hb : ∀ i, i < n → bt i < 256) (p : Nat → Bool) (a wa : Option Addr) (m c wc : Nat) (w : World) (hw : Hid (Sl w wa n (Bn bt))) :
    Calls Tryd.prog 44 #[.agg #[.int .i64 1, .int .u64 (limb p 0), .int .u64 (limb p 1), .int .u64 (limb p 2), .int .u64 (limb p 3), .slice a m c], .slice wa n wc] w fun e w' => Ts w (n + 1) (setM p bt n) e w' := by
  have qa := Mv.alloc (fun _ => False) w (.cells #[.int .i64 1, .int .u64 (limb p 0), .int .u64 (limb p 1), .int .u64 (limb p 2), .int .u64 (limb p 3), .slice a m c] 28)
  have hs := setX_any p bt wa n wc _ hn hb (show Hid _ from hw.out.mv qa (fun _ _ h => h))
  have PB : Hid (B6 w.heap.size (.int .i64 1) (.int .u64 (limb p 0)) (.int .u64 (limb p 1)) (.int .u64 (limb p 2)) (.int .u64 (limb p 3)) (.slice a m c) (w.alloc (.cells #[.int .i64 1, .int .u64 (limb p 0), .int .u64 (limb p 1), .int .u64 (limb p 2), .int .u64 (limb p 3), .slice a m c] 28))) := heap_alloc_new w _
  obtain ⟨b0, b1, b2, b3, b4, b5, _, _, _, _, _, _⟩ := B6.facts PB
  have QA : Hid (Qt w (w.alloc (.cells #[.int .i64 1, .int .u64 (limb p 0), .int .u64 (limb p 1), .int .u64 (limb p 2), .int .u64 (limb p 3), .slice a m c] 28))) := qa
  clear qa hn hb
  go_enter Tryd.func44, Tryd.ntmps44
  go_wp2_with fail
  refine hs.mono ?_
  intro e1 w1 h1
  obtain ⟨g, rfl, h2, h3⟩ := h1.ts
  go_wp2_with fail
  go_ret
  exact ⟨g, rfl, h2, QA.out.comp h3.out⟩

/-- The signs. -/
theorem Parts.first {x : RX} {l : List RX} {K : Nat → Prop} {w : World} {a : Option Addr} {c : Nat} (h : Parts (x :: l) K w a c) : ∃ b o a' c', a = some ⟨b, o, none⟩ ∧ Parts x.args K w a' c' ∧ w.cell? ⟨b, o, none⟩ = some (.int .i64 x.kind) ∧ w.cell? ⟨b, o + 1, none⟩ = some (.int .u64 (limb x.set 0)) ∧ w.cell? ⟨b, o + 2, none⟩ = some (.int .u64 (limb x.set 1)) ∧ w.cell? ⟨b, o + 3, none⟩ = some (.int .u64 (limb x.set 2)) ∧ w.cell? ⟨b, o + 4, none⟩ = some (.int .u64 (limb x.set 3)) ∧ w.cell? ⟨b, o + 5, none⟩ = some (.slice a' x.args.length c') := by
  obtain ⟨b, o, a', c', ha, hp, q0, q1, q2, q3, q4, q5⟩ := h.at (i := 0) (x := x) rfl
  simp only [Nat.zero_mul, Nat.add_zero] at q0 q1 q2 q3 q4 q5
  exact ⟨b, o, a', c', ha, hp, q0, q1, q2, q3, q4, q5⟩

set_option maxHeartbeats 4000000 in
theorem spans_sign (bt : Nat → Nat) (n : Nat) (hn : n ≤ 60) (k : Int) (hk : k = 4 ∨ k = 5 ∨ k = 6) (p : Nat → Bool) (x : RX) (hx : SpC bt n x) (hxf : x.formed = true) (K : Nat → Prop) (a wa : Option Addr) (c wc : Nat) (w : World) (hp : Parts [x] K w a c) (hw : Hid (Sl w wa n (Bn bt))) (hT : Hid (Tab w)) :
    Calls Tryd.prog 44 #[.agg #[.int .i64 k, .int .u64 (limb p 0), .int .u64 (limb p 1), .int .u64 (limb p 2), .int .u64 (limb p 3), .slice a 1 c], .slice wa n wc] w fun e w' => Ts w (n + 1) (mtK (n + 1) k [x.mt bt n]) e w' := by
  have qa := Mv.alloc (fun _ => False) w (.cells #[.int .i64 k, .int .u64 (limb p 0), .int .u64 (limb p 1), .int .u64 (limb p 2), .int .u64 (limb p 3), .slice a 1 c] 28)
  obtain ⟨b, o, a', c', ha, hp2, q0, q1, q2, q3, q4, q5⟩ := (hp.mv qa (fun _ _ h => h)).first
  subst ha
  have hsp := hx K a' wa c' wc _ hp2 (show Hid _ from hw.out.mv qa (fun _ _ h => h)) (hT.out.qt qa) hxf
  have PB : Hid (B6 w.heap.size (.int .i64 k) (.int .u64 (limb p 0)) (.int .u64 (limb p 1)) (.int .u64 (limb p 2)) (.int .u64 (limb p 3)) (.slice (some ⟨b, o, none⟩) 1 c) (w.alloc (.cells #[.int .i64 k, .int .u64 (limb p 0), .int .u64 (limb p 1), .int .u64 (limb p 2), .int .u64 (limb p 3), .slice (some ⟨b, o, none⟩) 1 c] 28))) := heap_alloc_new w _
  obtain ⟨b0, b1, b2, b3, b4, b5, _, _, _, _, _, _⟩ := B6.facts PB
  have QA : Hid (Qt w (w.alloc (.cells #[.int .i64 k, .int .u64 (limb p 0), .int .u64 (limb p 1), .int .u64 (limb p 2), .int .u64 (limb p 3), .slice (some ⟨b, o, none⟩) 1 c] 28))) := qa
  have HF : Hid (Fwd (n + 1) (x.mt bt n)) := mt_fwd bt n x
  have HN : Hid (n ≤ 60) := hn
  generalize x.mt bt n = F at *
  clear qa hn hp hp2 hx hxf
  generalize limb p 0 = y0 at *
  generalize limb p 1 = y1 at *
  generalize limb p 2 = y2 at *
  generalize limb p 3 = y3 at *
  rcases hk with rfl | rfl | rfl
  · go_enter Tryd.func44, Tryd.ntmps44
    go_wp2_with fail
    refine hsp.mono ?_
    intro e1 w1 h1
    obtain ⟨g, rfl, h2, h3⟩ := h1
    have PB1 := B6.mv PB.out h3.out (fun h => h)
    have hag := againX_any (n + 1) F (some ⟨g, 0, none⟩) (n + 1) w1 (by have := HN.out; omega) HF.out h2 (hT.out.qt (QA.out.comp h3.out))
    clear b0 b1 b2 b3 b4 b5 q0 q1 q2 q3 q4 q5
    obtain ⟨b0, b1, b2, b3, b4, b5, _, _, _, _, _, _⟩ := B6.facts PB1
    go_wp2_with fail
    refine hag.mono ?_
    intro e2 w2 h4
    obtain ⟨g2, rfl, h5, h6⟩ := h4.ts
    go_wp2_with fail
    go_ret
    exact ⟨g2, rfl, h5, (QA.out.comp h3.out).comp h6.out⟩
  · go_enter Tryd.func44, Tryd.ntmps44
    go_wp2_with fail
    refine hsp.mono ?_
    intro e1 w1 h1
    obtain ⟨g, rfl, h2, h3⟩ := h1
    have PB1 := B6.mv PB.out h3.out (fun h => h)
    have hag := againX_any (n + 1) F (some ⟨g, 0, none⟩) (n + 1) w1 (by have := HN.out; omega) HF.out h2 (hT.out.qt (QA.out.comp h3.out))
    clear b0 b1 b2 b3 b4 b5 q0 q1 q2 q3 q4 q5
    obtain ⟨b0, b1, b2, b3, b4, b5, _, _, _, _, _, _⟩ := B6.facts PB1
    go_wp2_with fail
    refine hag.mono ?_
    intro e2 w2 h4
    obtain ⟨g2, rfl, h5, h6⟩ := h4.ts
    have hth := thenX_any (n + 1) F (starM (n + 1) F) (some ⟨g, 0, none⟩) (some ⟨g2, 0, none⟩) (n + 1) (n + 1) w2 (by have := HN.out; omega) HF.out (show Hid _ from h2.out.mv h6.out (fun _ _ h => h)) h5 (hT.out.qt ((QA.out.comp h3.out).comp h6.out))
    go_wp2_with fail
    refine hth.mono ?_
    intro e3 w3 h7
    obtain ⟨g3, rfl, h8, h9⟩ := h7.ts
    go_wp2_with fail
    go_ret
    exact ⟨g3, rfl, h8, ((QA.out.comp h3.out).comp h6.out).comp h9.out⟩
  · go_enter Tryd.func44, Tryd.ntmps44
    go_wp2_with fail
    refine hsp.mono ?_
    intro e1 w1 h1
    obtain ⟨g, rfl, h2, h3⟩ := h1
    have PB1 := B6.mv PB.out h3.out (fun h => h)
    have hno := nothing_any wa n wc w1 HN.out
    clear b0 b1 b2 b3 b4 b5 q0 q1 q2 q3 q4 q5
    obtain ⟨b0, b1, b2, b3, b4, b5, _, _, _, _, _, _⟩ := B6.facts PB1
    go_wp2_with fail
    refine hno.mono ?_
    intro e2 w2 h4
    obtain ⟨g2, rfl, h5, h6⟩ := h4.ts
    have hth := orX_any (n + 1) F idM (some ⟨g, 0, none⟩) (some ⟨g2, 0, none⟩) (n + 1) (n + 1) w2 (by have := HN.out; omega) (show Hid _ from h2.out.mv h6.out (fun _ _ h => h)) h5
    go_wp2_with fail
    refine hth.mono ?_
    intro e3 w3 h7
    obtain ⟨g3, rfl, h8, h9⟩ := h7.ts
    go_wp2_with fail
    go_ret
    exact ⟨g3, rfl, h8, ((QA.out.comp h3.out).comp h6.out).comp h9.out⟩

end Go.Proofs.YtkclkhfcmjhogaaDoor

namespace Go.Proofs.YtkclkhfcmjhogaaDoor
open Go.RowKit
set_option linter.unusedVariables false

/-- The first i of the other parts, joined to the first. -/
def Jm (bt : Nat → Nat) (n : Nat) (k : Int) (x : RX) (l : List RX) (i : Nat) : Mat := mtK (n + 1) k ((x :: l.take i).map (RX.mt bt n))
theorem Jm.zero (bt : Nat → Nat) (n : Nat) (k : Int) (hk : k = 2 ∨ k = 3) (x : RX) (l : List RX) : Jm bt n k x l 0 = x.mt bt n := by
  unfold Jm
  rcases hk with rfl | rfl <;> simp [mtK]
theorem Jm.full (bt : Nat → Nat) (n : Nat) (k : Int) (x : RX) (l : List RX) : Jm bt n k x l l.length = mtK (n + 1) k ((x :: l).map (RX.mt bt n)) := by unfold Jm; rw [List.take_length]
theorem Jm.step2 (bt : Nat → Nat) (n : Nat) (x y : RX) (l : List RX) (i : Nat) (h : l[i]? = some y) : thenM (n + 1) (Jm bt n 2 x l i) (y.mt bt n) = Jm bt n 2 x l (i + 1) := by
  unfold Jm
  rw [List.take_add_one, h]
  simp only [Option.toList_some, List.map_cons, List.map_append, List.map_nil, mtK, if_pos, List.foldl_append, List.foldl_cons, List.foldl_nil]
theorem Jm.step3 (bt : Nat → Nat) (n : Nat) (x y : RX) (l : List RX) (i : Nat) (h : l[i]? = some y) : orM (Jm bt n 3 x l i) (y.mt bt n) = Jm bt n 3 x l (i + 1) := by
  unfold Jm
  rw [List.take_add_one, h]
  simp only [Option.toList_some, List.map_cons, List.map_append, List.map_nil, mtK, if_pos, if_neg (show ¬ (3 : Int) = 2 by decide), List.foldl_append, List.foldl_cons, List.foldl_nil]
theorem Jm.fwd (bt : Nat → Nat) (n : Nat) (k : Int) (hk : k = 2 ∨ k = 3) (x : RX) (l : List RX) (i : Nat) : Fwd (n + 1) (Jm bt n k x l i) := by
  have h1 : Fwd (n + 1) (x.mt bt n) := mt_fwd bt n x
  have h2 : ∀ m ∈ (l.take i).map (RX.mt bt n), Fwd (n + 1) m := by
    intro m hm
    obtain ⟨y, hy, rfl⟩ := List.mem_map.1 hm
    exact mt_fwd bt n y
  unfold Jm
  rw [List.map_cons, mtK]
  rcases hk with rfl | rfl
  · rw [if_pos rfl]; exact foldl_fwd (fun a b ha hb => thenM_fwd ha hb) _ _ h1 h2
  · rw [if_neg (by decide), if_pos rfl]; exact foldl_fwd (fun a b ha hb => orM_fwd ha hb) _ _ h1 h2

set_option maxHeartbeats 4000000 in
theorem spans_cat (bt : Nat → Nat) (n : Nat) (hn : n ≤ 60) (p : Nat → Bool) (x : RX) (l : List RX) (hl : l.length < 100000) (hl0 : 1 ≤ l.length) (hx : ∀ y ∈ x :: l, SpC bt n y ∧ y.formed = true) (K : Nat → Prop) (a wa : Option Addr) (c wc : Nat) (w : World) (hp : Parts (x :: l) K w a c) (hw : Hid (Sl w wa n (Bn bt))) (hT : Hid (Tab w)) :
    Calls Tryd.prog 44 #[.agg #[.int .i64 2, .int .u64 (limb p 0), .int .u64 (limb p 1), .int .u64 (limb p 2), .int .u64 (limb p 3), .slice a (l.length + 1) c], .slice wa n wc] w fun e w' => Ts w (n + 1) (mtK (n + 1) 2 ((x :: l).map (RX.mt bt n))) e w' := by
  have HP : Hid (Parts (x :: l) K w a c) := hp
  have HX : Hid _ := hx
  have qa := Mv.alloc (fun _ => False) w (.cells #[.int .i64 2, .int .u64 (limb p 0), .int .u64 (limb p 1), .int .u64 (limb p 2), .int .u64 (limb p 3), .slice a (l.length + 1) c] 28)
  have hcap : l.length + 1 ≤ c := by obtain ⟨ys, _, h, _⟩ := hp; exact h
  have hc1 : c ≠ 1 := by omega
  have hc2 : (c = 1) = False := eq_false hc1
  obtain ⟨b, o, a', c', ha, hp2, q0, q1, q2, q3, q4, q5⟩ := (hp.mv qa (fun _ _ h => h)).first
  subst ha
  have hsp := (hx x (by simp)).1 K a' wa c' wc _ hp2 (show Hid _ from hw.out.mv qa (fun _ _ h => h)) (hT.out.qt qa) (hx x (by simp)).2
  have PB : Hid (B6 w.heap.size (.int .i64 2) (.int .u64 (limb p 0)) (.int .u64 (limb p 1)) (.int .u64 (limb p 2)) (.int .u64 (limb p 3)) (.slice (some ⟨b, o, none⟩) (l.length + 1) c) (w.alloc (.cells #[.int .i64 2, .int .u64 (limb p 0), .int .u64 (limb p 1), .int .u64 (limb p 2), .int .u64 (limb p 3), .slice (some ⟨b, o, none⟩) (l.length + 1) c] 28))) := heap_alloc_new w _
  obtain ⟨b0, b1, b2, b3, b4, b5, _, _, _, _, _, _⟩ := B6.facts PB
  have QA : Hid (Qt w (w.alloc (.cells #[.int .i64 2, .int .u64 (limb p 0), .int .u64 (limb p 1), .int .u64 (limb p 2), .int .u64 (limb p 3), .slice (some ⟨b, o, none⟩) (l.length + 1) c] 28))) := qa
  have HN : Hid (n ≤ 60) := hn
  have hlen : l.length < 100000 := hl
  clear qa hn hp hp2 hx hl
  generalize limb p 0 = y0 at *
  generalize limb p 1 = y1 at *
  generalize limb p 2 = y2 at *
  generalize limb p 3 = y3 at *
  go_enter Tryd.func44, Tryd.ntmps44
  go_wp2_with fail
  refine hsp.mono ?_
  intro e1 w1 h1
  obtain ⟨g, rfl, h2, h3⟩ := h1
  have PB1 := B6.mv PB.out h3.out (fun h => h)
  have Q1 : Hid (Qt w w1) := QA.out.comp h3.out
  clear b0 b1 b2 b3 b4 b5 q0 q1 q2 q3 q4 q5 hsp
  obtain ⟨b0, b1, b2, b3, b4, b5, _, _, _, _, _, _⟩ := B6.facts PB1
  go_wp2_with fail
  clear b0 b1 b2 b3 b4 b5
  go_loopw [5, 31] (fun s5 s31 wr => ∃ (i g : Nat), i ≤ l.length ∧ s31 = .int .i64 i ∧ s5 = .slice (some ⟨g, 0, none⟩) (n + 1) (n + 1) ∧ Hid (Sl wr (some ⟨g, 0, none⟩) (n + 1) (Ux (Jm bt n 2 x l i)) ∧ Qt w wr)) (fun _ s31 _ => l.length - (intOf s31).toNat)
  case atStart => exact ⟨0, g, by omega, rfl, rfl, by rw [Jm.zero bt n 2 (.inl rfl)]; exact h2.out, Q1.out⟩
  case round =>
    obtain ⟨i, g2, hi, rfl, hs5, B⟩ := hrel
    subst hs5
    by_cases hlt : i < l.length
    · obtain ⟨y, hy⟩ : ∃ y, l[i]? = some y := ⟨_, List.getElem?_eq_getElem hlt⟩
      have hmem : y ∈ x :: l := List.mem_cons_of_mem _ (List.mem_of_getElem? hy)
      obtain ⟨b', o', a2, c2, hab, hp2, q0, q1, q2, q3, q4, q5⟩ := (HP.out.mv B.out.2 (fun _ _ h => h)).at (i := i + 1) (x := y) (by rw [List.getElem?_cons_succ]; exact hy)
      have hab2 : b' = b ∧ o' = o := by have := Option.some.inj hab; injection this with e1 e2; exact ⟨e1.symm, e2.symm⟩
      obtain ⟨rfl, rfl⟩ := hab2
      clear hab
      rw [show o' + (i + 1) * 6 = o' + 6 + i * 6 by omega] at q0 q1 q2 q3 q4 q5
      have qa := Mv.alloc (fun _ => False) wr (.cells #[.int .i64 y.kind, .int .u64 (limb y.set 0), .int .u64 (limb y.set 1), .int .u64 (limb y.set 2), .int .u64 (limb y.set 3), .slice a2 y.args.length c2] 28)
      have hsp := (HX.out y hmem).1 K a2 wa c2 wc _ (hp2.mv qa (fun _ _ h => h)) (show Hid _ from (hw.out.mv B.out.2 (fun _ _ h => h)).mv qa (fun _ _ h => h)) ((hT.out.qt B.out.2).qt qa) (HX.out y hmem).2
      have PX : Hid (B6 wr.heap.size (.int .i64 y.kind) (.int .u64 (limb y.set 0)) (.int .u64 (limb y.set 1)) (.int .u64 (limb y.set 2)) (.int .u64 (limb y.set 3)) (.slice a2 y.args.length c2) (wr.alloc (.cells #[.int .i64 y.kind, .int .u64 (limb y.set 0), .int .u64 (limb y.set 1), .int .u64 (limb y.set 2), .int .u64 (limb y.set 3), .slice a2 y.args.length c2] 28))) := heap_alloc_new wr _
      have QB : Hid (Qt wr (wr.alloc (.cells #[.int .i64 y.kind, .int .u64 (limb y.set 0), .int .u64 (limb y.set 1), .int .u64 (limb y.set 2), .int .u64 (limb y.set 3), .slice a2 y.args.length c2] 28))) := qa
      obtain ⟨d0, d1, d2, d3, d4, d5, _, _, _, _, _, _⟩ := B6.facts PX
      have HY : Hid (l[i]? = some y) := hy
      have HFW : Hid (Fwd (n + 1) (Jm bt n 2 x l i)) := Jm.fwd bt n 2 (.inl rfl) x l i
      have HS : Hid (thenM (n + 1) (Jm bt n 2 x l i) (y.mt bt n) = Jm bt n 2 x l (i + 1)) := Jm.step2 bt n x y l i hy
      clear hy hp2 hmem qa
      go_wp2_with fail
      refine hsp.mono ?_
      intro e2 w2 h4
      obtain ⟨g3, rfl, h5, h6⟩ := h4
      have hth := thenX_any (n + 1) (Jm bt n 2 x l i) (y.mt bt n) (some ⟨g2, 0, none⟩) (some ⟨g3, 0, none⟩) (n + 1) (n + 1) w2 (by have := HN.out; omega) HFW.out (show Hid _ from (B.out.1.mv QB.out (fun _ _ h => h)).mv h6.out (fun _ _ h => h)) h5 (((hT.out.qt B.out.2).qt QB.out).qt h6.out)
      clear d0 d1 d2 d3 d4 d5 hsp
      go_wp2_with fail
      refine hth.mono ?_
      intro e3 w3 h7
      obtain ⟨g4, rfl, h8, h9⟩ := h7.ts
      clear hth
      go_wp2_with fail
      refine ⟨⟨i + 1, g4, by omega, by go_num, rfl, by rw [← HS.out]; exact h8.out, ((B.out.2.comp QB.out).comp h6.out).comp h9.out⟩, by simp [intOf]; omega⟩
    · obtain rfl : i = l.length := by omega
      have HE : Hid (Jm bt n 2 x l l.length = mtK (n + 1) 2 ((x :: l).map (RX.mt bt n))) := Jm.full bt n 2 x l
      go_wp2_with fail
      go_ret
      exact ⟨g2, rfl, by rw [← HE.out]; exact B.out.1, B.out.2⟩

set_option maxHeartbeats 4000000 in
theorem spans_alt (bt : Nat → Nat) (n : Nat) (hn : n ≤ 60) (p : Nat → Bool) (x : RX) (l : List RX) (hl : l.length < 100000) (hl0 : 1 ≤ l.length) (hx : ∀ y ∈ x :: l, SpC bt n y ∧ y.formed = true) (K : Nat → Prop) (a wa : Option Addr) (c wc : Nat) (w : World) (hp : Parts (x :: l) K w a c) (hw : Hid (Sl w wa n (Bn bt))) (hT : Hid (Tab w)) :
    Calls Tryd.prog 44 #[.agg #[.int .i64 3, .int .u64 (limb p 0), .int .u64 (limb p 1), .int .u64 (limb p 2), .int .u64 (limb p 3), .slice a (l.length + 1) c], .slice wa n wc] w fun e w' => Ts w (n + 1) (mtK (n + 1) 3 ((x :: l).map (RX.mt bt n))) e w' := by
  have HP : Hid (Parts (x :: l) K w a c) := hp
  have HX : Hid _ := hx
  have qa := Mv.alloc (fun _ => False) w (.cells #[.int .i64 3, .int .u64 (limb p 0), .int .u64 (limb p 1), .int .u64 (limb p 2), .int .u64 (limb p 3), .slice a (l.length + 1) c] 28)
  have hcap : l.length + 1 ≤ c := by obtain ⟨ys, _, h, _⟩ := hp; exact h
  have hc1 : c ≠ 1 := by omega
  have hc2 : (c = 1) = False := eq_false hc1
  obtain ⟨b, o, a', c', ha, hp2, q0, q1, q2, q3, q4, q5⟩ := (hp.mv qa (fun _ _ h => h)).first
  subst ha
  have hsp := (hx x (by simp)).1 K a' wa c' wc _ hp2 (show Hid _ from hw.out.mv qa (fun _ _ h => h)) (hT.out.qt qa) (hx x (by simp)).2
  have PB : Hid (B6 w.heap.size (.int .i64 3) (.int .u64 (limb p 0)) (.int .u64 (limb p 1)) (.int .u64 (limb p 2)) (.int .u64 (limb p 3)) (.slice (some ⟨b, o, none⟩) (l.length + 1) c) (w.alloc (.cells #[.int .i64 3, .int .u64 (limb p 0), .int .u64 (limb p 1), .int .u64 (limb p 2), .int .u64 (limb p 3), .slice (some ⟨b, o, none⟩) (l.length + 1) c] 28))) := heap_alloc_new w _
  obtain ⟨b0, b1, b2, b3, b4, b5, _, _, _, _, _, _⟩ := B6.facts PB
  have QA : Hid (Qt w (w.alloc (.cells #[.int .i64 3, .int .u64 (limb p 0), .int .u64 (limb p 1), .int .u64 (limb p 2), .int .u64 (limb p 3), .slice (some ⟨b, o, none⟩) (l.length + 1) c] 28))) := qa
  have HN : Hid (n ≤ 60) := hn
  have hlen : l.length < 100000 := hl
  clear qa hn hp hp2 hx hl
  generalize limb p 0 = y0 at *
  generalize limb p 1 = y1 at *
  generalize limb p 2 = y2 at *
  generalize limb p 3 = y3 at *
  go_enter Tryd.func44, Tryd.ntmps44
  go_wp2_with fail
  refine hsp.mono ?_
  intro e1 w1 h1
  obtain ⟨g, rfl, h2, h3⟩ := h1
  have PB1 := B6.mv PB.out h3.out (fun h => h)
  have Q1 : Hid (Qt w w1) := QA.out.comp h3.out
  clear b0 b1 b2 b3 b4 b5 q0 q1 q2 q3 q4 q5 hsp
  obtain ⟨b0, b1, b2, b3, b4, b5, _, _, _, _, _, _⟩ := B6.facts PB1
  go_wp2_with fail
  clear b0 b1 b2 b3 b4 b5
  go_loopw [5, 47] (fun s5 s47 wr => ∃ (i g : Nat), i ≤ l.length ∧ s47 = .int .i64 i ∧ s5 = .slice (some ⟨g, 0, none⟩) (n + 1) (n + 1) ∧ Hid (Sl wr (some ⟨g, 0, none⟩) (n + 1) (Ux (Jm bt n 3 x l i)) ∧ Qt w wr)) (fun _ s47 _ => l.length - (intOf s47).toNat)
  case atStart => exact ⟨0, g, by omega, rfl, rfl, by rw [Jm.zero bt n 3 (.inr rfl)]; exact h2.out, Q1.out⟩
  case round =>
    obtain ⟨i, g2, hi, rfl, hs5, B⟩ := hrel
    subst hs5
    by_cases hlt : i < l.length
    · obtain ⟨y, hy⟩ : ∃ y, l[i]? = some y := ⟨_, List.getElem?_eq_getElem hlt⟩
      have hmem : y ∈ x :: l := List.mem_cons_of_mem _ (List.mem_of_getElem? hy)
      obtain ⟨b', o', a2, c2, hab, hp2, q0, q1, q2, q3, q4, q5⟩ := (HP.out.mv B.out.2 (fun _ _ h => h)).at (i := i + 1) (x := y) (by rw [List.getElem?_cons_succ]; exact hy)
      have hab2 : b' = b ∧ o' = o := by have := Option.some.inj hab; injection this with e1 e2; exact ⟨e1.symm, e2.symm⟩
      obtain ⟨rfl, rfl⟩ := hab2
      clear hab
      rw [show o' + (i + 1) * 6 = o' + 6 + i * 6 by omega] at q0 q1 q2 q3 q4 q5
      have qa := Mv.alloc (fun _ => False) wr (.cells #[.int .i64 y.kind, .int .u64 (limb y.set 0), .int .u64 (limb y.set 1), .int .u64 (limb y.set 2), .int .u64 (limb y.set 3), .slice a2 y.args.length c2] 28)
      have hsp := (HX.out y hmem).1 K a2 wa c2 wc _ (hp2.mv qa (fun _ _ h => h)) (show Hid _ from (hw.out.mv B.out.2 (fun _ _ h => h)).mv qa (fun _ _ h => h)) ((hT.out.qt B.out.2).qt qa) (HX.out y hmem).2
      have PX : Hid (B6 wr.heap.size (.int .i64 y.kind) (.int .u64 (limb y.set 0)) (.int .u64 (limb y.set 1)) (.int .u64 (limb y.set 2)) (.int .u64 (limb y.set 3)) (.slice a2 y.args.length c2) (wr.alloc (.cells #[.int .i64 y.kind, .int .u64 (limb y.set 0), .int .u64 (limb y.set 1), .int .u64 (limb y.set 2), .int .u64 (limb y.set 3), .slice a2 y.args.length c2] 28))) := heap_alloc_new wr _
      have QB : Hid (Qt wr (wr.alloc (.cells #[.int .i64 y.kind, .int .u64 (limb y.set 0), .int .u64 (limb y.set 1), .int .u64 (limb y.set 2), .int .u64 (limb y.set 3), .slice a2 y.args.length c2] 28))) := qa
      obtain ⟨d0, d1, d2, d3, d4, d5, _, _, _, _, _, _⟩ := B6.facts PX
      have HY : Hid (l[i]? = some y) := hy
      have HFW : Hid (Fwd (n + 1) (Jm bt n 3 x l i)) := Jm.fwd bt n 3 (.inr rfl) x l i
      have HS : Hid (orM (Jm bt n 3 x l i) (y.mt bt n) = Jm bt n 3 x l (i + 1)) := Jm.step3 bt n x y l i hy
      clear hy hp2 hmem qa
      go_wp2_with fail
      refine hsp.mono ?_
      intro e2 w2 h4
      obtain ⟨g3, rfl, h5, h6⟩ := h4
      have hth := orX_any (n + 1) (Jm bt n 3 x l i) (y.mt bt n) (some ⟨g2, 0, none⟩) (some ⟨g3, 0, none⟩) (n + 1) (n + 1) w2 (by have := HN.out; omega) (show Hid _ from (B.out.1.mv QB.out (fun _ _ h => h)).mv h6.out (fun _ _ h => h)) h5
      clear d0 d1 d2 d3 d4 d5 hsp
      go_wp2_with fail
      refine hth.mono ?_
      intro e3 w3 h7
      obtain ⟨g4, rfl, h8, h9⟩ := h7.ts
      clear hth
      go_wp2_with fail
      refine ⟨⟨i + 1, g4, by omega, by go_num, rfl, by rw [← HS.out]; exact h8.out, ((B.out.2.comp QB.out).comp h6.out).comp h9.out⟩, by simp [intOf]; omega⟩
    · obtain rfl : i = l.length := by omega
      have HE : Hid (Jm bt n 3 x l l.length = mtK (n + 1) 3 ((x :: l).map (RX.mt bt n))) := Jm.full bt n 3 x l
      go_wp2_with fail
      go_ret
      exact ⟨g2, rfl, by rw [← HE.out]; exact B.out.1, B.out.2⟩

theorem spans_any (bt : Nat → Nat) (n : Nat) (hn : n ≤ 60) (hb : ∀ i, i < n → bt i < 256) : ∀ x : RX, x.nodes ≤ 40 → SpC bt n x := by
  refine RX.ind ?_
  intro k p l ih hnd K a wa c wc w hp hw hT hf
  have hfk := formed_kind hf
  have hnn := hf
  rw [formed_at, Bool.and_eq_true] at hnn
  have hnode := hnn.1
  unfold RX.node node at hnode
  have h1 := nodes_at (⟨k, p, l⟩ : RX)
  have hall : ∀ y ∈ l, SpC bt n y ∧ y.formed = true := by
    intro y hy
    have h2 := mem_le_sum (x := y) (l := l) hy
    exact ⟨ih y hy (by simp only at h1; omega), (formed_part hf (show y ∈ (⟨k, p, l⟩ : RX).args from hy)).1⟩
  have hlen : l.length ≤ 40 := by have h2 := len_le_sum l; simp only at h1; omega
  rw [mt_eq]
  simp only at hfk hnode ⊢
  by_cases h1k : k = 1
  · subst h1k
    rw [if_pos rfl]
    exact spans_set bt n hn hb p a wa _ c wc w hw
  · rw [if_neg h1k]
    by_cases hk2 : k = 2 ∨ k = 3
    · rw [if_pos hk2.symm] at hnode
      cases l with
      | nil => simp at hnode
      | cons x l =>
        have hl0 : 1 ≤ l.length := by simp at hnode; omega
        have hl1 : l.length < 100000 := by simp at hlen; omega
        rcases hk2 with rfl | rfl
        · exact spans_cat bt n hn p x l hl1 hl0 hall K a wa c wc w hp hw hT
        · exact spans_alt bt n hn p x l hl1 hl0 hall K a wa c wc w hp hw hT
    · have hk4 : k = 4 ∨ k = 5 ∨ k = 6 := by omega
      rw [if_neg (fun e => hk2 e.symm), if_pos hk4] at hnode
      have hone : l.length = 1 := by simp at hnode; exact hnode.2
      match l, hone, hall, hp with
      | [x], _, hall, hp => exact spans_sign bt n hn k hk4 p x (hall x (by simp)).1 (hall x (by simp)).2 K a wa c wc w hp hw hT

end Go.Proofs.YtkclkhfcmjhogaaDoor

namespace Go.Proofs.YtkclkhfcmjhogaaDoor
open Go.RowKit
set_option linter.unusedVariables false

theorem shr_bit (P : Nat → Bool) (n : Nat) (hn : n < 64) : bits .and .u64 ((limb P 0 : Int) / 2 ^ n) 1 = if P n then 1 else 0 := by
  have e1 : ((limb P 0 : Nat) : Int) / 2 ^ n = ((limb P 0 >>> n : Nat) : Int) := by
    rw [Nat.shiftRight_eq_div_pow]; push_cast; rfl
  have hlt : limb P 0 >>> n < 18446744073709551616 := by
    rw [Nat.shiftRight_eq_div_pow]; exact Nat.lt_of_le_of_lt (Nat.div_le_self _ _) (limb_lt P _)
  have e2 := bits_and_u64_nat (limb P 0 >>> n) 1 hlt (by decide)
  have e3 := limb_bit P 0 hn
  rw [Nat.mul_zero, Nat.zero_add, Nat.testBit_eq_decide_div_mod_eq] at e3
  rw [e1, show (1 : Int) = ((1 : Nat) : Int) from rfl, e2, Nat.and_one_is_mod, Nat.shiftRight_eq_div_pow]
  cases h : P n with
  | true => rw [h, decide_eq_true_eq] at e3; rw [e3]; rfl
  | false =>
    rw [h, decide_eq_false_iff_not] at e3
    rw [show limb P 0 / 2 ^ n % 2 = 0 by omega]; rfl

set_option maxHeartbeats 1000000 in
theorem spansHas (F : Mat) (N n g : Nat) (w : World) (hN : 0 < N) (hn : n ≤ 60) (hF : Hid (Sl w (some ⟨g, 0, none⟩) N (Ux F))) :
    Calls Tryd.prog 45 #[.slice (some ⟨g, 0, none⟩) N N, .int .i64 0, .int .i64 n] w fun e w' => e = .returned (.bool (F 0 n)) ∧ Hid (Qt w w') := by
  obtain ⟨b, o, hb, k0⟩ := hF.out.cellx hN
  obtain ⟨rfl, rfl⟩ : b = g ∧ o = 0 := by have := Option.some.inj hb; injection this with e1 e2; exact ⟨e1.symm, e2.symm⟩
  have hbit := shr_bit (F 0) n (by omega)
  have hn2 : (n : Int) ≤ 60 := by omega
  clear hF hb
  generalize limb (F 0) 0 = x at *
  rw [Nat.zero_add] at k0
  cases hv : F 0 n with
  | true =>
    rw [hv, if_pos rfl] at hbit
    clear hv
    go_enter Tryd.func45, Tryd.ntmps45
    go_wp2_with fail
    go_ret
    exact ⟨rfl, Qt.refl w⟩
  | false =>
    rw [hv, if_neg (by decide)] at hbit
    clear hv
    go_enter Tryd.func45, Tryd.ntmps45
    go_wp2_with fail
    go_ret
    exact ⟨rfl, Qt.refl w⟩

end Go.Proofs.YtkclkhfcmjhogaaDoor

namespace Go.Proofs.YtkclkhfcmjhogaaDoor
open Go.RowKit
set_option linter.unusedVariables false

/-- Does it match? -/
def inX (bt : Nat → Nat) (n : Nat) (x : RX) : Bool := decide (n ≤ 60) && (decide (may x = 0) && x.mt bt n 0 n)
theorem may_small {x : RX} (h : may x = 0) : x.formed = true ∧ x.nodes ≤ 40 ∧ x.depth ≤ 12 := by
  unfold may at h
  split at h
  · cases h
  · split at h
    · next h1 h2 => exact ⟨by simpa using h1, h2⟩
    · cases h

set_option maxHeartbeats 4000000 in
theorem in_any (bt : Nat → Nat) (n : Nat) (hb : ∀ i, i < n → bt i < 256) (X : RX) (K : Nat → Prop) (a wa : Option Addr) (c wc : Nat) (w : World) (hK : ∀ j, K j → j < w.heap.size) (hX : Parts X.args K w a c) (ht : X.tall < 90000) (hw : Hid (Sl w wa n (Bn bt))) (hT : Hid (Tab w)) :
    Calls Tryd.prog 26 #[.agg #[.int .i64 X.kind, .int .u64 (limb X.set 0), .int .u64 (limb X.set 1), .int .u64 (limb X.set 2), .int .u64 (limb X.set 3), .slice a X.args.length c], .slice wa n wc] w fun e w' => e = .returned (.bool (inX bt n X)) ∧ Hid (Qt w w') := by
  by_cases hn : n ≤ 60
  · have q0 := Mv.alloc (fun _ => False) w (.cells #[.int .i64 X.kind, .int .u64 (limb X.set 0), .int .u64 (limb X.set 1), .int .u64 (limb X.set 2), .int .u64 (limb X.set 3), .slice a X.args.length c] 28)
    have hm := may_any X K a c _ (fun j hj => Nat.lt_of_lt_of_le (hK j hj) q0.size) (hX.mv q0 (fun _ _ h => h)) ht
    have hni : (n : Int) ≤ 60 := by omega
    have hsp := fun (hmay : may X = 0) W (q : Hid (Qt w W)) => spans_any bt n hn hb X (may_small hmay).2.1 K a wa c wc W (hX.mv q.out (fun _ _ h => h)) (show Hid _ from hw.out.mv q.out (fun _ _ h => h)) (hT.out.qt q.out) (may_small hmay).1
    have HI : Hid (inX bt n X = (decide (may X = 0) && X.mt bt n 0 n)) := by show _ = _; unfold inX; rw [decide_eq_true hn, Bool.true_and]
    have HN : Hid (n ≤ 60) := hn
    clear hX hK ht q0 hb hn
    unfold xv at *
    generalize inX bt n X = I at *
    generalize hF : X.mt bt n = F at *
    by_cases hz : may X = 0
    · have hsp2 := hsp hz
      rw [hz] at hm HI
      have HE : Hid (I = F 0 n) := by show _ = _; rw [HI.out]; simp
      clear hsp hz HI hF
      go_enter Tryd.func26, Tryd.ntmps26
      go_wp2_with fail
      refine hm.mono ?_
      rintro e1 w1 ⟨rfl, q1⟩
      obtain ⟨b0, b1, b2, b3, b4, b5⟩ := box6 q1
      have Q1 : Hid (Qt w w1) := ((Qt.refl w).alloc _).comp q1.out
      go_wp2_with fail
      refine (hsp2 _ Q1).mono ?_
      intro e2 w2 h2
      obtain ⟨g, rfl, h3, h4⟩ := h2
      have hhas := spansHas F (n + 1) n g w2 (by omega) HN.out h3
      clear b0 b1 b2 b3 b4 b5
      go_wp2_with fail
      refine hhas.mono ?_
      rintro e3 w3 ⟨rfl, q3⟩
      go_wp2_with fail
      go_ret
      exact ⟨by rw [HE.out]; rfl, (Q1.out.comp h4.out).comp q3.out⟩
    · have HE : Hid (I = false) := by show _ = _; rw [HI.out, decide_eq_false hz]; rfl
      generalize may X = m at *
      have hzb : (m == 0) = false := beq_false_of_ne hz
      have hzc : (m != 0) = true := bne_iff_ne.2 hz
      clear hsp HI hF
      go_enter Tryd.func26, Tryd.ntmps26
      go_wp2_with fail
      refine hm.mono ?_
      rintro e1 w1 ⟨rfl, q1⟩
      have Q1 : Hid (Qt w w1) := ((Qt.refl w).alloc _).comp q1.out
      go_wp2_with fail
      go_ret
      exact ⟨by rw [HE.out]; rfl, Q1.out⟩
  · have hni : (n : Int) > 60 := by omega
    have HE : Hid (inX bt n X = false) := by show _ = _; unfold inX; rw [decide_eq_false hn]; rfl
    generalize inX bt n X = I at *
    clear hX hK ht hb hn hw
    go_enter Tryd.func26, Tryd.ntmps26
    go_wp2_with fail
    go_ret
    exact ⟨by rw [HE.out]; rfl, (Qt.refl w).alloc _⟩

end Go.Proofs.YtkclkhfcmjhogaaDoor
