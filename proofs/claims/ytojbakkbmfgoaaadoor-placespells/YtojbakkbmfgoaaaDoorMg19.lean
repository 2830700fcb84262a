/- A walk's places; add. -/
import Derived.Test.YtojbakkbmfgoaaaDoorMg18
import Derived.Test.YtojbakkbmfgoaaaDoorMg10
import Derived.Deep.RegionLaw
import Derived.Deep.DrawnRows
import Derived.Test.YtojbakkbmfgoaaaDoorMg09
import Derived.Deep.RegionWith
import Derived.Deep.RegionHeld3
namespace Go.Proofs.YtojbakkbmfgoaaaDoor
open Go.RowKit
set_option linter.unusedVariables false
attribute [local go_sem ↓] Go.wp_at_zero Go.wp_at_succ

/-- Sets as cells. -/
def sc (S : List (Nat → Bool)) : List Value := S.flatMap fun p => (cs4 p).toList
theorem sc_append (S T : List (Nat → Bool)) : sc (S ++ T) = sc S ++ sc T := List.flatMap_append
theorem sc_length (S : List (Nat → Bool)) : (sc S).length = S.length * 4 := by
  induction S with
  | nil => rfl
  | cons p S ih =>
    rw [sc, List.flatMap_cons, List.length_append, List.length_cons]
    have : (S.flatMap fun p => (cs4 p).toList).length = S.length * 4 := ih
    rw [this]
    show 4 + S.length * 4 = (S.length + 1) * 4
    omega
theorem sc_one (S : List (Nat → Bool)) : ∀ u ∈ sc S, u.oneCell' = true := by
  intro u hu
  obtain ⟨p, _, hp⟩ := List.mem_flatMap.1 hu
  simp only [List.mem_cons, List.not_mem_nil, or_false] at hp
  rcases hp with rfl | rfl | rfl | rfl <;> rfl
theorem sc_at {S : List (Nat → Bool)} {i : Nat} {p : Nat → Bool} (h : S[i]? = some p) {j : Nat} (hj : j < 4) : (sc S)[i * 4 + j]? = some (.int .u64 (limb p j)) := by
  induction S generalizing i with
  | nil => simp at h
  | cons q S ih =>
    rw [sc, List.flatMap_cons]
    show ((cs4 q).toList ++ sc S)[i * 4 + j]? = _
    cases i with
    | zero =>
      obtain rfl : q = p := by simpa using h
      rw [List.getElem?_append_left (by show 0 * 4 + j < 4; omega)]
      rcases (show j = 0 ∨ j = 1 ∨ j = 2 ∨ j = 3 from by omega) with rfl | rfl | rfl | rfl <;> rfl
    | succ i =>
      rw [List.getElem?_append_right (by show 4 ≤ (i + 1) * 4 + j; omega)]
      have := ih (by simpa using h)
      rw [← this]
      congr 1
      show (i + 1) * 4 + j - 4 = i * 4 + j
      omega
theorem info26 : Tryd.prog.info? 26 = some Tryd.t26 := by kernel_rfl
theorem zero26 : Tryd.t26.zero = some (.agg #[.int .u64 0, .int .u64 0, .int .u64 0, .int .u64 0]) := by kernel_rfl
theorem size26 : Tryd.t26.size = 4 := by kernel_rfl
theorem bytes26 : Tryd.t26.bytes = 32 := by kernel_rfl
theorem info62 : Tryd.prog.info? 62 = some Tryd.t62 := by kernel_rfl
theorem zero62 : Tryd.t62.zero = some (.int .u64 0) := by kernel_rfl
theorem size62 : Tryd.t62.size = 1 := by kernel_rfl
theorem bytes62 : Tryd.t62.bytes = 8 := by kernel_rfl
/-- A row of one's own, of sets. -/
def Os (w : World) (base : Nat) (v : Value) (S : List (Nat → Bool)) : Prop := w.ownsRow base 26 4 v S.length (sc S)
/-- A slice of sets. -/
def Ss (w : World) (v : Value) (S : List (Nat → Bool)) : Prop := ∃ a c, v = .slice a S.length c ∧ Ls w a (sc S)
theorem Ss.qt {w w' : World} {v : Value} {S : List (Nat → Bool)} (h : Ss w v S) (q : Qt w w') : Ss w' v S := by
  obtain ⟨a, c, e, h1⟩ := h
  exact ⟨a, c, e, h1.qt q⟩
theorem Os.ss {w : World} {base : Nat} {v : Value} {S : List (Nat → Bool)} (h : Os w base v S) : Ss w v S := by
  obtain ⟨a, c, e, h1, _⟩ := ow_ls h
  exact ⟨a, c, e, h1⟩
theorem Ss.at {w : World} {v : Value} {S : List (Nat → Bool)} (h : Ss w v S) {i : Nat} {p : Nat → Bool} (hi : S[i]? = some p) : ∃ b o c, v = .slice (some ⟨b, o, none⟩) S.length c ∧ w.cell? ⟨b, o + i * 4, none⟩ = some (.int .u64 (limb p 0)) ∧ w.cell? ⟨b, o + i * 4 + 1, none⟩ = some (.int .u64 (limb p 1)) ∧ w.cell? ⟨b, o + i * 4 + 2, none⟩ = some (.int .u64 (limb p 2)) ∧ w.cell? ⟨b, o + i * 4 + 3, none⟩ = some (.int .u64 (limb p 3)) := by
  obtain ⟨a, c, e, h1⟩ := h
  obtain ⟨b, o, e0, _, k0⟩ := h1 _ _ (sc_at hi (show 0 < 4 by omega))
  obtain ⟨b1, o1, e1, _, k1⟩ := h1 _ _ (sc_at hi (show 1 < 4 by omega))
  obtain ⟨b2, o2, e2, _, k2⟩ := h1 _ _ (sc_at hi (show 2 < 4 by omega))
  obtain ⟨b3, o3, e3, _, k3⟩ := h1 _ _ (sc_at hi (show 3 < 4 by omega))
  rw [e0] at e1 e2 e3
  cases e1; cases e2; cases e3
  simp only [Nat.add_zero, ← Nat.add_assoc] at k0 k1 k2 k3
  exact ⟨b, o, c, by rw [e, e0], k0, k1, k2, k3⟩
theorem Os.typed {w : World} {base : Nat} {v : Value} {S : List (Nat → Bool)} (h : Os w base v S) {j : Nat} (hj : v.ownBlock = some j) : ∃ cs, w.heap[j]? = some (.cells cs 26 (0, 0)) := by
  rcases h.2 with ⟨rfl, _⟩ | ⟨g, cap, cur, rfl, _, hg, _⟩
  · cases hj
  · have e2 : g = j := Option.some.inj hj
    exact ⟨cur, by rw [← e2]; exact hg⟩
theorem Os.push {w : World} {base : Nat} {v : Value} {S : List (Nat → Bool)} (h : Os w base v S) (hl : S.length < 90000) (hb : base ≤ w.heap.size) (p : Nat → Bool) :
    ∃ v' W, (Builtin.append_ #[33, 33] 33 #[v, .slice (some ⟨w.heap.size, 0, none⟩) 1 1]).run Tryd.prog (w.alloc (.cells #[.int .u64 (limb p 0), .int .u64 (limb p 1), .int .u64 (limb p 2), .int .u64 (limb p 3)] 26)) = .ok v' W ∧ Os W base v' (S ++ [p]) ∧ Mv (fun j => v.ownBlock = some j) w W ∧ (v'.ownBlock = v.ownBlock ∨ ∃ g, v'.ownBlock = some g ∧ w.heap.size ≤ g) := by
  have q : Qt w (w.alloc (.cells (cs4 p) 26)) := (Qt.refl w).alloc _
  have hls : Ls (w.alloc (.cells (cs4 p) 26)) (some ⟨w.heap.size, 0, none⟩) (sc [p]) := Ls.new w (cs4 p) 26
  obtain ⟨v', W, hr, hown, hgr, hnb⟩ := append_ow 33 33 26 Tryd.t26 (.agg #[.int .u64 0, .int .u64 0, .int .u64 0, .int .u64 0]) 4 32 Tryd.underlying33 info26 zero26 size26 bytes26 (by rfl) (by omega) (by omega) (w.alloc (.cells (cs4 p) 26)) base v S.length 1 1 (sc S) (sc [p]) (some ⟨w.heap.size, 0, none⟩) (q.owns h (fun _ _ h => h)) hls rfl (sc_one [p]) (by omega) (fun e => by cases e) (Nat.le_trans hb q.size)
  refine ⟨v', W, hr, ?_, Mv.trans (q.mono (fun _ _ h => h.elim)) (Mv.of_grown hgr) (fun _ _ h => h), ?_⟩
  · show W.ownsRow _ _ _ _ _ _
    rw [sc_append, List.length_append]; exact hown
  · rcases hnb with h4 | ⟨g, e, h4⟩
    · exact .inl h4
    · exact .inr ⟨g, e, Nat.le_trans q.size h4⟩

/-- What a walk has so far: its sets, and which places lead to which. -/
structure Wk (gw : Nat) (w : World) (v u : Value) (S : List (Nat → Bool)) (n : Nat) (G : Nat → Nat → Bool) : Prop where
  at_ : w.heap[gw]? = some (.cells #[v, u] 61 (0, 0))
  sets : Os w gw v S
  fol : Own w gw 62 u n (fun i => .int .u64 (limb (G i) 0))
  rest : ∀ i, n ≤ i → G i = fun _ => false
abbrev Fw (gw : Nat) (w w' : World) : Prop := Fr gw gw [26, 62] w w'
theorem Own.less2 {w : World} {base base' n : Nat} {e : TypeId} {v : Value} {V : Nat → Value} (h : Own w base e v n V) (hb : base' ≤ base) : Own w base' e v n V :=
  ⟨h.1, h.2.elim .inl (fun ⟨g, cap, cur, h1, h2, h3⟩ => .inr ⟨g, cap, cur, h1, Nat.le_trans hb h2, h3⟩)⟩
theorem Wk.qt {gw : Nat} {w w' : World} {v u : Value} {S : List (Nat → Bool)} {n : Nat} {G : Nat → Nat → Bool} (h : Wk gw w v u S n G) (q : Qt w w') : Wk gw w' v u S n G :=
  ⟨(q.block _ (Array.getElem?_eq_some_iff.1 h.at_).1 (fun h => h)).trans h.at_, q.owns h.sets (fun _ _ h => h), q.owns h.fol (fun _ _ h => h), h.rest⟩
theorem Wk.cells {gw : Nat} {w : World} {v u : Value} {S : List (Nat → Bool)} {n : Nat} {G : Nat → Nat → Bool} (h : Wk gw w v u S n G) : w.cell? ⟨gw, 0, none⟩ = some v ∧ w.cell? ⟨gw, 1, none⟩ = some u ∧ w.frozen? ⟨gw, 0, none⟩ = false ∧ w.frozen? ⟨gw, 1, none⟩ = false := by
  have h' := h.at_
  refine ⟨?_, ?_, ?_, ?_⟩ <;> simp [World.cell?, World.frozen?, h']
theorem Wk.ne {gw : Nat} {w : World} {v u : Value} {S : List (Nat → Bool)} {n : Nat} {G : Nat → Nat → Bool} (h : Wk gw w v u S n G) {j : Nat} (hj : v.ownBlock = some j ∨ u.ownBlock = some j) : j ≠ gw := by
  intro e
  subst e
  have h' := h.at_
  rcases hj with hj | hj
  · obtain ⟨cs, hc⟩ := Os.typed h.sets hj
    have := not_typed h' hc
    omega
  · obtain ⟨cs, hc⟩ := Own.typed h.fol hj
    have := not_typed h' hc
    omega
theorem Wk.apart {gw : Nat} {w : World} {v u : Value} {S : List (Nat → Bool)} {n : Nat} {G : Nat → Nat → Bool} (h : Wk gw w v u S n G) {j : Nat} (h1 : v.ownBlock = some j) (h2 : u.ownBlock = some j) : False := by
  obtain ⟨cs, hc⟩ := Os.typed h.sets h1
  obtain ⟨ds, hd⟩ := Own.typed h.fol h2
  have := not_typed hc hd
  omega
theorem Wk.lt {gw : Nat} {w : World} {v u : Value} {S : List (Nat → Bool)} {n : Nat} {G : Nat → Nat → Bool} (h : Wk gw w v u S n G) : gw < w.heap.size := (Array.getElem?_eq_some_iff.1 h.at_).1
/-- A set more. -/
theorem Wk.push {gw : Nat} {w : World} {v u : Value} {S : List (Nat → Bool)} {n : Nat} {G : Nat → Nat → Bool} (h : Wk gw w v u S n G) (hl : S.length < 90000) (p : Nat → Bool) :
    ∃ v' W, (Builtin.append_ #[33, 33] 33 #[v, .slice (some ⟨w.heap.size, 0, none⟩) 1 1]).run Tryd.prog (w.alloc (.cells #[.int .u64 (limb p 0), .int .u64 (limb p 1), .int .u64 (limb p 2), .int .u64 (limb p 3)] 26)) = .ok v' W ∧ Hid (W.heap[gw]? = some (.cells #[v, u] 61 (0, 0))) ∧ Hid (Wk gw (W.setCell ⟨gw, 0, none⟩ v') v' u (S ++ [p]) n G) ∧ Hid (Fw gw w (W.setCell ⟨gw, 0, none⟩ v')) := by
  obtain ⟨v', W, hr, hO, hM, hB⟩ := Os.push h.sets hl (Nat.le_of_lt h.lt) p
  have hat : W.heap[gw]? = some (.cells #[v, u] 61 (0, 0)) := (hM.block _ h.lt (fun e => h.ne (.inl e) rfl)).trans h.at_
  have hfol : Own W gw 62 u n (fun i => .int .u64 (limb (G i) 0)) := h.fol.mv hM (fun j hj e => h.apart e hj)
  have hfr : Fw gw w W := Mv.mono hM (fun j hj e => by
    obtain ⟨cs, hc⟩ := Os.typed h.sets e
    exact ⟨(ow_blk h.sets j e).1, .inr ⟨cs, 26, _, hc, by simp⟩⟩)
  have mset := Mv.setCell W ⟨gw, 0, none⟩ v'
  have hne : ∀ j, v'.ownBlock = some j → j ≠ gw := by
    intro j hj e
    subst e
    obtain ⟨cs, hc⟩ := Os.typed hO hj
    have := not_typed hat hc
    omega
  have hne2 : ∀ j, u.ownBlock = some j → j ≠ gw := fun j hj => h.ne (.inr hj)
  refine ⟨v', W, hr, hat, ⟨?_, ?_, ?_, h.rest⟩, hfr.trans (Mv.mono mset (fun j hj e => ⟨by show gw ≤ j; rw [e]; exact Nat.le_refl _, .inl e⟩))⟩
  · exact heap_set hat
  · exact mset.owns hO (fun j hj e => hne j hj e)
  · exact hfol.mv mset (fun j hj e => hne2 j hj e)
/-- A row more for what leads where. -/
theorem Wk.room {gw : Nat} {w : World} {v u : Value} {S : List (Nat → Bool)} {n : Nat} {G : Nat → Nat → Bool} (h : Wk gw w v u S n G) (hl : n < 90000) :
    ∃ u' W, (Builtin.append_ #[59, 59] 59 #[u, .slice (some ⟨w.heap.size, 0, none⟩) 1 1]).run Tryd.prog (w.alloc (.cells #[.int .u64 0] 62)) = .ok u' W ∧ Hid (W.heap[gw]? = some (.cells #[v, u] 61 (0, 0))) ∧ Hid (Wk gw (W.setCell ⟨gw, 1, none⟩ u') v u' S (n + 1) G) ∧ Hid (Fw gw w (W.setCell ⟨gw, 1, none⟩ u')) := by
  have q : Qt w (w.alloc (.cells #[.int .u64 0] 62)) := (Qt.refl w).alloc _
  have hsl : Sl (w.alloc (.cells #[.int .u64 0] 62)) (some ⟨w.heap.size, 0, none⟩) 1 (fun _ => .int .u64 0) := by
    intro i hi
    refine ⟨_, _, rfl, by simp, ?_⟩
    obtain rfl : i = 0 := by omega
    simp
  obtain ⟨u', W, hr, hown, hgr, hnb⟩ := append_own 59 59 62 Tryd.t62 (.int .u64 0) 8 Tryd.underlying59 info62 zero62 size62 bytes62 (by rfl) (by omega) (w.alloc (.cells #[.int .u64 0] 62)) gw u n 1 1 _ (fun _ => .int .u64 0) (some ⟨w.heap.size, 0, none⟩) (h.fol.mv q (fun _ _ h => h)) hsl (fun _ => rfl) (by omega) (fun e => by cases e) (Nat.le_trans (Nat.le_of_lt h.lt) q.size)
  have hM : Mv (fun j => u.ownBlock = some j) w W := Mv.trans (q.mono (fun _ _ h => h.elim)) (Mv.of_grown hgr) (fun _ _ h => h)
  have hat : W.heap[gw]? = some (.cells #[v, u] 61 (0, 0)) := (hM.block _ h.lt (fun e => h.ne (.inr e) rfl)).trans h.at_
  have hsets : Os W gw v S := hM.owns h.sets (fun j hj e => h.apart hj e)
  have hfr : Fw gw w W := Mv.mono hM (fun j hj e => by
    obtain ⟨cs, hc⟩ := Own.typed h.fol e
    exact ⟨(h.fol.blk j e).1, .inr ⟨cs, 62, _, hc, by simp⟩⟩)
  have mset := Mv.setCell W ⟨gw, 1, none⟩ u'
  have hO : Own W gw 62 u' (n + 1) (fun i => .int .u64 (limb (G i) 0)) := by
    refine hown.congr (fun i hi => ?_)
    unfold cat
    by_cases hin : i < n
    · rw [if_pos hin]
    · rw [if_neg hin, h.rest i (by omega), limb_none]; rfl
  have hne : ∀ j, u'.ownBlock = some j → j ≠ gw := by
    intro j hj e
    subst e
    obtain ⟨cs, hc⟩ := Own.typed hO hj
    have := not_typed hat hc
    omega
  have hne2 : ∀ j, v.ownBlock = some j → j ≠ gw := fun j hj => h.ne (.inl hj)
  refine ⟨u', W, hr, hat, ⟨?_, ?_, ?_, fun i hi => h.rest i (by omega)⟩, hfr.trans (Mv.mono mset (fun j hj e => ⟨by show gw ≤ j; rw [e]; exact Nat.le_refl _, .inl e⟩))⟩
  · exact heap_set hat
  · exact mset.owns hsets (fun j hj e => hne2 j hj e)
  · exact hO.mv mset (fun j hj e => hne j hj e)

/-- A part, as the walk tells it. -/
abbrev pv (p q : Nat → Bool) (b : Bool) : Value := .agg #[.int .u64 (limb p 0), .int .u64 (limb q 0), .bool b]
abbrev B3p (g : Nat) (v0 v1 v2 : Value) (w : World) : Prop := w.heap[g]? = some (.cells #[v0, v1, v2] 64 (0, 0))
abbrev zeros3 : Obj := .cells #[.int .u64 0, .int .u64 0, .bool false] 64
theorem B3p.facts {g : Nat} {v0 v1 v2 : Value} {w : World} (h : Hid (B3p g v0 v1 v2 w)) : w.cell? ⟨g, 0, none⟩ = some v0 ∧ w.cell? ⟨g, 1, none⟩ = some v1 ∧ w.cell? ⟨g, 2, none⟩ = some v2 ∧ w.frozen? ⟨g, 0, none⟩ = false ∧ w.frozen? ⟨g, 1, none⟩ = false ∧ w.frozen? ⟨g, 2, none⟩ = false := by
  have h' := h.out
  unfold B3p at h'
  refine ⟨?_, ?_, ?_, ?_, ?_, ?_⟩ <;> simp [World.cell?, World.frozen?, h']
theorem B3p.mv {X : Nat → Prop} {g : Nat} {v0 v1 v2 : Value} {w w' : World} (h : B3p g v0 v1 v2 w) (m : Mv X w w') (hx : ¬ X g) : Hid (B3p g v0 v1 v2 w') := (m.block g (Array.getElem?_eq_some_iff.1 h).1 hx).trans h
theorem B3p.lt {g : Nat} {v0 v1 v2 : Value} {w : World} (h : B3p g v0 v1 v2 w) : g < w.heap.size := (Array.getElem?_eq_some_iff.1 h).1
theorem B3p.fw {gw g : Nat} {v0 v1 v2 : Value} {w w' : World} (h : B3p g v0 v1 v2 w) (f : Fw gw w w') (hg : g ≠ gw) : Hid (B3p g v0 v1 v2 w') := Fr.keep f h hg (by simp)
theorem B6.fw {gw g : Nat} {v0 v1 v2 v3 v4 v5 : Value} {w w' : World} (h : B6 g v0 v1 v2 v3 v4 v5 w) (f : Fw gw w w') (hg : g ≠ gw) : Hid (B6 g v0 v1 v2 v3 v4 v5 w') := Fr.keep f h hg (by simp)
abbrev put3 (w : World) (g : Nat) (v0 v1 v2 : Value) : World := ((w.setCell ⟨g, 0, none⟩ v0).setCell ⟨g, 1, none⟩ v1).setCell ⟨g, 2, none⟩ v2
theorem put3_heap {w : World} {g : Nat} {u0 u1 u2 : Value} (h : B3p g u0 u1 u2 w) (v0 v1 v2 : Value) : B3p g v0 v1 v2 (put3 w g v0 v1 v2) := heap_set (heap_set (heap_set h))
theorem put3_mv (w : World) (g : Nat) (v0 v1 v2 : Value) : Mv (fun k => k = g) w (put3 w g v0 v1 v2) :=
  Mv.trans (Mv.trans (Mv.setCell w ⟨g, 0, none⟩ v0) (Mv.setCell _ ⟨g, 1, none⟩ v1) (fun _ _ h => h)) (Mv.setCell _ ⟨g, 2, none⟩ v2) (fun _ _ h => h)
/-- A box of one's own turns. -/
theorem Wk.box {gw g : Nat} {w w' : World} {v u : Value} {S : List (Nat → Bool)} {n : Nat} {G : Nat → Nat → Bool} (h : Wk gw w v u S n G) {cs : Array Value} {t : Nat} {k : Nat × Nat} (hb : w.heap[g]? = some (.cells cs t k)) (ht : t ≠ 26 ∧ t ≠ 62) (hg : g ≠ gw) (m : Mv (fun j => j = g) w w') : Wk gw w' v u S n G := by
  refine ⟨(m.block _ h.lt (fun e => hg e.symm)).trans h.at_, m.owns h.sets (fun j hj e => ?_), m.owns h.fol (fun j hj e => ?_), h.rest⟩
  · obtain ⟨ds, hd⟩ := Os.typed h.sets hj
    rw [e] at hd
    exact ht.1 (not_typed hb hd)
  · obtain ⟨ds, hd⟩ := Own.typed h.fol hj
    rw [e] at hd
    exact ht.2 (not_typed hb hd)
theorem Fw.box {gw g : Nat} {w w1 w2 : World} (h : Fw gw w w1) (m : Mv (fun j => j = g) w1 w2) (hg : w.heap.size ≤ g) : Fw gw w w2 :=
  Mv.trans h m (fun j hj e => by omega)

end Go.Proofs.YtojbakkbmfgoaaaDoor

namespace Go.Proofs.YtojbakkbmfgoaaaDoor
open Go.RowKit
set_option linter.unusedVariables false
attribute [local go_sem ↓] Go.wp_at_zero Go.wp_at_succ

/-- An append whose end is known, in a region that draws. -/
theorem step_given {P : Program} {ops : Array Oper} {o : Oper} {a : Act} {w : World} {K : Act → World → Prop} {Q : Exit → Act → World → Prop} {E : Prop}
    (hg : o.guard = none) (s x : Operand) (t : TypeId) (hop : o.op = Op.call { callee := Callee.builtin Builtin.append, args := #[s, x], argTypes := #[t, t] })
    (sv xv v' : Value) (hs : a.eval s = sv) (hx : a.eval x = xv) (W : World) (hr : (Builtin.append_ #[t, t] o.type #[sv, xv]).run P w = .ok v' W)
    (hK : K (a.put o.dst v') W) : if Region.wanted o (yielded ops a.tmps) = true then Oper.wp P o a w K Q else E := by
  have hw : Region.wanted o (yielded ops a.tmps) = true := by simp [Region.wanted, hg]
  rw [if_pos hw]
  unfold Oper.wp
  simp [execOp, hop, resolve, invoke, builtin, hs, hx, hr, Result.andThen]
  exact hK

theorem Os.form {w : World} {base : Nat} {v : Value} {S : List (Nat → Bool)} (h : Os w base v S) : ∃ a c, v = .slice a S.length c := by
  obtain ⟨a, c, e, _⟩ := h.ss
  exact ⟨a, c, e⟩
set_option maxRecDepth 20000 in
set_option maxHeartbeats 4000000 in
theorem add_any (p : Nat → Bool) (gw : Nat) (v u : Value) (S : List (Nat → Bool)) (G : Nat → Nat → Bool) (w : World) (hW : Hid (Wk gw w v u S S.length G)) (hS : S.length < 64) :
    Calls Tryd.prog 33 #[.pointer (some ⟨gw, 0, none⟩), .agg #[.int .u64 (limb p 0), .int .u64 (limb p 1), .int .u64 (limb p 2), .int .u64 (limb p 3)]] w fun e w' => e = .returned (pv (fun n => n == S.length) (fun n => n == S.length) false) ∧ ∃ v' u', Hid (Wk gw w' v' u' (S ++ [p]) (S.length + 1) G) ∧ Hid (Fw gw w w') := by
  have HL : Hid (IntKind.u64.wrap (2 ^ S.length) = ((limb (fun n => n == S.length) 0 : Nat) : Int)) := by
    have h1 := limb_one 0 S.length hS
    rw [show (fun b => b == 64 * 0 + S.length) = fun n => n == S.length from by funext b; rw [Nat.mul_zero, Nat.zero_add]] at h1
    have h2 := limb_lt (fun n => n == S.length) 0
    rw [h1] at h2
    show _ = _
    rw [h1, IntKind.wrap_u64, show ((2 : Int) ^ S.length) = ((2 ^ S.length : Nat) : Int) from by push_cast; rfl]
    generalize 2 ^ S.length = z at h2
    omega
  have hq : Hid (Qt w ((w.alloc (.cells (cs4 p) 26)).alloc zeros3)) := ((Qt.refl w).alloc _).alloc _
  have hW1 := hW.out.qt hq.out
  have hbox : Hid (B3p (w.heap.size + 1) (.int .u64 0) (.int .u64 0) (.bool false) ((w.alloc (.cells (cs4 p) 26)).alloc zeros3)) := heap_alloc2_new w _ _
  have hbs : Hid (((w.alloc (.cells (cs4 p) 26)).alloc zeros3).heap[w.heap.size]? = some (.cells (cs4 p) 26 (0, 0))) := heap2a w _ _
  obtain ⟨av, cv, hv⟩ := Os.form hW1.sets
  subst hv
  obtain ⟨c0, c1, f0, f1⟩ := hW1.cells
  have hn := hW.out.lt
  obtain ⟨d0, d1, d2, d3⟩ : ((w.alloc (.cells (cs4 p) 26)).alloc zeros3).cell? ⟨w.heap.size, 0, none⟩ = some (.int .u64 (limb p 0)) ∧ ((w.alloc (.cells (cs4 p) 26)).alloc zeros3).cell? ⟨w.heap.size, 1, none⟩ = some (.int .u64 (limb p 1)) ∧ ((w.alloc (.cells (cs4 p) 26)).alloc zeros3).cell? ⟨w.heap.size, 2, none⟩ = some (.int .u64 (limb p 2)) ∧ ((w.alloc (.cells (cs4 p) 26)).alloc zeros3).cell? ⟨w.heap.size, 3, none⟩ = some (.int .u64 (limb p 3)) := by
    have h' := hbs.out
    refine ⟨?_, ?_, ?_, ?_⟩ <;> simp [World.cell?, h']
  obtain ⟨v1, W1, hr1, hat1, hW2, hF1⟩ := (hW1.qt (Qt.drew (Qt.refl _))).push (by omega) p
  have hat1' : W1.cell? ⟨gw, 0, none⟩ = some (.slice av S.length cv) ∧ W1.frozen? ⟨gw, 0, none⟩ = false ∧ W1.cell? ⟨gw, 1, none⟩ = some u ∧ W1.frozen? ⟨gw, 1, none⟩ = false := by
    have h' := hat1.out
    refine ⟨?_, ?_, ?_, ?_⟩ <;> simp [World.cell?, World.frozen?, h']
  obtain ⟨k0, k1, k4, k5⟩ := hat1'
  obtain ⟨av2, cv2, hv⟩ := Os.form hW2.out.sets
  rw [show (S ++ [p]).length = S.length + 1 from by simp] at hv
  obtain ⟨au, cu, hu⟩ : ∃ a c, u = .slice a S.length c := by
    obtain ⟨a, c, e, _⟩ := hW.out.fol.sl
    exact ⟨a, c, e⟩
  subst hv hu
  obtain ⟨m0, m1, n0, n1⟩ := hW2.out.cells
  obtain ⟨u2, W2, hr2, hat2, hW3, hF2⟩ := hW2.out.room (by omega)
  obtain ⟨au2, cu2, hu⟩ : ∃ a c, u2 = .slice a (S.length + 1) c := by
    obtain ⟨a, c, e, _⟩ := hW3.out.fol.sl
    exact ⟨a, c, e⟩
  subst hu
  have hat2' : W2.cell? ⟨gw, 1, none⟩ = some (.slice au S.length cu) ∧ W2.frozen? ⟨gw, 1, none⟩ = false := by
    have h' := hat2.out
    refine ⟨?_, ?_⟩ <;> simp [World.cell?, World.frozen?, h']
  obtain ⟨k2, k3⟩ := hat2'
  have HF : Hid (Fw gw ((w.alloc (.cells (cs4 p) 26)).alloc zeros3) (W2.setCell ⟨gw, 1, none⟩ (.slice au2 (S.length + 1) cu2))) := (Fr.of_qt (Qt.drew (Qt.refl _))).trans (hF1.out.trans hF2.out)
  have HB := B3p.fw hbox.out HF.out (by omega)
  have g0 : (((w.alloc (.cells (cs4 p) 26)).alloc zeros3).alloc (.cells (cs4 p) 26)).cell? ⟨gw, 0, none⟩ = some (.slice av S.length cv) := (Qt.alloc (Qt.refl _) _).cell (p := ⟨gw, 0, none⟩) c0 (fun h => h)
  have hSi : (S.length : Int) < 64 := by omega
  have HQ : Hid (Fw gw w (W2.setCell ⟨gw, 1, none⟩ (.slice au2 (S.length + 1) cu2))) := (Fr.of_qt hq.out).trans HF.out
  rw [show (W1.setCell ⟨gw, 0, none⟩ (.slice av2 (S.length + 1) cv2)).heap.size = W1.heap.size from by simp [World.setCell]] at hr2
  have HB2 : Hid (B3p (w.heap.size + 1) (.int .u64 0) (.int .u64 0) (.bool false) W2) := by
    have h := (Mv.setCell W2 ⟨gw, 1, none⟩ (.slice au2 (S.length + 1) cu2)).block (w.heap.size + 1) (by
      have h1 := (Array.getElem?_eq_some_iff.1 HB.out).1
      simpa [World.setCell] using h1) (by show ¬ w.heap.size + 1 = gw; omega)
    exact h.symm.trans HB.out
  obtain ⟨x0, x1, x2, y0, y1, y2⟩ := B3p.facts HB2
  clear hF1 hF2 hat1 hat2 hW2 hW1 hW hq HF hbox hbs
  go_enter Tryd.func33, Tryd.ntmps33
  go_wp2_with fail
  generalize ((w.alloc (.cells #[.int .u64 (limb p 0), .int .u64 (limb p 1), .int .u64 (limb p 2), .int .u64 (limb p 3)] 26)).alloc (.cells #[.int .u64 0, .int .u64 0, .bool false] 64)) = W0 at *
  go_region_law (first | (refine step_given rfl (.tmp 16) (.tmp 18) 33 rfl _ _ _ rfl rfl W1 hr1 ?_))
  all_goals
    go_wp2_with (at_builtin; refine wpList_append_given rfl _ _ 59 rfl _ _ _ W2 rfl rfl hr2 ?_)
    refine bodyPost_ret (results_cell_row (p := 4) (ty := 64) rfl _ _ (w.heap.size + 1) 64 _ (0, 0) _ rfl (put3_heap HB.out _ _ _) Tryd.underlying64 rfl (by kernel_rfl)) rfl ?_
    exact ⟨by rw [HL.out], _, _, Wk.box hW3.out HB.out (by decide) (by omega) (put3_mv _ _ _ _ _), Fw.box HQ.out (put3_mv _ _ _ _ _) (by omega)⟩

end Go.Proofs.YtojbakkbmfgoaaaDoor

namespace Go.Proofs.YtojbakkbmfgoaaaDoor
open Go.RowKit
set_option linter.unusedVariables false

/-- Each of q behind each of p. -/
def ledG (G : Nat → Nat → Bool) (p q : Nat → Bool) : Nat → Nat → Bool := fun i j => G i j || (p i && q j)
theorem Wk.congr {gw : Nat} {w : World} {v u : Value} {S : List (Nat → Bool)} {n : Nat} {G H : Nat → Nat → Bool} (h : Wk gw w v u S n G) (e : ∀ i j, G i j = H i j) : Wk gw w v u S n H := by
  have : G = H := by funext i j; exact e i j
  rw [← this]; exact h
theorem Wk.store {gw b cu : Nat} {w : World} {v : Value} {S : List (Nat → Bool)} {n : Nat} {G : Nat → Nat → Bool} (h : Wk gw w v (.slice (some ⟨b, 0, none⟩) n cu) S n G) {i : Nat} (hi : i < n) (q : Nat → Bool) :
    Hid (Wk gw (w.setCell ⟨b, i, none⟩ (.int .u64 ((limb (G i) 0 ||| limb q 0 : Nat) : Int))) v (.slice (some ⟨b, 0, none⟩) n cu) S n (fun a j => if a = i then (G a j || q j) else G a j)) ∧ Hid (Fw gw w (w.setCell ⟨b, i, none⟩ (.int .u64 ((limb (G i) 0 ||| limb q 0 : Nat) : Int)))) := by
  have m := Mv.setCell w ⟨b, i, none⟩ (.int .u64 ((limb (G i) 0 ||| limb q 0 : Nat) : Int))
  have hb : b ≠ gw := h.ne (.inr rfl)
  have hs := (World.ownsRow.stored h.fol i (.int .u64 ((limb (G i) 0 ||| limb q 0 : Nat) : Int))).1
  obtain ⟨cs, hc⟩ := Own.typed h.fol (j := b) rfl
  refine ⟨⟨(m.block _ h.lt (fun e => hb e.symm)).trans h.at_, m.owns h.sets (fun j hj e => h.apart hj (by rw [e]; rfl)), ?_, fun a ha => ?_⟩, Mv.mono m (fun j hj e => ?_)⟩
  · rw [row_set] at hs
    refine Own.congr hs (fun a ha => ?_)
    by_cases e : a = i
    · subst e
      simp only [if_true]
      rw [limb_or]
    · simp only [if_neg e]
  · have e : ¬ a = i := by omega
    funext j
    simp only [if_neg e]
    rw [h.rest a ha]
  · refine ⟨?_, .inr ⟨cs, 62, _, by rw [e]; exact hc, by simp⟩⟩
    rw [e]; exact (h.fol.blk b rfl).1
theorem Wk.at {gw b cu : Nat} {w : World} {v : Value} {S : List (Nat → Bool)} {n : Nat} {G : Nat → Nat → Bool} (h : Wk gw w v (.slice (some ⟨b, 0, none⟩) n cu) S n G) {i : Nat} (hi : i < n) : w.cell? ⟨b, i, none⟩ = some (.int .u64 (limb (G i) 0)) ∧ w.frozen? ⟨b, i, none⟩ = false := h.fol.at hi
theorem take_mem {l : List Nat} {i c : Nat} (h : l[i]? = some c) (a : Nat) : (l.take (i + 1)).contains a = ((l.take i).contains a || a == c) := by
  rw [List.take_add_one, h]
  simp only [Option.toList_some]
  rw [Bool.eq_iff_iff]
  simp
theorem asc_contains {p : Nat → Bool} {n : Nat} (h : ∀ i, p i = true → i < n) (hn : n ≤ 64) (a : Nat) : (asc 64 p).contains a = p a := by
  rw [Bool.eq_iff_iff, List.contains_iff_mem, asc_mem]
  exact ⟨fun h => h.2, fun e => ⟨by have := h a e; omega, e⟩⟩

set_option maxRecDepth 20000 in
set_option maxHeartbeats 4000000 in
theorem lead_any (p q : Nat → Bool) (gw : Nat) (v u : Value) (S : List (Nat → Bool)) (n : Nat) (G : Nat → Nat → Bool) (w : World) (hW : Hid (Wk gw w v u S n G)) (hp : ∀ i, p i = true → i < n) (hn : n ≤ 64) (hT : Hid (Tab w)) (h0 : 0 < gw) :
    Calls Tryd.prog 36 #[.pointer (some ⟨gw, 0, none⟩), .int .u64 (limb p 0), .int .u64 (limb q 0)] w fun e w' => e = .returned (.tuple #[]) ∧ Hid (Wk gw w' v u S n (ledG G p q)) ∧ Hid (Fw gw w w') := by
  have hl := list_any p w hT
  have HP : Hid (∀ i, p i = true → i < n) := hp
  clear hp
  go_enter Tryd.func36, Tryd.ntmps36
  go_wp2_with fail
  refine hl.mono ?_
  rintro e w1 ⟨L, rfl, O1, q1⟩
  have I1 := O1.out.is
  have HM : Hid (∀ a, (asc 64 p).contains a = p a) := fun a => asc_contains HP.out hn a
  have HB : Hid (∀ c ∈ asc 64 p, c < n) := fun c hc => HP.out c (asc_mem.1 hc).2
  have HN : Hid ((asc 64 p).length ≤ 64) := asc_length 64 p
  have hW1 : Hid (Wk gw w1 v u S n G) := hW.out.qt q1.out
  have F1 : Hid (Fw gw w w1) := Fr.of_qt q1.out
  clear hl O1
  generalize asc 64 p = l at *
  obtain ⟨aL, cL, hLv⟩ : ∃ a c, L = .slice a l.length c := by
    obtain ⟨a, c, e, _⟩ := I1
    exact ⟨a, c, e⟩
  subst hLv
  have HI : Hid (Is w1 (.slice aL l.length cL) l) := I1
  clear I1
  have hgt : ∃ cg, w1.heap[gw]? = some (.cells cg 61 (0, 0)) := ⟨_, hW1.out.at_⟩
  have HG : Hid (∃ cg, w1.heap[gw]? = some (.cells cg 61 (0, 0))) := hgt
  clear hgt
  generalize hln : l.length = ln at *
  have HL : Hid (l.length = ln) := hln
  clear hln
  have hlb : (ln : Int) ≤ 64 := by have := HN.out; omega
  go_wp2_with fail
  go_loopw [11] (fun s11 wr => ∃ i : Nat, i ≤ ln ∧ s11 = .int .i64 i ∧ Hid (Wk gw wr v u S n (ledG G (fun a => (l.take i).contains a) q)) ∧ Hid (Fw gw w1 wr)) (fun s11 _ => ln - (intOf s11).toNat)
  case atStart => exact ⟨0, by omega, rfl, hW1.out.congr (fun i j => by simp [ledG]), Fr.refl _ _ _ _⟩
  case round =>
    obtain ⟨i, hi, rfl, B, F⟩ := hrel
    by_cases hlt : i < ln
    · obtain ⟨c, hc⟩ : ∃ c, l[i]? = some c := ⟨_, List.getElem?_eq_getElem (by have := HL.out; omega)⟩
      have hcn : c < n := HB.out c (List.mem_of_getElem? hc)
      have hIr : Is wr (.slice aL ln cL) l := by
        obtain ⟨cg, hg⟩ := HG.out
        have h2 := HI.out
        exact Fr.is F.out h2 hg (by decide) (by decide)
      obtain ⟨b, o, cap, hv, hbl, hcell⟩ := hIr.at hc
      obtain ⟨rfl, _, rfl⟩ := Value.slice.inj hv
      obtain ⟨bu, cu, hu⟩ : ∃ bu cu, u = .slice (some ⟨bu, 0, none⟩) n cu := by
        rcases Own.slice B.out.fol with ⟨_, h⟩ | ⟨g, c, e, _⟩
        · omega
        · exact ⟨g, c, e⟩
      subst hu
      obtain ⟨k0, k1, k2, k3⟩ := B.out.cells
      obtain ⟨m0, m1⟩ := B.out.at hcn
      obtain ⟨s0, s1⟩ := B.out.store hcn q
      have hor := bits_or_u64_nat (limb (ledG G (fun a => (l.take i).contains a) q c) 0) (limb q 0) (limb_lt _ _) (limb_lt _ _)
      have hni : (c : Int) < (n : Int) := by omega
      have hHC : Hid (l[i]? = some c) := hc
      have HF : Hid (Fw gw w1 wr) := F
      clear hv hc hIr hlb
      have hlb : (ln : Int) ≤ 64 := by have := HN.out; omega
      generalize limb (ledG G (fun a => (l.take i).contains a) q c) 0 = X at *
      go_wp2_with fail
      refine ⟨⟨i + 1, by omega, by go_num, s0.out.congr (fun a j => ?_), HF.out.trans s1.out⟩, by simp [intOf]; omega⟩
      unfold ledG
      simp only [take_mem hHC.out]
      by_cases e : a = c
      · subst e; cases G a j <;> cases (l.take i).contains a <;> simp
      · have e2 : (a == c) = false := beq_false_of_ne e
        simp only [if_neg e, e2, Bool.or_false]
    · obtain rfl : i = ln := by omega
      have HE : Hid (Wk gw wr v u S n (ledG G p q)) := B.out.congr (fun a j => by
        rw [← HL.out, List.take_length]
        show (G a j || (l.contains a && q j)) = (G a j || (p a && q j))
        rw [HM.out])
      go_wp2_with fail
      go_end0
      exact ⟨rfl, HE, F1.out.trans F⟩

end Go.Proofs.YtojbakkbmfgoaaaDoor

namespace Go.Proofs.YtojbakkbmfgoaaaDoor
open Go.RowKit
set_option linter.unusedVariables false

set_option maxRecDepth 20000 in
set_option maxHeartbeats 4000000 in
theorem por_any (f1 l1 f2 l2 : Nat → Bool) (b1 b2 : Bool) (w : World) :
    Calls Tryd.prog 35 #[pv f1 l1 b1, pv f2 l2 b2] w fun e w' => e = .returned (pv (fun n => f1 n || f2 n) (fun n => l1 n || l2 n) (b1 || b2)) ∧ Hid (Qt w w') := by
  have hf := bits_or_u64_nat (limb f1 0) (limb f2 0) (limb_lt _ _) (limb_lt _ _)
  have hl := bits_or_u64_nat (limb l1 0) (limb l2 0) (limb_lt _ _) (limb_lt _ _)
  rw [limb_or] at hf hl
  have h3 : Hid (∀ A B C, (((w.alloc A).alloc B).alloc C).heap[w.heap.size + 1 + 1]? = some C) := by
    intro A B C
    have h := heap_alloc_new ((w.alloc A).alloc B) C
    rw [show ((w.alloc A).alloc B).heap.size = w.heap.size + 1 + 1 from by simp] at h
    exact h
  cases b1
  all_goals
    go_enter Tryd.func35, Tryd.ntmps35
    go_wp2_with fail
    refine bodyPost_ret (results_cell_row (p := 4) (ty := 64) rfl _ _ (w.heap.size + 1 + 1) 64 _ (0, 0) _ rfl (h3.out _ _ _) Tryd.underlying64 rfl (by kernel_rfl)) rfl ?_
    exact ⟨rfl, (((Qt.refl w).alloc _).alloc _).alloc _⟩

set_option maxRecDepth 20000 in
set_option maxHeartbeats 4000000 in
theorem then_any (f1 l1 f2 l2 : Nat → Bool) (b1 b2 : Bool) (gw : Nat) (v u : Value) (S : List (Nat → Bool)) (n : Nat) (G : Nat → Nat → Bool) (w : World) (hW : Hid (Wk gw w v u S n G)) (hp : ∀ i, l1 i = true → i < n) (hn : n ≤ 64) (hT : Hid (Tab w)) (h0 : 0 < gw) :
    Calls Tryd.prog 34 #[.pointer (some ⟨gw, 0, none⟩), pv f1 l1 b1, pv f2 l2 b2] w fun e w' => e = .returned (pv (fun n => f1 n || (b1 && f2 n)) (fun n => l2 n || (b2 && l1 n)) (b1 && b2)) ∧ Hid (Wk gw w' v u S n (ledG G l1 f2)) ∧ Hid (Fw gw w w') := by
  have hf := bits_or_u64_nat (limb f1 0) (limb f2 0) (limb_lt _ _) (limb_lt _ _)
  have hl := bits_or_u64_nat (limb l2 0) (limb l1 0) (limb_lt _ _) (limb_lt _ _)
  rw [limb_or] at hf hl
  have HW : Hid (gw < w.heap.size) := hW.out.lt
  have q0 : Hid (Qt w (((w.alloc (.cells #[.int .u64 (limb f1 0), .int .u64 (limb l1 0), .bool b1] 64)).alloc (.cells #[.int .u64 (limb f2 0), .int .u64 (limb l2 0), .bool b2] 64)).alloc zeros3)) := (((Qt.refl w).alloc _).alloc _).alloc _
  have B1 : Hid (B3p w.heap.size (.int .u64 (limb f1 0)) (.int .u64 (limb l1 0)) (.bool b1) (((w.alloc (.cells #[.int .u64 (limb f1 0), .int .u64 (limb l1 0), .bool b1] 64)).alloc (.cells #[.int .u64 (limb f2 0), .int .u64 (limb l2 0), .bool b2] 64)).alloc zeros3)) :=
    (B3p.mv (heap2a w _ _) (Mv.alloc (fun _ => False) _ _) (fun h => h)).out
  have B2 : Hid (B3p (w.heap.size + 1) (.int .u64 (limb f2 0)) (.int .u64 (limb l2 0)) (.bool b2) (((w.alloc (.cells #[.int .u64 (limb f1 0), .int .u64 (limb l1 0), .bool b1] 64)).alloc (.cells #[.int .u64 (limb f2 0), .int .u64 (limb l2 0), .bool b2] 64)).alloc zeros3)) :=
    (B3p.mv (heap_alloc2_new w _ _) (Mv.alloc (fun _ => False) _ _) (fun h => h)).out
  have B3 : Hid (B3p (w.heap.size + 1 + 1) (.int .u64 0) (.int .u64 0) (.bool false) (((w.alloc (.cells #[.int .u64 (limb f1 0), .int .u64 (limb l1 0), .bool b1] 64)).alloc (.cells #[.int .u64 (limb f2 0), .int .u64 (limb l2 0), .bool b2] 64)).alloc zeros3)) := by
    have h := heap_alloc_new ((w.alloc (.cells #[.int .u64 (limb f1 0), .int .u64 (limb l1 0), .bool b1] 64)).alloc (.cells #[.int .u64 (limb f2 0), .int .u64 (limb l2 0), .bool b2] 64)) zeros3
    rw [show ((w.alloc (.cells #[.int .u64 (limb f1 0), .int .u64 (limb l1 0), .bool b1] 64)).alloc (.cells #[.int .u64 (limb f2 0), .int .u64 (limb l2 0), .bool b2] 64)).heap.size = w.heap.size + 1 + 1 from by simp] at h
    exact h
  have hld := lead_any l1 f2 gw v u S n G _ (show Hid _ from hW.out.qt q0.out) hp hn (hT.out.qt q0.out) h0
  clear hW hp hT
  cases b1 <;> cases b2
  all_goals
    go_enter Tryd.func34, Tryd.ntmps34
    go_wp2_with fail
    generalize ((w.alloc (.cells #[.int .u64 (limb f1 0), .int .u64 (limb l1 0), .bool _] 64)).alloc (.cells #[.int .u64 (limb f2 0), .int .u64 (limb l2 0), .bool _] 64)).alloc zeros3 = W0 at *
    refine hld.mono ?_
    rintro e w1 ⟨rfl, W1, F1⟩
    have C1 := B3p.fw B1.out F1.out (by have := HW.out; omega)
    have C2 := B3p.fw B2.out F1.out (by have := HW.out; omega)
    have C3 := B3p.fw B3.out F1.out (by have := HW.out; omega)
    have HZ : Hid (w.heap.size + 1 + 1 < w1.heap.size) := C3.out.lt
    obtain ⟨x0, x1, x2, _, _, _⟩ := B3p.facts C1
    obtain ⟨y0, y1, y2, _, _, _⟩ := B3p.facts C2
    obtain ⟨z0, z1, z2, z3, z4, z5⟩ := B3p.facts C3
    have hsz : w.heap.size + 1 + 1 < w1.heap.size := HZ.out
    have hsz0 : w.heap.size < w1.heap.size := by have := HZ.out; omega
    have hsz1 : w.heap.size + 1 < w1.heap.size := by have := HZ.out; omega
    go_wp2_with fail
    refine bodyPost_ret (results_cell_row (p := 6) (ty := 64) rfl _ _ (w.heap.size + 1 + 1) 64 _ (0, 0) _ rfl (B3p.mv (put3_heap C3.out _ _ _) (Mv.alloc (fun _ => False) _ _) (fun h => h)).out Tryd.underlying64 rfl (by kernel_rfl)) rfl ?_
    refine ⟨by simp only [Bool.false_and, Bool.true_and, Bool.or_false], (Wk.box W1.out C3.out (by decide) (by have := HW.out; omega) (put3_mv _ _ _ _ _)).qt (Mv.alloc _ _ _), Fr.qt (Fw.box ((Fr.of_qt q0.out).trans F1.out) (put3_mv _ _ _ _ _) (by omega)) (Mv.alloc _ _ _)⟩

end Go.Proofs.YtojbakkbmfgoaaaDoor

namespace Go.Proofs.YtojbakkbmfgoaaaDoor
open Go.RowKit
set_option linter.unusedVariables false

theorem Tab.fw {gw : Nat} {w w' : World} (h : Tab w) (f : Fw gw w w') (h0 : 0 < gw) : Tab w' := h.mv f (fun e => by have := e.1; omega)
/-- What through tells. -/
def ThP (gw : Nat) (w : World) (S : List (Nat → Bool)) (G : Nat → Nat → Bool) (P : Pla) (e : Ending) (w' : World) : Prop :=
  e = .returned (pv (P.fst S.length) (P.lst S.length) P.null) ∧ ∃ v' u', Hid (Wk gw w' v' u' (S ++ P.sets) (S ++ P.sets).length (fun i j => G i j || P.fol S.length i j)) ∧ Hid (Fw gw w w')
def ThC (x : RX) : Prop := ∀ (K : Nat → Prop) (gw : Nat) (v u : Value) (S : List (Nat → Bool)) (G : Nat → Nat → Bool) (a : Option Addr) (c : Nat) (w : World), Parts x.args K w a c → (∀ j, K j → j < gw) → Hid (Wk gw w v u S S.length G) → Hid (Tab w) → 0 < gw → S.length + x.pla.cnt ≤ 60 → x.formed = true →
  Calls Tryd.prog 22 #[.pointer (some ⟨gw, 0, none⟩), .agg #[.int .i64 x.kind, .int .u64 (limb x.set 0), .int .u64 (limb x.set 1), .int .u64 (limb x.set 2), .int .u64 (limb x.set 3), .slice a x.args.length c]] w fun e w' => ThP gw w S G x.pla e w'

/-- The boxes with which through begins. -/
theorem begin_boxes (w : World) (v0 v1 v2 v3 v4 v5 : Value) : Hid (B6 w.heap.size v0 v1 v2 v3 v4 v5 ((w.alloc (.cells #[v0, v1, v2, v3, v4, v5] 29)).alloc zeros3)) ∧ Hid (B3p (w.heap.size + 1) (.int .u64 0) (.int .u64 0) (.bool false) ((w.alloc (.cells #[v0, v1, v2, v3, v4, v5] 29)).alloc zeros3)) ∧ Hid (Qt w ((w.alloc (.cells #[v0, v1, v2, v3, v4, v5] 29)).alloc zeros3)) :=
  ⟨heap2a w _ _, heap_alloc2_new w _ _, ((Qt.refl w).alloc _).alloc _⟩

set_option maxRecDepth 20000 in
set_option maxHeartbeats 4000000 in
theorem th_set (p : Nat → Bool) (l : List RX) : ThC ⟨1, p, l⟩ := by
  intro K gw v u S G a c w hp hK hW hT h0 hc hf
  obtain ⟨BR, BZ, Q0⟩ := begin_boxes w (.int .i64 1) (.int .u64 (limb p 0)) (.int .u64 (limb p 1)) (.int .u64 (limb p 2)) (.int .u64 (limb p 3)) (.slice a l.length c)
  rw [pla_set] at hc ⊢
  have hadd := add_any p gw v u S G _ (show Hid _ from hW.out.qt Q0.out) (by have : (oneP p).cnt = 1 := rfl; omega)
  have HW : Hid (gw < w.heap.size) := hW.out.lt
  obtain ⟨k0, k1, k2, k3, k4, k5, _⟩ := B6.facts BR
  clear hp hK hW hT hc hf
  go_enter Tryd.func22, Tryd.ntmps22
  go_wp2_with fail
  generalize ((w.alloc (.cells #[.int .i64 1, .int .u64 (limb p 0), .int .u64 (limb p 1), .int .u64 (limb p 2), .int .u64 (limb p 3), .slice a l.length c] 29)).alloc zeros3) = W0 at *
  refine hadd.mono ?_
  rintro e w1 ⟨rfl, v', u', W1, F1⟩
  have C1 := B3p.fw BZ.out F1.out (by have := HW.out; omega)
  obtain ⟨z0, z1, z2, z3, z4, z5⟩ := B3p.facts C1
  clear k0 k1 k2 k3 k4 k5 hadd
  go_wp2_with fail
  refine bodyPost_ret (results_cell_row (p := 4) (ty := 64) rfl _ _ (w.heap.size + 1) 64 _ (0, 0) _ rfl (put3_heap C1.out _ _ _) Tryd.underlying64 rfl (by kernel_rfl)) rfl ?_
  have W2 := Wk.box W1.out C1.out (by decide) (by have := HW.out; omega) (put3_mv _ _ (.int .u64 (limb (fun n => n == S.length) 0)) (.int .u64 (limb (fun n => n == S.length) 0)) (.bool false))
  refine ⟨rfl, v', u', ?_, Fw.box ((Fr.of_qt Q0.out).trans F1.out) (put3_mv _ _ _ _ _) (by omega)⟩
  show Wk _ _ _ _ _ _ _
  have e : (S ++ (oneP p).sets).length = S.length + 1 := by simp [oneP]
  rw [e]
  exact W2.congr (fun i j => by simp [oneP])

end Go.Proofs.YtojbakkbmfgoaaaDoor

namespace Go.Proofs.YtojbakkbmfgoaaaDoor
open Go.RowKit
set_option linter.unusedVariables false

theorem B3p.new (w : World) (v0 v1 v2 : Value) : Hid (B3p w.heap.size v0 v1 v2 (w.alloc (.cells #[v0, v1, v2] 64))) := heap_alloc_new w _
/-- It is told. -/
theorem ThP.tell {gw g : Nat} {w W : World} {v' u' u0 u1 u2 : Value} {S : List (Nat → Bool)} {G H : Nat → Nat → Bool} {P : Pla} (hW : Hid (Wk gw W v' u' (S ++ P.sets) (S ++ P.sets).length H)) (e : ∀ i j, H i j = (G i j || P.fol S.length i j)) (C : Hid (B3p g u0 u1 u2 W)) (hg : g ≠ gw) (F : Hid (Fw gw w W)) (hl : w.heap.size ≤ g) :
    ThP gw w S G P (.returned (pv (P.fst S.length) (P.lst S.length) P.null)) (put3 W g (.int .u64 (limb (P.fst S.length) 0)) (.int .u64 (limb (P.lst S.length) 0)) (.bool P.null)) :=
  ⟨rfl, v', u', (Wk.box hW.out C.out (by decide) hg (put3_mv _ _ _ _ _)).congr e, Fw.box F.out (put3_mv _ _ _ _ _) hl⟩
theorem ThP.qt {gw : Nat} {w W W' : World} {S : List (Nat → Bool)} {G : Nat → Nat → Bool} {P : Pla} {e : Ending} (h : ThP gw w S G P e W) (q : Qt W W') : ThP gw w S G P e W' := by
  obtain ⟨e, v', u', h1, h2⟩ := h
  exact ⟨e, v', u', h1.out.qt q, Fr.qt h2.out q⟩

set_option maxRecDepth 20000 in
set_option maxHeartbeats 4000000 in
theorem th_sign4 (p : Nat → Bool) (x : RX) (IH : ThC x) (hxf : x.formed = true) : ThC ⟨4, p, [x]⟩ := by
  intro K gw v u S G a c w hp hK hW hT h0 hc hf
  obtain ⟨BR, BZ, Q0⟩ := begin_boxes w (.int .i64 4) (.int .u64 (limb p 0)) (.int .u64 (limb p 1)) (.int .u64 (limb p 2)) (.int .u64 (limb p 3)) (.slice a 1 c)
  rw [pla_sign 4 (by decide), sign_cnt] at hc
  rw [pla_sign 4 (by decide)]
  obtain ⟨b, o, a', c', ha, hp2, q0, q1, q2, q3, q4, q5⟩ := (hp.mv Q0.out (fun _ _ h => h)).first
  subst ha
  have hth := IH K gw v u S G a' c' _ hp2 hK (show Hid _ from hW.out.qt Q0.out) (hT.out.qt Q0.out) h0 hc hxf
  have HW : Hid (gw < w.heap.size) := hW.out.lt
  have HT : Hid (Tab w) := hT
  have HFI : Hid (x.pla.Fine) := pla_fine x
  have HC : Hid (S.length + x.pla.cnt ≤ 60) := hc
  have H0 : Hid (0 < gw) := h0
  obtain ⟨k0, k1, k2, k3, k4, k5, _⟩ := B6.facts BR
  clear hp hp2 hK hW hT hc hf hxf IH h0
  generalize x.pla = P at *
  generalize limb p 0 = y0 at *
  generalize limb p 1 = y1 at *
  generalize limb p 2 = y2 at *
  generalize limb p 3 = y3 at *
  show Calls Tryd.prog 22 #[.pointer (some ⟨gw, 0, none⟩), .agg #[.int .i64 4, .int .u64 y0, .int .u64 y1, .int .u64 y2, .int .u64 y3, .slice (some ⟨b, o, none⟩) 1 c]] w fun e w' => ThP gw w S G (signP 4 P) e w'
  go_enter Tryd.func22, Tryd.ntmps22
  go_wp2_with fail
  generalize ((w.alloc (.cells #[.int .i64 4, .int .u64 y0, .int .u64 y1, .int .u64 y2, .int .u64 y3, .slice (some ⟨b, o, none⟩) 1 c] 29)).alloc zeros3) = W0 at *
  refine hth.mono ?_
  rintro e w1 ⟨rfl, v', u', W1, F1⟩
  have BN := B3p.new w1 (.int .u64 (limb (P.fst S.length) 0)) (.int .u64 (limb (P.lst S.length) 0)) (.bool P.null)
  have QN : Hid (Qt w1 (w1.alloc (.cells #[.int .u64 (limb (P.fst S.length) 0), .int .u64 (limb (P.lst S.length) 0), .bool P.null] 64))) := Mv.alloc _ _ _
  have F2 : Hid (Fw gw W0 (w1.alloc (.cells #[.int .u64 (limb (P.fst S.length) 0), .int .u64 (limb (P.lst S.length) 0), .bool P.null] 64))) := Fr.qt F1.out QN.out
  have HS : Hid ((S ++ P.sets).length = S.length + P.cnt) := by show _ = _; rw [List.length_append, HFI.out.len]
  have HG : Hid (gw < w1.heap.size) := W1.out.lt
  have hsz : w.heap.size + 1 < w1.heap.size := Nat.lt_of_lt_of_le BZ.out.lt F1.out.size
  have C0 := B6.fw BR.out F2.out (by have := HW.out; omega)
  have CZ := B3p.fw BZ.out F2.out (by have := HW.out; omega)
  obtain ⟨m0, m1, m2, m3, m4, m5, _⟩ := B6.facts C0
  obtain ⟨n0, n1, n2, n3, n4, n5⟩ := B3p.facts BN
  clear hth k0 k1 k2 k3 k4 k5 q0 q1 q2 q3 q4 q5
  have hld := lead_any (P.lst S.length) (P.fst S.length) gw v' u' (S ++ P.sets) (S ++ P.sets).length _ _ (show Hid _ from W1.out.qt QN.out) (fun i hi => by have := HFI.out.lst _ _ hi; rw [HS.out]; omega) (by rw [HS.out]; have := HC.out; omega) ((HT.out.qt Q0.out).fw F2.out H0.out) H0.out
  go_wp2_with fail
  generalize w1.alloc (.cells #[.int .u64 (limb (P.fst S.length) 0), .int .u64 (limb (P.lst S.length) 0), .bool P.null] 64) = W2 at *
  refine hld.mono ?_
  rintro e w3 ⟨rfl, W3, F3⟩
  have BN3 := B3p.fw BN.out F3.out (by have := HG.out; omega)
  have C3 := B3p.fw CZ.out F3.out (by have := HW.out; omega)
  have F4 : Hid (Fw gw w w3) := (Fr.of_qt Q0.out).trans (Fr.trans F2.out F3.out)
  obtain ⟨z0, z1, z2, z3, z4, z5⟩ := B3p.facts C3
  obtain ⟨x0, x1, x2, x3, x4, x5⟩ := B3p.facts BN3
  clear m0 m1 m2 m3 m4 m5 n0 n1 n2 n3 n4 n5 hld
  go_wp2_with fail
  have MS := Mv.setCell w3 ⟨w1.heap.size, 2, none⟩ (.bool true)
  have C4 := B3p.mv C3.out MS (by show ¬ w.heap.size + 1 = w1.heap.size; omega)
  have W4 : Hid (Wk gw (w3.setCell ⟨w1.heap.size, 2, none⟩ (.bool true)) v' u' (S ++ P.sets) (S ++ P.sets).length _) := Wk.box W3.out BN3.out (by decide) (by have := HG.out; omega) MS
  have F5 : Hid (Fw gw w (w3.setCell ⟨w1.heap.size, 2, none⟩ (.bool true))) := Fw.box F4.out MS (by show w.heap.size ≤ w1.heap.size; omega)
  refine bodyPost_ret (results_cell_row (p := 4) (ty := 64) rfl _ _ (w.heap.size + 1) 64 _ (0, 0) _ rfl (put3_heap C4.out _ _ _) Tryd.underlying64 rfl (by kernel_rfl)) rfl ?_
  exact ThP.tell (P := signP 4 P) W4 (fun i j => by simp [signP, optP, againP, ledG, Bool.or_assoc]) C4 (by have := HW.out; omega) F5 (by omega)

set_option maxRecDepth 20000 in
set_option maxHeartbeats 4000000 in
theorem th_sign5 (p : Nat → Bool) (x : RX) (IH : ThC x) (hxf : x.formed = true) : ThC ⟨5, p, [x]⟩ := by
  intro K gw v u S G a c w hp hK hW hT h0 hc hf
  obtain ⟨BR, BZ, Q0⟩ := begin_boxes w (.int .i64 5) (.int .u64 (limb p 0)) (.int .u64 (limb p 1)) (.int .u64 (limb p 2)) (.int .u64 (limb p 3)) (.slice a 1 c)
  rw [pla_sign 5 (by decide), sign_cnt] at hc
  rw [pla_sign 5 (by decide)]
  obtain ⟨b, o, a', c', ha, hp2, q0, q1, q2, q3, q4, q5⟩ := (hp.mv Q0.out (fun _ _ h => h)).first
  subst ha
  have hth := IH K gw v u S G a' c' _ hp2 hK (show Hid _ from hW.out.qt Q0.out) (hT.out.qt Q0.out) h0 hc hxf
  have HW : Hid (gw < w.heap.size) := hW.out.lt
  have HT : Hid (Tab w) := hT
  have HFI : Hid (x.pla.Fine) := pla_fine x
  have HC : Hid (S.length + x.pla.cnt ≤ 60) := hc
  have H0 : Hid (0 < gw) := h0
  obtain ⟨k0, k1, k2, k3, k4, k5, _⟩ := B6.facts BR
  clear hp hp2 hK hW hT hc hf hxf IH h0
  generalize x.pla = P at *
  generalize limb p 0 = y0 at *
  generalize limb p 1 = y1 at *
  generalize limb p 2 = y2 at *
  generalize limb p 3 = y3 at *
  show Calls Tryd.prog 22 #[.pointer (some ⟨gw, 0, none⟩), .agg #[.int .i64 5, .int .u64 y0, .int .u64 y1, .int .u64 y2, .int .u64 y3, .slice (some ⟨b, o, none⟩) 1 c]] w fun e w' => ThP gw w S G (signP 5 P) e w'
  go_enter Tryd.func22, Tryd.ntmps22
  go_wp2_with fail
  generalize ((w.alloc (.cells #[.int .i64 5, .int .u64 y0, .int .u64 y1, .int .u64 y2, .int .u64 y3, .slice (some ⟨b, o, none⟩) 1 c] 29)).alloc zeros3) = W0 at *
  refine hth.mono ?_
  rintro e w1 ⟨rfl, v', u', W1, F1⟩
  have BN := B3p.new w1 (.int .u64 (limb (P.fst S.length) 0)) (.int .u64 (limb (P.lst S.length) 0)) (.bool P.null)
  have QN : Hid (Qt w1 (w1.alloc (.cells #[.int .u64 (limb (P.fst S.length) 0), .int .u64 (limb (P.lst S.length) 0), .bool P.null] 64))) := Mv.alloc _ _ _
  have F2 : Hid (Fw gw W0 (w1.alloc (.cells #[.int .u64 (limb (P.fst S.length) 0), .int .u64 (limb (P.lst S.length) 0), .bool P.null] 64))) := Fr.qt F1.out QN.out
  have HS : Hid ((S ++ P.sets).length = S.length + P.cnt) := by show _ = _; rw [List.length_append, HFI.out.len]
  have HG : Hid (gw < w1.heap.size) := W1.out.lt
  have hsz : w.heap.size + 1 < w1.heap.size := Nat.lt_of_lt_of_le BZ.out.lt F1.out.size
  have C0 := B6.fw BR.out F2.out (by have := HW.out; omega)
  have CZ := B3p.fw BZ.out F2.out (by have := HW.out; omega)
  obtain ⟨m0, m1, m2, m3, m4, m5, _⟩ := B6.facts C0
  obtain ⟨n0, n1, n2, n3, n4, n5⟩ := B3p.facts BN
  clear hth k0 k1 k2 k3 k4 k5 q0 q1 q2 q3 q4 q5
  have hld := lead_any (P.lst S.length) (P.fst S.length) gw v' u' (S ++ P.sets) (S ++ P.sets).length _ _ (show Hid _ from W1.out.qt QN.out) (fun i hi => by have := HFI.out.lst _ _ hi; rw [HS.out]; omega) (by rw [HS.out]; have := HC.out; omega) ((HT.out.qt Q0.out).fw F2.out H0.out) H0.out
  go_wp2_with fail
  generalize w1.alloc (.cells #[.int .u64 (limb (P.fst S.length) 0), .int .u64 (limb (P.lst S.length) 0), .bool P.null] 64) = W2 at *
  refine hld.mono ?_
  rintro e w3 ⟨rfl, W3, F3⟩
  have BN3 := B3p.fw BN.out F3.out (by have := HG.out; omega)
  have C3 := B3p.fw CZ.out F3.out (by have := HW.out; omega)
  have F4 : Hid (Fw gw w w3) := (Fr.of_qt Q0.out).trans (Fr.trans F2.out F3.out)
  obtain ⟨z0, z1, z2, z3, z4, z5⟩ := B3p.facts C3
  obtain ⟨x0, x1, x2, x3, x4, x5⟩ := B3p.facts BN3
  clear m0 m1 m2 m3 m4 m5 n0 n1 n2 n3 n4 n5 hld
  go_wp2_with fail
  refine bodyPost_ret (results_cell_row (p := 4) (ty := 64) rfl _ _ (w.heap.size + 1) 64 _ (0, 0) _ rfl (put3_heap C3.out _ _ _) Tryd.underlying64 rfl (by kernel_rfl)) rfl ?_
  exact ThP.tell (P := signP 5 P) W3 (fun i j => by simp [signP, againP, ledG, Bool.or_assoc]) C3 (by have := HW.out; omega) F4 (by omega)

set_option maxRecDepth 20000 in
set_option maxHeartbeats 4000000 in
theorem th_sign6 (p : Nat → Bool) (x : RX) (IH : ThC x) (hxf : x.formed = true) : ThC ⟨6, p, [x]⟩ := by
  intro K gw v u S G a c w hp hK hW hT h0 hc hf
  obtain ⟨BR, BZ, Q0⟩ := begin_boxes w (.int .i64 6) (.int .u64 (limb p 0)) (.int .u64 (limb p 1)) (.int .u64 (limb p 2)) (.int .u64 (limb p 3)) (.slice a 1 c)
  rw [pla_sign 6 (by decide), sign_cnt] at hc
  rw [pla_sign 6 (by decide)]
  obtain ⟨b, o, a', c', ha, hp2, q0, q1, q2, q3, q4, q5⟩ := (hp.mv Q0.out (fun _ _ h => h)).first
  subst ha
  have hth := IH K gw v u S G a' c' _ hp2 hK (show Hid _ from hW.out.qt Q0.out) (hT.out.qt Q0.out) h0 hc hxf
  have HW : Hid (gw < w.heap.size) := hW.out.lt
  have HT : Hid (Tab w) := hT
  have HFI : Hid (x.pla.Fine) := pla_fine x
  have HC : Hid (S.length + x.pla.cnt ≤ 60) := hc
  have H0 : Hid (0 < gw) := h0
  obtain ⟨k0, k1, k2, k3, k4, k5, _⟩ := B6.facts BR
  clear hp hp2 hK hW hT hc hf hxf IH h0
  generalize x.pla = P at *
  generalize limb p 0 = y0 at *
  generalize limb p 1 = y1 at *
  generalize limb p 2 = y2 at *
  generalize limb p 3 = y3 at *
  show Calls Tryd.prog 22 #[.pointer (some ⟨gw, 0, none⟩), .agg #[.int .i64 6, .int .u64 y0, .int .u64 y1, .int .u64 y2, .int .u64 y3, .slice (some ⟨b, o, none⟩) 1 c]] w fun e w' => ThP gw w S G (signP 6 P) e w'
  go_enter Tryd.func22, Tryd.ntmps22
  go_wp2_with fail
  generalize ((w.alloc (.cells #[.int .i64 6, .int .u64 y0, .int .u64 y1, .int .u64 y2, .int .u64 y3, .slice (some ⟨b, o, none⟩) 1 c] 29)).alloc zeros3) = W0 at *
  refine hth.mono ?_
  rintro e w1 ⟨rfl, v', u', W1, F1⟩
  have BN := B3p.new w1 (.int .u64 (limb (P.fst S.length) 0)) (.int .u64 (limb (P.lst S.length) 0)) (.bool P.null)
  have QN : Hid (Qt w1 (w1.alloc (.cells #[.int .u64 (limb (P.fst S.length) 0), .int .u64 (limb (P.lst S.length) 0), .bool P.null] 64))) := Mv.alloc _ _ _
  have F2 : Hid (Fw gw W0 (w1.alloc (.cells #[.int .u64 (limb (P.fst S.length) 0), .int .u64 (limb (P.lst S.length) 0), .bool P.null] 64))) := Fr.qt F1.out QN.out
  have HS : Hid ((S ++ P.sets).length = S.length + P.cnt) := by show _ = _; rw [List.length_append, HFI.out.len]
  have HG : Hid (gw < w1.heap.size) := W1.out.lt
  have hsz : w.heap.size + 1 < w1.heap.size := Nat.lt_of_lt_of_le BZ.out.lt F1.out.size
  have C0 := B6.fw BR.out F2.out (by have := HW.out; omega)
  have CZ := B3p.fw BZ.out F2.out (by have := HW.out; omega)
  obtain ⟨m0, m1, m2, m3, m4, m5, _⟩ := B6.facts C0
  obtain ⟨n0, n1, n2, n3, n4, n5⟩ := B3p.facts BN
  clear hth k0 k1 k2 k3 k4 k5 q0 q1 q2 q3 q4 q5
  have CW := B3p.fw BZ.out F1.out (by have := HW.out; omega)
  obtain ⟨z0, z1, z2, z3, z4, z5⟩ := B3p.facts CW
  have F5 : Hid (Fw gw w w1) := (Fr.of_qt Q0.out).trans F1.out
  go_wp2_with fail
  refine bodyPost_ret (results_cell_row (p := 4) (ty := 64) rfl _ _ (w.heap.size + 1) 64 _ (0, 0) _ rfl (B3p.mv (put3_heap CW.out _ _ _) (Mv.alloc (fun _ => False) _ _) (fun h => h)).out Tryd.underlying64 rfl (by kernel_rfl)) rfl ?_
  exact ThP.qt (ThP.tell (P := signP 6 P) W1 (fun i j => by simp [signP, optP]) CW (by have := HW.out; omega) F5 (by omega)) (Mv.alloc _ _ _)

end Go.Proofs.YtojbakkbmfgoaaaDoor

namespace Go.Proofs.YtojbakkbmfgoaaaDoor
open Go.RowKit
set_option linter.unusedVariables false
attribute [local go_sem ↓] Go.wp_at_zero Go.wp_at_succ

/-- While parts are gone through: what there is at a world. -/
structure Tl (gw gp : Nat) (w wr : World) (S : List (Nat → Bool)) (G : Nat → Nat → Bool) (P : Pla) (v u : Value) (r0 r1 r2 r3 r4 r5 : Value) : Prop where
  wk : Wk gw wr v u (S ++ P.sets) (S ++ P.sets).length (fun i j => G i j || P.fol S.length i j)
  box : B3p gp (.int .u64 (limb (P.fst S.length) 0)) (.int .u64 (limb (P.lst S.length) 0)) (.bool P.null) wr
  fw : Fw gw w wr
  rb : B6 w.heap.size r0 r1 r2 r3 r4 r5 wr
  zb : B3p (w.heap.size + 1) (.int .u64 0) (.int .u64 0) (.bool false) wr
  lo : gw < w.heap.size ∧ w.heap.size + 1 < gp
theorem Tl.next {gw gp : Nat} {w wr w9 : World} {S : List (Nat → Bool)} {G : Nat → Nat → Bool} {P Q : Pla} {v u v8 u8 r0 r1 r2 r3 r4 r5 : Value} (h : Hid (Tl gw gp w wr S G P v u r0 r1 r2 r3 r4 r5)) (F : Fw gw wr w9) (W9 : Wk gw w9 v8 u8 (S ++ Q.sets) (S ++ Q.sets).length (fun i j => G i j || Q.fol S.length i j)) :
    Hid (Tl gw gp w (put3 w9 gp (.int .u64 (limb (Q.fst S.length) 0)) (.int .u64 (limb (Q.lst S.length) 0)) (.bool Q.null)) S G Q v8 u8 r0 r1 r2 r3 r4 r5) := by
  have hlo := h.out.lo
  have BX := B3p.fw h.out.box F (by omega)
  have m := put3_mv w9 gp (.int .u64 (limb (Q.fst S.length) 0)) (.int .u64 (limb (Q.lst S.length) 0)) (.bool Q.null)
  exact ⟨Wk.box W9 BX.out (by decide) (by omega) m, put3_heap BX.out _ _ _, Fw.box (h.out.fw.trans F) m (by omega), (B6.mv (B6.fw h.out.rb F (by omega)).out m (by omega)).out, (B3p.mv (B3p.fw h.out.zb F (by omega)).out m (by omega)).out, hlo⟩
theorem then_next {gw : Nat} {w9 : World} {S : List (Nat → Bool)} {G : Nat → Nat → Bool} {P Y : Pla} {v8 u8 : Value} (hP : P.Fine) (W9 : Wk gw w9 v8 u8 ((S ++ P.sets) ++ Y.sets) ((S ++ P.sets) ++ Y.sets).length (ledG (fun i j => (G i j || P.fol S.length i j) || Y.fol (S ++ P.sets).length i j) (P.lst S.length) (Y.fst (S.length + P.sets.length)))) :
    Wk gw w9 v8 u8 (S ++ (thenP P Y).sets) (S ++ (thenP P Y).sets).length (fun i j => G i j || (thenP P Y).fol S.length i j) := by
  show Wk gw w9 v8 u8 (S ++ (P.sets ++ Y.sets)) (S ++ (P.sets ++ Y.sets)).length _
  rw [← List.append_assoc]
  refine W9.congr (fun i j => ?_)
  unfold ledG thenP
  rw [List.length_append, hP.len]
  simp [Bool.or_assoc]
theorem or_next {gw : Nat} {w9 : World} {S : List (Nat → Bool)} {G : Nat → Nat → Bool} {P Y : Pla} {v8 u8 : Value} (hP : P.Fine) (W9 : Wk gw w9 v8 u8 ((S ++ P.sets) ++ Y.sets) ((S ++ P.sets) ++ Y.sets).length (fun i j => (G i j || P.fol S.length i j) || Y.fol (S ++ P.sets).length i j)) :
    Wk gw w9 v8 u8 (S ++ (orP P Y).sets) (S ++ (orP P Y).sets).length (fun i j => G i j || (orP P Y).fol S.length i j) := by
  show Wk gw w9 v8 u8 (S ++ (P.sets ++ Y.sets)) (S ++ (P.sets ++ Y.sets)).length _
  rw [← List.append_assoc]
  refine W9.congr (fun i j => ?_)
  unfold orP
  rw [List.length_append, hP.len]
  simp [Bool.or_assoc]

set_option maxRecDepth 20000 in
set_option maxHeartbeats 8000000 in
theorem th_cat (p : Nat → Bool) (x : RX) (l : List RX) (hl0 : 1 ≤ l.length) (hl : l.length < 100000) (IH : ∀ y ∈ x :: l, ThC y ∧ y.formed = true) : ThC ⟨2, p, x :: l⟩ := by
  intro K gw v u S G a c w hp hK hW hT h0 hc hf
  obtain ⟨BR, BZ, Q0⟩ := begin_boxes w (.int .i64 2) (.int .u64 (limb p 0)) (.int .u64 (limb p 1)) (.int .u64 (limb p 2)) (.int .u64 (limb p 3)) (.slice a (l.length + 1) c)
  have HE : Hid (JP thenP eP (x :: l) (x :: l).length = RX.pla ⟨2, p, x :: l⟩) := JP_then (x :: l) p
  rw [← HE.out] at hc ⊢
  have HP : Hid (Parts (x :: l) K w a c) := hp
  have HX : Hid _ := IH
  have HK : Hid (∀ j, K j → j < gw) := hK
  have hcap : l.length + 1 ≤ c := by obtain ⟨ys, _, h, _⟩ := hp; exact h
  have hc1 : c ≠ 1 := by omega
  have hc2 : (c = 1) = False := eq_false hc1
  have HC : Hid (S.length + (JP thenP eP (x :: l) (x :: l).length).cnt ≤ 60) := hc
  have HJ : Hid (∀ i, S.length + (JP thenP eP (x :: l) i).cnt ≤ 60) := fun i => by have := JP_cnt (g := thenP) (fun _ _ => rfl) eP (x :: l) i; omega
  have HF : Hid (∀ i, (JP thenP eP (x :: l) i).Fine) := fun i => JP_fine thenP_fine eP_fine (x :: l) i
  obtain ⟨b, o, a', c', ha, hp2, q0, q1, q2, q3, q4, q5⟩ := (hp.mv Q0.out (fun _ _ h => h)).first
  subst ha
  have hth := (IH x (by simp)).1 K gw v u S G a' c' _ hp2 hK (show Hid _ from hW.out.qt Q0.out) (hT.out.qt Q0.out) h0 (by have := HJ.out 1; rw [JP_then1] at this; exact this) (IH x (by simp)).2
  rw [← JP_then1 x l] at hth
  have HW : Hid (gw < w.heap.size) := hW.out.lt
  have HT : Hid (Tab w) := hT
  have H0 : Hid (0 < gw) := h0
  have hlen : l.length < 100000 := hl
  obtain ⟨k0, k1, k2, k3, k4, k5, _⟩ := B6.facts BR
  clear hp hp2 hK hW hT hc hf IH h0 hl
  generalize limb p 0 = y0 at *
  generalize limb p 1 = y1 at *
  generalize limb p 2 = y2 at *
  generalize limb p 3 = y3 at *
  show Calls Tryd.prog 22 #[.pointer (some ⟨gw, 0, none⟩), .agg #[.int .i64 2, .int .u64 y0, .int .u64 y1, .int .u64 y2, .int .u64 y3, .slice (some ⟨b, o, none⟩) (l.length + 1) c]] w fun e w' => ThP gw w S G (JP thenP eP (x :: l) (l.length + 1)) e w'
  go_enter Tryd.func22, Tryd.ntmps22
  go_wp2_with fail
  generalize ((w.alloc (.cells #[.int .i64 2, .int .u64 y0, .int .u64 y1, .int .u64 y2, .int .u64 y3, .slice (some ⟨b, o, none⟩) (l.length + 1) c] 29)).alloc zeros3) = W0 at *
  refine hth.mono ?_
  rintro e w1 ⟨rfl, v', u', W1, F1⟩
  have B0 : Hid (Tl gw w1.heap.size w (w1.alloc (.cells #[.int .u64 (limb ((JP thenP eP (x :: l) 1).fst S.length) 0), .int .u64 (limb ((JP thenP eP (x :: l) 1).lst S.length) 0), .bool (JP thenP eP (x :: l) 1).null] 64)) S G (JP thenP eP (x :: l) 1) v' u' (.int .i64 2) (.int .u64 y0) (.int .u64 y1) (.int .u64 y2) (.int .u64 y3) (.slice (some ⟨b, o, none⟩) (l.length + 1) c)) := by
    have MN := Mv.alloc (fun _ => False) w1 (.cells #[.int .u64 (limb ((JP thenP eP (x :: l) 1).fst S.length) 0), .int .u64 (limb ((JP thenP eP (x :: l) 1).lst S.length) 0), .bool (JP thenP eP (x :: l) 1).null] 64)
    have hw1 := Nat.lt_of_lt_of_le BZ.out.lt F1.out.size
    exact ⟨W1.out.qt MN, (B3p.new w1 _ _ _).out, (Fr.of_qt Q0.out).trans (Fr.qt F1.out MN), (B6.fw BR.out (Fr.qt F1.out MN) (by have := HW.out; omega)).out, (B3p.fw BZ.out (Fr.qt F1.out MN) (by have := HW.out; omega)).out, HW.out, hw1⟩
  clear k0 k1 k2 k3 k4 k5 q0 q1 q2 q3 q4 q5 hth W1 F1 BR BZ
  have hw1' : ∃ gp, gp = w1.heap.size := ⟨_, rfl⟩
  obtain ⟨k0, k1, k2, k3, k4, k5, _⟩ := B6.facts (show Hid _ from B0.out.rb)
  go_wp2_with fail
  clear k0 k1 k2 k3 k4 k5
  generalize w1.alloc (.cells #[.int .u64 (limb ((JP thenP eP (x :: l) 1).fst S.length) 0), .int .u64 (limb ((JP thenP eP (x :: l) 1).lst S.length) 0), .bool (JP thenP eP (x :: l) 1).null] 64) = V0 at *
  generalize w1.heap.size = gp at *
  go_loopw [31] (fun s31 wr => ∃ (i : Nat) (v u : Value), i ≤ l.length ∧ s31 = .int .i64 i ∧ Hid (Tl gw gp w wr S G (JP thenP eP (x :: l) (i + 1)) v u (.int .i64 2) (.int .u64 y0) (.int .u64 y1) (.int .u64 y2) (.int .u64 y3) (.slice (some ⟨b, o, none⟩) (l.length + 1) c))) (fun s31 _ => l.length - (intOf s31).toNat)
  case atStart => exact ⟨0, v', u', by omega, rfl, B0⟩
  case round =>
    obtain ⟨i, v2, u2, hi, rfl, B⟩ := hrel
    clear B0
    by_cases hlt : i < l.length
    · obtain ⟨y, hy⟩ : ∃ y, l[i]? = some y := ⟨_, List.getElem?_eq_getElem hlt⟩
      have hmem : y ∈ x :: l := List.mem_cons_of_mem _ (List.mem_of_getElem? hy)
      have hyy : (x :: l)[i + 1]? = some y := by rw [List.getElem?_cons_succ]; exact hy
      have PR : Parts (x :: l) K wr (some ⟨b, o, none⟩) c := Fr.parts B.out.fw HP.out HK.out
      obtain ⟨b', o', a2, c2, hab, hp2, q0, q1, q2, q3, q4, q5⟩ := PR.at (i := i + 1) (x := y) hyy
      have hab2 : b' = b ∧ o' = o := by have := Option.some.inj hab; injection this with e1 e2; exact ⟨e1.symm, e2.symm⟩
      obtain ⟨rfl, rfl⟩ := hab2
      clear hab
      rw [show o' + (i + 1) * 6 = o' + 6 + i * 6 by omega] at q0 q1 q2 q3 q4 q5
      have HQ : Hid (Qt wr ((wr.alloc (.cells #[.int .i64 y.kind, .int .u64 (limb y.set 0), .int .u64 (limb y.set 1), .int .u64 (limb y.set 2), .int .u64 (limb y.set 3), .slice a2 y.args.length c2] 29)).drew)) := Qt.drew ((Qt.refl wr).alloc _)
      have PX : Hid (B6 wr.heap.size (.int .i64 y.kind) (.int .u64 (limb y.set 0)) (.int .u64 (limb y.set 1)) (.int .u64 (limb y.set 2)) (.int .u64 (limb y.set 3)) (.slice a2 y.args.length c2) (wr.alloc (.cells #[.int .i64 y.kind, .int .u64 (limb y.set 0), .int .u64 (limb y.set 1), .int .u64 (limb y.set 2), .int .u64 (limb y.set 3), .slice a2 y.args.length c2] 29))) := heap_alloc_new wr _
      have HJS : Hid (JP thenP eP (x :: l) (i + 1 + 1) = thenP (JP thenP eP (x :: l) (i + 1)) y.pla) := JP_succ thenP eP hyy
      have HJ2 : Hid (S.length + ((JP thenP eP (x :: l) (i + 1)).cnt + y.pla.cnt) ≤ 60) := by have := HJ.out (i + 1 + 1); rw [HJS.out] at this; exact this
      have HF1 := HF.out (i + 1)
      have HS : Hid ((S ++ (JP thenP eP (x :: l) (i + 1)).sets).length = S.length + (JP thenP eP (x :: l) (i + 1)).cnt) := by show _ = _; rw [List.length_append, HF1.len]
      have hth := (HX.out y hmem).1 K gw v2 u2 _ _ a2 c2 _ (hp2.mv HQ.out (fun _ _ h => h)) HK.out (show Hid _ from B.out.wk.qt HQ.out) (((HT.out.qt (Qt.refl w)).fw B.out.fw H0.out).qt HQ.out) H0.out (by rw [HS.out]; have := HJ2.out; omega) (HX.out y hmem).2
      have HFY : Hid (y.pla.Fine) := pla_fine y
      have HFI : Hid (Pla.Fine (JP thenP eP (x :: l) (i + 1))) := HF1
      have hgp := B.out.lo.2
      have hgp1 : gp < wr.heap.size := B.out.box.lt
      obtain ⟨x0, x1, x2, x3, x4, x5⟩ := B3p.facts (show Hid _ from B.out.box)
      obtain ⟨r0, r1, r2, r3, r4, r5, _⟩ := B6.facts (show Hid _ from B.out.rb)
      obtain ⟨d0, d1, d2, d3, d4, d5, _⟩ := B6.facts PX
      clear hp2 PR hmem hyy HF1
      generalize JP thenP eP (x :: l) (i + 1) = P at *
      generalize y.pla = Y at *
      have HB : Hid (Tl gw gp w wr S G P v2 u2 (.int .i64 2) (.int .u64 y0) (.int .u64 y1) (.int .u64 y2) (.int .u64 y3) (.slice (some ⟨b', o', none⟩) (l.length + 1) c)) := B
      have HPL : Hid (∀ i, P.lst S.length i = true → i < S.length + P.cnt) := fun i hi => by have := HFI.out.lst _ _ hi; omega
      have HTB : Hid (Tab wr) := (HT.out.qt (Qt.refl w)).fw B.out.fw H0.out
      go_wp2_with fail
      go_region_with ((first
        | (go_at_call 22; refine hth.mono ?_; rintro e8 w8 ⟨rfl, v8, u8, W8, F8⟩; have FA : Hid (Fw gw wr w8) := (Fr.of_qt HQ.out).trans F8.out; have BX := B3p.fw HB.out.box FA.out (by have := HB.out.lo; omega); obtain ⟨g0, g1, g2, g3, g4, g5⟩ := B3p.facts BX)
        | (go_at_call 34; refine (then_any (P.fst S.length) (P.lst S.length) (Y.fst (S.length + P.sets.length)) (Y.lst (S.length + P.sets.length)) P.null Y.null gw v8 u8 _ _ _ w8 W8 (fun i hi => by have := HPL.out i hi; rw [List.length_append, HS.out]; omega) (by rw [List.length_append, HS.out, HFY.out.len]; have := HJ2.out; omega) (HTB.out.fw FA.out H0.out) H0.out).mono ?_; rintro e9 w9 ⟨rfl, W9, F9⟩; have BY := B3p.fw BX.out F9.out (by have := HB.out.lo; omega); obtain ⟨h0, h1, h2, h3, h4, h5⟩ := B3p.facts BY)))
      all_goals go_wp2_with fail
      all_goals (refine ⟨⟨i + 1, v8, u8, by omega, by go_num, ?_⟩, by simp [intOf]; omega⟩; rw [HJS.out, HFI.out.len]; exact Tl.next (Q := thenP P Y) HB (FA.out.trans F9.out) (then_next HFI.out W9.out))
    · obtain rfl : i = l.length := by omega
      obtain ⟨x0, x1, x2, x3, x4, x5⟩ := B3p.facts (show Hid _ from B.out.box)
      obtain ⟨z0, z1, z2, z3, z4, z5⟩ := B3p.facts (show Hid _ from B.out.zb)
      have BZ2 : Hid (B3p (w.heap.size + 1) (.int .u64 0) (.int .u64 0) (.bool false) wr) := B.out.zb
      have FF : Hid (Fw gw w wr) := B.out.fw
      have WW : Hid (Wk gw wr v2 u2 (S ++ (JP thenP eP (x :: l) (l.length + 1)).sets) (S ++ (JP thenP eP (x :: l) (l.length + 1)).sets).length (fun i j => G i j || (JP thenP eP (x :: l) (l.length + 1)).fol S.length i j)) := B.out.wk
      go_wp2_with fail
      refine bodyPost_ret (results_cell_row (p := 4) (ty := 64) rfl _ _ (w.heap.size + 1) 64 _ (0, 0) _ rfl (put3_heap BZ2.out _ _ _) Tryd.underlying64 rfl (by kernel_rfl)) rfl ?_
      exact ThP.tell WW (fun _ _ => rfl) BZ2 (by have := HW.out; omega) FF (by omega)

set_option maxRecDepth 20000 in
set_option maxHeartbeats 8000000 in
theorem th_alt (p : Nat → Bool) (x : RX) (l : List RX) (hl0 : 1 ≤ l.length) (hl : l.length < 100000) (IH : ∀ y ∈ x :: l, ThC y ∧ y.formed = true) : ThC ⟨3, p, x :: l⟩ := by
  intro K gw v u S G a c w hp hK hW hT h0 hc hf
  obtain ⟨BR, BZ, Q0⟩ := begin_boxes w (.int .i64 3) (.int .u64 (limb p 0)) (.int .u64 (limb p 1)) (.int .u64 (limb p 2)) (.int .u64 (limb p 3)) (.slice a (l.length + 1) c)
  have HE : Hid (JP orP oP (x :: l) (x :: l).length = RX.pla ⟨3, p, x :: l⟩) := JP_or (x :: l) p
  rw [← HE.out] at hc ⊢
  have HP : Hid (Parts (x :: l) K w a c) := hp
  have HX : Hid _ := IH
  have HK : Hid (∀ j, K j → j < gw) := hK
  have hcap : l.length + 1 ≤ c := by obtain ⟨ys, _, h, _⟩ := hp; exact h
  have hc1 : c ≠ 1 := by omega
  have hc2 : (c = 1) = False := eq_false hc1
  have HC : Hid (S.length + (JP orP oP (x :: l) (x :: l).length).cnt ≤ 60) := hc
  have HJ : Hid (∀ i, S.length + (JP orP oP (x :: l) i).cnt ≤ 60) := fun i => by have := JP_cnt (g := orP) (fun _ _ => rfl) oP (x :: l) i; omega
  have HF : Hid (∀ i, (JP orP oP (x :: l) i).Fine) := fun i => JP_fine orP_fine oP_fine (x :: l) i
  obtain ⟨b, o, a', c', ha, hp2, q0, q1, q2, q3, q4, q5⟩ := (hp.mv Q0.out (fun _ _ h => h)).first
  subst ha
  have hth := (IH x (by simp)).1 K gw v u S G a' c' _ hp2 hK (show Hid _ from hW.out.qt Q0.out) (hT.out.qt Q0.out) h0 (by have := HJ.out 1; rw [JP_or1] at this; exact this) (IH x (by simp)).2
  rw [← JP_or1 x l] at hth
  have HW : Hid (gw < w.heap.size) := hW.out.lt
  have HT : Hid (Tab w) := hT
  have H0 : Hid (0 < gw) := h0
  have hlen : l.length < 100000 := hl
  obtain ⟨k0, k1, k2, k3, k4, k5, _⟩ := B6.facts BR
  clear hp hp2 hK hW hT hc hf IH h0 hl
  generalize limb p 0 = y0 at *
  generalize limb p 1 = y1 at *
  generalize limb p 2 = y2 at *
  generalize limb p 3 = y3 at *
  show Calls Tryd.prog 22 #[.pointer (some ⟨gw, 0, none⟩), .agg #[.int .i64 3, .int .u64 y0, .int .u64 y1, .int .u64 y2, .int .u64 y3, .slice (some ⟨b, o, none⟩) (l.length + 1) c]] w fun e w' => ThP gw w S G (JP orP oP (x :: l) (l.length + 1)) e w'
  go_enter Tryd.func22, Tryd.ntmps22
  go_wp2_with fail
  generalize ((w.alloc (.cells #[.int .i64 3, .int .u64 y0, .int .u64 y1, .int .u64 y2, .int .u64 y3, .slice (some ⟨b, o, none⟩) (l.length + 1) c] 29)).alloc zeros3) = W0 at *
  refine hth.mono ?_
  rintro e w1 ⟨rfl, v', u', W1, F1⟩
  have B0 : Hid (Tl gw w1.heap.size w (w1.alloc (.cells #[.int .u64 (limb ((JP orP oP (x :: l) 1).fst S.length) 0), .int .u64 (limb ((JP orP oP (x :: l) 1).lst S.length) 0), .bool (JP orP oP (x :: l) 1).null] 64)) S G (JP orP oP (x :: l) 1) v' u' (.int .i64 3) (.int .u64 y0) (.int .u64 y1) (.int .u64 y2) (.int .u64 y3) (.slice (some ⟨b, o, none⟩) (l.length + 1) c)) := by
    have MN := Mv.alloc (fun _ => False) w1 (.cells #[.int .u64 (limb ((JP orP oP (x :: l) 1).fst S.length) 0), .int .u64 (limb ((JP orP oP (x :: l) 1).lst S.length) 0), .bool (JP orP oP (x :: l) 1).null] 64)
    have hw1 := Nat.lt_of_lt_of_le BZ.out.lt F1.out.size
    exact ⟨W1.out.qt MN, (B3p.new w1 _ _ _).out, (Fr.of_qt Q0.out).trans (Fr.qt F1.out MN), (B6.fw BR.out (Fr.qt F1.out MN) (by have := HW.out; omega)).out, (B3p.fw BZ.out (Fr.qt F1.out MN) (by have := HW.out; omega)).out, HW.out, hw1⟩
  clear k0 k1 k2 k3 k4 k5 q0 q1 q2 q3 q4 q5 hth W1 F1 BR BZ
  have hw1' : ∃ gp, gp = w1.heap.size := ⟨_, rfl⟩
  obtain ⟨k0, k1, k2, k3, k4, k5, _⟩ := B6.facts (show Hid _ from B0.out.rb)
  go_wp2_with fail
  clear k0 k1 k2 k3 k4 k5
  generalize w1.alloc (.cells #[.int .u64 (limb ((JP orP oP (x :: l) 1).fst S.length) 0), .int .u64 (limb ((JP orP oP (x :: l) 1).lst S.length) 0), .bool (JP orP oP (x :: l) 1).null] 64) = V0 at *
  generalize w1.heap.size = gp at *
  go_loopw [48] (fun s48 wr => ∃ (i : Nat) (v u : Value), i ≤ l.length ∧ s48 = .int .i64 i ∧ Hid (Tl gw gp w wr S G (JP orP oP (x :: l) (i + 1)) v u (.int .i64 3) (.int .u64 y0) (.int .u64 y1) (.int .u64 y2) (.int .u64 y3) (.slice (some ⟨b, o, none⟩) (l.length + 1) c))) (fun s48 _ => l.length - (intOf s48).toNat)
  case atStart => exact ⟨0, v', u', by omega, rfl, B0⟩
  case round =>
    obtain ⟨i, v2, u2, hi, rfl, B⟩ := hrel
    clear B0
    by_cases hlt : i < l.length
    · obtain ⟨y, hy⟩ : ∃ y, l[i]? = some y := ⟨_, List.getElem?_eq_getElem hlt⟩
      have hmem : y ∈ x :: l := List.mem_cons_of_mem _ (List.mem_of_getElem? hy)
      have hyy : (x :: l)[i + 1]? = some y := by rw [List.getElem?_cons_succ]; exact hy
      have PR : Parts (x :: l) K wr (some ⟨b, o, none⟩) c := Fr.parts B.out.fw HP.out HK.out
      obtain ⟨b', o', a2, c2, hab, hp2, q0, q1, q2, q3, q4, q5⟩ := PR.at (i := i + 1) (x := y) hyy
      have hab2 : b' = b ∧ o' = o := by have := Option.some.inj hab; injection this with e1 e2; exact ⟨e1.symm, e2.symm⟩
      obtain ⟨rfl, rfl⟩ := hab2
      clear hab
      rw [show o' + (i + 1) * 6 = o' + 6 + i * 6 by omega] at q0 q1 q2 q3 q4 q5
      have HQ : Hid (Qt wr ((wr.alloc (.cells #[.int .i64 y.kind, .int .u64 (limb y.set 0), .int .u64 (limb y.set 1), .int .u64 (limb y.set 2), .int .u64 (limb y.set 3), .slice a2 y.args.length c2] 29)).drew)) := Qt.drew ((Qt.refl wr).alloc _)
      have PX : Hid (B6 wr.heap.size (.int .i64 y.kind) (.int .u64 (limb y.set 0)) (.int .u64 (limb y.set 1)) (.int .u64 (limb y.set 2)) (.int .u64 (limb y.set 3)) (.slice a2 y.args.length c2) (wr.alloc (.cells #[.int .i64 y.kind, .int .u64 (limb y.set 0), .int .u64 (limb y.set 1), .int .u64 (limb y.set 2), .int .u64 (limb y.set 3), .slice a2 y.args.length c2] 29))) := heap_alloc_new wr _
      have HJS : Hid (JP orP oP (x :: l) (i + 1 + 1) = orP (JP orP oP (x :: l) (i + 1)) y.pla) := JP_succ orP oP hyy
      have HJ2 : Hid (S.length + ((JP orP oP (x :: l) (i + 1)).cnt + y.pla.cnt) ≤ 60) := by have := HJ.out (i + 1 + 1); rw [HJS.out] at this; exact this
      have HF1 := HF.out (i + 1)
      have HS : Hid ((S ++ (JP orP oP (x :: l) (i + 1)).sets).length = S.length + (JP orP oP (x :: l) (i + 1)).cnt) := by show _ = _; rw [List.length_append, HF1.len]
      have hth := (HX.out y hmem).1 K gw v2 u2 _ _ a2 c2 _ (hp2.mv HQ.out (fun _ _ h => h)) HK.out (show Hid _ from B.out.wk.qt HQ.out) (((HT.out.qt (Qt.refl w)).fw B.out.fw H0.out).qt HQ.out) H0.out (by rw [HS.out]; have := HJ2.out; omega) (HX.out y hmem).2
      have HFY : Hid (y.pla.Fine) := pla_fine y
      have HFI : Hid (Pla.Fine (JP orP oP (x :: l) (i + 1))) := HF1
      have hgp := B.out.lo.2
      have hgp1 : gp < wr.heap.size := B.out.box.lt
      obtain ⟨x0, x1, x2, x3, x4, x5⟩ := B3p.facts (show Hid _ from B.out.box)
      obtain ⟨r0, r1, r2, r3, r4, r5, _⟩ := B6.facts (show Hid _ from B.out.rb)
      obtain ⟨d0, d1, d2, d3, d4, d5, _⟩ := B6.facts PX
      clear hp2 PR hmem hyy HF1
      generalize JP orP oP (x :: l) (i + 1) = P at *
      generalize y.pla = Y at *
      have HB : Hid (Tl gw gp w wr S G P v2 u2 (.int .i64 3) (.int .u64 y0) (.int .u64 y1) (.int .u64 y2) (.int .u64 y3) (.slice (some ⟨b', o', none⟩) (l.length + 1) c)) := B
      have HPL : Hid (∀ i, P.lst S.length i = true → i < S.length + P.cnt) := fun i hi => by have := HFI.out.lst _ _ hi; omega
      have HTB : Hid (Tab wr) := (HT.out.qt (Qt.refl w)).fw B.out.fw H0.out
      go_wp2_with fail
      go_region_with ((first
        | (go_at_call 22; refine hth.mono ?_; rintro e8 w8 ⟨rfl, v8, u8, W8, F8⟩; have FA : Hid (Fw gw wr w8) := (Fr.of_qt HQ.out).trans F8.out; have BX := B3p.fw HB.out.box FA.out (by have := HB.out.lo; omega); obtain ⟨g0, g1, g2, g3, g4, g5⟩ := B3p.facts BX)
        | (go_at_call 35; refine (por_any (P.fst S.length) (P.lst S.length) (Y.fst (S.length + P.sets.length)) (Y.lst (S.length + P.sets.length)) P.null Y.null w8).mono ?_; rintro e9 w9 ⟨rfl, q9⟩; have BY := B3p.mv BX.out q9.out (fun h => h); obtain ⟨h0, h1, h2, h3, h4, h5⟩ := B3p.facts BY)))
      all_goals go_wp2_with fail
      all_goals (refine ⟨⟨i + 1, v8, u8, by omega, by go_num, ?_⟩, by simp [intOf]; omega⟩; rw [HJS.out, HFI.out.len]; exact Tl.next (Q := orP P Y) HB (FA.out.qt q9.out) ((or_next HFI.out W8.out).qt q9.out))
    · obtain rfl : i = l.length := by omega
      obtain ⟨x0, x1, x2, x3, x4, x5⟩ := B3p.facts (show Hid _ from B.out.box)
      obtain ⟨z0, z1, z2, z3, z4, z5⟩ := B3p.facts (show Hid _ from B.out.zb)
      have BZ2 : Hid (B3p (w.heap.size + 1) (.int .u64 0) (.int .u64 0) (.bool false) wr) := B.out.zb
      have FF : Hid (Fw gw w wr) := B.out.fw
      have WW : Hid (Wk gw wr v2 u2 (S ++ (JP orP oP (x :: l) (l.length + 1)).sets) (S ++ (JP orP oP (x :: l) (l.length + 1)).sets).length (fun i j => G i j || (JP orP oP (x :: l) (l.length + 1)).fol S.length i j)) := B.out.wk
      go_wp2_with fail
      refine bodyPost_ret (results_cell_row (p := 4) (ty := 64) rfl _ _ (w.heap.size + 1) 64 _ (0, 0) _ rfl (put3_heap BZ2.out _ _ _) Tryd.underlying64 rfl (by kernel_rfl)) rfl ?_
      exact ThP.tell WW (fun _ _ => rfl) BZ2 (by have := HW.out; omega) FF (by omega)

end Go.Proofs.YtojbakkbmfgoaaaDoor

namespace Go.Proofs.YtojbakkbmfgoaaaDoor
open Go.RowKit
set_option linter.unusedVariables false

theorem through_any : ∀ x : RX, x.nodes ≤ 1000 → x.formed = true → ThC x := by
  refine RX.ind ?_
  intro k p l ih hnd hf
  have hfk := formed_kind hf
  have hnn := hf
  rw [formed_at, Bool.and_eq_true] at hnn
  have hnode := hnn.1
  unfold RX.node node at hnode
  have h1 := nodes_at (⟨k, p, l⟩ : RX)
  have hall : ∀ y ∈ l, ThC y ∧ y.formed = true := by
    intro y hy
    have h2 := mem_le_sum (x := y) (l := l) hy
    have h3 := (formed_part hf (show y ∈ (⟨k, p, l⟩ : RX).args from hy)).1
    exact ⟨ih y hy (by simp only at h1; omega) h3, h3⟩
  have hlen : l.length ≤ 1000 := by have h2 := len_le_sum l; simp only at h1; omega
  simp only at hfk hnode
  by_cases h1k : k = 1
  · subst h1k
    exact th_set p l
  · by_cases hk2 : k = 2 ∨ k = 3
    · rw [if_pos hk2.symm] at hnode
      cases l with
      | nil => simp at hnode
      | cons x l =>
        have hl0 : 1 ≤ l.length := by simp at hnode; omega
        have hl1 : l.length < 100000 := by simp at hlen; omega
        rcases hk2 with rfl | rfl
        · exact th_cat p x l hl0 hl1 hall
        · exact th_alt p x l hl0 hl1 hall
    · have hk4 : k = 4 ∨ k = 5 ∨ k = 6 := by omega
      rw [if_neg (fun e => hk2 e.symm), if_pos hk4] at hnode
      have hone : l.length = 1 := by simp at hnode; exact hnode.2
      match l, hone, hall with
      | [x], _, hall =>
        have h3 := hall x (by simp)
        rcases hk4 with rfl | rfl | rfl
        · exact th_sign4 p x h3.1 h3.2
        · exact th_sign5 p x h3.1 h3.2
        · exact th_sign6 p x h3.1 h3.2

end Go.Proofs.YtojbakkbmfgoaaaDoor

namespace Go.Proofs.YtojbakkbmfgoaaaDoor
open Go.RowKit
set_option linter.unusedVariables false
attribute [local go_sem ↓] Go.wp_at_zero Go.wp_at_succ

theorem results_cell_tmp {P : Program} {fn : Func} {p u : Tmp} {ty : TypeId} (h : fn.results = #[.cell p ty, .tmp u]) (tmps : Array Value) (w : World) (g : Nat) (t : TypeId) (cs : Array Value) (fr : Nat × Nat) (d : TypeDesc) (y : Value)
    (hp : tmps.getD p undef = .pointer (some ⟨g, 0, none⟩)) (hq : tmps.getD u undef = y) (hg : w.heap[g]? = some (.cells cs t fr))
    (hu : P.underlying ty = some d) (hd : (match d with | .struct _ | .array _ _ => true | _ => false) = true) (hi : (P.info? ty).map (·.size) = some cs.size) :
    (results fn tmps).run P w = .ok (.tuple #[.agg cs, y]) w := by
  have hp' : tmps[p]?.getD undef = .pointer (some ⟨g, 0, none⟩) := by simpa using hp
  have hq' : tmps[u]?.getD undef = y := by simpa using hq
  simp [results, h, hp', hq', asAddr, run_loadVar_row w g t ty cs fr d hg hu hd hi]

/-- Places as they are told. -/
structure Pv (w : World) (s f l g : Value) (S : List (Nat → Bool)) (n : Nat) (F L : List Nat) (G : Nat → List Nat) : Prop where
  sets : Ss w s S
  fst : Is w f F
  lst : Is w l L
  fol : Vs w g n G
theorem Pv.qt {w w' : World} {s f l g : Value} {S : List (Nat → Bool)} {n : Nat} {F L : List Nat} {G : Nat → List Nat} (h : Pv w s f l g S n F L G) (q : Qt w w') : Pv w' s f l g S n F L G :=
  ⟨h.sets.qt q, h.fst.qt q, h.lst.qt q, h.fol.qt q⟩
abbrev B5p (t g : Nat) (v0 v1 v2 v3 v4 : Value) (w : World) : Prop := w.heap[g]? = some (.cells #[v0, v1, v2, v3, v4] t (0, 0))
theorem B5p.facts {t g : Nat} {v0 v1 v2 v3 v4 : Value} {w : World} (h : Hid (B5p t g v0 v1 v2 v3 v4 w)) : w.cell? ⟨g, 0, none⟩ = some v0 ∧ w.cell? ⟨g, 1, none⟩ = some v1 ∧ w.cell? ⟨g, 2, none⟩ = some v2 ∧ w.cell? ⟨g, 3, none⟩ = some v3 ∧ w.cell? ⟨g, 4, none⟩ = some v4 ∧ w.frozen? ⟨g, 0, none⟩ = false ∧ w.frozen? ⟨g, 1, none⟩ = false ∧ w.frozen? ⟨g, 2, none⟩ = false ∧ w.frozen? ⟨g, 3, none⟩ = false ∧ w.frozen? ⟨g, 4, none⟩ = false := by
  have h' := h.out
  unfold B5p at h'
  refine ⟨?_, ?_, ?_, ?_, ?_, ?_, ?_, ?_, ?_, ?_⟩ <;> simp [World.cell?, World.frozen?, h']
theorem B5p.mv {X : Nat → Prop} {t g : Nat} {v0 v1 v2 v3 v4 : Value} {w w' : World} (h : B5p t g v0 v1 v2 v3 v4 w) (m : Mv X w w') (hx : ¬ X g) : Hid (B5p t g v0 v1 v2 v3 v4 w') := (m.block g (Array.getElem?_eq_some_iff.1 h).1 hx).trans h
theorem B5p.lt {t g : Nat} {v0 v1 v2 v3 v4 : Value} {w : World} (h : B5p t g v0 v1 v2 v3 v4 w) : g < w.heap.size := (Array.getElem?_eq_some_iff.1 h).1
abbrev put5 (w : World) (g : Nat) (v0 v1 v2 v3 v4 : Value) : World := ((((w.setCell ⟨g, 0, none⟩ v0).setCell ⟨g, 1, none⟩ v1).setCell ⟨g, 2, none⟩ v2).setCell ⟨g, 3, none⟩ v3).setCell ⟨g, 4, none⟩ v4
theorem put5_heap {w : World} {t g : Nat} {u0 u1 u2 u3 u4 : Value} (h : B5p t g u0 u1 u2 u3 u4 w) (v0 v1 v2 v3 v4 : Value) : B5p t g v0 v1 v2 v3 v4 (put5 w g v0 v1 v2 v3 v4) := heap_set (heap_set (heap_set (heap_set (heap_set h))))
theorem put5_mv (w : World) (g : Nat) (v0 v1 v2 v3 v4 : Value) : Mv (fun k => k = g) w (put5 w g v0 v1 v2 v3 v4) :=
  Mv.trans (Mv.trans (Mv.trans (Mv.trans (Mv.setCell w ⟨g, 0, none⟩ v0) (Mv.setCell _ ⟨g, 1, none⟩ v1) (fun _ _ h => h)) (Mv.setCell _ ⟨g, 2, none⟩ v2) (fun _ _ h => h)) (Mv.setCell _ ⟨g, 3, none⟩ v3) (fun _ _ h => h)) (Mv.setCell _ ⟨g, 4, none⟩ v4) (fun _ _ h => h)
abbrev zeros5 (t : Nat) : Obj := .cells #[.slice none 0 0, .slice none 0 0, .slice none 0 0, .slice none 0 0, .bool false] t
/-- What Of tells. -/
def OfP (w : World) (x : RX) (e : Ending) (w' : World) : Prop :=
  ∃ s f l g, e = .returned (.tuple #[.agg #[s, f, l, g, .bool x.pla.null], .int .i64 0]) ∧ Hid (Pv w' s f l g x.pla.sets x.pla.cnt (asc 64 (x.pla.fst 0)) (asc 64 (x.pla.lst 0)) (fun i => asc 64 (x.pla.fol 0 i))) ∧ Hid (Qt w w')

set_option maxRecDepth 20000 in
set_option maxHeartbeats 4000000 in
theorem of_no (x : RX) (hm : may x ≠ 0) (K : Nat → Prop) (a : Option Addr) (c : Nat) (w : World) (hK : ∀ j, K j → j < w.heap.size) (hX : Parts x.args K w a c) (ht : x.tall < 90000) :
    Calls Tryd.prog 10 #[.agg #[.int .i64 x.kind, .int .u64 (limb x.set 0), .int .u64 (limb x.set 1), .int .u64 (limb x.set 2), .int .u64 (limb x.set 3), .slice a x.args.length c]] w fun e w' => e = .returned (.tuple #[.agg #[.slice none 0 0, .slice none 0 0, .slice none 0 0, .slice none 0 0, .bool false], .int .i64 (may x)]) ∧ Hid (Qt w w') := by
  have Q0 : Hid (Qt w ((w.alloc (.cells #[.int .i64 x.kind, .int .u64 (limb x.set 0), .int .u64 (limb x.set 1), .int .u64 (limb x.set 2), .int .u64 (limb x.set 3), .slice a x.args.length c] 29)).alloc (zeros5 37))) := ((Qt.refl w).alloc _).alloc _
  have BR : Hid (B6 w.heap.size (.int .i64 x.kind) (.int .u64 (limb x.set 0)) (.int .u64 (limb x.set 1)) (.int .u64 (limb x.set 2)) (.int .u64 (limb x.set 3)) (.slice a x.args.length c) ((w.alloc (.cells #[.int .i64 x.kind, .int .u64 (limb x.set 0), .int .u64 (limb x.set 1), .int .u64 (limb x.set 2), .int .u64 (limb x.set 3), .slice a x.args.length c] 29)).alloc (zeros5 37))) := heap2a w _ _
  have BZ : Hid (B5p 37 (w.heap.size + 1) (.slice none 0 0) (.slice none 0 0) (.slice none 0 0) (.slice none 0 0) (.bool false) ((w.alloc (.cells #[.int .i64 x.kind, .int .u64 (limb x.set 0), .int .u64 (limb x.set 1), .int .u64 (limb x.set 2), .int .u64 (limb x.set 3), .slice a x.args.length c] 29)).alloc (zeros5 37))) := heap_alloc2_new w _ _
  have hmay := may_any x K a c _ (fun j hj => Nat.lt_of_lt_of_le (hK j hj) Q0.out.size) (hX.mv Q0.out (fun _ _ h => h)) ht
  unfold xv at hmay
  obtain ⟨k0, k1, k2, k3, k4, k5, _⟩ := B6.facts BR
  obtain ⟨m, hme⟩ : ∃ m, m = may x := ⟨_, rfl⟩
  rw [← hme] at hmay hm ⊢
  have hmb : (m != 0) = true := bne_iff_ne.2 hm
  clear hX hK ht hme hm
  go_enter Tryd.func10, Tryd.ntmps10
  go_wp2_with fail
  refine hmay.mono ?_
  rintro e1 w1 ⟨rfl, q1⟩
  have CZ := B5p.mv BZ.out q1.out (fun h => h)
  obtain ⟨z0, z1, z2, z3, z4, z5, z6, z7, z8, z9⟩ := B5p.facts CZ
  clear k0 k1 k2 k3 k4 k5 hmay
  go_wp2_with fail
  refine bodyPost_ret (results_cell_tmp (p := 2) (u := 3) (ty := 37) rfl _ _ (w.heap.size + 1) 37 _ (0, 0) _ _ rfl rfl (put5_heap CZ.out _ _ _ _ _) Tryd.underlying37 rfl (by kernel_rfl)) rfl ?_
  exact ⟨rfl, Mv.trans (Q0.out.comp q1.out) (put5_mv _ _ _ _ _ _ _) (fun j hj e => by omega)⟩

end Go.Proofs.YtojbakkbmfgoaaaDoor
