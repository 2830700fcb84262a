/- isFormed. -/
import Derived.Test.YtojbakkbmfgoaaaDoorMg15
import Derived.Deep.LoopGhost
import Derived.Deep.RegionHeld3
namespace Go.Proofs.YtojbakkbmfgoaaaDoor
open Go.RowKit Go.Maps
set_option linter.unusedVariables false

/-- While an expression is looked through: v the list, Td what is on it. -/
structure Wf (K : Nat → Prop) (w0 : World) (m : Nat) (X : RX) (cur : Option RX) (wr : World) (v : Value) (Td N : List RX) (L : List (Int × Addr × Nat)) : Prop where
  mv : Mv (fun j => w0.heap.size ≤ j) w0 wr
  mp : Mk m L wr
  mg : w0.heap.size ≤ m
  ro : Ro w0.heap.size K wr v Td
  off : v.ownBlock ≠ some m
  nt : Nt K w0 L N
  fm : Fm X N Td cur
  up : ∀ (i : Nat) (t : RX), Td[i]? = some t → i + t.tall ≤ X.tall
theorem Wf.len {K : Nat → Prop} {w0 wr : World} {m : Nat} {X : RX} {cur : Option RX} {v : Value} {Td N : List RX} {L : List (Int × Addr × Nat)} (h : Wf K w0 m X cur wr v Td N L) : Td.length ≤ X.tall := by
  cases Td with
  | nil => simp
  | cons t l =>
    obtain ⟨u, hu⟩ : ∃ u, (t :: l)[l.length]? = some u := ⟨_, List.getElem?_eq_getElem (by simp)⟩
    have := h.up _ _ hu
    have := tall_at u
    simp; omega
theorem parts_kind {X : RX} {K : Nat → Prop} {w : World} {a : Option Addr} {c : Nat} (h : Parts X.args K w a c) : X.args.length < 140737488355328 := by
  obtain ⟨ys, _, _, h, _⟩ := h
  exact h.1

theorem make_map (W : World) : (Instr.makeMap 86 none).run Tryd.prog W = .ok (.map (some W.heap.size)) (W.alloc (.map #[] 0)) := rfl
theorem Wf.start {X : RX} {K : Nat → Prop} {a : Option Addr} {c : Nat} {w w1 : World} (hX : Parts X.args K w a c) (hK : ∀ j, K j → j < w.heap.size) (q : Qt w w1) :
    Wf K w (w1.heap.size + 1) X none ((w1.alloc (.cells #[.int .i64 X.kind, .int .u64 (limb X.set 0), .int .u64 (limb X.set 1), .int .u64 (limb X.set 2), .int .u64 (limb X.set 3), .slice a X.args.length c] 29)).alloc (.map #[] 0)) (.slice (some ⟨w1.heap.size, 0, none⟩) 1 1) [X] [] [] := by
  have hs := q.size
  have hK1 : ∀ j, K j → j < w1.heap.size := fun j hj => by have := hK j hj; omega
  have h1 := (Ro.new (base := w.heap.size) hs hK1 (hX.mv q (fun _ _ h => h))).out
  refine ⟨?_, ?_, by omega, h1.mv (Mv.alloc (fun _ => False) _ _) (fun _ _ h => h) (fun _ _ h => h), ?_, ?_, ⟨?_, ?_, ?_, .inl (by simp)⟩, ?_⟩
  · exact Mv.trans ((q.alloc _).mono (fun _ _ h => h.elim)) (Mv.alloc (fun _ => False) _ _) (fun _ _ h => h.elim)
  · refine ⟨#[], 0, ?_, rfl, by simp, by simp⟩
    have := heap_alloc_new (w1.alloc (.cells #[.int .i64 X.kind, .int .u64 (limb X.set 0), .int .u64 (limb X.set 1), .int .u64 (limb X.set 2), .int .u64 (limb X.set 3), .slice a X.args.length c] 29)) (.map #[] 0)
    simpa using this
  · intro e
    have := Option.some.inj e
    simp at this
  · intro r hr; cases hr
  · intro hf t ht; simp at ht; rw [ht]; exact hf
  · intro hf t ht; cases ht
  · intro y hy; cases hy
  · intro i t hi
    cases i with
    | zero => simp at hi; rw [hi]; omega
    | succ i => simp at hi
theorem parts_back {K : Nat → Prop} {w wr : World} (hK : ∀ j, K j → j < w.heap.size) (m : Mv (fun j => w.heap.size ≤ j) w wr) {l : List RX} {a : Option Addr} {c : Nat} (h : Parts l K wr a c) : Parts l K w a c :=
  h.same (fun j hj => (m.block j (hK j hj) (by have := hK j hj; omega)).symm)
theorem parts_forth {K : Nat → Prop} {w wr : World} (hK : ∀ j, K j → j < w.heap.size) (m : Mv (fun j => w.heap.size ≤ j) w wr) {l : List RX} {a : Option Addr} {c : Nat} (h : Parts l K w a c) : Parts l K wr a c :=
  h.same (fun j hj => m.block j (hK j hj) (by have := hK j hj; omega))
/-- While the parts of t are gone through. -/
structure Wi (K : Nat → Prop) (w0 : World) (m : Nat) (X t : RX) (gt : Nat) (cs : Array Value) (T0 : List RX) (wr : World) (v : Value) (A N : List RX) (L : List (Int × Addr × Nat)) (i : Nat) : Prop where
  wf : Wf K w0 m X (some t) wr v (T0 ++ A) N L
  box : wr.heap[gt]? = some (.cells cs 29 (0, 0))
  gm : gt ≠ m
  go : v.ownBlock ≠ some gt
  gl : w0.heap.size ≤ gt
  len : A.length ≤ i
  mem : ∀ a ∈ A, a ∈ t.args
  sum : (A.map RX.nodes).sum ≤ used t.args i
  seen : ∀ a ∈ t.args.take i, Seen1 N t a
  dep : T0.length + t.tall ≤ X.tall
theorem Wf.qt {K : Nat → Prop} {w0 wr w' : World} {m : Nat} {X : RX} {cur : Option RX} {v : Value} {Td N : List RX} {L : List (Int × Addr × Nat)} (hK : ∀ j, K j → j < w0.heap.size) (h : Wf K w0 m X cur wr v Td N L) (q : Qt wr w') : Wf K w0 m X cur w' v Td N L :=
  ⟨h.mv.trans q (fun _ _ h => h.elim), h.mp.mv q (fun h => h) (fun _ _ h => h), h.mg, h.ro.mv q (fun _ _ h => h) (fun _ _ h => h), h.off, h.nt, h.fm, h.up⟩
theorem Wi.mv {K : Nat → Prop} {w0 wr w' : World} {m gt i : Nat} {X t : RX} {cs : Array Value} {v : Value} {T0 A N : List RX} {L : List (Int × Addr × Nat)} (hK : ∀ j, K j → j < w0.heap.size) (h : Wi K w0 m X t gt cs T0 wr v A N L i) (q : Qt wr w') : Wi K w0 m X t gt cs T0 w' v A N L i :=
  ⟨h.wf.qt hK q, (q.block gt (Array.getElem?_eq_some_iff.1 h.box).1 (fun h => h)).trans h.box, h.gm, h.go, h.gl, h.len, h.mem, h.sum, h.seen, h.dep⟩
theorem used_mono {l : List RX} {i : Nat} {x : RX} (hx : l[i]? = some x) : used l i ≤ used l (i + 1) := by rw [used_succ hx]; omega
theorem seen_next {l N : List RX} {t x : RX} {i : Nat} (h : ∀ a ∈ l.take i, Seen1 N t a) (hx : l[i]? = some x) (hs : Seen1 N t x) : ∀ a ∈ l.take (i + 1), Seen1 N t a := by
  intro a ha
  rw [List.take_add_one, hx] at ha
  rcases List.mem_append.1 ha with ha | ha
  · exact h a ha
  · simp at ha; rw [ha]; exact hs
theorem Wi.start {K : Nat → Prop} {w0 wr : World} {m d bb : Nat} {X t : RX} {cs : Array Value} {T0 N : List RX} {L : List (Int × Addr × Nat)} (hK : ∀ j, K j → j < w0.heap.size) (h : Wf K w0 m X none wr (.slice (some ⟨bb, 0, none⟩) (T0.length + 1) d) (T0 ++ [t]) N L) : Wi K w0 m X t wr.heap.size cs T0 (wr.alloc (.cells cs 29)) (.slice (some ⟨bb, 0, none⟩) T0.length d) [] N L 0 := by
  have qa := Mv.alloc (fun _ => False) wr (.cells cs 29)
  have hw := h.mv.size
  have hm := h.mp.lt
  have hro := h.ro.pop
  have hbb : bb < wr.heap.size := by
    obtain ⟨ys, h1, _⟩ := h.ro.ow
    exact (ow_blk h1 bb rfl).2
  have h2 : Wf K w0 m X (some t) wr (.slice (some ⟨bb, 0, none⟩) T0.length d) (T0 ++ []) N L := by
    rw [List.append_nil]
    refine ⟨h.mv, h.mp, h.mg, hro, h.off, h.nt, h.fm.take, fun i u hu => h.up i u ?_⟩
    rw [List.getElem?_append_left (List.getElem?_eq_some_iff.1 hu).1]
    exact hu
  refine ⟨h2.qt hK qa, heap_alloc_new _ _, by omega, ?_, hw, by simp, fun a ha => (by cases ha), (by simp [used]), fun a ha => (by simp at ha), h.up T0.length t (by simp)⟩
  intro e
  have := Option.some.inj e
  simp at this
  omega
/-- One part was seen: nothing is noted. -/
theorem Wi.skip {K : Nat → Prop} {w0 wr : World} {m gt i : Nat} {X t x : RX} {cs : Array Value} {v : Value} {T0 A N : List RX} {L : List (Int × Addr × Nat)} (h : Wi K w0 m X t gt cs T0 wr v A N L i) (hx : t.args[i]? = some x) (hs : Seen1 N t x) : Wi K w0 m X t gt cs T0 wr v A N L (i + 1) :=
  ⟨h.wf, h.box, h.gm, h.go, h.gl, by have := h.len; omega, h.mem, Nat.le_trans h.sum (used_mono hx), seen_next h.seen hx hs, h.dep⟩
/-- The notes were looked at. -/
theorem Wi.look {K : Nat → Prop} {w0 wr w' : World} {m gt i : Nat} {X t x : RX} {cs : Array Value} {v : Value} {T0 A N : List RX} {L : List (Int × Addr × Nat)} (hK : ∀ j, K j → j < w0.heap.size) (h : Wi K w0 m X t gt cs T0 wr v A N L i) (q : Mv (fun j => j = m) wr w') (hm : Mk m L w') : Wi K w0 m X t gt cs T0 w' v A N L i := by
  have hKm : ∀ j, K j → j ≠ m := fun j hj e => by have := hK j hj; have := h.wf.mg; omega
  refine ⟨⟨h.wf.mv.trans q (fun j hj e => by rw [e]; exact h.wf.mg), hm, h.wf.mg, h.wf.ro.mv q hKm (fun j hj e => ?_), h.wf.off, h.wf.nt, h.wf.fm, h.wf.up⟩, (q.block gt (Array.getElem?_eq_some_iff.1 h.box).1 h.gm).trans h.box, h.gm, h.go, h.gl, h.len, h.mem, h.sum, h.seen, h.dep⟩
  rw [e] at hj
  exact h.wf.off hj
/-- A part is noted, and laid on the list. -/
theorem Wi.push {K : Nat → Prop} {w0 wr w1 W : World} {m gt i c d : Nat} {X t x : RX} {cs : Array Value} {v v' : Value} {T0 A N : List RX} {L : List (Int × Addr × Nat)} {q : Addr} (hK : ∀ j, K j → j < w0.heap.size) (h : Wi K w0 m X t gt cs T0 wr v A N L i) (hx : t.args[i]? = some x) (hp : Parts x.args K w0 (some q) c) (hnode : x.node = true) (hlv : lvl x.kind ≠ lvl t.kind)
    (m1 : Mv (fun j => j = m) wr w1) (hm : Mk m (L ++ [(x.kind, q, x.args.length)]) w1) (hro : Ro w0.heap.size K W v' ((T0 ++ A) ++ [x])) (m2 : Mv (fun j => v.ownBlock = some j) w1 W) (hnb : v'.ownBlock = v.ownBlock ∨ ∃ g, v'.ownBlock = some g ∧ w1.heap.size ≤ g) (hvb : ∀ j, v.ownBlock = some j → w0.heap.size ≤ j) : Wi K w0 m X t gt cs T0 W v' (A ++ [x]) (N ++ [x]) (L ++ [(x.kind, q, x.args.length)]) (i + 1) := by
  have hmem : x ∈ t.args := List.mem_of_getElem? hx
  have hlt := (List.getElem?_eq_some_iff.1 hx).1
  have hgl := (Array.getElem?_eq_some_iff.1 h.box).1
  have hml := hm.lt
  have e1 : T0 ++ (A ++ [x]) = (T0 ++ A) ++ [x] := by simp
  have hk1 : ∀ r ∈ L ++ [(x.kind, q, x.args.length)], K r.2.1.block := by
    intro r hr
    obtain ⟨hk, _⟩ := (h.wf.nt.more hp) r hr
    exact hk
  refine ⟨⟨?_, ?_, h.wf.mg, by rw [e1]; exact hro, ?_, h.wf.nt.more hp, by rw [e1]; exact h.wf.fm.push hmem, ?_⟩, ?_, h.gm, ?_, h.gl, by simp; exact h.len, ?_, ?_, ?_, h.dep⟩
  · refine (h.wf.mv.trans m1 (fun j hj e => by rw [e]; exact h.wf.mg)).trans m2 (fun j hj e => hvb j e)
  · refine hm.mv m2 (fun e => h.wf.off e) (fun r hr e => ?_)
    exact h.wf.ro.off _ (hk1 r hr) e
  · rcases hnb with e | ⟨g, e, hg⟩
    · rw [e]; exact h.wf.off
    · rw [e]; intro e2; have := Option.some.inj e2; omega
  · intro j u hu
    rw [e1] at hu
    by_cases hj : j < (T0 ++ A).length
    · rw [List.getElem?_append_left hj] at hu
      exact h.wf.up j u hu
    · rw [List.getElem?_append_right (by omega)] at hu
      have hj2 : j - (T0 ++ A).length = 0 := by
        have := (List.getElem?_eq_some_iff.1 hu).1
        simp at this
        simp; omega
      rw [hj2] at hu
      simp at hu
      subst hu
      have h1 : x.tall ≤ maxl (t.args.map RX.tall) := le_maxl (List.mem_map_of_mem hmem)
      have h2 := tall_at t
      have h3 := h.len
      have h4 := h.dep
      have h5 : j = T0.length + A.length := by simp at hj hj2; omega
      omega
  · have g1 := (m1.block gt hgl h.gm).trans h.box
    exact (m2.block gt (Array.getElem?_eq_some_iff.1 g1).1 (fun e => h.go e)).trans g1
  · rcases hnb with e | ⟨g, e, hg⟩
    · rw [e]; exact h.go
    · rw [e]; intro e2; have := Option.some.inj e2; have := m1.size; omega
  · intro a ha
    rcases List.mem_append.1 ha with ha | ha
    · exact h.mem a ha
    · simp at ha; rw [ha]; exact hmem
  · rw [used_succ hx]; simp; exact h.sum
  · refine seen_next (fun a ha => (h.seen a ha).more x) hx ⟨hnode, hlv, ?_⟩
    exact .inr ⟨x, by simp, rfl, rfl, fun i u v hu hv => by rw [hu] at hv; cases hv; exact sameX_refl u⟩
/-- The cells of what was boxed. -/
theorem box6 {w w1 : World} {v0 v1 v2 v3 v4 v5 : Value} (q : Hid (Qt (w.alloc (.cells #[v0, v1, v2, v3, v4, v5] 29)) w1)) :
    w1.cell? ⟨w.heap.size, 0, none⟩ = some v0 ∧ w1.cell? ⟨w.heap.size, 1, none⟩ = some v1 ∧ w1.cell? ⟨w.heap.size, 2, none⟩ = some v2 ∧ w1.cell? ⟨w.heap.size, 3, none⟩ = some v3 ∧ w1.cell? ⟨w.heap.size, 4, none⟩ = some v4 ∧ w1.cell? ⟨w.heap.size, 5, none⟩ = some v5 := by
  have h := heap_alloc_new w (.cells #[v0, v1, v2, v3, v4, v5] 29)
  refine ⟨Qt.keep q ?_, Qt.keep q ?_, Qt.keep q ?_, Qt.keep q ?_, Qt.keep q ?_, Qt.keep q ?_⟩ <;> simp only [World.cell?, h] <;> rfl
end Go.Proofs.YtojbakkbmfgoaaaDoor

namespace Go.Proofs.YtojbakkbmfgoaaaDoor
open Go.RowKit Go.Maps
set_option linter.unusedVariables false

theorem take_d {P : Program} {ops : Array Oper} {Q : Exit → Act → World → Prop} {md : Region.Mode} {S : World → Prop} {i : Nat} {oi : Oper} {v : Value} {d : Option Nat} {fuel : Nat} {listed : Array Bool} {a : Act} {w : World} (hi : ops[i]? = some oi) (hd : oi.dst = d)
    (hs : Region.noSelect ops = true) (hf : Region.free md ops listed i = true) (hr : (Region.ready md ops listed).contains i = true)
    (hQ : ∀ c a w, Q (.panic c) (a.put oi.dst v) w → Q (.panic c) a w) (hy : YieldsIf P ops S oi v a) (hS : S w)
    (h : wpAnyH P md ops Q S fuel (listed.setIfInBounds i true) (a.put d v) w) : wpAnyH P md ops Q S (fuel + 1) listed a w := by
  subst hd
  exact wpAnyH_take hi hs hf hr hQ hy hS h
theorem hold7 {w : World} {v0 v1 v2 v3 v4 v5 u0 u1 u2 u3 u4 u5 : Value} {g : Nat} (h : w.heap[g]? = some (.cells #[u0, u1, u2, u3, u4, u5] 29 (0, 0))) :
    (w.alloc (.cells #[v0, v1, v2, v3, v4, v5] 29)).cell? ⟨w.heap.size, 0, none⟩ = some v0 ∧ (w.alloc (.cells #[v0, v1, v2, v3, v4, v5] 29)).cell? ⟨w.heap.size, 1, none⟩ = some v1 ∧ (w.alloc (.cells #[v0, v1, v2, v3, v4, v5] 29)).cell? ⟨w.heap.size, 2, none⟩ = some v2 ∧ (w.alloc (.cells #[v0, v1, v2, v3, v4, v5] 29)).cell? ⟨w.heap.size, 3, none⟩ = some v3 ∧ (w.alloc (.cells #[v0, v1, v2, v3, v4, v5] 29)).cell? ⟨w.heap.size, 4, none⟩ = some v4 ∧ (w.alloc (.cells #[v0, v1, v2, v3, v4, v5] 29)).cell? ⟨w.heap.size, 5, none⟩ = some v5 ∧ (w.alloc (.cells #[v0, v1, v2, v3, v4, v5] 29)).cell? ⟨g, 0, none⟩ = some u0 ∧ Hid (Qt w (w.alloc (.cells #[v0, v1, v2, v3, v4, v5] 29))) := by
  obtain ⟨b0, b1, b2, b3, b4, b5⟩ := box6 (w := w) (v0 := v0) (v1 := v1) (v2 := v2) (v3 := v3) (v4 := v4) (v5 := v5) (Qt.refl _)
  have q := Mv.alloc (fun _ => False) w (.cells #[v0, v1, v2, v3, v4, v5] 29)
  refine ⟨b0, b1, b2, b3, b4, b5, q.cell (p := ⟨g, 0, none⟩) ?_ (fun h => h), q⟩
  simp only [World.cell?, h]; rfl
theorem keep7 {W w' : World} {g h : Nat} {v0 v1 v2 v3 v4 v5 u0 : Value} (c0 : Hid (W.cell? ⟨g, 0, none⟩ = some v0)) (c1 : Hid (W.cell? ⟨g, 1, none⟩ = some v1)) (c2 : Hid (W.cell? ⟨g, 2, none⟩ = some v2)) (c3 : Hid (W.cell? ⟨g, 3, none⟩ = some v3)) (c4 : Hid (W.cell? ⟨g, 4, none⟩ = some v4)) (c5 : Hid (W.cell? ⟨g, 5, none⟩ = some v5)) (c6 : Hid (W.cell? ⟨h, 0, none⟩ = some u0)) (q : Hid (Qt W w')) :
    w'.cell? ⟨g, 0, none⟩ = some v0 ∧ w'.cell? ⟨g, 1, none⟩ = some v1 ∧ w'.cell? ⟨g, 2, none⟩ = some v2 ∧ w'.cell? ⟨g, 3, none⟩ = some v3 ∧ w'.cell? ⟨g, 4, none⟩ = some v4 ∧ w'.cell? ⟨g, 5, none⟩ = some v5 ∧ w'.cell? ⟨h, 0, none⟩ = some u0 ∧ Hid (Qt W w') :=
  ⟨Qt.keep q c0.out, Qt.keep q c1.out, Qt.keep q c2.out, Qt.keep q c3.out, Qt.keep q c4.out, Qt.keep q c5.out, Qt.keep q c6.out, q⟩
theorem keep7q {W w' w'' : World} {A0 A1 A2 A3 A4 A5 A6 : Prop} (q : Hid (Qt w' w'')) (h : A0 ∧ A1 ∧ A2 ∧ A3 ∧ A4 ∧ A5 ∧ A6 ∧ Hid (Qt W w')) : Hid (Qt W w'') := h.2.2.2.2.2.2.2.out.comp q.out
set_option maxHeartbeats 4000000 in
theorem isFormed_any (X : RX) (K : Nat → Prop) (a : Option Addr) (c : Nat) (w : World) (hK : ∀ j, K j → j < w.heap.size) (hX : Parts X.args K w a c) (ht : X.tall < 90000) :
    Calls Tryd.prog 31 #[xv X.kind X.set a X.args.length c] w fun e w' => e = .returned (.bool X.formed) ∧ Hid (Qt w w') := by
  have hn := fun W => isNode_any X.kind X.set a X.args.length c W
  unfold xv at *
  have HX : Hid (Parts X.args K w a c) := hX
  have HK : Hid _ := hK
  have HT : Hid (X.tall < 90000) := ht
  clear hX hK ht
  have hnd : node X.kind X.set X.args.length = X.node := rfl
  rw [hnd] at hn
  clear hnd
  obtain ⟨v0, hv0⟩ : ∃ v0, v0 = Value.agg #[.int .i64 X.kind, .int .u64 (limb X.set 0), .int .u64 (limb X.set 1), .int .u64 (limb X.set 2), .int .u64 (limb X.set 3), .slice a X.args.length c] := ⟨_, rfl⟩
  cases hnode : X.node with
  | false =>
    have hF : Hid (X.formed = false) := by show _ = _; rw [formed_at, hnode]; rfl
    rw [hnode] at hn
    rw [hF.out]
    generalize X.kind = k at *
    generalize limb X.set 0 = x0 at *
    generalize limb X.set 1 = x1 at *
    generalize limb X.set 2 = x2 at *
    generalize limb X.set 3 = x3 at *
    generalize X.args.length = n at *
    clear hnode
    go_enter Tryd.func31, Tryd.ntmps31
    go_wp2_with fail
    refine (hn _).mono ?_
    rintro e w1 ⟨rfl, q1⟩
    go_wp2_with fail
    go_ret
    exact ⟨rfl, (((Qt.refl w).alloc _).comp q1.out)⟩
  | true =>
    rw [hnode] at hn
    have HN : Hid (X.node = true) := hnode
    clear hnode hv0 v0
    go_enter Tryd.func31, Tryd.ntmps31
    go_wp2_with fail
    refine (hn _).mono ?_
    rintro e w1 ⟨rfl, q1⟩
    obtain ⟨b0, b1, b2, b3, b4, b5⟩ := box6 q1
    have Q1 : Hid (Qt w w1) := ((Qt.refl w).alloc _).comp q1.out
    clear q1
    have hmm := make_map
    go_wp2_with fail
    have B0 : Hid (Wf K w (w1.heap.size + 1) X none ((w1.alloc (.cells #[.int .i64 X.kind, .int .u64 (limb X.set 0), .int .u64 (limb X.set 1), .int .u64 (limb X.set 2), .int .u64 (limb X.set 3), .slice a X.args.length c] 29)).alloc (.map #[] 0)) (.slice (some ⟨w1.heap.size, 0, none⟩) 1 1) [X] [] []) := Wf.start HX.out HK.out Q1.out
    clear b0 b1 b2 b3 b4 b5 hn
    have HM : Hid (w.heap.size ≤ w1.heap.size) := Q1.out.size
    generalize (w1.alloc (.cells #[.int .i64 X.kind, .int .u64 (limb X.set 0), .int .u64 (limb X.set 1), .int .u64 (limb X.set 2), .int .u64 (limb X.set 3), .slice a X.args.length c] 29)).alloc (.map #[] 0) = W0 at *
    generalize w1.heap.size + 1 = m at *
    go_loopg [3] X.nodes (fun gk s3 wr => ∃ Td N L, (Td.map RX.nodes).sum ≤ gk ∧ Hid (Wf K w m X none wr s3 Td N L))
    case atStart => exact ⟨[X], [], [], by simp, B0⟩
    case round =>
      obtain ⟨Td, N, L, hsum, B⟩ := hrel
      obtain ⟨b, d, hv, hps, hnn⟩ := B.out.ro.sl (Nat.lt_of_le_of_lt B.out.len (by have := HT.out; omega))
      subst hv
      rcases List.eq_nil_or_concat Td with hTd | ⟨T0, t, hTd⟩
      · subst hTd
        have HE : Hid (X.formed = true) := B.out.fm.end HN.out
        go_wp2_with fail
        go_ret
        exact ⟨by rw [HE.out]; rfl, B.out.mv.mono (fun j hj h => by omega)⟩
      · rw [List.concat_eq_append] at hTd
        subst hTd
        obtain ⟨n, hn⟩ : ∃ n, n = (T0 ++ [t]).length := ⟨_, rfl⟩
        have hn2 : n = T0.length + 1 := by rw [hn, List.length_append]; rfl
        rw [← hn]
        have hB : Hid (Wf K w m X none wr (.slice b n d) (T0 ++ [t]) N L) := by rw [hn]; exact B
        have hlt : n < 90002 := by
          have := B.out.len
          rw [← hn] at this
          have := HT.out
          omega
        have hcap : n ≤ d := by obtain ⟨_, _, h, _⟩ := hps; rw [hn]; exact h
        obtain ⟨bb, a', c', hb, hbb, hpt, q0, q1, q2, q3, q4, q5⟩ := hB.out.ro.at (i := T0.length) (x := t) (by simp)
        subst hb
        have HPT : Hid (Parts t.args K w a' c') := parts_back HK.out hB.out.mv hpt
        have HBB : Hid (w.heap.size ≤ bb) := hbb
        clear hps hpt B hbb
        have hd1 : (n : Int) - 1 = (T0.length : Int) := by omega
        have hd2 : (0 : Int) < (n : Int) := by omega
        have hd3 : (T0.length : Int) < (n : Int) := by omega
        have hd4 : T0.length < n := by omega
        have HTL : Hid (n = T0.length + 1) := hn2
        obtain ⟨k0, hk0⟩ : ∃ k0, k0 = T0.length := ⟨_, rfl⟩
        rw [← hk0] at hd1 hd3 hd4 q0 q1 q2 q3 q4 q5
        have HK0 : Hid (k0 = T0.length) := hk0
        have hd5 : k0 ≤ d := by omega
        have hd6 : (k0 : Int) ≤ (d : Int) := by omega
        have hd7 : ¬ d = 0 := by omega
        clear hn hn2 hk0 hcap
        go_wp2_with fail
        have hlt2 : t.args.length < 140737488355328 := parts_kind HPT.out
        have BI : Hid (Wi K w m X t wr.heap.size #[.int .i64 t.kind, .int .u64 (limb t.set 0), .int .u64 (limb t.set 1), .int .u64 (limb t.set 2), .int .u64 (limb t.set 3), .slice a' t.args.length c'] T0 (wr.alloc (.cells #[.int .i64 t.kind, .int .u64 (limb t.set 0), .int .u64 (limb t.set 1), .int .u64 (limb t.set 2), .int .u64 (limb t.set 3), .slice a' t.args.length c'] 29)) (.slice (some ⟨bb, 0, none⟩) k0 d) [] N L 0) := by
          rw [HK0.out]
          have hB2 := hB.out
          rw [HTL.out] at hB2
          exact Wi.start HK.out hB2
        clear q0 q1 q2 q3 q4 q5
        have hcs : Hid (∃ cs : Array Value, cs = #[Value.int .i64 t.kind, .int .u64 (limb t.set 0), .int .u64 (limb t.set 1), .int .u64 (limb t.set 2), .int .u64 (limb t.set 3), .slice a' t.args.length c']) := ⟨_, rfl⟩
        obtain ⟨cs, hcs⟩ := hcs.out
        rw [← hcs] at BI
        rw [← hcs]
        have HCS : Hid _ := hcs
        clear hcs
        generalize wr.heap.size = g5 at *
        generalize wr.alloc (.cells cs 29) = W1 at *
        generalize Value.agg #[.int .i64 X.kind, .int .u64 (limb X.set 0), .int .u64 (limb X.set 1), .int .u64 (limb X.set 2), .int .u64 (limb X.set 3), .slice a X.args.length c] = xv0 at *
        generalize Value.slice (some ⟨bb, 0, none⟩) n d = vv0 at *
        rw [decide_eq_true (show 0 < n by omega)]
        go_loopw [3, 31] (fun s3 s31 wr => ∃ i A N L, i ≤ t.args.length ∧ s31 = .int .i64 i ∧ Hid (Wi K w m X t g5 cs T0 wr s3 A N L i)) (fun _ s31 _ => t.args.length - (intOf s31).toNat)
        case atStart => exact ⟨0, [], N, L, by omega, rfl, BI⟩
        case round =>
          obtain ⟨i, A, N, L, hi, rfl, B⟩ := hrel
          obtain ⟨v, hv⟩ : ∃ v, v = u3 := ⟨_, rfl⟩
          subst hv
          by_cases hlt3 : i < t.args.length
          · obtain ⟨x, hx⟩ : ∃ x, t.args[i]? = some x := ⟨_, List.getElem?_eq_getElem hlt3⟩
            have HX1 : Hid (t.args[i]? = some x) := hx
            obtain ⟨b, o, a2, c2, ha, hp2, q0, q1, q2, q3, q4, q5⟩ := (parts_forth HK.out B.out.wf.mv HPT.out).at hx
            have HP3 : Hid (Parts x.args K w a2 c2) := parts_back HK.out B.out.wf.mv hp2
            subst ha
            have hnx := fun W => isNode_any x.kind x.set a2 x.args.length c2 W
            have hnd : node x.kind x.set x.args.length = x.node := rfl
            unfold xv at hnx
            rw [hnd] at hnx
            have hbox := B.out.box
            rw [HCS.out] at hbox
            clear hnd hp2 hx
            cases hnode2 : x.node with
            | false =>
              rw [hnode2] at hnx
              have HXF : Hid (X.formed = false) := by
                cases hf : X.formed with
                | false => rfl
                | true =>
                  have := (formed_part (B.out.wf.fm.cf hf t rfl) (List.mem_of_getElem? HX1.out)).2.1
                  rw [hnode2] at this; cases this
              clear hnode2
              have HB7 := hold7 (w := wr) (v0 := .int .i64 x.kind) (v1 := .int .u64 (limb x.set 0)) (v2 := .int .u64 (limb x.set 1)) (v3 := .int .u64 (limb x.set 2)) (v4 := .int .u64 (limb x.set 3)) (v5 := .slice a2 x.args.length c2) hbox
              obtain ⟨c0, c1, c2', c3, c4, c5, c6, HQ0⟩ := HB7
              have C0 : Hid _ := c0
              have C1 : Hid _ := c1
              have C2 : Hid _ := c2'
              have C3 : Hid _ := c3
              have C4 : Hid _ := c4
              have C5 : Hid _ := c5
              have C6 : Hid _ := c6
              go_wp2_with fail
              have HR : Hid (Qt wr (wr.alloc (.cells #[.int .i64 x.kind, .int .u64 (limb x.set 0), .int .u64 (limb x.set 1), .int .u64 (limb x.set 2), .int .u64 (limb x.set 3), .slice a2 x.args.length c2] 29))) := HQ0
              obtain ⟨Wb, hWb⟩ : ∃ Wb, Wb = wr.alloc (.cells #[.int .i64 x.kind, .int .u64 (limb x.set 0), .int .u64 (limb x.set 1), .int .u64 (limb x.set 2), .int .u64 (limb x.set 3), .slice a2 x.args.length c2] 29) := ⟨_, rfl⟩
              rw [← hWb] at C0 C1 C2 C3 C4 C5 C6 HQ0 HR c0 c1 c2' c3 c4 c5 c6
              rw [← hWb]
              clear hWb HQ0 q0 q1 q2 q3 q4 q5
              have DQ : Hid (Qt Wb Wb.drew) := Mv.drewN _ Wb 1
              refine wp_region_noPanic ?_
              refine wp_region_held_drew (S := fun w' => w'.cell? ⟨wr.heap.size, 0, none⟩ = some (.int .i64 x.kind) ∧ w'.cell? ⟨wr.heap.size, 1, none⟩ = some (.int .u64 (limb x.set 0)) ∧ w'.cell? ⟨wr.heap.size, 2, none⟩ = some (.int .u64 (limb x.set 1)) ∧ w'.cell? ⟨wr.heap.size, 3, none⟩ = some (.int .u64 (limb x.set 2)) ∧ w'.cell? ⟨wr.heap.size, 4, none⟩ = some (.int .u64 (limb x.set 3)) ∧ w'.cell? ⟨wr.heap.size, 5, none⟩ = some (.slice a2 x.args.length c2) ∧ w'.cell? ⟨g5, 0, none⟩ = some (.int .i64 t.kind) ∧ Hid (Qt Wb w')) (by kernel_rfl) (keep7 C0 C1 C2 C3 C4 C5 C6 DQ) (fun hS0 => ?_)
              refine take_d (i := 0) (d := some 35) (v := .agg #[.int .i64 x.kind, .int .u64 (limb x.set 0), .int .u64 (limb x.set 1), .int .u64 (limb x.set 2), .int .u64 (limb x.set 3), .slice a2 x.args.length c2]) rfl rfl (by kernel_rfl) (by kernel_rfl) (by kernel_rfl) (fun _ _ _ h => h) (Or.inl ⟨by kernel_rfl, ?_⟩) hS0 ?_
              · rintro w' ⟨k0, k1, k2, k3, k4, k5, k6, k7⟩
                go_simp
              simp only [Act.put, List.setIfInBounds_toArray, List.set_cons_zero, List.set_cons_succ]
              refine wpAnyH_ready (rs := [1]) (by kernel_rfl) (by simp) ?_
              refine AllReadyH.cons rfl (fun KK hKK => ?_) AllReadyH.nil
              go_simp
              refine (hnx _).mono ?_
              rintro e4 w4 ⟨rfl, q4⟩
              refine hKK.out _ _ (keep7 C0 C1 C2 C3 C4 C5 C6 (keep7q q4 hS0)) (fun hS1 => ?_)
              clear hKK
              refine take_d (i := 2) (d := some 37) (v := .bool true) rfl rfl (by kernel_rfl) (by kernel_rfl) (by kernel_rfl) (fun _ _ _ h => h) (Or.inl ⟨by kernel_rfl, ?_⟩) hS1 ?_
              · rintro w' ⟨k0, k1, k2, k3, k4, k5, k6, k7⟩
                go_simp
              simp only [Act.put, List.setIfInBounds_toArray, List.set_cons_zero, List.set_cons_succ]
              refine take_d (i := 3) (d := some 38) (v := .bool true) rfl rfl (by kernel_rfl) (by kernel_rfl) (by kernel_rfl) (fun _ _ _ h => h) (Or.inl ⟨by kernel_rfl, ?_⟩) hS1 ?_
              · rintro w' ⟨k0, k1, k2, k3, k4, k5, k6, k7⟩
                go_simp
              simp only [Act.put, List.setIfInBounds_toArray, List.set_cons_zero, List.set_cons_succ]
              refine take_d (i := 4) (d := some 39) (v := undef) rfl rfl (by kernel_rfl) (by kernel_rfl) (by kernel_rfl) (fun _ _ _ h => h) (Or.inr ⟨by kernel_rfl, rfl⟩) hS1 ?_
              simp only [Act.put, List.setIfInBounds_toArray, List.set_cons_zero, List.set_cons_succ]
              refine take_d (i := 5) (d := some 40) (v := undef) rfl rfl (by kernel_rfl) (by kernel_rfl) (by kernel_rfl) (fun _ _ _ h => h) (Or.inr ⟨by kernel_rfl, rfl⟩) hS1 ?_
              simp only [Act.put, List.setIfInBounds_toArray, List.set_cons_zero, List.set_cons_succ]
              refine take_d (i := 6) (d := some 41) (v := undef) rfl rfl (by kernel_rfl) (by kernel_rfl) (by kernel_rfl) (fun _ _ _ h => h) (Or.inr ⟨by kernel_rfl, rfl⟩) hS1 ?_
              simp only [Act.put, List.setIfInBounds_toArray, List.set_cons_zero, List.set_cons_succ]
              refine take_d (i := 7) (d := some 42) (v := undef) rfl rfl (by kernel_rfl) (by kernel_rfl) (by kernel_rfl) (fun _ _ _ h => h) (Or.inr ⟨by kernel_rfl, rfl⟩) hS1 ?_
              simp only [Act.put, List.setIfInBounds_toArray, List.set_cons_zero, List.set_cons_succ]
              refine take_d (i := 8) (d := some 43) (v := undef) rfl rfl (by kernel_rfl) (by kernel_rfl) (by kernel_rfl) (fun _ _ _ h => h) (Or.inr ⟨by kernel_rfl, rfl⟩) hS1 ?_
              simp only [Act.put, List.setIfInBounds_toArray, List.set_cons_zero, List.set_cons_succ]
              refine take_d (i := 9) (d := some 44) (v := undef) rfl rfl (by kernel_rfl) (by kernel_rfl) (by kernel_rfl) (fun _ _ _ h => h) (Or.inr ⟨by kernel_rfl, rfl⟩) hS1 ?_
              simp only [Act.put, List.setIfInBounds_toArray, List.set_cons_zero, List.set_cons_succ]
              refine take_d (i := 10) (d := some 45) (v := undef) rfl rfl (by kernel_rfl) (by kernel_rfl) (by kernel_rfl) (fun _ _ _ h => h) (Or.inr ⟨by kernel_rfl, rfl⟩) hS1 ?_
              simp only [Act.put, List.setIfInBounds_toArray, List.set_cons_zero, List.set_cons_succ]
              refine take_d (i := 11) (d := some 46) (v := .bool true) rfl rfl (by kernel_rfl) (by kernel_rfl) (by kernel_rfl) (fun _ _ _ h => h) (Or.inl ⟨by kernel_rfl, ?_⟩) hS1 ?_
              · rintro w' ⟨k0, k1, k2, k3, k4, k5, k6, k7⟩
                go_simp
              simp only [Act.put, List.setIfInBounds_toArray, List.set_cons_zero, List.set_cons_succ]
              refine wpAnyH_done (by kernel_rfl) ?_ _
              refine NoPanic.normal ?_
              go_wp2_with fail
              go_ret
              exact ⟨by rw [HXF.out]; rfl, (B.out.wf.mv.trans (HR.out.comp (Hid.out hS1.2.2.2.2.2.2.2)) (fun _ _ h => h.elim)).mono (fun j hj h => by omega)⟩
            | true =>
              rw [hnode2] at hnx
              have HN2 : Hid (x.node = true) := hnode2
              clear hnode2
              by_cases hl : lvl x.kind = lvl t.kind
              · have HXF : Hid (X.formed = false) := by
                  cases hf : X.formed with
                  | false => rfl
                  | true => exact absurd hl (formed_part (B.out.wf.fm.cf hf t rfl) (List.mem_of_getElem? HX1.out)).2.2
                have hle : (lvl x.kind == lvl t.kind) = true := by simp [hl]
                clear hl
                have HB7 := hold7 (w := wr) (v0 := .int .i64 x.kind) (v1 := .int .u64 (limb x.set 0)) (v2 := .int .u64 (limb x.set 1)) (v3 := .int .u64 (limb x.set 2)) (v4 := .int .u64 (limb x.set 3)) (v5 := .slice a2 x.args.length c2) hbox
                obtain ⟨c0, c1, c2', c3, c4, c5, c6, HQ0⟩ := HB7
                have C0 : Hid _ := c0
                have C1 : Hid _ := c1
                have C2 : Hid _ := c2'
                have C3 : Hid _ := c3
                have C4 : Hid _ := c4
                have C5 : Hid _ := c5
                have C6 : Hid _ := c6
                go_wp2_with fail
                have HR : Hid (Qt wr (wr.alloc (.cells #[.int .i64 x.kind, .int .u64 (limb x.set 0), .int .u64 (limb x.set 1), .int .u64 (limb x.set 2), .int .u64 (limb x.set 3), .slice a2 x.args.length c2] 29))) := HQ0
                obtain ⟨Wb, hWb⟩ : ∃ Wb, Wb = wr.alloc (.cells #[.int .i64 x.kind, .int .u64 (limb x.set 0), .int .u64 (limb x.set 1), .int .u64 (limb x.set 2), .int .u64 (limb x.set 3), .slice a2 x.args.length c2] 29) := ⟨_, rfl⟩
                rw [← hWb] at C0 C1 C2 C3 C4 C5 C6 HQ0 HR c0 c1 c2' c3 c4 c5 c6
                rw [← hWb]
                clear hWb HQ0 q0 q1 q2 q3 q4 q5
                have DQ : Hid (Qt Wb Wb.drew) := Mv.drewN _ Wb 1
                refine wp_region_noPanic ?_
                refine wp_region_held_drew (S := fun w' => w'.cell? ⟨wr.heap.size, 0, none⟩ = some (.int .i64 x.kind) ∧ w'.cell? ⟨wr.heap.size, 1, none⟩ = some (.int .u64 (limb x.set 0)) ∧ w'.cell? ⟨wr.heap.size, 2, none⟩ = some (.int .u64 (limb x.set 1)) ∧ w'.cell? ⟨wr.heap.size, 3, none⟩ = some (.int .u64 (limb x.set 2)) ∧ w'.cell? ⟨wr.heap.size, 4, none⟩ = some (.int .u64 (limb x.set 3)) ∧ w'.cell? ⟨wr.heap.size, 5, none⟩ = some (.slice a2 x.args.length c2) ∧ w'.cell? ⟨g5, 0, none⟩ = some (.int .i64 t.kind) ∧ Hid (Qt Wb w')) (by kernel_rfl) (keep7 C0 C1 C2 C3 C4 C5 C6 DQ) (fun hS0 => ?_)
                refine take_d (i := 0) (d := some 35) (v := .agg #[.int .i64 x.kind, .int .u64 (limb x.set 0), .int .u64 (limb x.set 1), .int .u64 (limb x.set 2), .int .u64 (limb x.set 3), .slice a2 x.args.length c2]) rfl rfl (by kernel_rfl) (by kernel_rfl) (by kernel_rfl) (fun _ _ _ h => h) (Or.inl ⟨by kernel_rfl, ?_⟩) hS0 ?_
                · rintro w' ⟨k0, k1, k2, k3, k4, k5, k6, k7⟩
                  go_simp
                simp only [Act.put, List.setIfInBounds_toArray, List.set_cons_zero, List.set_cons_succ]
                refine wpAnyH_ready (rs := [1]) (by kernel_rfl) (by simp) ?_
                refine AllReadyH.cons rfl (fun KK hKK => ?_) AllReadyH.nil
                go_simp
                refine (hnx _).mono ?_
                rintro e4 w4 ⟨rfl, q4⟩
                refine hKK.out _ _ (keep7 C0 C1 C2 C3 C4 C5 C6 (keep7q q4 hS0)) (fun hS1 => ?_)
                clear hKK
                refine take_d (i := 2) (d := some 37) (v := .bool false) rfl rfl (by kernel_rfl) (by kernel_rfl) (by kernel_rfl) (fun _ _ _ h => h) (Or.inl ⟨by kernel_rfl, ?_⟩) hS1 ?_
                · rintro w' ⟨k0, k1, k2, k3, k4, k5, k6, k7⟩
                  go_simp
                simp only [Act.put, List.setIfInBounds_toArray, List.set_cons_zero, List.set_cons_succ]
                refine take_d (i := 3) (d := some 38) (v := .bool false) rfl rfl (by kernel_rfl) (by kernel_rfl) (by kernel_rfl) (fun _ _ _ h => h) (Or.inl ⟨by kernel_rfl, ?_⟩) hS1 ?_
                · rintro w' ⟨k0, k1, k2, k3, k4, k5, k6, k7⟩
                  go_simp
                simp only [Act.put, List.setIfInBounds_toArray, List.set_cons_zero, List.set_cons_succ]
                refine take_d (i := 4) (d := some 39) (v := .pointer (some ⟨wr.heap.size, 0, none⟩)) rfl rfl (by kernel_rfl) (by kernel_rfl) (by kernel_rfl) (fun _ _ _ h => h) (Or.inl ⟨by kernel_rfl, ?_⟩) hS1 ?_
                · rintro w' ⟨k0, k1, k2, k3, k4, k5, k6, k7⟩
                  go_simp
                simp only [Act.put, List.setIfInBounds_toArray, List.set_cons_zero, List.set_cons_succ]
                refine take_d (i := 5) (d := some 40) (v := .int .i64 x.kind) rfl rfl (by kernel_rfl) (by kernel_rfl) (by kernel_rfl) (fun _ _ _ h => h) (Or.inl ⟨by kernel_rfl, ?_⟩) hS1 ?_
                · rintro w' ⟨k0, k1, k2, k3, k4, k5, k6, k7⟩
                  go_simp
                simp only [Act.put, List.setIfInBounds_toArray, List.set_cons_zero, List.set_cons_succ]
                refine take_d (i := 7) (d := some 42) (v := .pointer (some ⟨g5, 0, none⟩)) rfl rfl (by kernel_rfl) (by kernel_rfl) (by kernel_rfl) (fun _ _ _ h => h) (Or.inl ⟨by kernel_rfl, ?_⟩) hS1 ?_
                · rintro w' ⟨k0, k1, k2, k3, k4, k5, k6, k7⟩
                  go_simp
                simp only [Act.put, List.setIfInBounds_toArray, List.set_cons_zero, List.set_cons_succ]
                refine take_d (i := 8) (d := some 43) (v := .int .i64 t.kind) rfl rfl (by kernel_rfl) (by kernel_rfl) (by kernel_rfl) (fun _ _ _ h => h) (Or.inl ⟨by kernel_rfl, ?_⟩) hS1 ?_
                · rintro w' ⟨k0, k1, k2, k3, k4, k5, k6, k7⟩
                  go_simp
                simp only [Act.put, List.setIfInBounds_toArray, List.set_cons_zero, List.set_cons_succ]
                refine wpAnyH_ready (rs := [6]) (by kernel_rfl) (by simp) ?_
                refine AllReadyH.cons rfl (fun KK hKK => ?_) AllReadyH.nil
                go_simp
                refine (level_any x.kind _).mono ?_
                rintro e5 w5 ⟨rfl, hw5⟩
                obtain rfl := hw5.symm
                refine hKK.out _ _ hS1 (fun hS2 => ?_)
                clear hKK
                refine wpAnyH_ready (rs := [9]) (by kernel_rfl) (by simp) ?_
                refine AllReadyH.cons rfl (fun KK hKK => ?_) AllReadyH.nil
                go_simp
                refine (level_any t.kind _).mono ?_
                rintro e5 w5 ⟨rfl, hw5⟩
                obtain rfl := hw5.symm
                refine hKK.out _ _ hS1 (fun hS2 => ?_)
                clear hKK
                refine take_d (i := 10) (d := some 45) (v := .bool true) rfl rfl (by kernel_rfl) (by kernel_rfl) (by kernel_rfl) (fun _ _ _ h => h) (Or.inl ⟨by kernel_rfl, ?_⟩) hS1 ?_
                · rintro w' ⟨k0, k1, k2, k3, k4, k5, k6, k7⟩
                  go_simp
                simp only [Act.put, List.setIfInBounds_toArray, List.set_cons_zero, List.set_cons_succ]
                refine take_d (i := 11) (d := some 46) (v := .bool true) rfl rfl (by kernel_rfl) (by kernel_rfl) (by kernel_rfl) (fun _ _ _ h => h) (Or.inl ⟨by kernel_rfl, ?_⟩) hS1 ?_
                · rintro w' ⟨k0, k1, k2, k3, k4, k5, k6, k7⟩
                  go_simp
                simp only [Act.put, List.setIfInBounds_toArray, List.set_cons_zero, List.set_cons_succ]
                refine wpAnyH_done (by kernel_rfl) ?_ _
                refine NoPanic.normal ?_
                go_wp2_with fail
                go_ret
                exact ⟨by rw [HXF.out]; rfl, (B.out.wf.mv.trans (HR.out.comp (Hid.out hS1.2.2.2.2.2.2.2)) (fun _ _ h => h.elim)).mono (fun j hj h => by omega)⟩
              · have HL2 : Hid (lvl x.kind ≠ lvl t.kind) := hl
                have hle : (lvl x.kind == lvl t.kind) = false := by simp [hl]
                clear hl
                have HB7 := hold7 (w := wr) (v0 := .int .i64 x.kind) (v1 := .int .u64 (limb x.set 0)) (v2 := .int .u64 (limb x.set 1)) (v3 := .int .u64 (limb x.set 2)) (v4 := .int .u64 (limb x.set 3)) (v5 := .slice a2 x.args.length c2) hbox
                obtain ⟨c0, c1, c2', c3, c4, c5, c6, HQ0⟩ := HB7
                have C0 : Hid _ := c0
                have C1 : Hid _ := c1
                have C2 : Hid _ := c2'
                have C3 : Hid _ := c3
                have C4 : Hid _ := c4
                have C5 : Hid _ := c5
                have C6 : Hid _ := c6
                go_wp2_with fail
                have HR : Hid (Qt wr (wr.alloc (.cells #[.int .i64 x.kind, .int .u64 (limb x.set 0), .int .u64 (limb x.set 1), .int .u64 (limb x.set 2), .int .u64 (limb x.set 3), .slice a2 x.args.length c2] 29))) := HQ0
                obtain ⟨Wb, hWb⟩ : ∃ Wb, Wb = wr.alloc (.cells #[.int .i64 x.kind, .int .u64 (limb x.set 0), .int .u64 (limb x.set 1), .int .u64 (limb x.set 2), .int .u64 (limb x.set 3), .slice a2 x.args.length c2] 29) := ⟨_, rfl⟩
                rw [← hWb] at C0 C1 C2 C3 C4 C5 C6 HQ0 HR c0 c1 c2' c3 c4 c5 c6
                rw [← hWb]
                clear hWb HQ0 q0 q1 q2 q3 q4 q5
                have DQ : Hid (Qt Wb Wb.drew) := Mv.drewN _ Wb 1
                refine wp_region_noPanic ?_
                refine wp_region_held_drew (S := fun w' => w'.cell? ⟨wr.heap.size, 0, none⟩ = some (.int .i64 x.kind) ∧ w'.cell? ⟨wr.heap.size, 1, none⟩ = some (.int .u64 (limb x.set 0)) ∧ w'.cell? ⟨wr.heap.size, 2, none⟩ = some (.int .u64 (limb x.set 1)) ∧ w'.cell? ⟨wr.heap.size, 3, none⟩ = some (.int .u64 (limb x.set 2)) ∧ w'.cell? ⟨wr.heap.size, 4, none⟩ = some (.int .u64 (limb x.set 3)) ∧ w'.cell? ⟨wr.heap.size, 5, none⟩ = some (.slice a2 x.args.length c2) ∧ w'.cell? ⟨g5, 0, none⟩ = some (.int .i64 t.kind) ∧ Hid (Qt Wb w')) (by kernel_rfl) (keep7 C0 C1 C2 C3 C4 C5 C6 DQ) (fun hS0 => ?_)
                refine take_d (i := 0) (d := some 35) (v := .agg #[.int .i64 x.kind, .int .u64 (limb x.set 0), .int .u64 (limb x.set 1), .int .u64 (limb x.set 2), .int .u64 (limb x.set 3), .slice a2 x.args.length c2]) rfl rfl (by kernel_rfl) (by kernel_rfl) (by kernel_rfl) (fun _ _ _ h => h) (Or.inl ⟨by kernel_rfl, ?_⟩) hS0 ?_
                · rintro w' ⟨k0, k1, k2, k3, k4, k5, k6, k7⟩
                  go_simp
                simp only [Act.put, List.setIfInBounds_toArray, List.set_cons_zero, List.set_cons_succ]
                refine wpAnyH_ready (rs := [1]) (by kernel_rfl) (by simp) ?_
                refine AllReadyH.cons rfl (fun KK hKK => ?_) AllReadyH.nil
                go_simp
                refine (hnx _).mono ?_
                rintro e4 w4 ⟨rfl, q4⟩
                refine hKK.out _ _ (keep7 C0 C1 C2 C3 C4 C5 C6 (keep7q q4 hS0)) (fun hS1 => ?_)
                clear hKK
                refine take_d (i := 2) (d := some 37) (v := .bool false) rfl rfl (by kernel_rfl) (by kernel_rfl) (by kernel_rfl) (fun _ _ _ h => h) (Or.inl ⟨by kernel_rfl, ?_⟩) hS1 ?_
                · rintro w' ⟨k0, k1, k2, k3, k4, k5, k6, k7⟩
                  go_simp
                simp only [Act.put, List.setIfInBounds_toArray, List.set_cons_zero, List.set_cons_succ]
                refine take_d (i := 3) (d := some 38) (v := .bool false) rfl rfl (by kernel_rfl) (by kernel_rfl) (by kernel_rfl) (fun _ _ _ h => h) (Or.inl ⟨by kernel_rfl, ?_⟩) hS1 ?_
                · rintro w' ⟨k0, k1, k2, k3, k4, k5, k6, k7⟩
                  go_simp
                simp only [Act.put, List.setIfInBounds_toArray, List.set_cons_zero, List.set_cons_succ]
                refine take_d (i := 4) (d := some 39) (v := .pointer (some ⟨wr.heap.size, 0, none⟩)) rfl rfl (by kernel_rfl) (by kernel_rfl) (by kernel_rfl) (fun _ _ _ h => h) (Or.inl ⟨by kernel_rfl, ?_⟩) hS1 ?_
                · rintro w' ⟨k0, k1, k2, k3, k4, k5, k6, k7⟩
                  go_simp
                simp only [Act.put, List.setIfInBounds_toArray, List.set_cons_zero, List.set_cons_succ]
                refine take_d (i := 5) (d := some 40) (v := .int .i64 x.kind) rfl rfl (by kernel_rfl) (by kernel_rfl) (by kernel_rfl) (fun _ _ _ h => h) (Or.inl ⟨by kernel_rfl, ?_⟩) hS1 ?_
                · rintro w' ⟨k0, k1, k2, k3, k4, k5, k6, k7⟩
                  go_simp
                simp only [Act.put, List.setIfInBounds_toArray, List.set_cons_zero, List.set_cons_succ]
                refine take_d (i := 7) (d := some 42) (v := .pointer (some ⟨g5, 0, none⟩)) rfl rfl (by kernel_rfl) (by kernel_rfl) (by kernel_rfl) (fun _ _ _ h => h) (Or.inl ⟨by kernel_rfl, ?_⟩) hS1 ?_
                · rintro w' ⟨k0, k1, k2, k3, k4, k5, k6, k7⟩
                  go_simp
                simp only [Act.put, List.setIfInBounds_toArray, List.set_cons_zero, List.set_cons_succ]
                refine take_d (i := 8) (d := some 43) (v := .int .i64 t.kind) rfl rfl (by kernel_rfl) (by kernel_rfl) (by kernel_rfl) (fun _ _ _ h => h) (Or.inl ⟨by kernel_rfl, ?_⟩) hS1 ?_
                · rintro w' ⟨k0, k1, k2, k3, k4, k5, k6, k7⟩
                  go_simp
                simp only [Act.put, List.setIfInBounds_toArray, List.set_cons_zero, List.set_cons_succ]
                refine wpAnyH_ready (rs := [6]) (by kernel_rfl) (by simp) ?_
                refine AllReadyH.cons rfl (fun KK hKK => ?_) AllReadyH.nil
                go_simp
                refine (level_any x.kind _).mono ?_
                rintro e5 w5 ⟨rfl, hw5⟩
                obtain rfl := hw5.symm
                refine hKK.out _ _ hS1 (fun hS2 => ?_)
                clear hKK
                refine wpAnyH_ready (rs := [9]) (by kernel_rfl) (by simp) ?_
                refine AllReadyH.cons rfl (fun KK hKK => ?_) AllReadyH.nil
                go_simp
                refine (level_any t.kind _).mono ?_
                rintro e5 w5 ⟨rfl, hw5⟩
                obtain rfl := hw5.symm
                refine hKK.out _ _ hS1 (fun hS2 => ?_)
                clear hKK
                refine take_d (i := 10) (d := some 45) (v := .bool false) rfl rfl (by kernel_rfl) (by kernel_rfl) (by kernel_rfl) (fun _ _ _ h => h) (Or.inl ⟨by kernel_rfl, ?_⟩) hS1 ?_
                · rintro w' ⟨k0, k1, k2, k3, k4, k5, k6, k7⟩
                  go_simp
                simp only [Act.put, List.setIfInBounds_toArray, List.set_cons_zero, List.set_cons_succ]
                refine take_d (i := 11) (d := some 46) (v := .bool false) rfl rfl (by kernel_rfl) (by kernel_rfl) (by kernel_rfl) (fun _ _ _ h => h) (Or.inl ⟨by kernel_rfl, ?_⟩) hS1 ?_
                · rintro w' ⟨k0, k1, k2, k3, k4, k5, k6, k7⟩
                  go_simp
                simp only [Act.put, List.setIfInBounds_toArray, List.set_cons_zero, List.set_cons_succ]
                refine wpAnyH_done (by kernel_rfl) ?_ _
                refine NoPanic.normal ?_
                obtain ⟨k0', k1', k2', k3', k4', k5', k6', HQ4⟩ := hS1
                have QW : Hid (Qt wr w4) := HR.out.comp HQ4.out
                have BW : Hid (Wi K w m X t g5 cs T0 w4 v A N L i) := B.out.mv HK.out QW.out
                clear c0 c1 c2' c3 c4 c5 c6 hS0 hnx hbox hle
                by_cases hz : x.args = []
                · have hln : x.args.length = 0 := by rw [hz]; rfl
                  have HKN : Hid (Seen1 N t x) := ⟨HN2.out, HL2.out, .inl hz⟩
                  have hin := fun W => isNew_none m x.kind x.set a2 c2 W
                  unfold xv at hin
                  rw [hln] at k5'
                  clear hz
                  go_wp2_with fail
                  refine (hin _).mono ?_
                  rintro e7 w7 ⟨rfl, q7⟩
                  go_wp2_with fail
                  go_roundw
                  case rel => exact ⟨i + 1, A, N, L, by omega, by go_num, (BW.out.mv HK.out q7.out).skip HX1.out HKN.out⟩
                  case measure => simp [intOf]; omega
                · obtain ⟨bx, ox, rfl⟩ : ∃ bx ox, a2 = some ⟨bx, ox, none⟩ := by
                    obtain ⟨ys, h1, _, ⟨_, h3⟩, _⟩ := HP3.out
                    cases a2 with
                    | none => exact absurd (h3 rfl).1 hz
                    | some q => exact ⟨q.block, q.off, congrArg some (h1 q rfl).2.1⟩
                  have hpos : 0 < x.args.length := List.length_pos_iff.2 hz
                  have hfl : Hid (Flat w4 ⟨bx, ox, none⟩) := by
                    obtain ⟨ys, h1, _⟩ := parts_forth HK.out BW.out.wf.mv HP3.out
                    exact (h1 _ rfl).2
                  have hKm : ∀ j, K j → j ≠ m := fun j hj e => by have := HK.out j hj; have := BW.out.wf.mg; omega
                  have hbm : Hid (bx ≠ m ∧ ∀ s ∈ L, s.2.1.block ≠ m) := ⟨hKm _ (by obtain ⟨ys, h1, _⟩ := HP3.out; exact (h1 _ rfl).1), fun s hs => hKm _ (BW.out.wf.nt s hs).1⟩
                  have hin := fun bb hbb => isNew_some m x.kind x.set bx ox x.args.length c2 L w4 hpos BW.out.wf.mp hfl hbm bb hbb
                  unfold xv at hin
                  clear hz hpos hKm
                  cases hcon : L.contains (x.kind, (⟨bx, ox, none⟩ : Addr), x.args.length) with
                  | true =>
                    have HKN : Hid (Seen1 N t x) := ⟨HN2.out, HL2.out, BW.out.wf.nt.known HP3.out (List.contains_iff_mem.1 hcon)⟩
                    have hno : noted L (x.kind, (⟨bx, ox, none⟩ : Addr), x.args.length) = L := by unfold noted; rw [if_pos hcon]
                    have hin := hin true hcon
                    rw [hno] at hin
                    clear hcon hno
                    go_wp2_with fail
                    refine hin.mono ?_
                    rintro e7 w7 ⟨rfl, q7⟩
                    go_wp2_with fail
                    go_roundw
                    case rel => exact ⟨i + 1, A, N, L, by omega, by go_num, (BW.out.look (x := x) HK.out q7.out.1 q7.out.2).skip HX1.out HKN.out⟩
                    case measure => simp [intOf]; omega
                  | false =>
                    have hno : noted L (x.kind, (⟨bx, ox, none⟩ : Addr), x.args.length) = L ++ [(x.kind, (⟨bx, ox, none⟩ : Addr), x.args.length)] := by unfold noted; rw [if_neg (by rw [hcon]; decide)]
                    have hin := hin false hcon
                    rw [hno] at hin
                    clear hcon hno
                    go_wp2_with fail
                    refine hin.mono ?_
                    rintro e7 w7 ⟨rfl, q7⟩
                    have hK7 : ∀ j, K j → j < w7.heap.size := fun j hj => by have := HK.out j hj; have := BW.out.wf.mv.size; have := q7.out.1.size; omega
                    have hKm : ∀ j, K j → j ≠ m := fun j hj e => by have := HK.out j hj; have := BW.out.wf.mg; omega
                    have hvm : ∀ j, v.ownBlock = some j → ¬ j = m := fun j hj e => BW.out.wf.off (by rw [hj, e])
                    have hro7 := BW.out.wf.ro.mv q7.out.1 hKm hvm
                    have hvb : ∀ j, v.ownBlock = some j → w.heap.size ≤ j := by
                      intro j hj
                      obtain ⟨ys, h1, _⟩ := BW.out.wf.ro.ow
                      exact (ow_blk h1 j hj).1
                    have hp7 : Parts x.args K w7 (some ⟨bx, ox, none⟩) c2 := (parts_forth HK.out BW.out.wf.mv HP3.out).mv q7.out.1 hKm
                    have hlen : (T0 ++ A).length < 90000 := Nat.lt_of_le_of_lt BW.out.wf.len HT.out
                    obtain ⟨v', W, hr, ro', m2, nb⟩ := hro7.push (by have := BW.out.wf.mv.size; have := q7.out.1.size; omega) hlen hK7 hp7
                    have BN : Hid (Wi K w m X t g5 cs T0 W v' (A ++ [x]) (N ++ [x]) (L ++ [(x.kind, (⟨bx, ox, none⟩ : Addr), x.args.length)]) (i + 1)) := BW.out.push (d := 0) HK.out HX1.out HP3.out HN2.out HL2.out q7.out.1 q7.out.2 ro'.out m2.out nb.out hvb
                    have hwm : ¬ wr.heap.size = m := fun e => by have := B.out.wf.mp.lt; omega
                    have n0 := q7.out.1.cell (p := ⟨wr.heap.size, 0, none⟩) k0' hwm
                    have n1 := q7.out.1.cell (p := ⟨wr.heap.size, 1, none⟩) k1' hwm
                    have n2 := q7.out.1.cell (p := ⟨wr.heap.size, 2, none⟩) k2' hwm
                    have n3 := q7.out.1.cell (p := ⟨wr.heap.size, 3, none⟩) k3' hwm
                    have n4 := q7.out.1.cell (p := ⟨wr.heap.size, 4, none⟩) k4' hwm
                    have n5 := q7.out.1.cell (p := ⟨wr.heap.size, 5, none⟩) k5' hwm
                    clear k0' k1' k2' k3' k4' k5' k6' hK7 hKm hvm hro7 hvb hp7 hlen ro' m2 nb hwm hin
                    go_wp2_with (at_builtin; first | (refine wpList_append_given rfl _ _ 27 rfl _ _ _ W rfl rfl hr ?_))
                    go_roundw
                    case rel => exact ⟨i + 1, A ++ [x], N ++ [x], L ++ [(x.kind, (⟨bx, ox, none⟩ : Addr), x.args.length)], by omega, by go_num, BN⟩
                    case measure => simp [intOf]; omega
          · obtain rfl : i = t.args.length := by omega
            have HD : Hid (Done N t) := fun a ha => B.out.seen a (by rw [List.take_length]; exact ha)
            have hs1 : ((T0 ++ A).map RX.nodes).sum < gk := by
              have h1 := B.out.sum
              rw [used_all] at h1
              have h2 := nodes_at t
              simp only [List.map_append, List.sum_append, List.map_cons, List.map_nil, List.sum_cons, List.sum_nil] at hsum ⊢
              omega
            go_wp2_with fail
            go_roundg ((T0 ++ A).map RX.nodes).sum
            case measure => exact hs1
            case rel => exact ⟨T0 ++ A, N, L, Nat.le_refl _, ⟨B.out.wf.mv, B.out.wf.mp, B.out.wf.mg, B.out.wf.ro, B.out.wf.off, B.out.wf.nt, B.out.wf.fm.give HD.out, B.out.wf.up⟩⟩

end Go.Proofs.YtojbakkbmfgoaaaDoor

namespace Go.Proofs.YtojbakkbmfgoaaaDoor
open Go.RowKit
set_option linter.unusedVariables false

set_option maxHeartbeats 1000000 in
theorem isSmall_any (X : RX) (K : Nat → Prop) (a : Option Addr) (c : Nat) (w : World) (hK : ∀ j, K j → j < w.heap.size) (hX : Parts X.args K w a c) :
    Calls Tryd.prog 32 #[xv X.kind X.set a X.args.length c] w fun e w' => e = .returned (.bool (fits X 12 40)) ∧ Hid (Qt w w') := by
  have HX : Hid (Parts X.args K w a c) := hX
  have HK : Hid _ := hK
  clear hX hK
  unfold xv
  have ht : Hid _ := takes_any (w.heap.size + 1) X K (cells6 X.kind X.set a X.args.length c) 12 40 ((w.alloc (.cells #[.int .i64 X.kind, .int .u64 (limb X.set 0), .int .u64 (limb X.set 1), .int .u64 (limb X.set 2), .int .u64 (limb X.set 3), .slice a X.args.length c] 29)).alloc (.cells #[.int .i64 40] 3)) (lies_of ((HX.out.mv (Mv.alloc (fun _ => False) w _) (fun _ _ h => h)).mv (Mv.alloc (fun _ => False) _ _) (fun _ _ h => h))) (fun j hj => by have := HK.out j hj; omega) (by have h := heap_alloc2_new w (.cells #[.int .i64 X.kind, .int .u64 (limb X.set 0), .int .u64 (limb X.set 1), .int .u64 (limb X.set 2), .int .u64 (limb X.set 3), .slice a X.args.length c] 29) (.cells #[.int .i64 40] 3); simp only [World.cell?, h]; rfl) (by have h := heap_alloc2_new w (.cells #[.int .i64 X.kind, .int .u64 (limb X.set 0), .int .u64 (limb X.set 1), .int .u64 (limb X.set 2), .int .u64 (limb X.set 3), .slice a X.args.length c] 29) (.cells #[.int .i64 40] 3); simp only [World.frozen?, h]; rfl) (by decide) (by decide)
  obtain ⟨b0, b1, b2, b3, b4, b5⟩ := box6 (w := w) (w1 := w.alloc (.cells #[.int .i64 X.kind, .int .u64 (limb X.set 0), .int .u64 (limb X.set 1), .int .u64 (limb X.set 2), .int .u64 (limb X.set 3), .slice a X.args.length c] 29)) (Qt.refl _)
  go_enter Tryd.func32, Tryd.ntmps32
  go_wp2_with fail
  refine Calls.mono ht.out ?_
  rintro e1 w1 ⟨rfl, m1, t1⟩
  go_wp2_with fail
  go_ret
  exact ⟨rfl, Mv.trans (((Qt.refl w).alloc _).alloc _) m1.out (fun j hj e => by omega)⟩

theorem may_at (X : RX) : may X = if X.formed = false then 2 else if fits X 12 40 = true then 0 else 6 := by
  unfold may fits
  simp only [decide_eq_true_eq]
set_option maxHeartbeats 1000000 in
theorem may_any (X : RX) (K : Nat → Prop) (a : Option Addr) (c : Nat) (w : World) (hK : ∀ j, K j → j < w.heap.size) (hX : Parts X.args K w a c) (ht : X.tall < 90000) :
    Calls Tryd.prog 21 #[xv X.kind X.set a X.args.length c] w fun e w' => e = .returned (.int .i64 (may X)) ∧ Hid (Qt w w') := by
  have q0 := Mv.alloc (fun _ => False) w (.cells #[.int .i64 X.kind, .int .u64 (limb X.set 0), .int .u64 (limb X.set 1), .int .u64 (limb X.set 2), .int .u64 (limb X.set 3), .slice a X.args.length c] 29)
  have hf := isFormed_any X K a c _ (fun j hj => Nat.lt_of_lt_of_le (hK j hj) q0.size) (hX.mv q0 (fun _ _ h => h)) ht
  have hs := fun W (q : Hid (Qt w W)) => isSmall_any X K a c W (fun j hj => Nat.lt_of_lt_of_le (hK j hj) q.out.size) (hX.mv q.out (fun _ _ h => h))
  rw [may_at]
  clear hX hK ht q0
  unfold xv at *
  cases hff : X.formed with
  | false =>
    rw [hff] at hf
    clear hff hs
    go_enter Tryd.func21, Tryd.ntmps21
    go_wp2_with fail
    refine hf.mono ?_
    rintro e1 w1 ⟨rfl, q1⟩
    go_wp2_with fail
    go_ret
    exact ⟨rfl, ((Qt.refl w).alloc _).comp q1.out⟩
  | true =>
    rw [hff] at hf
    clear hff
    cases hss : fits X 12 40 with
    | true =>
      rw [hss] at hs
      clear hss
      go_enter Tryd.func21, Tryd.ntmps21
      go_wp2_with fail
      refine hf.mono ?_
      rintro e1 w1 ⟨rfl, q1⟩
      obtain ⟨b0, b1, b2, b3, b4, b5⟩ := box6 q1
      have Q1 : Hid (Qt w w1) := ((Qt.refl w).alloc _).comp q1.out
      go_wp2_with fail
      refine (hs _ Q1).mono ?_
      rintro e2 w2 ⟨rfl, q2⟩
      go_wp2_with fail
      go_ret
      exact ⟨rfl, Q1.out.comp q2.out⟩
    | false =>
      rw [hss] at hs
      clear hss
      go_enter Tryd.func21, Tryd.ntmps21
      go_wp2_with fail
      refine hf.mono ?_
      rintro e1 w1 ⟨rfl, q1⟩
      obtain ⟨b0, b1, b2, b3, b4, b5⟩ := box6 q1
      have Q1 : Hid (Qt w w1) := ((Qt.refl w).alloc _).comp q1.out
      go_wp2_with fail
      refine (hs _ Q1).mono ?_
      rintro e2 w2 ⟨rfl, q2⟩
      go_wp2_with fail
      go_ret
      exact ⟨rfl, Q1.out.comp q2.out⟩

end Go.Proofs.YtojbakkbmfgoaaaDoor
