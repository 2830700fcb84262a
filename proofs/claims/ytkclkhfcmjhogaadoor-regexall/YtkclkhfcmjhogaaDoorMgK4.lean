/- isFormed. -/
import Derived.Test.YtkclkhfcmjhogaaDoorMgK3
import Derived.Deep.LoopGhost
namespace Go.Proofs.YtkclkhfcmjhogaaDoor
open Go.RowKit Go.Maps
set_option linter.unusedVariables false

/-- While an expression is looked through: v the list, Td what is on it. -/
structure Wf (K : Nat → Prop) (w0 : World) (m : Nat) (X : RX) (cur : Option RX) (wr : World) (v : Value) (Td N : List RX) (L : List (Int × Addr × Nat)) : Prop where
  mv : Mv (fun j => w0.heap.size ≤ j) w0 wr
  mp : Mk m L wr
  mg : w0.heap.size ≤ m
  ro : Ro w0.heap.size K wr v Td
  off : v.ownBlock ≠ some m
  nt : Nt K w0 L N
  fm : Fm X N Td cur
  up : ∀ (i : Nat) (t : RX), Td[i]? = some t → i + t.tall ≤ X.tall
theorem Wf.len {K : Nat → Prop} {w0 wr : World} {m : Nat} {X : RX} {cur : Option RX} {v : Value} {Td N : List RX} {L : List (Int × Addr × Nat)} (h : Wf K w0 m X cur wr v Td N L) : Td.length ≤ X.tall := by
  cases Td with
  | nil => simp
  | cons t l =>
    obtain ⟨u, hu⟩ : ∃ u, (t :: l)[l.length]? = some u := ⟨_, List.getElem?_eq_getElem (by simp)⟩
    have := h.up _ _ hu
    have := tall_at u
    simp; omega
theorem parts_kind {X : RX} {K : Nat → Prop} {w : World} {a : Option Addr} {c : Nat} (h : Parts X.args K w a c) : X.args.length < 140737488355328 := by
  obtain ⟨ys, _, _, h, _⟩ := h
  exact h.1

theorem make_map (W : World) : (Instr.makeMap 73 none).run Tryd.prog W = .ok (.map (some W.heap.size)) (W.alloc (.map #[] 0)) := rfl
theorem Wf.start {X : RX} {K : Nat → Prop} {a : Option Addr} {c : Nat} {w w1 : World} (hX : Parts X.args K w a c) (hK : ∀ j, K j → j < w.heap.size) (q : Qt w w1) :
    Wf K w (w1.heap.size + 1) X none ((w1.alloc (.cells #[.int .i64 X.kind, .int .u64 (limb X.set 0), .int .u64 (limb X.set 1), .int .u64 (limb X.set 2), .int .u64 (limb X.set 3), .slice a X.args.length c] 28)).alloc (.map #[] 0)) (.slice (some ⟨w1.heap.size, 0, none⟩) 1 1) [X] [] [] := by
  have hs := q.size
  have hK1 : ∀ j, K j → j < w1.heap.size := fun j hj => by have := hK j hj; omega
  have h1 := (Ro.new (base := w.heap.size) hs hK1 (hX.mv q (fun _ _ h => h))).out
  refine ⟨?_, ?_, by omega, h1.mv (Mv.alloc (fun _ => False) _ _) (fun _ _ h => h) (fun _ _ h => h), ?_, ?_, ⟨?_, ?_, ?_, .inl (by simp)⟩, ?_⟩
  · exact Mv.trans ((q.alloc _).mono (fun _ _ h => h.elim)) (Mv.alloc (fun _ => False) _ _) (fun _ _ h => h.elim)
  · refine ⟨#[], 0, ?_, rfl, by simp, by simp⟩
    have := heap_alloc_new (w1.alloc (.cells #[.int .i64 X.kind, .int .u64 (limb X.set 0), .int .u64 (limb X.set 1), .int .u64 (limb X.set 2), .int .u64 (limb X.set 3), .slice a X.args.length c] 28)) (.map #[] 0)
    simpa using this
  · intro e
    have := Option.some.inj e
    simp at this
  · intro r hr; cases hr
  · intro hf t ht; simp at ht; rw [ht]; exact hf
  · intro hf t ht; cases ht
  · intro y hy; cases hy
  · intro i t hi
    cases i with
    | zero => simp at hi; rw [hi]; omega
    | succ i => simp at hi
theorem parts_back {K : Nat → Prop} {w wr : World} (hK : ∀ j, K j → j < w.heap.size) (m : Mv (fun j => w.heap.size ≤ j) w wr) {l : List RX} {a : Option Addr} {c : Nat} (h : Parts l K wr a c) : Parts l K w a c :=
  h.same (fun j hj => (m.block j (hK j hj) (by have := hK j hj; omega)).symm)
theorem parts_forth {K : Nat → Prop} {w wr : World} (hK : ∀ j, K j → j < w.heap.size) (m : Mv (fun j => w.heap.size ≤ j) w wr) {l : List RX} {a : Option Addr} {c : Nat} (h : Parts l K w a c) : Parts l K wr a c :=
  h.same (fun j hj => m.block j (hK j hj) (by have := hK j hj; omega))
/-- While the parts of t are gone through. -/
structure Wi (K : Nat → Prop) (w0 : World) (m : Nat) (X t : RX) (gt : Nat) (cs : Array Value) (T0 : List RX) (wr : World) (v : Value) (A N : List RX) (L : List (Int × Addr × Nat)) (i : Nat) : Prop where
  wf : Wf K w0 m X (some t) wr v (T0 ++ A) N L
  box : wr.heap[gt]? = some (.cells cs 28 (0, 0))
  gm : gt ≠ m
  go : v.ownBlock ≠ some gt
  gl : w0.heap.size ≤ gt
  len : A.length ≤ i
  mem : ∀ a ∈ A, a ∈ t.args
  sum : (A.map RX.nodes).sum ≤ used t.args i
  seen : ∀ a ∈ t.args.take i, Seen1 N t a
  dep : T0.length + t.tall ≤ X.tall
theorem Wf.qt {K : Nat → Prop} {w0 wr w' : World} {m : Nat} {X : RX} {cur : Option RX} {v : Value} {Td N : List RX} {L : List (Int × Addr × Nat)} (hK : ∀ j, K j → j < w0.heap.size) (h : Wf K w0 m X cur wr v Td N L) (q : Qt wr w') : Wf K w0 m X cur w' v Td N L :=
  ⟨h.mv.trans q (fun _ _ h => h.elim), h.mp.mv q (fun h => h) (fun _ _ h => h), h.mg, h.ro.mv q (fun _ _ h => h) (fun _ _ h => h), h.off, h.nt, h.fm, h.up⟩
theorem Wi.mv {K : Nat → Prop} {w0 wr w' : World} {m gt i : Nat} {X t : RX} {cs : Array Value} {v : Value} {T0 A N : List RX} {L : List (Int × Addr × Nat)} (hK : ∀ j, K j → j < w0.heap.size) (h : Wi K w0 m X t gt cs T0 wr v A N L i) (q : Qt wr w') : Wi K w0 m X t gt cs T0 w' v A N L i :=
  ⟨h.wf.qt hK q, (q.block gt (Array.getElem?_eq_some_iff.1 h.box).1 (fun h => h)).trans h.box, h.gm, h.go, h.gl, h.len, h.mem, h.sum, h.seen, h.dep⟩
theorem used_mono {l : List RX} {i : Nat} {x : RX} (hx : l[i]? = some x) : used l i ≤ used l (i + 1) := by rw [used_succ hx]; omega
theorem seen_next {l N : List RX} {t x : RX} {i : Nat} (h : ∀ a ∈ l.take i, Seen1 N t a) (hx : l[i]? = some x) (hs : Seen1 N t x) : ∀ a ∈ l.take (i + 1), Seen1 N t a := by
  intro a ha
  rw [List.take_add_one, hx] at ha
  rcases List.mem_append.1 ha with ha | ha
  · exact h a ha
  · simp at ha; rw [ha]; exact hs
theorem Wi.start {K : Nat → Prop} {w0 wr : World} {m d bb : Nat} {X t : RX} {cs : Array Value} {T0 N : List RX} {L : List (Int × Addr × Nat)} (hK : ∀ j, K j → j < w0.heap.size) (h : Wf K w0 m X none wr (.slice (some ⟨bb, 0, none⟩) (T0.length + 1) d) (T0 ++ [t]) N L) : Wi K w0 m X t wr.heap.size cs T0 (wr.alloc (.cells cs 28)) (.slice (some ⟨bb, 0, none⟩) T0.length d) [] N L 0 := by
  have qa := Mv.alloc (fun _ => False) wr (.cells cs 28)
  have hw := h.mv.size
  have hm := h.mp.lt
  have hro := h.ro.pop
  have hbb : bb < wr.heap.size := by
    obtain ⟨ys, h1, _⟩ := h.ro.ow
    exact (ow_blk h1 bb rfl).2
  have h2 : Wf K w0 m X (some t) wr (.slice (some ⟨bb, 0, none⟩) T0.length d) (T0 ++ []) N L := by
    rw [List.append_nil]
    refine ⟨h.mv, h.mp, h.mg, hro, h.off, h.nt, h.fm.take, fun i u hu => h.up i u ?_⟩
    rw [List.getElem?_append_left (List.getElem?_eq_some_iff.1 hu).1]
    exact hu
  refine ⟨h2.qt hK qa, heap_alloc_new _ _, by omega, ?_, hw, by simp, fun a ha => (by cases ha), (by simp [used]), fun a ha => (by simp at ha), h.up T0.length t (by simp)⟩
  intro e
  have := Option.some.inj e
  simp at this
  omega
/-- One part was seen: nothing is noted. -/
theorem Wi.skip {K : Nat → Prop} {w0 wr : World} {m gt i : Nat} {X t x : RX} {cs : Array Value} {v : Value} {T0 A N : List RX} {L : List (Int × Addr × Nat)} (h : Wi K w0 m X t gt cs T0 wr v A N L i) (hx : t.args[i]? = some x) (hs : Seen1 N t x) : Wi K w0 m X t gt cs T0 wr v A N L (i + 1) :=
  ⟨h.wf, h.box, h.gm, h.go, h.gl, by have := h.len; omega, h.mem, Nat.le_trans h.sum (used_mono hx), seen_next h.seen hx hs, h.dep⟩
/-- The notes were looked at. -/
theorem Wi.look {K : Nat → Prop} {w0 wr w' : World} {m gt i : Nat} {X t x : RX} {cs : Array Value} {v : Value} {T0 A N : List RX} {L : List (Int × Addr × Nat)} (hK : ∀ j, K j → j < w0.heap.size) (h : Wi K w0 m X t gt cs T0 wr v A N L i) (q : Mv (fun j => j = m) wr w') (hm : Mk m L w') : Wi K w0 m X t gt cs T0 w' v A N L i := by
  have hKm : ∀ j, K j → j ≠ m := fun j hj e => by have := hK j hj; have := h.wf.mg; omega
  refine ⟨⟨h.wf.mv.trans q (fun j hj e => by rw [e]; exact h.wf.mg), hm, h.wf.mg, h.wf.ro.mv q hKm (fun j hj e => ?_), h.wf.off, h.wf.nt, h.wf.fm, h.wf.up⟩, (q.block gt (Array.getElem?_eq_some_iff.1 h.box).1 h.gm).trans h.box, h.gm, h.go, h.gl, h.len, h.mem, h.sum, h.seen, h.dep⟩
  rw [e] at hj
  exact h.wf.off hj
/-- A part is noted, and laid on the list. -/
theorem Wi.push {K : Nat → Prop} {w0 wr w1 W : World} {m gt i c d : Nat} {X t x : RX} {cs : Array Value} {v v' : Value} {T0 A N : List RX} {L : List (Int × Addr × Nat)} {q : Addr} (hK : ∀ j, K j → j < w0.heap.size) (h : Wi K w0 m X t gt cs T0 wr v A N L i) (hx : t.args[i]? = some x) (hp : Parts x.args K w0 (some q) c) (hnode : x.node = true) (hlv : lvl x.kind ≠ lvl t.kind)
    (m1 : Mv (fun j => j = m) wr w1) (hm : Mk m (L ++ [(x.kind, q, x.args.length)]) w1) (hro : Ro w0.heap.size K W v' ((T0 ++ A) ++ [x])) (m2 : Mv (fun j => v.ownBlock = some j) w1 W) (hnb : v'.ownBlock = v.ownBlock ∨ ∃ g, v'.ownBlock = some g ∧ w1.heap.size ≤ g) (hvb : ∀ j, v.ownBlock = some j → w0.heap.size ≤ j) : Wi K w0 m X t gt cs T0 W v' (A ++ [x]) (N ++ [x]) (L ++ [(x.kind, q, x.args.length)]) (i + 1) := by
  have hmem : x ∈ t.args := List.mem_of_getElem? hx
  have hlt := (List.getElem?_eq_some_iff.1 hx).1
  have hgl := (Array.getElem?_eq_some_iff.1 h.box).1
  have hml := hm.lt
  have e1 : T0 ++ (A ++ [x]) = (T0 ++ A) ++ [x] := by simp
  have hk1 : ∀ r ∈ L ++ [(x.kind, q, x.args.length)], K r.2.1.block := by
    intro r hr
    obtain ⟨hk, _⟩ := (h.wf.nt.more hp) r hr
    exact hk
  refine ⟨⟨?_, ?_, h.wf.mg, by rw [e1]; exact hro, ?_, h.wf.nt.more hp, by rw [e1]; exact h.wf.fm.push hmem, ?_⟩, ?_, h.gm, ?_, h.gl, by simp; exact h.len, ?_, ?_, ?_, h.dep⟩
  · refine (h.wf.mv.trans m1 (fun j hj e => by rw [e]; exact h.wf.mg)).trans m2 (fun j hj e => hvb j e)
  · refine hm.mv m2 (fun e => h.wf.off e) (fun r hr e => ?_)
    exact h.wf.ro.off _ (hk1 r hr) e
  · rcases hnb with e | ⟨g, e, hg⟩
    · rw [e]; exact h.wf.off
    · rw [e]; intro e2; have := Option.some.inj e2; omega
  · intro j u hu
    rw [e1] at hu
    by_cases hj : j < (T0 ++ A).length
    · rw [List.getElem?_append_left hj] at hu
      exact h.wf.up j u hu
    · rw [List.getElem?_append_right (by omega)] at hu
      have hj2 : j - (T0 ++ A).length = 0 := by
        have := (List.getElem?_eq_some_iff.1 hu).1
        simp at this
        simp; omega
      rw [hj2] at hu
      simp at hu
      subst hu
      have h1 : x.tall ≤ maxl (t.args.map RX.tall) := le_maxl (List.mem_map_of_mem hmem)
      have h2 := tall_at t
      have h3 := h.len
      have h4 := h.dep
      have h5 : j = T0.length + A.length := by simp at hj hj2; omega
      omega
  · have g1 := (m1.block gt hgl h.gm).trans h.box
    exact (m2.block gt (Array.getElem?_eq_some_iff.1 g1).1 (fun e => h.go e)).trans g1
  · rcases hnb with e | ⟨g, e, hg⟩
    · rw [e]; exact h.go
    · rw [e]; intro e2; have := Option.some.inj e2; have := m1.size; omega
  · intro a ha
    rcases List.mem_append.1 ha with ha | ha
    · exact h.mem a ha
    · simp at ha; rw [ha]; exact hmem
  · rw [used_succ hx]; simp; exact h.sum
  · refine seen_next (fun a ha => (h.seen a ha).more x) hx ⟨hnode, hlv, ?_⟩
    exact .inr ⟨x, by simp, rfl, rfl, fun i u v hu hv => by rw [hu] at hv; cases hv; exact sameX_refl u⟩
/-- The cells of what was boxed. -/
theorem box6 {w w1 : World} {v0 v1 v2 v3 v4 v5 : Value} (q : Hid (Qt (w.alloc (.cells #[v0, v1, v2, v3, v4, v5] 28)) w1)) :
    w1.cell? ⟨w.heap.size, 0, none⟩ = some v0 ∧ w1.cell? ⟨w.heap.size, 1, none⟩ = some v1 ∧ w1.cell? ⟨w.heap.size, 2, none⟩ = some v2 ∧ w1.cell? ⟨w.heap.size, 3, none⟩ = some v3 ∧ w1.cell? ⟨w.heap.size, 4, none⟩ = some v4 ∧ w1.cell? ⟨w.heap.size, 5, none⟩ = some v5 := by
  have h := heap_alloc_new w (.cells #[v0, v1, v2, v3, v4, v5] 28)
  refine ⟨Qt.keep q ?_, Qt.keep q ?_, Qt.keep q ?_, Qt.keep q ?_, Qt.keep q ?_, Qt.keep q ?_⟩ <;> simp only [World.cell?, h] <;> rfl
end Go.Proofs.YtkclkhfcmjhogaaDoor
