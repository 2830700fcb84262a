/- The file is made beside the reference's text; which pages hold bytes of a window. -/
import Derived.Test.YtdhdkbaalgdicaaRE
namespace Go.Proofs.Ytdhdkbaalgdicaa
open Go.RowKit
set_option linter.unusedVariables false

/-- The blocks of the reference's text. -/
def Kr (r : Nat) (vl va : Value) : Nat → Prop := fun j => j = r ∨ vl.ownBlock = some j ∨ va.ownBlock = some j
section
variable {w0 w w' : World} {d : Pd} {dp fq tp : Nat} {mo : Int} {l : List Int} {bad : Nat → Bool} {R : List Int} {L : List Bt} {m : Nat} {A : Nat → Int} {r : Nat} {vl va : Value} {Y K : Nat → Prop}
theorem Ed.file (h : Ed w0 w d tp L m A r vl va Y) (mo : Int) : Calls Try.prog 15 #[.pointer (some ⟨d.bp, 0, none⟩), .int .i64 mo] w fun e w' => ∃ fq, e = .returned (.pointer (some ⟨fq, 0, none⟩)) ∧ Hid (Dd w0 (w'.alloc (.cells #[.pointer (some ⟨fq, 0, none⟩), .pointer (some ⟨tp, 0, none⟩)] 74)) w'.heap.size fq tp d mo [] (fun _ => false) [] L m A (Kr r vl va) ∧ RxAt (w'.alloc (.cells #[.pointer (some ⟨fq, 0, none⟩), .pointer (some ⟨tp, 0, none⟩)] 74)) r L m A vl va) := by
  refine (fnew_of (mo := mo) (Y := fun j => j < w.heap.size ∧ (j < d.base ∨ d.top ≤ j)) h.P (fun j hj => hj)).mono ?_
  rintro e w' ⟨rfl, F⟩
  refine ⟨_, rfl, ?_⟩
  have s := side_of (rd := fun _ => 0) h.al.tx (fun k h1 h2 => h.yt k h2) F.out.1 F.out.2
  have D := ds_of F.out.1 s.1 (Cl.nil _) s.2
  have hb := h.al.bel.size
  have hlo := h.lo
  have hs := F.out.2.size
  have o := h.al.old
  have q : Qt w w' := (Mv.of_below F.out.2).mono (fun k hk e => by omega)
  refine ⟨⟨_, _, D, fun k e => ?_, fun k hk => .inl ⟨by omega, .inl (by omega)⟩, (h.al.bel.trans (F.out.2.mono hb)).alloc (Nat.le_trans hb F.out.2.size) _⟩, h.al.rx.qt (q.alloc _)⟩
  have hr := h.hr
  rcases e with rfl | e | e
  · have h1 := o.1
    exact ⟨.inl ⟨h1, .inr hr⟩, hr, .inl (.inl h.al.yr), by omega⟩
  · have h1 := o.2.1 k e
    have h2 := h.hl k e
    exact ⟨.inl ⟨h1, .inr h2⟩, h2, .inl (.inl (h.al.yl k e)), by omega⟩
  · have h1 := o.2.2 k e
    have h2 := h.ha k e
    exact ⟨.inl ⟨h1, .inr h2⟩, h2, .inl (.inl (h.al.ya k e)), by omega⟩
theorem Dd.fault2 (h : Dd w0 w dp fq tp d mo [] bad R L m A K) (a : Option Addr) (n c : Nat) (f : Nat → Int) (hn : n < 50000) (hl : Sl w a n (In f)) (hne : ∀ p, a = some p → d.top ≤ p.block) : Calls Try.prog 20 #[.pointer (some ⟨d.bp, 0, none⟩), .slice a n c] w fun e w' => e = .returned (.tuple #[]) ∧ Hid (Dd w0 w' dp fq tp d mo [] (among f n) R L m A K ∧ Mv (fun j => ¬ K j) w w') := by
  obtain ⟨Y, Z, D, k, lo, B⟩ := h
  have hb := D.F.blk
  refine (fault_fs D.F a n c f hn hl (fun p hp => by have := hne p hp; omega)).mono ?_
  rintro e w' ⟨rfl, H⟩
  have D' := D.file H.out.1 H.out.2 (Cl.nil _) (fun k hk => hk)
  exact ⟨rfl, ⟨_, _, D', fun j hj => ⟨(k j hj).1, (k j hj).2.1, .inl (k j hj).2.2.1, (k j hj).2.2.2⟩, lo, B.trans (H.out.2.below B.size (fun j hj e => e (lo j hj)))⟩, H.out.2.mono (fun j _ e hk => e (k j hk).1)⟩
theorem RxAt.kr (h : RxAt w r L m A vl va) (M : Mv (fun j => ¬ K j) w w') (hK : ∀ j, Kr r vl va j → K j) : RxAt w' r L m A vl va :=
  h.mv M (fun e => e (hK r (.inl rfl))) (fun j hj e => e (hK j (.inr (.inl hj)))) (fun j hj e => e (hK j (.inr (.inr hj))))
theorem Dd.kr (h : Dd w0 w dp fq tp d mo l bad R L m A K) (lo : w0.heap.size ≤ d.base) (hb : d.base ≤ d.top) : ∀ k, K k → w0.heap.size ≤ k := by
  obtain ⟨Y, Z, D, k, _, _⟩ := h
  intro j hj
  have := (k j hj).2.1
  omega
theorem Ed.base (h : Ed w0 w d tp L m A r vl va Y) : w0.heap.size ≤ d.base ∧ d.base ≤ d.top := by
  have h1 := h.P.b0
  have h2 := h.P.t0
  exact ⟨h.lo, by omega⟩
end

/-- Which pages hold one of these bytes. -/
def hb (L : List Bt) (sz fr i j : Nat) : Bool := ((L.take i).drop fr).any (fun x => !x.1 && x.2 / sz == j)
theorem hb_zero (L : List Bt) (sz fr j : Nat) : hb L sz fr fr j = false := by
  unfold hb
  rw [List.drop_eq_nil_of_le (by rw [List.length_take]; omega)]
  rfl
theorem hb_succ {L : List Bt} {sz fr i : Nat} {x : Bt} (hx : L[i]? = some x) (hf : fr ≤ i) (j : Nat) : hb L sz fr (i + 1) j = (hb L sz fr i j || (!x.1 && x.2 / sz == j)) := by
  have hi := (List.getElem?_eq_some_iff.1 hx).1
  unfold hb
  rw [take_succ_get hx, List.drop_append, List.length_take, show fr - min i L.length = 0 by omega, List.drop_zero, List.any_append]
  simp
theorem hb_of {L : List Bt} {sz fr i j : Nat} : hb L sz fr i j = true ↔ ∃ x, (false, x) ∈ (L.take i).drop fr ∧ x / sz = j := by
  unfold hb
  rw [List.any_eq_true]
  constructor
  · rintro ⟨⟨a, x⟩, h1, h2⟩
    simp at h2
    obtain ⟨rfl, h3⟩ := h2
    exact ⟨x, h1, h3⟩
  · rintro ⟨x, h1, h2⟩
    exact ⟨(false, x), h1, by simp [h2]⟩

theorem Own.set {w : World} {base g n c : Nat} {e : TypeId} {V : Nat → Value} (h : Own w base e (.slice (some ⟨g, 0, none⟩) n c) n V) (i : Nat) (u : Value) : Own (w.setCell ⟨g, i, none⟩ u) base e (.slice (some ⟨g, 0, none⟩) n c) n (fun j => if j = i then u else V j) := by
  refine Own.of (World.ownsRow.stored h i u).1 ?_
  intro j hj
  by_cases e : j = i
  · subst e
    rw [World.cell?_setCell_same _ _ _ (h.at hj).1, if_pos rfl]
  · rw [World.cell?_setCell_other _ _ _ _ (fun h => e (by injection h with _ h2; exact h2.symm)), (h.at hj).1, if_neg e]

/-- While the statement notes which pages hold bytes. -/
structure St (w w8 wr : World) (dp fq q : Nat) (d : Pd) (l8 : List Int) (bad : Nat → Bool) (R8 : List Int) (L : List Bt) (m : Nat) (A : Nat → Int) (K8 : Nat → Prop) (r : Nat) (vl va vb : Value) (bs : List Int) (Hf : Nat → Bool) : Prop where
  D : Dd w wr dp fq q d 50 l8 bad R8 L m A (fun j => K8 j ∨ j = w8.heap.size)
  rx : RxAt wr r L m A vl va
  ob : OB wr 0 vb bs
  ho : Own wr w8.heap.size 4 (.slice (some ⟨w8.heap.size, 0, none⟩) 300 300) 300 (fun j => .bool (Hf j))
  kr : ∀ j, Kr r vl va j → j < w8.heap.size
  bl : ∀ j, vb.ownBlock = some j → j < w8.heap.size
  hK : ∀ k, K8 k → w.heap.size ≤ k
  sz : w.heap.size ≤ w8.heap.size
section
variable {w w8 wr w' : World} {dp fq q : Nat} {d : Pd} {l8 : List Int} {bad : Nat → Bool} {R8 : List Int} {L : List Bt} {m : Nat} {A : Nat → Int} {K8 : Nat → Prop} {r : Nat} {vl va vb : Value} {bs : List Int} {Hf Hg : Nat → Bool}
theorem St.qt (h : St w w8 wr dp fq q d l8 bad R8 L m A K8 r vl va vb bs Hf) (k : Qt wr w') : St w w8 w' dp fq q d l8 bad R8 L m A K8 r vl va vb bs Hf :=
  ⟨Dd.qt h.D k, h.rx.qt k, k.owns h.ob (fun _ _ h => h), h.ho.mv k (fun _ _ h => h), h.kr, h.bl, h.hK, h.sz⟩
theorem St.congr (h : St w w8 wr dp fq q d l8 bad R8 L m A K8 r vl va vb bs Hf) (k : ∀ j, Hf j = Hg j) : St w w8 wr dp fq q d l8 bad R8 L m A K8 r vl va vb bs Hg := by
  obtain rfl : Hf = Hg := funext k
  exact h
theorem St.set (h : St w w8 wr dp fq q d l8 bad R8 L m A K8 r vl va vb bs Hf) (i : Nat) (hi : i < 300) (hg : ∀ j, Hg j = if j = i then true else Hf j) : St w w8 (wr.setCell ⟨w8.heap.size, i, none⟩ (.bool true)) dp fq q d l8 bad R8 L m A K8 r vl va vb bs Hg := by
  have M := Mv.setCell wr ⟨w8.heap.size, i, none⟩ (.bool true)
  have hs := h.sz
  refine ⟨Dd.turn h.D (M.mono (fun j _ e => .inr e)) (fun k hk => ?_) _ (fun j hj => .inl hj), h.rx.mv M (fun e => ?_) (fun j hj e => ?_) (fun j hj e => ?_), M.owns h.ob (fun j hj e => ?_), ?_, h.kr, h.bl, h.hK, h.sz⟩
  · rcases hk with hk | rfl
    · exact h.hK k hk
    · exact hs
  · have := h.kr r (.inl rfl); have e : r = w8.heap.size := e; omega
  · have := h.kr j (.inr (.inl hj)); have e : j = w8.heap.size := e; omega
  · have := h.kr j (.inr (.inr hj)); have e : j = w8.heap.size := e; omega
  · have := h.bl j hj; have e : j = w8.heap.size := e; omega
  · refine (h.ho.set i (.bool true)).congr (fun j hj => ?_)
    show (if j = i then Value.bool true else .bool (Hf j)) = .bool (Hg j)
    rw [hg j]
    split <;> rfl
theorem St.cell (h : St w w8 wr dp fq q d l8 bad R8 L m A K8 r vl va vb bs Hf) (i : Nat) (hi : i < 300) : wr.cell? ⟨w8.heap.size, i, none⟩ = some (.bool (Hf i)) ∧ wr.frozen? ⟨w8.heap.size, i, none⟩ = false := h.ho.at hi
end
end Go.Proofs.Ytdhdkbaalgdicaa
