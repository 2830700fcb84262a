/- The file and the list that stands for its cache, side by side. -/
import Derived.Test.YtjlnmkoggobbgaaW1
namespace Go.Proofs.Ytjlnmkoggobbgaa
open Go.RowKit

section
variable {w : World} {r : Nat} {mo : Int} {l : List Int} {ka : Option Addr} {kc : Nat} {va : Option Addr} {vc : Nat}
theorem zwalk_ok (h : Rf w r mo (zt l) ka kc va vc) (hn : l.Nodup) (hl : l.length ≤ cap mo) (hl2 : l.length ≤ 5000) (a b sz : Nat) (bx : Int) (hab : a ≤ b) (hb : b ≤ 5000) (h0 : 0 < sz) (h1 : sz ≤ 512) (hf : ∀ s, s < cntp sz a b → ¬ fails (cap mo) l (a / sz) (badf bx) s) :
    Calls Try.prog 28 #[.pointer (some ⟨r, 0, none⟩), .int .i64 a, .int .i64 b, .int .i64 sz, .int .i64 bx] w fun e w' => ∃ xa xc, e = .returned (.tuple #[.slice xa (rr (cap mo) l (a / sz) (cntp sz a b)).length xc, .int .i64 0]) ∧ Hid (Wd w w' r mo ka va xa xc (rk (cap mo) l (a / sz) (cntp sz a b)) (rr (cap mo) l (a / sz) (cntp sz a b))) := by
  by_cases e : a = b
  · subst e
    have e0 : cntp sz a a = 0 := by unfold cntp; rw [if_neg (by omega)]
    rw [e0]
    refine (walk_none (r := r) a a sz bx (by omega) (by omega) (by omega) (by omega) (by omega) w).mono ?_
    rintro e w' ⟨rfl, rfl⟩
    exact ⟨none, 0, rfl, ka, kc, va, vc, h, own_nil _ _ _ _, Mv.refl _ _, fun j hj => .inl hj, fun j hj => .inl hj⟩
  · obtain ⟨c1, c2⟩ := cntp_spec h0 (show a < b by omega)
    exact walk_ok h hn hl hl2 a b (a / sz) sz (cntp sz a b) bx (by omega) hb h0 h1 rfl ⟨c1, c2⟩ hf
theorem zwalk_bad (h : Rf w r mo (zt l) ka kc va vc) (hn : l.Nodup) (hl : l.length ≤ cap mo) (hl2 : l.length ≤ 5000) (a b sz : Nat) (bx : Int) (hb : b ≤ 5000) (h0 : 0 < sz) (h1 : sz ≤ 512) (t : Nat) (ht : t < cntp sz a b) (hft : fails (cap mo) l (a / sz) (badf bx) t) (hf : ∀ s, s < t → ¬ fails (cap mo) l (a / sz) (badf bx) s) :
    Calls Try.prog 28 #[.pointer (some ⟨r, 0, none⟩), .int .i64 a, .int .i64 b, .int .i64 sz, .int .i64 bx] w fun e w' => ∃ xa xc, e = .returned (.tuple #[.slice xa (rr (cap mo) l (a / sz) (t + 1)).length xc, .int .i64 11]) ∧ Hid (Wd w w' r mo ka va xa xc (rk (cap mo) l (a / sz) t) (rr (cap mo) l (a / sz) (t + 1))) := by
  have hlt : a < b := by
    unfold cntp at ht
    split at ht
    · assumption
    · omega
  obtain ⟨c1, c2⟩ := cntp_spec h0 hlt
  exact walk_bad h hn hl hl2 a b (a / sz) sz t bx hlt hb h0 h1 rfl ⟨fun s hs => c1 s (by omega), hft⟩ hf
end

/-- What both keep away from. -/
def Ys (w : World) (r : Nat) (ka va : Option Addr) : Nat → Prop := fun j => j < w.heap.size ∨ j = r ∨ bk ka = some j ∨ bk va = some j

/-- The two, with blocks Z that nobody may turn. -/
structure Sa (w wr : World) (q : Nat) (d : Pd) (mo : Int) (r : Nat) (bad : Nat → Bool) (lF R lR : List Int) (ka : Option Addr) (kc : Nat) (va : Option Addr) (vc : Nat) (Z : Nat → Prop) : Prop where
  F : Fs wr q d mo lF bad R (fun j => Ys w r ka va j ∨ Z j)
  rf : Rf wr r mo (zt lR) ka kc va vc
  bel : Below w.heap.size w wr
  rt : d.top ≤ r
  ro : w.heap.size ≤ r

section
variable {w wr w1 : World} {q : Nat} {d : Pd} {mo : Int} {r : Nat} {bad bad' : Nat → Bool} {lF lF' R R' lR : List Int} {ka : Option Addr} {kc : Nat} {va : Option Addr} {vc : Nat} {Z Z' : Nat → Prop}
theorem Sa.mono (h : Sa w wr q d mo r bad lF R lR ka kc va vc Z) (hz : ∀ j, Z' j → Z j) : Sa w wr q d mo r bad lF R lR ka kc va vc Z' :=
  ⟨h.F.mono (fun j hj => hj.imp (fun h => h) (hz j)), h.rf, h.bel, h.rt, h.ro⟩
/-- New memory. -/
theorem Sa.past (h : Sa w wr q d mo r bad lF R lR ka kc va vc Z) (hb : Below wr.heap.size wr w1) : Sa w w1 q d mo r bad lF R lR ka kc va vc (fun j => Z j ∨ (wr.heap.size ≤ j ∧ j < w1.heap.size)) := by
  have hm : Mv (fun _ => False) wr w1 := (Mv.of_below hb).mono (fun k hk e => by omega)
  refine ⟨(h.F.below hb).mono (fun j hj => ?_), h.rf.mv hm (fun h => h) (fun _ _ h => h) (fun _ _ h => h), h.bel.trans (hb.mono h.bel.size), h.rt, h.ro⟩
  rcases hj with hj | hj | hj
  · exact .inl (.inl hj)
  · exact .inl (.inr hj)
  · exact .inr hj
/-- Draws alone. -/
theorem Sa.drew (h : Sa w wr q d mo r bad lF R lR ka kc va vc Z) (hm : Mv (fun _ => False) wr w1) : Sa w w1 q d mo r bad lF R lR ka kc va vc Z :=
  ⟨(h.F.mv hm (fun _ h => h.elim)).mono (fun _ hj => .inl hj), h.rf.mv hm (fun h => h) (fun _ _ h => h) (fun _ _ h => h), below_mv h.bel hm (Nat.le_refl _) (fun _ _ h => h), h.rt, h.ro⟩
/-- The file has gone on. -/
theorem Sa.file (h : Sa w wr q d mo r bad lF R lR ka kc va vc Z) (F : Fs w1 q d mo lF' bad' R' (fun j => Ys w r ka va j ∨ Z' j)) (M : Mv (fun j => ¬ (Ys w r ka va j ∨ Z j)) wr w1) : Sa w w1 q d mo r bad' lF' R' lR ka kc va vc Z' :=
  ⟨F, h.rf.mv M (fun e => e (.inl (.inr (.inl rfl)))) (fun _ hj e => e (.inl (.inr (.inr (.inl hj))))) (fun _ hj e => e (.inl (.inr (.inr (.inr hj))))), below_mv h.bel M (Nat.le_refl _) (fun _ hj e => e (.inl (.inl hj))), h.rt, h.ro⟩
theorem Sa.told {a n : Nat} {xa : Option Addr} {xc : Nat} (h : Sa w wr q d mo r bad lF R lR ka kc va vc Z) (T : ToldB wr w1 q d mo lF' bad R' (fun j => Ys w r ka va j ∨ Z j) a n xa xc) : Sa w w1 q d mo r bad lF' R' lR ka kc va vc (fun j => Z j ∨ bk xa = some j) :=
  h.file (T.1.mono (fun j hj => by
    rcases hj with hj | hj | hj
    · exact .inl (.inl hj)
    · exact .inl (.inr hj)
    · exact .inr hj)) T.2.2
theorem Sa.left (h : Sa w wr q d mo r bad lF R lR ka kc va vc Z) (T : LeftB wr w1 q d mo lF' bad' R' (fun j => Ys w r ka va j ∨ Z j)) : Sa w w1 q d mo r bad' lF' R' lR ka kc va vc Z := h.file T.1 T.2
/-- The list has gone on. -/
theorem Sa.ref {xa : Option Addr} {xc : Nat} {L RL : List Int} (h : Sa w wr q d mo r bad lF R lR ka kc va vc Z) (D : Wd wr w1 r mo ka va xa xc L RL) :
    ∃ ka' kc' va' vc', Sa w w1 q d mo r bad lF R L ka' kc' va' vc' (fun j => Z j ∨ bk xa = some j) ∧ Mv (fun j => j = r) wr w1 ∧ Own w1 wr.heap.size 3 (.slice xa RL.length xc) RL.length (In (lof RL)) := by
  obtain ⟨ka', kc', va', vc', rf, O, M, kn, vn⟩ := D
  refine ⟨ka', kc', va', vc', ⟨(h.F.mv M (fun j e => by have e' : j = r := e; rw [e']; exact ⟨.inl (.inr (.inl rfl)), .inl h.rt⟩)).mono (fun j hj => ?_), rf, below_mv h.bel M (Nat.le_refl _) (fun j hj e => by have := h.ro; have e' : j = r := e; omega), h.rt, h.ro⟩, M, O⟩
  rcases hj with (hj | hj | hj | hj) | hj | hj
  · exact .inl (.inl (.inl hj))
  · exact .inl (.inl (.inr (.inl hj)))
  · rcases kn j hj with e | e
    · exact .inl (.inl (.inr (.inr (.inl e))))
    · exact .inr ⟨e, rf.bl.1 j hj⟩
  · rcases vn j hj with e | e
    · exact .inl (.inl (.inr (.inr (.inr e))))
    · exact .inr ⟨e, rf.bl.2 j hj⟩
  · exact .inl (.inr hj)
  · exact .inr (O.blk j (by rw [own_blk]; exact hj))
/-- The list is emptied. -/
theorem Sa.empty (h : Sa w wr q d mo r bad lF R lR ka kc va vc Z) : Sa w ((wr.setCell ⟨r, 1, none⟩ (.slice none 0 0)).setCell ⟨r, 2, none⟩ (.slice none 0 0)) q d mo r bad lF R [] none 0 none 0 Z := by
  obtain ⟨rf, M, _, _⟩ := h.rf.empty
  refine ⟨(h.F.mv M (fun j e => by have e' : j = r := e; rw [e']; exact ⟨.inl (.inr (.inl rfl)), .inl h.rt⟩)).mono (fun j hj => ?_), rf, below_mv h.bel M (Nat.le_refl _) (fun j hj e => by have := h.ro; have e' : j = r := e; omega), h.rt, h.ro⟩
  rcases hj with (hj | hj | hj | hj) | hj
  · exact .inl (.inl (.inl hj))
  · exact .inl (.inl (.inr (.inl hj)))
  · cases hj
  · cases hj
  · exact .inl (.inr hj)
end

theorem among_none (f : Nat → Int) : among f 0 = badf (-1) := by
  funext j
  rw [among_zero]
  unfold badf
  rw [eq_comm, decide_eq_false_iff_not]
  omega
theorem among_one (x : Int) : among (fun _ => x) 1 = badf x := by
  funext j
  rw [among_succ, among_zero, Bool.false_or]
  rfl
theorem bad_start : (fun _ : Nat => false) = badf (-1) := by
  funext j
  unfold badf
  rw [eq_comm, decide_eq_false_iff_not]
  omega
end Go.Proofs.Ytjlnmkoggobbgaa
