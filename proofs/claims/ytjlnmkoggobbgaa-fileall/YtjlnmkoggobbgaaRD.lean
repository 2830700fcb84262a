/- The two caches side by side. -/
import Derived.Test.YtjlnmkoggobbgaaR6
namespace Go.Proofs.Ytjlnmkoggobbgaa
open Go.RowKit

def iv (z : Int) : Nat → Value := fun _ => .int .i64 z
def sw (T : List Pr) : List Kw := T.map (fun p => (p.1, iv p.2))
theorem sw_length (T : List Pr) : (sw T).length = T.length := by simp [sw]
theorem sw_cons (k z : Int) (T : List Pr) : sw ((k, z) :: T) = (k, iv z) :: sw T := rfl
theorem sw_keys (T : List Pr) : (sw T).map Prod.fst = T.map Prod.fst := by
  unfold sw
  rw [List.map_map]
  rfl
theorem sw_sdel (T : List Pr) (k : Int) : sdel (sw T) k = sw (tdel T k) := by
  unfold sdel sw tdel
  rw [List.filter_map]
  rfl
theorem sw_pOk (mo : Int) (T : List Pr) (k : Int) : pOk mo (sw T) k = tOk mo T k := by
  unfold pOk tOk
  rw [sw_sdel, sw_length]
theorem sw_pS (mo : Int) (T : List Pr) (k z : Int) : pS mo (sw T) k (iv z) = sw (tS mo T k z) := by
  unfold pS tS
  rw [sw_pOk, sw_sdel]
  split
  · rfl
  · rw [← sw_cons]
    unfold sw
    rw [List.map_dropLast]
theorem sw_pG (mo : Int) (T : List Pr) (k z : Int) : pG mo (sw T) k (iv z) = tG mo T k z := by
  unfold pG tG
  rw [sw_pOk, sw_sdel]
  split
  · rfl
  · rw [← sw_cons, List.getLast?_eq_getElem?, sw_length, List.length_cons, Nat.add_sub_cancel]
    unfold kT sw
    rw [List.getElem?_map]
    cases ((k, z) :: tdel T k)[(tdel T k).length]? <;> rfl
theorem sw_kof (T : List Pr) : kof (sw T) = kT T := by
  funext i
  unfold kof kT sw
  rw [List.getElem?_map]
  cases T[i]? <;> rfl
theorem sw_none {T : List Pr} {k : Int} : sfnd (sw T) k = none ↔ k ∉ T.map Prod.fst := by
  rw [sfnd_none_iff]
  unfold ks
  rw [sw_keys]
theorem sw_some {T : List Pr} (hn : nodupT T) {i : Nat} (hi : i < T.length) : sfnd (sw T) (kT T i) = some (kT T i, iv (vT T i)) := by
  induction T generalizing i with
  | nil => simp at hi
  | cons p r ih =>
    have hn2 := hn
    unfold nodupT at hn2
    rw [List.map_cons, List.nodup_cons] at hn2
    show List.find? _ ((p.1, iv p.2) :: sw r) = _
    rw [List.find?_cons]
    cases i with
    | zero =>
      have e1 : kT (p :: r) 0 = p.1 := rfl
      have e2 : vT (p :: r) 0 = p.2 := rfl
      rw [e1, e2]
      simp
    | succ i =>
      have hi' : i < r.length := by simpa using hi
      have e1 : kT (p :: r) (i + 1) = kT r i := rfl
      have e2 : vT (p :: r) (i + 1) = vT r i := rfl
      rw [e1, e2]
      have hne : p.1 ≠ kT r i := by
        rw [kT_of (List.getElem?_eq_getElem hi')]
        intro e
        exact hn2.1 (e ▸ List.mem_map_of_mem (List.getElem_mem _))
      simp only [hne, decide_false]
      exact ih hn2.2 hi'

/-- What the cache keeps away from. -/
def Xa (base r : Nat) (ka va : Option Addr) : Nat → Prop := fun j => j < base ∨ j = r ∨ bk ka = some j ∨ bk va = some j

/-- The two, of one content. -/
structure Al (w : World) (base c r : Nat) (mo : Int) (T : List Pr) (ka : Option Addr) (kc : Nat) (va : Option Addr) (vc : Nat) : Prop where
  ch : Ch w c 2 mo (sw T) (Xa base r ka va)
  rf : Rf w r mo T ka kc va vc
  len : (T.length : Int) ≤ max mo 1
  rb : base ≤ r
  kb : ∀ j, bk ka = some j → base ≤ j
  vb : ∀ j, bk va = some j → base ≤ j
  bs : base ≤ w.heap.size

section
variable {w : World} {base c r : Nat} {mo : Int} {T : List Pr} {ka : Option Addr} {kc : Nat} {va : Option Addr} {vc : Nat}
theorem Al.nodup (h : Al w base c r mo T ka kc va vc) : nodupT T := by
  have := h.ch.nodup
  rw [sw_keys] at this
  exact this
theorem Al.hX (h : Al w base c r mo T ka kc va vc) : ∀ j, Xa base r ka va j → j < w.heap.size := by
  rintro j (e | e | e | e)
  · have := h.bs; omega
  · rw [e]; exact World.block_lt_of_cell? _ _ h.rf.c0
  · exact h.rf.bl.1 j e
  · exact h.rf.bl.2 j e
/-- The first has gone on, then the second. -/
theorem Al.step {w1 w2 : World} {T' : List Pr} {ka' : Option Addr} {kc' : Nat} {va' : Option Addr} {vc' : Nat} (h : Al w base c r mo T ka kc va vc) (hc : Ch w1 c 2 mo (sw T') (Xa base r ka va)) (hm : Mv (fun j => ¬ Xa base r ka va j) w w1) (hl : Left w1 w2 r mo T' ka va ka' kc' va' vc') (hlen : (T'.length : Int) ≤ max mo 1) :
    Al w2 base c r mo T' ka' kc' va' vc' ∧ Mv (fun j => base ≤ j) w w2 := by
  obtain ⟨hr, m2, x1, x2⟩ := hl
  refine ⟨⟨(hc.mv m2 (fun j e => .inr (.inl e))).mono ?_, hr, hlen, h.rb, fun j hj => ?_, fun j hj => ?_, Nat.le_trans h.bs (Nat.le_trans hm.size m2.size)⟩, ?_⟩
  · rintro j (e | e | e | e)
    · exact .inl (.inl e)
    · exact .inl (.inr (.inl e))
    · rcases x1 j e with e | e
      · exact .inl (.inr (.inr (.inl e)))
      · exact .inr e
    · rcases x2 j e with e | e
      · exact .inl (.inr (.inr (.inr e)))
      · exact .inr e
  · rcases x1 j hj with e | e
    · exact h.kb j e
    · exact Nat.le_trans (Nat.le_trans h.bs hm.size) e
  · rcases x2 j hj with e | e
    · exact h.vb j e
    · exact Nat.le_trans (Nat.le_trans h.bs hm.size) e
  · refine (hm.mono (T := fun j => base ≤ j) (fun j _ e => ?_)).trans m2 (fun j _ e => by rw [e]; exact h.rb)
    by_cases hb : base ≤ j
    · exact hb
    · exact (e (.inl (by omega))).elim
theorem Al.rfAt {w1 : World} {S : List Kw} (h : Al w base c r mo T ka kc va vc) (_hc : Ch w1 c 2 mo S (Xa base r ka va)) (hm : Mv (fun j => ¬ Xa base r ka va j) w w1) : Rf w1 r mo T ka kc va vc :=
  h.rf.mv hm (fun e => e (.inr (.inl rfl))) (fun _ hj e => e (.inr (.inr (.inl hj)))) (fun _ hj e => e (.inr (.inr (.inr hj))))
/-- Others have made new blocks, and turned them. -/
theorem Al.past {w1 : World} (h : Al w base c r mo T ka kc va vc) (hb : Below w.heap.size w w1) : Al w1 base c r mo T ka kc va vc := by
  have hm : Mv (fun _ => False) w w1 := (Mv.of_below hb).mono (fun k hk e => by omega)
  exact ⟨(h.ch.mv hm (fun _ h => h.elim)).mono (fun _ hj => .inl hj), h.rf.mv hm (fun h => h) (fun _ _ h => h) (fun _ _ h => h), h.len, h.rb, h.kb, h.vb, Nat.le_trans h.bs hm.size⟩
end

end Go.Proofs.Ytjlnmkoggobbgaa
