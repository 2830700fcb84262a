/- What the functions of a cache do to it. -/
import Derived.Test.YtjlnmkoggobbgaaN3
import Derived.Test.YtjlnmkoggobbgaaKB
import Derived.Deep.RegionLaw
namespace Go.Proofs.Ytjlnmkoggobbgaa
open Go.RowKit

theorem bzero (w : World) : (zeroValue 82).run Try.prog w = .ok (.pointer none) w := by kernel_rfl

theorem bmapn (w : World) : (binOp .eql 81 (.map none) (.map none)).run Try.prog w = .ok (.bool true) w := by first | kernel_rfl | rfl
theorem bmaps (w : World) (m : Nat) : (binOp .eql 81 (.map (some m)) (.map none)).run Try.prog w = .ok (.bool false) w := by first | kernel_rfl | rfl

section
variable {w : World} {c : Nat} {mo : Int} {M : Option Nat} {L : List Nd} {X : Nat → Prop}

theorem bfind (h : Ca w c 2 mo M L X) {k : Int} (hk : fits k) :
    Calls Try.prog 53 #[.pointer (some ⟨c, 0, none⟩), .int .i64 k] w fun e w' => e = .returned (pt ((fnd L k).map Nd.b)) ∧ w' = w := by
  have hc := h.li.ck
  cases M with
  | none =>
    have e : fnd L k = none := by rw [h.mp0 rfl]; rfl
    rw [e]
    have hr := Maps.look_nil (t := 81) (e := 82) (w := w) false keyed3 Try.underlying81 (bzero w) (keyOf3 hk)
    clear h hk e
    go_enter Try.func53, Try.ntmps53
    go_wp2
    go_ret
    exact ⟨rfl, rfl⟩
  | some m =>
    have hr := (h.mp1 m rfl).look 81 82 Try.underlying81 (bzero w) hk
    clear h hk
    go_enter Try.func53, Try.ntmps53
    go_wp2
    go_ret
    exact ⟨rfl, rfl⟩

theorem buse (h : Ca w c 2 mo M L X) {x : Nd} (hx : x ∈ L) :
    Calls Try.prog 54 #[.pointer (some ⟨c, 0, none⟩), .pointer (some ⟨x.b, 0, none⟩)] w fun e w' => e = .returned (.tuple #[]) ∧ Hid (Ca w' c 2 mo M (x :: del L x.k) X ∧ Mv (Mine c L) w w') := by
  obtain ⟨j, hj⟩ := List.getElem?_of_mem hx
  go_enter Try.func54, Try.ntmps54
  go_wp2_with fail
  refine (blrem h.li hj).mono ?_
  rintro e w1 ⟨rfl, h1⟩
  go_wp2_with fail
  have h2 : Hid (Li w1 c 2 mo M (del L x.k) ∧ Nc w1 2 x ∧ Mv (Mine c L) w w1) := by
    have := h1.out
    rw [erase_del h.ks hj] at this
    exact this
  refine (bladd h2.out.1 h2.out.2.1 ?_ (h.li.ne_c hx)).mono ?_
  · intro y hy e
    have hy' := mem_del.1 hy
    obtain ⟨i, hi⟩ := List.getElem?_of_mem hy'.1
    have e1 := bl_of hi
    have e2 := bl_of hj
    have e3 := h.li.dl.inj i j (List.getElem?_eq_some_iff.1 hi).1 (List.getElem?_eq_some_iff.1 hj).1 (by rw [e1, e2]; exact e)
    subst e3
    rw [hi] at hj
    cases hj
    exact hy'.2 rfl
  rintro e w2 ⟨rfl, h3⟩
  go_wp2_with fail
  go_end0
  have hM : Mv (Mine c L) w w2 := h2.out.2.2.trans h3.out.2 (fun k _ hk => by
    rcases hk with hk | ⟨y, hy, hk⟩
    · exact .inl hk
    · rcases List.mem_cons.1 hy with rfl | hy
      · exact .inr ⟨_, hx, hk⟩
      · exact .inr ⟨y, (mem_del.1 hy).1, hk⟩)
  exact ⟨rfl, h.front hx h3.out.1 hM, hM⟩

theorem broom (h : w.cell? ⟨c, 0, none⟩ = some (.int .i64 mo)) :
    Calls Try.prog 56 #[.pointer (some ⟨c, 0, none⟩)] w fun e w' => e = .returned (.int .i64 (max mo 1)) ∧ w' = w := by
  by_cases hm : mo < 1
  · have e1 : Hid (max mo 1 = 1) := Int.max_eq_right (by omega)
    go_enter Try.func56, Try.ntmps56
    go_wp2
    go_ret
    exact ⟨by rw [e1.out]; rfl, rfl⟩
  · have e1 : Hid (max mo 1 = mo) := Int.max_eq_left (by omega)
    have hm' : 1 ≤ mo := by omega
    go_enter Try.func56, Try.ntmps56
    go_wp2
    go_ret
    exact ⟨by rw [e1.out]; rfl, rfl⟩

set_option maxHeartbeats 1000000 in
theorem bins (h : Ca w c 2 mo M L X) {x : Nd} (hn : Nc w 2 x) (hx : ∀ y, y ∈ L → y.b ≠ x.b) (hc : x.b ≠ c) (hf : fnd L x.k = none) (hfx : fits x.k) (hX : ¬ X x.b) (hXw : ∀ j, X j → j < w.heap.size) (hl : L.length < 100000) :
    Calls Try.prog 55 #[.pointer (some ⟨c, 0, none⟩), .pointer (some ⟨x.b, 0, none⟩)] w fun e w' => e = .returned (.tuple #[]) ∧ Hid (∃ M', Ca w' c 2 mo M' (x :: L) X ∧ Mv (fun k => ¬ X k) w w') := by
  have hck := h.li.ck
  have hkx := hn.kv.key
  cases M with
  | none =>
    obtain rfl := h.mp0 rfl
    have z1 := h.li.z1
    have hq := bmapn w
    have hmk := @run_makeMap Try.prog
    have hcc : c ≠ w.heap.size := by have := h.lt_c; omega
    have hlx : x.b < w.heap.size := World.block_lt_of_cell? _ _ hkx
    have A1 : Mv (fun _ => False) w (w.alloc (.map #[] 0)) := Mv.alloc _ _ _
    have A2 := Mv.setCell (w.alloc (.map #[] 0)) ⟨c, 1, none⟩ (.map (some w.heap.size))
    have A3 : Mv (fun k => k = c) w ((w.alloc (.map #[] 0)).setCell ⟨c, 1, none⟩ (.map (some w.heap.size))) := (A1.mono (T := fun k => k = c) (fun _ _ h => h.elim)).trans A2 (fun _ _ h => h)
    have hD : Mv (fun _ => False) ((w.alloc (.map #[] 0)).setCell ⟨c, 1, none⟩ (.map (some w.heap.size))) ((w.alloc (.map #[] 0)).setCell ⟨c, 1, none⟩ (.map (some w.heap.size))).drew := ⟨rfl, rfl, rfl, Nat.le_refl _, fun _ _ _ => rfl⟩
    have q0 := (Mp.made w).mv A2 (fun e => hcc e.symm)
    obtain ⟨W, hr, hp, hm⟩ := (q0.mv hD (fun h => h)).store 81 82 Try.underlying81 hfx rfl (by omega) x.b
    have hr : (Instr.mapUpdate 81 (.map (some w.heap.size)) (.int .i64 x.k) (.pointer (some ⟨x.b, 0, none⟩))).run Try.prog ((w.alloc (.map #[] 0)).setCell ⟨c, 1, none⟩ (.map (some w.heap.size))).drew = .ok () W := hr
    have hm' : Mv (fun k => k = w.heap.size) ((w.alloc (.map #[] 0)).setCell ⟨c, 1, none⟩ (.map (some w.heap.size))) W := (hD.mono (T := fun k => k = w.heap.size) (fun _ _ h => h.elim)).trans hm (fun _ _ h => h)
    have hM : Mv (fun k => k = c) w W := A3.trans hm' (fun k hk e => by omega)
    have q1 : Li ((w.alloc (.map #[] 0)).setCell ⟨c, 1, none⟩ (.map (some w.heap.size))) c 2 mo (some w.heap.size) [] := by
      have b := h.li.mv A1 (fun h => h) (fun _ _ h => h)
      have e1 : ∀ i : Nat, i ≠ 1 → ((w.alloc (.map #[] 0)).setCell ⟨c, 1, none⟩ (.map (some w.heap.size))).cell? ⟨c, i, none⟩ = (w.alloc (.map #[] 0)).cell? ⟨c, i, none⟩ := fun i hi => World.cell?_setCell_other _ _ _ _ (addr_ne (fun _ => by omega))
      have d0 := b.dl.dn 0 (by omega)
      have d1 := b.dl.up 0 (by omega)
      have d2 := b.dl.zn 0 (by omega)
      have d3 := b.dl.zp 0 (by omega)
      refine ⟨?_, World.cell?_setCell_same _ _ _ b.ck, ?_, ⟨?_, ?_, ?_, ?_, fun i j hi => (by simp at hi), fun i hi => (by simp at hi)⟩, fun y hy => (by cases hy), h.li.o2⟩
      · rw [e1 0 (by omega)]; exact b.cm
      · rw [World.frozen?_setCell]; exact b.z1
      · intro i hi
        obtain rfl : i = 0 := by simpa using hi
        exact (e1 2 (by omega)).trans d0
      · intro i hi
        obtain rfl : i = 0 := by simpa using hi
        exact (e1 3 (by omega)).trans d1
      · intro i hi
        obtain rfl : i = 0 := by simpa using hi
        rw [World.frozen?_setCell]; exact d2
      · intro i hi
        obtain rfl : i = 0 := by simpa using hi
        rw [World.frozen?_setCell]; exact d3
    have hL : Hid (Li W c 2 mo (some w.heap.size) [] ∧ Nc W 2 x ∧ Mv (fun j => j = c) w W ∧ Mp W w.heap.size 1 (fun j => if j = x.k then some x.b else (fnd [] j).map Nd.b)) :=
      ⟨q1.mv hm' hcc (fun y hy => by cases hy), hn.mv hM (fun e => hc e), hM, hp⟩
    have hmX : ¬ X w.heap.size := fun e => by have := hXw _ e; omega
    have y1 := A1.cell hck (fun h => h)
    have y2 : (w.alloc (.map #[] 0)).frozen? ⟨c, 1, none⟩ = false := (A1.frozen (p := ⟨c, 1, none⟩) h.lt_c (fun h => h)).trans z1
    have y3 := A1.cell hkx (fun h => h)
    clear hp hm hm' A1 A2 A3 hD q0 q1 hM
    go_enter Try.func55, Try.ntmps55
    go_wp2
    go_region
    go_wp2_with fail
    refine (bladd hL.out.1 hL.out.2.1 (fun y hy => by cases hy) hc).mono ?_
    rintro e w2 ⟨rfl, h3⟩
    go_wp2_with fail
    go_end0
    have hmm : ¬ Mine c [x] w.heap.size := by
      rintro (e | ⟨y, hy, e⟩)
      · omega
      · rcases List.mem_cons.1 hy with rfl | hy
        · omega
        · cases hy
    refine ⟨rfl, some w.heap.size, Ca.come h.ks h.fit h.ac h.an hf hfx hX rfl hmX h3.out.1 (hL.out.2.2.2.mv h3.out.2 hmm), ?_⟩
    refine (hL.out.2.2.1.mono (T := fun k => ¬ X k) (fun k _ e => by rw [e]; exact h.ac)).trans (h3.out.2.mono (T := fun k => ¬ X k) ?_) (fun _ _ h => h)
    rintro k _ (e | ⟨y, hy, e⟩)
    · rw [e]; exact h.ac
    · rcases List.mem_cons.1 hy with rfl | hy
      · rw [e]; exact hX
      · cases hy
  | some m =>
    have hD : Mv (fun _ => False) w w.drew := ⟨rfl, rfl, rfl, Nat.le_refl _, fun _ _ _ => rfl⟩
    have hmp := h.mp1 m rfl
    obtain ⟨W, hr, hp, hm⟩ := (hmp.mv hD (fun h => h)).store 81 82 Try.underlying81 hfx (by rw [hf]; rfl) hl x.b
    have hr : (Instr.mapUpdate 81 (.map (some m)) (.int .i64 x.k) (.pointer (some ⟨x.b, 0, none⟩))).run Try.prog w.drew = .ok () W := hr
    have hmc : ∀ p v, w.cell? p = some v → p.block ≠ m := fun p v => hmp.noCell
    have hm' : Mv (fun j => j = m) w W := (hD.mono (T := fun j => j = m) (fun _ _ h => h.elim)).trans hm (fun _ _ h => h)
    have hL : Hid (Li W c 2 mo (some m) L ∧ Nc W 2 x ∧ Mv (fun j => j = m) w W ∧ Mp W m (L.length + 1) (fun j => if j = x.k then some x.b else (fnd L j).map Nd.b)) :=
      ⟨h.li.mv hm' (hmc _ _ h.li.cm) (fun y hy => hmc _ _ (h.li.kv y hy).key), hn.mv hm' (hmc _ _ hkx), hm', hp⟩
    have hmx : x.b ≠ m := hmc _ _ hkx
    clear hp hm hm' hmc hmp hD
    have hq := bmaps w m
    go_enter Try.func55, Try.ntmps55
    go_wp2
    go_region
    go_wp2_with fail
    refine (bladd hL.out.1 hL.out.2.1 hx hc).mono ?_
    rintro e w2 ⟨rfl, h3⟩
    go_wp2_with fail
    go_end0
    have hmm : ¬ Mine c (x :: L) m := by
      rintro (e | ⟨y, hy, e⟩)
      · exact h.mine_m rfl (.inl e)
      · rcases List.mem_cons.1 hy with rfl | hy
        · exact hmx e.symm
        · exact h.mine_m rfl (.inr ⟨y, hy, e⟩)
    refine ⟨rfl, some m, Ca.come h.ks h.fit h.ac h.an hf hfx hX rfl (h.am m rfl) h3.out.1 (hL.out.2.2.2.mv h3.out.2 hmm), ?_⟩
    refine (hL.out.2.2.1.mono (T := fun k => ¬ X k) (fun k _ e => by rw [e]; exact h.am m rfl)).trans (h3.out.2.mono (T := fun k => ¬ X k) ?_) (fun _ _ h => h)
    rintro k _ (e | ⟨y, hy, e⟩)
    · rw [e]; exact h.ac
    · rcases List.mem_cons.1 hy with rfl | hy
      · rw [e]; exact hX
      · rw [e]; exact h.an y hy

set_option maxHeartbeats 1000000 in
theorem brem (h : Ca w c 2 mo M L X) {x : Nd} (hx : x ∈ L) :
    Calls Try.prog 57 #[.pointer (some ⟨c, 0, none⟩), .pointer (some ⟨x.b, 0, none⟩)] w fun e w' => e = .returned (.tuple #[]) ∧ Hid (Ca w' c 2 mo M (del L x.k) X ∧ Nc w' 2 x ∧ Mv (fun k => ¬ X k) w w') := by
  have hck := h.li.ck
  have hkx := (h.li.kv x hx).key
  obtain ⟨j, hj⟩ := List.getElem?_of_mem hx
  cases M with
  | none => rw [h.mp0 rfl] at hx; cases hx
  | some m =>
    have hD : Mv (fun _ => False) w w.drew := ⟨rfl, rfl, rfl, Nat.le_refl _, fun _ _ _ => rfl⟩
    have hmp := h.mp1 m rfl
    have hlen : L.length = (L.length - 1) + 1 := by have := List.length_pos_of_mem hx; omega
    have hmp1 : Mp w m ((L.length - 1) + 1) (fun k => (fnd L k).map Nd.b) := hlen ▸ hmp
    obtain ⟨W, hr, hp, hm⟩ := (hmp1.mv hD (fun h => h)).del 81 82 0 Try.underlying81 (h.fit x hx) (by rw [fnd_mem h.ks hx]; rfl)
    have hmc : ∀ p v, w.cell? p = some v → p.block ≠ m := fun p v => hmp.noCell
    have hm' : Mv (fun j => j = m) w W := (hD.mono (T := fun j => j = m) (fun _ _ h => h.elim)).trans hm (fun _ _ h => h)
    have hL : Hid (Li W c 2 mo (some m) L ∧ Mv (fun j => j = m) w W ∧ Mp W m (L.length - 1) (fun j => if j = x.k then none else (fnd L j).map Nd.b)) :=
      ⟨h.li.mv hm' (hmc _ _ h.li.cm) (fun y hy => hmc _ _ (h.li.kv y hy).key), hm', hp⟩
    have fin : ∀ w2, Hid (Li w2 c 2 mo (some m) (L.eraseIdx j) ∧ Nc w2 2 x ∧ Mv (Mine c L) W w2) → Hid (Ca w2 c 2 mo (some m) (del L x.k) X ∧ Nc w2 2 x ∧ Mv (fun k => ¬ X k) w w2) := by
      intro w2 h3
      have h4 := h3.out
      rw [erase_del h.ks hj] at h4
      refine ⟨h.gone hx rfl h4.1 (hL.out.2.2.mv h4.2.2 (h.mine_m rfl)), h4.2.1, ?_⟩
      exact (hL.out.2.1.mono (T := fun k => ¬ X k) (fun k _ e => by rw [e]; exact h.am m rfl)).trans h4.2.2 (fun k _ e => h.mine e)
    clear hp hm hm' hmc hmp hD hmp1 hlen
    go_enter Try.func57, Try.ntmps57
    go_wp2
    go_region_law (refine step_delete_given rfl (.tmp 7) (.tmp 11) 81 3 rfl _ _ rfl rfl W hr ?_)
    all_goals (go_wp2_with fail; refine (blrem hL.out.1 hj).mono ?_; rintro e w2 ⟨rfl, h3⟩; go_wp2_with fail; go_end0; exact ⟨rfl, fin w2 h3⟩)

end
end Go.Proofs.Ytjlnmkoggobbgaa
