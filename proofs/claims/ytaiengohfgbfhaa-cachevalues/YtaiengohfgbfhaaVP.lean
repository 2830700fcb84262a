/- New, Get, Put of a cache of pairs. -/
import Derived.Test.YtaiengohfgbfhaaN6
import Derived.Test.YtaiengohfgbfhaaTP
namespace Go.Proofs.Ytaiengohfgbfhaa
open Go.RowKit

def pv (a b : Int) : Nat → Value := fun j => if j = 0 then .int .i64 a else .int .i64 b

theorem pnew (mo : Int) (w : World) : Calls Try.prog 24 #[.int .i64 mo] w fun e w' => e = .returned (.pointer (some ⟨w.heap.size, 0, none⟩)) ∧ w' = w.alloc (.cells #[.int .i64 mo, .map none, .pointer none, .pointer none] 82) := by
  go_enter Try.func24, Try.ntmps24
  go_wp2
  go_ret
  exact ⟨rfl, rfl⟩

section
variable {w : World} {c : Nat} {mo : Int} {S : List Kw} {X : Nat → Prop}

set_option maxHeartbeats 1000000 in
theorem pget_some (h : Ch w c 3 mo S X) {k : Int} (hk : fits k) (hX : ∀ j, X j → j < w.heap.size) {a b : Int} (hf : sfnd S k = some (k, pv a b)) :
    Calls Try.prog 26 #[.pointer (some ⟨c, 0, none⟩), .int .i64 k] w fun e w' => e = .returned (.tuple #[.agg #[.int .i64 a, .int .i64 b], .bool true]) ∧ Hid (Ch w' c 3 mo ((k, pv a b) :: sdel S k) X ∧ Mv (fun j => ¬ X j) w w') := by
  have A1 : Mv (fun _ => False) w (w.alloc (.cells #[.int .i64 0, .int .i64 0] 53)) := Mv.alloc _ _ _
  obtain ⟨M, L, h0, rfl⟩ := h
  have h : Ca (w.alloc (.cells #[.int .i64 0, .int .i64 0] 53)) c 3 mo M L (fun j => X j ∨ w.heap.size ≤ j) := h0.mv A1 (fun _ h => h.elim)
  rw [sfnd_map, Option.map_eq_some_iff] at hf
  obtain ⟨x, hf, ex⟩ := hf
  obtain ⟨hx, e1, _⟩ := fnd_some hf
  subst e1
  have exv : x.v = pv a b := congrArg Prod.snd ex
  have F := pfind h hk
  rw [hf] at F
  have U := puse h hx
  have fin : ∀ w', Hid (Ca w' c 3 mo M (x :: del L x.k) (fun j => X j ∨ w.heap.size ≤ j) ∧ Mv (Mine c L) (w.alloc (.cells #[.int .i64 0, .int .i64 0] 53)) w') → Hid (Ch ((w'.setCell ⟨w.heap.size, 0, none⟩ (.int .i64 a)).setCell ⟨w.heap.size, 1, none⟩ (.int .i64 b)) c 3 mo ((x.k, pv a b) :: sdel (L.map kw) x.k) X ∧ Mv (fun j => ¬ X j) w ((w'.setCell ⟨w.heap.size, 0, none⟩ (.int .i64 a)).setCell ⟨w.heap.size, 1, none⟩ (.int .i64 b))) := by
    intro w' h'
    have hM1 := Mv.setCell w' ⟨w.heap.size, 0, none⟩ (.int .i64 a)
    have hM2 := Mv.setCell (w'.setCell ⟨w.heap.size, 0, none⟩ (.int .i64 a)) ⟨w.heap.size, 1, none⟩ (.int .i64 b)
    have hM : Mv (fun j => j = w.heap.size) w' ((w'.setCell ⟨w.heap.size, 0, none⟩ (.int .i64 a)).setCell ⟨w.heap.size, 1, none⟩ (.int .i64 b)) := hM1.trans hM2 (fun _ _ h => h)
    refine ⟨⟨M, _, (h'.out.1.mv hM (fun j e => .inr (by rw [e]; exact Nat.le_refl _))).mono (fun j hj => .inl (.inl hj)), ?_⟩, ?_⟩
    · rw [sdel_map, ← exv]; rfl
    · refine ((A1.mono (T := fun j => ¬ X j) (fun _ _ h => h.elim)).trans (h'.out.2.mono (T := fun j => ¬ X j) (fun k _ e hk => h.mine e (.inl hk))) (fun _ _ h => h)).trans (hM.mono (T := fun j => ¬ X j) (fun k _ e hk => ?_)) (fun _ _ h => h)
      have := hX k hk
      omega
  have hv : ∀ w', Hid (Ca w' c 3 mo M (x :: del L x.k) (fun j => X j ∨ w.heap.size ≤ j) ∧ Mv (Mine c L) (w.alloc (.cells #[.int .i64 0, .int .i64 0] 53)) w') → w'.cell? ⟨x.b, 1, none⟩ = some (.int .i64 a) ∧ w'.cell? ⟨x.b, 2, none⟩ = some (.int .i64 b) ∧ (w'.cell? ⟨w.heap.size, 0, none⟩ = some (.int .i64 0) ∧ w'.cell? ⟨w.heap.size, 1, none⟩ = some (.int .i64 0) ∧ w'.frozen? ⟨w.heap.size, 0, none⟩ = false ∧ w'.frozen? ⟨w.heap.size, 1, none⟩ = false) := by
    intro w' h'
    have h1 := (h'.out.1.li.kv x List.mem_cons_self).val 0 (by omega)
    have h2 := (h'.out.1.li.kv x List.mem_cons_self).val 1 (by omega)
    rw [exv] at h1 h2
    have hn : ¬ Mine c L w.heap.size := fun e => h.mine e (.inr (Nat.le_refl _))
    have c0 := alloc_new w #[.int .i64 0, .int .i64 0] 53 0 _ rfl
    have c1 := alloc_new w #[.int .i64 0, .int .i64 0] 53 1 _ rfl
    refine ⟨h1, h2, h'.out.2.cell (p := ⟨w.heap.size, 0, none⟩) c0.1 hn, h'.out.2.cell (p := ⟨w.heap.size, 1, none⟩) c1.1 hn, (h'.out.2.frozen (p := ⟨w.heap.size, 0, none⟩) (by simp) hn).trans c0.2, (h'.out.2.frozen (p := ⟨w.heap.size, 1, none⟩) (by simp) hn).trans c1.2⟩
  have hnb : Hid (x.b ≠ w.heap.size) := by have := h0.lt_n hx; show _ ≠ _; omega
  clear hf h hk hx h0 A1 ex exv hX
  go_enter Try.func26, Try.ntmps26
  go_wp2_with fail
  refine F.mono ?_
  rintro e w1 ⟨rfl, hw⟩
  obtain rfl := hw.symm
  clear hw F
  simp only [Option.map_some, pt]
  go_wp2_with fail
  refine U.mono ?_
  rintro e w2 ⟨rfl, h2⟩
  obtain ⟨v1, v2, v3, v4, v5, v6⟩ := hv w2 h2
  clear hv U
  go_wp2_with fail
  have q0 : ((w2.setCell ⟨w.heap.size, 0, none⟩ (.int .i64 a)).setCell ⟨w.heap.size, 1, none⟩ (.int .i64 b)).cell? ⟨w.heap.size, 0, none⟩ = some (.int .i64 a) := by
    rw [World.cell?_setCell_other _ _ _ _ (addr_ne (fun _ => by omega))]
    exact World.cell?_setCell_same _ _ _ v3
  have q1 : ((w2.setCell ⟨w.heap.size, 0, none⟩ (.int .i64 a)).setCell ⟨w.heap.size, 1, none⟩ (.int .i64 b)).cell? ⟨w.heap.size, 1, none⟩ = some (.int .i64 b) := by
    refine World.cell?_setCell_same _ _ _ (u := .int .i64 0) ?_
    rw [World.cell?_setCell_other _ _ _ _ (addr_ne (fun _ => by omega))]
    exact v4
  have FN := fin w2 h2
  clear fin v1 v2 v3 v4 v5 v6 h2
  generalize (w2.setCell ⟨w.heap.size, 0, none⟩ (.int .i64 a)).setCell ⟨w.heap.size, 1, none⟩ (.int .i64 b) = W3 at q0 q1 FN ⊢
  refine bodyPost_ret (v := .tuple #[.agg #[.int .i64 a, .int .i64 b], .bool true]) ?_ rfl ⟨rfl, FN⟩
  simp [results, Try.f26, go_sem, q0, q1]

end
end Go.Proofs.Ytaiengohfgbfhaa
