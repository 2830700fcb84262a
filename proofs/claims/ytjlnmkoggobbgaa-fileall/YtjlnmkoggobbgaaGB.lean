/- Get, Put, Drop, Clear of a cache. -/
import Derived.Test.YtjlnmkoggobbgaaN5
import Derived.Test.YtjlnmkoggobbgaaTB
namespace Go.Proofs.Ytjlnmkoggobbgaa
open Go.RowKit

theorem bnew (mo : Int) (w : World) : Calls Try.prog 38 #[.int .i64 mo] w fun e w' => e = .returned (.pointer (some ⟨w.heap.size, 0, none⟩)) ∧ w' = w.alloc (.cells #[.int .i64 mo, .map none, .pointer none, .pointer none] 86) := by
  go_enter Try.func38, Try.ntmps38
  go_wp2
  go_ret
  exact ⟨rfl, rfl⟩

section
variable {w : World} {c : Nat} {mo : Int} {S : List Kw} {X : Nat → Prop}

theorem bget_none (h : Ch w c 2 mo S X) {k : Int} (hk : fits k) (hf : sfnd S k = none) :
    Calls Try.prog 51 #[.pointer (some ⟨c, 0, none⟩), .int .i64 k] w fun e w' => e = .returned (.tuple #[.slice none 0 0, .bool false]) ∧ w' = w := by
  obtain ⟨M, L, h, rfl⟩ := h
  rw [sfnd_map, Option.map_eq_none_iff] at hf
  have F := bfind h hk
  rw [hf] at F
  clear hf h hk
  go_enter Try.func51, Try.ntmps51
  go_wp2_with fail
  refine F.mono ?_
  rintro e w1 ⟨rfl, hw⟩
  obtain rfl := hw.symm
  clear hw F
  simp only [Option.map_none, pt]
  go_wp2_with fail
  go_ret2
  exact ⟨rfl, rfl⟩

theorem bget_some (h : Ch w c 2 mo S X) {k : Int} (hk : fits k) {p : Kw} (hf : sfnd S k = some p) :
    Calls Try.prog 51 #[.pointer (some ⟨c, 0, none⟩), .int .i64 k] w fun e w' => e = .returned (.tuple #[p.2 0, .bool true]) ∧ Hid (Ch w' c 2 mo (p :: sdel S k) X ∧ Mv (fun j => ¬ X j) w w') := by
  obtain ⟨M, L, h, rfl⟩ := h
  rw [sfnd_map, Option.map_eq_some_iff] at hf
  obtain ⟨x, hf, rfl⟩ := hf
  obtain ⟨hx, rfl, _⟩ := fnd_some hf
  have F := bfind h hk
  rw [hf] at F
  have U := buse h hx
  have fin : ∀ w', Hid (Ca w' c 2 mo M (x :: del L x.k) X ∧ Mv (Mine c L) w w') → Hid (Ch w' c 2 mo (kw x :: sdel (L.map kw) x.k) X ∧ Mv (fun j => ¬ X j) w w') := by
    intro w' h'
    refine ⟨⟨M, _, h'.out.1, ?_⟩, h'.out.2.mono (fun k _ e => h.mine e)⟩
    rw [sdel_map]; rfl
  have hv : ∀ w', Hid (Ca w' c 2 mo M (x :: del L x.k) X ∧ Mv (Mine c L) w w') → w'.cell? ⟨x.b, 1, none⟩ = some (x.v 0) := fun w' h' => (h'.out.1.li.kv x List.mem_cons_self).val 0 (by omega)
  clear hf h hk hx
  go_enter Try.func51, Try.ntmps51
  go_wp2_with fail
  refine F.mono ?_
  rintro e w1 ⟨rfl, hw⟩
  obtain rfl := hw.symm
  clear hw F
  simp only [Option.map_some, pt]
  go_wp2_with fail
  refine U.mono ?_
  rintro e w2 ⟨rfl, h2⟩
  have hv2 := hv w2 h2
  clear hv U
  go_wp2_with fail
  go_ret2
  exact ⟨rfl, fin w2 h2⟩

theorem bclear (h : Ch w c 2 mo S X) :
    Calls Try.prog 39 #[.pointer (some ⟨c, 0, none⟩)] w fun e w' => e = .returned (.tuple #[]) ∧ Hid (Ch w' c 2 mo [] X ∧ Mv (fun j => ¬ X j) w w') := by
  obtain ⟨M, L, h, rfl⟩ := h
  have c1 := h.li.ck
  have z1 := h.li.z1
  have c2 := h.li.dl.dn 0 (by omega)
  have z2 := h.li.dl.zn 0 (by omega)
  have c3 := h.li.dl.up L.length (by omega)
  have z3 := h.li.dl.zp L.length (by omega)
  have e2 : dnA c 2 (bl L) 0 = ⟨c, 2, none⟩ := by unfold dnA; rw [if_pos rfl]
  have e3 : upA c 2 (bl L) L.length L.length = ⟨c, 3, none⟩ := by unfold upA; rw [if_neg (by omega)]
  rw [e2] at c2 z2
  rw [e3] at c3 z3
  have fin : Hid (Ch (((w.setCell ⟨c, 1, none⟩ (.map none)).setCell ⟨c, 2, none⟩ (.pointer none)).setCell ⟨c, 3, none⟩ (.pointer none)) c 2 mo [] X ∧ Mv (fun j => ¬ X j) w (((w.setCell ⟨c, 1, none⟩ (.map none)).setCell ⟨c, 2, none⟩ (.pointer none)).setCell ⟨c, 3, none⟩ (.pointer none))) := by
    refine ⟨⟨none, [], ⟨⟨?_, ?_, ?_, ⟨?_, ?_, ?_, ?_, fun i j hi => (by simp at hi), fun i hi => (by simp at hi)⟩, fun y hy => (by cases hy), h.li.o2⟩, List.nodup_nil, fun y hy => (by cases hy), fun _ => rfl, fun m e => (by cases e), h.ac, fun y hy => (by cases hy), fun m e => (by cases e)⟩, rfl⟩, ?_⟩
    · rw [World.cell?_setCell_other _ _ _ _ (addr_ne (fun _ => by omega)), World.cell?_setCell_other _ _ _ _ (addr_ne (fun _ => by omega)), World.cell?_setCell_other _ _ _ _ (addr_ne (fun _ => by omega))]; exact h.li.cm
    · rw [World.cell?_setCell_other _ _ _ _ (addr_ne (fun _ => by omega)), World.cell?_setCell_other _ _ _ _ (addr_ne (fun _ => by omega))]
      exact World.cell?_setCell_same _ _ _ c1
    · rw [World.frozen?_setCell, World.frozen?_setCell, World.frozen?_setCell]; exact z1
    · intro i hi
      obtain rfl : i = 0 := by simpa using hi
      show World.cell? _ ⟨c, 2, none⟩ = some (.pointer none)
      rw [World.cell?_setCell_other _ _ _ _ (addr_ne (fun _ => by omega))]
      refine World.cell?_setCell_same _ _ _ (u := ptD L.length (bl L) 0) ?_
      rw [World.cell?_setCell_other _ _ _ _ (addr_ne (fun _ => by omega))]; exact c2
    · intro i hi
      obtain rfl : i = 0 := by simpa using hi
      show World.cell? _ ⟨c, 3, none⟩ = some (.pointer none)
      refine World.cell?_setCell_same _ _ _ (u := ptU (bl L) L.length) ?_
      rw [World.cell?_setCell_other _ _ _ _ (addr_ne (fun _ => by omega)), World.cell?_setCell_other _ _ _ _ (addr_ne (fun _ => by omega))]; exact c3
    · intro i hi
      obtain rfl : i = 0 := by simpa using hi
      rw [World.frozen?_setCell, World.frozen?_setCell, World.frozen?_setCell]; exact z2
    · intro i hi
      obtain rfl : i = 0 := by simpa using hi
      rw [World.frozen?_setCell, World.frozen?_setCell, World.frozen?_setCell]; exact z3
    · refine (((Mv.setCell w _ _).mono (T := fun k => ¬ X k) ?_).trans ((Mv.setCell _ _ _).mono (T := fun k => ¬ X k) ?_) (fun _ _ h => h)).trans ((Mv.setCell _ _ _).mono (T := fun k => ¬ X k) ?_) (fun _ _ h => h)
      · rintro k _ rfl; exact h.ac
      · rintro k _ rfl; exact h.ac
      · rintro k _ rfl; exact h.ac
  clear h e2 e3
  go_enter Try.func39, Try.ntmps39
  go_wp2
  go_end0
  exact ⟨rfl, fin⟩

end
end Go.Proofs.Ytjlnmkoggobbgaa
