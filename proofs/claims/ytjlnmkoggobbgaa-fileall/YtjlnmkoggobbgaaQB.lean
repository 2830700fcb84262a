/- Keys of a cache. -/
import Derived.Test.YtjlnmkoggobbgaaN7
import Derived.Test.YtjlnmkoggobbgaaGB
namespace Go.Proofs.Ytjlnmkoggobbgaa
open Go.RowKit

set_option maxHeartbeats 2000000 in
theorem bkeys {w : World} {c : Nat} {mo : Int} {S : List Kw} {X : Nat → Prop} (h : Ch w c 2 mo S X) (hl : S.length < 80000) :
    Calls Try.prog 46 #[.pointer (some ⟨c, 0, none⟩)] w fun e w' => ∃ a cap, e = .returned (.slice a S.length cap) ∧ Hid (Own w' w.heap.size 3 (.slice a S.length cap) S.length (In (kof S)) ∧ Below w.heap.size w w') := by
  obtain ⟨M, L, h, rfl⟩ := h
  rw [List.length_map] at *
  have hlen : ∀ ty, (Builtin.len_ #[81] ty #[.map M]).run Try.prog w = .ok (.int .i64 (L.length : Int)) w := by
    intro ty
    cases M with
    | none => rw [h.mp0 rfl]; exact Maps.len_nil Try.underlying81 ty
    | some m => exact (h.mp1 m rfl).len 81 82 ty Try.underlying81
  obtain ⟨W, hmk, hO, hB⟩ := made0 w L.length (by omega) (kof (L.map kw))
  have O0 : Hid _ := hO
  have B0 : Hid _ := hB
  have hc := h.li.ck
  have hn := h.newest
  have hlc := h.lt_c
  have hn1 : W.cell? ⟨c, 2, none⟩ = some (pt (L[0]?.map Nd.b)) := (hB.cell (p := ⟨c, 2, none⟩) hlc).trans hn
  have H : Hid (Ca w c 2 mo M L X) := h
  clear hO hB h hn
  go_enter Try.func46, Try.ntmps46
  go_wp2_with (first | (at_len; refine wpList_len_given rfl _ _ rfl _ rfl _ (hlen _) ?_))
  go_wp2_with fail
  go_loopw [3, 4] (fun v p wr => ∃ (i : Nat) (a : Option Addr) (cap : Nat), v = .slice a i cap ∧ p = pt (L[i]?.map Nd.b) ∧ i ≤ L.length ∧ Hid (Own wr w.heap.size 3 (.slice a i cap) i (In (kof (L.map kw)))) ∧ Hid (Below w.heap.size w wr)) (fun v _ _ => L.length - lenS v)
  case atStart => exact ⟨0, some ⟨w.heap.size, 0, none⟩, L.length, rfl, rfl, by omega, O0, B0⟩
  case round =>
    obtain ⟨i, a, cap, rfl, rfl, hi, O, B⟩ := hrel
    by_cases hlt : i < L.length
    · obtain ⟨x, hx⟩ : ∃ x, L[i]? = some x := ⟨L[i], List.getElem?_eq_getElem hlt⟩
      have Hw := H.out.below B.out
      have hk := (Hw.li.kv x (List.mem_of_getElem? hx)).key
      have ho : wr.cell? ⟨x.b, 3, none⟩ = some (pt (L[i + 1]?.map Nd.b)) := Hw.older hx
      obtain ⟨a', cap', W2, hr, O2, _, _, B2⟩ := more wr w.heap.size a i cap (kof (L.map kw)) O.out (by omega) x.k (kof_map hx).symm B.out.size wr.heap.size rfl
      have ho2 : W2.cell? ⟨x.b, 3, none⟩ = some (pt (L[i + 1]?.map Nd.b)) := by
        have h1 := H.out.older hx
        exact (((B.out.trans B2).cell (p := ⟨x.b, 3, none⟩) (H.out.lt_n (List.mem_of_getElem? hx)))).trans h1
      have O3 : Hid _ := O2
      have B3 : Hid (Below w.heap.size w W2) := B.out.trans B2
      rw [hx, show pt (Option.map Nd.b (some x)) = .pointer (some ⟨x.b, 0, none⟩) from rfl]
      clear O2 B2 ho Hw hx
      go_wp2_with (at_builtin; first | (refine wpList_append_given rfl _ _ 31 rfl _ _ _ W2 rfl rfl hr ?_))
      go_wp2_with fail
      exact ⟨⟨i + 1, a', cap', rfl, rfl, by omega, O3, B3⟩, by simp [lenS]; omega⟩
    · have e : i = L.length := by omega
      have e2 : L[i]? = none := List.getElem?_eq_none (by omega)
      rw [e2, show pt (Option.map Nd.b (none : Option Nd)) = .pointer none from rfl]
      subst e
      clear e2
      go_wp2_with fail
      go_ret
      exact ⟨a, cap, rfl, O.out, B.out⟩

end Go.Proofs.Ytjlnmkoggobbgaa
