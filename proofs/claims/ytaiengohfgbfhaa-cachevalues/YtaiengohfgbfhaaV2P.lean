/- Put of a cache of pairs. -/
import Derived.Test.YtaiengohfgbfhaaN8
import Derived.Test.YtaiengohfgbfhaaVP
namespace Go.Proofs.Ytaiengohfgbfhaa
open Go.RowKit

section
variable {w : World} {c : Nat} {mo : Int} {S : List Kw} {X : Nat → Prop}

set_option maxHeartbeats 1000000 in
/-- A key that is there. -/
theorem pput_has (h : Ch w c 3 mo S X) {k : Int} (hk : fits k) {p : Kw} (hf : sfnd S k = some p) (a b : Int) :
    Calls Try.prog 25 #[.pointer (some ⟨c, 0, none⟩), .int .i64 k, .agg #[.int .i64 a, .int .i64 b]] w fun e w' => e = .returned (.tuple #[.int .i64 0, .bool false]) ∧ Hid (Ch w' c 3 mo ((k, pv a b) :: sdel S k) X ∧ Mv (fun j => ¬ X j) w w') := by
  have A1 : Mv (fun _ => False) w (w.alloc (.cells #[.int .i64 a, .int .i64 b] 53)) := Mv.alloc _ _ _
  obtain ⟨M, L, h0, rfl⟩ := h
  have h : Ca (w.alloc (.cells #[.int .i64 a, .int .i64 b] 53)) c 3 mo M L X := (h0.mv A1 (fun _ h => h.elim)).mono (fun j hj => .inl hj)
  rw [sfnd_map, Option.map_eq_some_iff] at hf
  obtain ⟨x, hf, rfl⟩ := hf
  obtain ⟨hx, rfl, _⟩ := fnd_some hf
  have F := pfind h hk
  rw [hf] at F
  have hnb : x.b ≠ w.heap.size := by have := h0.lt_n hx; omega
  have V1 := h.setv hx (j := 0) (by omega) (.int .i64 a)
  have V2 := V1.1.setv (setv_at hx (fun i => if i = 0 then .int .i64 a else x.v i)) (j := 1) (by omega) (.int .i64 b)
  rw [setv_twice] at V2
  have U := puse V2.1 (setv_at hx _)
  have cv : (w.alloc (.cells #[.int .i64 a, .int .i64 b] 53)).cell? ⟨x.b, 1, none⟩ = some (x.v 0) := (h.li.kv x hx).val 0 (by omega)
  have zv : (w.alloc (.cells #[.int .i64 a, .int .i64 b] 53)).frozen? ⟨x.b, 1, none⟩ = false := (h.li.kv x hx).zv 0 (by omega)
  have cv1 : (w.alloc (.cells #[.int .i64 a, .int .i64 b] 53)).cell? ⟨x.b, 2, none⟩ = some (x.v 1) := (h.li.kv x hx).val 1 (by omega)
  have zv1 : (w.alloc (.cells #[.int .i64 a, .int .i64 b] 53)).frozen? ⟨x.b, 2, none⟩ = false := (h.li.kv x hx).zv 1 (by omega)
  obtain ⟨c0, _⟩ := alloc_new w #[.int .i64 a, .int .i64 b] 53 0 _ rfl
  obtain ⟨c1, _⟩ := alloc_new w #[.int .i64 a, .int .i64 b] 53 1 _ rfl
  have fin : ∀ w', Hid (Ca w' c 3 mo M (⟨x.b, x.k, fun i => if i = 1 then .int .i64 b else if i = 0 then .int .i64 a else x.v i⟩ :: del (setv L x.k (fun i => if i = 1 then .int .i64 b else if i = 0 then .int .i64 a else x.v i)) x.k) X ∧ Mv (Mine c (setv L x.k (fun i => if i = 1 then .int .i64 b else if i = 0 then .int .i64 a else x.v i))) (((w.alloc (.cells #[.int .i64 a, .int .i64 b] 53)).setCell ⟨x.b, 1 + 0, none⟩ (.int .i64 a)).setCell ⟨x.b, 1 + 1, none⟩ (.int .i64 b)) w') → Hid (Ch w' c 3 mo ((x.k, pv a b) :: sdel (L.map kw) x.k) X ∧ Mv (fun j => ¬ X j) w w') := by
    intro w' h'
    refine ⟨⟨M, _, h'.out.1.head_v (pv a b) (fun j hj => ?_), ?_⟩, (((A1.mono (T := fun j => ¬ X j) (fun _ _ h => h.elim)).trans V1.2 (fun _ _ h => h)).trans V2.2 (fun _ _ h => h)).trans h'.out.2 (fun k _ e => V2.1.mine e)⟩
    · obtain rfl | rfl : j = 0 ∨ j = 1 := by omega
      · rfl
      · rfl
    · rw [setv_del, sdel_map]; rfl
  clear hf h hk hx V1 V2 h0 A1
  go_enter Try.func25, Try.ntmps25
  go_wp2_with fail
  refine F.mono ?_
  rintro e w1 ⟨rfl, hw⟩
  obtain rfl := hw.symm
  clear hw F
  simp only [Option.map_some, pt]
  go_wp2_with fail
  refine U.mono ?_
  rintro e w2 ⟨rfl, h2⟩
  clear U
  go_wp2_with fail
  go_ret2
  exact ⟨rfl, fin w2 h2⟩

/-- A node that is new. -/
theorem pnode (w : World) (k a b : Int) : Nc (w.alloc (.cells #[.int .i64 k, .int .i64 a, .int .i64 b, .pointer none, .pointer none] 85)) 3 ⟨w.heap.size, k, pv a b⟩ := by
  have A : ∀ i v, (#[Value.int .i64 k, .int .i64 a, .int .i64 b, .pointer none, .pointer none] : Array Value)[i]? = some v → _ := fun i v => alloc_new w #[.int .i64 k, .int .i64 a, .int .i64 b, .pointer none, .pointer none] 85 i v
  refine ⟨⟨(A 0 _ rfl).1, fun j hj => ?_, fun j hj => ?_⟩, ⟨_, (A 3 _ rfl).1⟩, ⟨_, (A 4 _ rfl).1⟩, (A 3 _ rfl).2, (A 4 _ rfl).2⟩
  · obtain rfl | rfl : j = 0 ∨ j = 1 := by omega
    · exact (A 1 _ rfl).1
    · exact (A 2 _ rfl).1
  · obtain rfl | rfl : j = 0 ∨ j = 1 := by omega
    · exact (A 1 _ rfl).2
    · exact (A 2 _ rfl).2

/-- .. and what insert makes of it. -/
theorem pput_ins {M : Option Nat} {L : List Nd} (h : Ca w c 3 mo M L X) {k : Int} (hk : fits k) (hf : fnd L k = none) (hX : ∀ j, X j → j < w.heap.size) (hl : L.length < 90000) (a b : Int) :
    Calls Try.prog 41 #[.pointer (some ⟨c, 0, none⟩), .pointer (some ⟨w.heap.size, 0, none⟩)] (w.alloc (.cells #[.int .i64 k, .int .i64 a, .int .i64 b, .pointer none, .pointer none] 85)) fun e w' => e = .returned (.tuple #[]) ∧
      ∃ m, Hid (Ca w' c 3 mo (some m) (⟨w.heap.size, k, pv a b⟩ :: L) X ∧ Mv (fun j => ¬ X j) w w') := by
  have A1 : Mv (fun _ => False) w (w.alloc (.cells #[.int .i64 k, .int .i64 a, .int .i64 b, .pointer none, .pointer none] 85)) := Mv.alloc _ _ _
  have h1 := (h.mv A1 (fun _ h => h.elim)).mono (Y := X) (fun j hj => .inl hj)
  have hlc := h.lt_c
  refine (pins h1 (pnode w k a b) (fun y hy e => ?_) ?_ hf hk (fun e => ?_) (fun j hj => ?_) (by omega)).mono ?_
  · have := h.lt_n hy
    have e' : y.b = w.heap.size := e
    omega
  · show w.heap.size ≠ c
    omega
  · have := hX _ e
    have e' : w.heap.size < w.heap.size := this
    omega
  · have := hX j hj
    simp
    omega
  · rintro e w' ⟨rfl, h2⟩
    obtain ⟨M', h3, h4⟩ := h2.out
    obtain ⟨m, rfl⟩ := h3.some_m (by simp)
    exact ⟨rfl, m, h3, (A1.mono (fun _ _ h => h.elim)).trans h4 (fun _ _ h => h)⟩

set_option maxHeartbeats 2000000 in
/-- A new key, and there is room. -/
theorem pput_room (h : Ch w c 3 mo S X) {k : Int} (hk : fits k) (hf : sfnd S k = none) (hX : ∀ j, X j → j < w.heap.size) (hl : S.length < 90000) (hr : (S.length : Int) + 1 ≤ max mo 1) (a b : Int) :
    Calls Try.prog 25 #[.pointer (some ⟨c, 0, none⟩), .int .i64 k, .agg #[.int .i64 a, .int .i64 b]] w fun e w' => e = .returned (.tuple #[.int .i64 0, .bool false]) ∧ Hid (Ch w' c 3 mo ((k, pv a b) :: S) X ∧ Mv (fun j => ¬ X j) w w') := by
  have A1 : Mv (fun _ => False) w (w.alloc (.cells #[.int .i64 a, .int .i64 b] 53)) := Mv.alloc _ _ _
  obtain ⟨M, L, h0, rfl⟩ := h
  have h : Ca (w.alloc (.cells #[.int .i64 a, .int .i64 b] 53)) c 3 mo M L X := (h0.mv A1 (fun _ h => h.elim)).mono (fun j hj => .inl hj)
  rw [sfnd_map, Option.map_eq_none_iff] at hf
  have F := pfind h hk
  rw [hf] at F
  rw [List.length_map] at hl hr
  have U := pput_ins h hk hf (fun j hj => by have := hX j hj; simp; omega) hl a b
  have es : (w.alloc (.cells #[.int .i64 a, .int .i64 b] 53)).heap.size = w.heap.size + 1 := by simp
  rw [es] at U
  have MA : Hid (Mv (fun j => ¬ X j) w (w.alloc (.cells #[.int .i64 a, .int .i64 b] 53))) := A1.mono (fun _ _ h => h.elim)
  obtain ⟨c0, _⟩ := alloc_new w #[.int .i64 a, .int .i64 b] 53 0 _ rfl
  obtain ⟨c1, _⟩ := alloc_new w #[.int .i64 a, .int .i64 b] 53 1 _ rfl
  obtain ⟨R, hR⟩ : ∃ R, R = max mo 1 := ⟨_, rfl⟩
  have room : ∀ W : World, W.cell? ⟨c, 0, none⟩ = some (.int .i64 mo) → Calls Try.prog 42 #[.pointer (some ⟨c, 0, none⟩)] W fun e w' => e = .returned (.int .i64 R) ∧ w' = W := fun W hc => hR ▸ proom hc
  rw [← hR] at hr
  clear hR hf h hk hX h0 A1 es
  go_enter Try.func25, Try.ntmps25
  go_wp2_with fail
  refine F.mono ?_
  rintro e w1 ⟨rfl, hw⟩
  obtain rfl := hw.symm
  clear hw F
  simp only [Option.map_none, pt]
  go_wp2_with fail
  refine U.mono ?_
  rintro e w2 ⟨rfl, m, h2⟩
  clear U
  have g0 := h2.out.1.li.cm
  have g1 := h2.out.1.li.ck
  have hlen : ∀ ty, (Builtin.len_ #[77] ty #[.map (some m)]).run Try.prog w2 = .ok (.int .i64 ((L.length + 1 : Nat) : Int)) w2 := fun ty => (h2.out.1.mp1 m rfl).len 77 78 ty Try.underlying77
  have hr' : ((L.length + 1 : Nat) : Int) ≤ R := by omega
  have rm := room w2 g0
  clear room
  go_wp2_with (first | (at_len; refine wpList_len_given rfl _ _ rfl _ rfl _ (hlen _) ?_))
  refine rm.mono ?_
  rintro e w3 ⟨rfl, hw⟩
  obtain rfl := hw.symm
  clear hw rm hlen
  go_wp2_with fail
  go_ret2
  exact ⟨rfl, ⟨_, _, h2.out.1, rfl⟩, MA.out.trans h2.out.2 (fun _ _ h => h)⟩

end
end Go.Proofs.Ytaiengohfgbfhaa
