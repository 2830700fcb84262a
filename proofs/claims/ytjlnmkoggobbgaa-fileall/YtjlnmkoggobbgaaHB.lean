/- Put of a cache. -/
import Derived.Test.YtjlnmkoggobbgaaN6
import Derived.Test.YtjlnmkoggobbgaaGB
namespace Go.Proofs.Ytjlnmkoggobbgaa
open Go.RowKit

section
variable {w : World} {c : Nat} {mo : Int} {S : List Kw} {X : Nat → Prop}

set_option maxHeartbeats 1000000 in
/-- A key that is there. -/
theorem bput_has (h : Ch w c 2 mo S X) {k : Int} (hk : fits k) {p : Kw} (hf : sfnd S k = some p) (za : Option Addr) (zn zc : Nat) :
    Calls Try.prog 52 #[.pointer (some ⟨c, 0, none⟩), .int .i64 k, .slice za zn zc] w fun e w' => e = .returned (.tuple #[.int .i64 0, .bool false]) ∧ Hid (Ch w' c 2 mo ((k, fun _ => .slice za zn zc) :: sdel S k) X ∧ Mv (fun j => ¬ X j) w w') := by
  obtain ⟨M, L, h, rfl⟩ := h
  rw [sfnd_map, Option.map_eq_some_iff] at hf
  obtain ⟨x, hf, rfl⟩ := hf
  obtain ⟨hx, rfl, _⟩ := fnd_some hf
  have F := bfind h hk
  rw [hf] at F
  have V := h.setv hx (j := 0) (by omega) (.slice za zn zc)
  have U := buse V.1 (setv_at hx _)
  have cv : w.cell? ⟨x.b, 1, none⟩ = some (x.v 0) := (h.li.kv x hx).val 0 (by omega)
  have zv : w.frozen? ⟨x.b, 1, none⟩ = false := (h.li.kv x hx).zv 0 (by omega)
  have fin : ∀ w', Hid (Ca w' c 2 mo M (⟨x.b, x.k, fun i => if i = 0 then .slice za zn zc else x.v i⟩ :: del (setv L x.k (fun i => if i = 0 then .slice za zn zc else x.v i)) x.k) X ∧ Mv (Mine c (setv L x.k (fun i => if i = 0 then .slice za zn zc else x.v i))) (w.setCell ⟨x.b, 1 + 0, none⟩ (.slice za zn zc)) w') → Hid (Ch w' c 2 mo ((x.k, fun _ => .slice za zn zc) :: sdel (L.map kw) x.k) X ∧ Mv (fun j => ¬ X j) w w') := by
    intro w' h'
    refine ⟨⟨M, _, h'.out.1.head_v (fun _ => .slice za zn zc) (fun j hj => ?_), ?_⟩, V.2.trans h'.out.2 (fun k _ e => V.1.mine e)⟩
    · obtain rfl : j = 0 := by omega
      rfl
    · rw [setv_del, sdel_map]; rfl
  clear hf h hk hx V
  go_enter Try.func52, Try.ntmps52
  go_wp2_with fail
  refine F.mono ?_
  rintro e w1 ⟨rfl, hw⟩
  obtain rfl := hw.symm
  clear hw F
  simp only [Option.map_some, pt]
  go_wp2_with fail
  refine U.mono ?_
  rintro e w2 ⟨rfl, h2⟩
  clear U
  go_wp2_with fail
  go_ret2
  exact ⟨rfl, fin w2 h2⟩

/-- A node that is new. -/
theorem bnode (w : World) (k : Int) (za : Option Addr) (zn zc : Nat) : Nc (w.alloc (.cells #[.int .i64 k, .slice za zn zc, .pointer none, .pointer none] 91)) 2 ⟨w.heap.size, k, fun _ => .slice za zn zc⟩ := by
  have A : ∀ i v, (#[Value.int .i64 k, .slice za zn zc, .pointer none, .pointer none] : Array Value)[i]? = some v → _ := fun i v => alloc_new w #[.int .i64 k, .slice za zn zc, .pointer none, .pointer none] 91 i v
  refine ⟨⟨(A 0 _ rfl).1, fun j hj => ?_, fun j hj => ?_⟩, ⟨_, (A 2 _ rfl).1⟩, ⟨_, (A 3 _ rfl).1⟩, (A 2 _ rfl).2, (A 3 _ rfl).2⟩
  · obtain rfl : j = 0 := by omega
    exact (A 1 _ rfl).1
  · obtain rfl : j = 0 := by omega
    exact (A 1 _ rfl).2

/-- .. and what insert makes of it. -/
theorem bput_ins {M : Option Nat} {L : List Nd} (h : Ca w c 2 mo M L X) {k : Int} (hk : fits k) (hf : fnd L k = none) (hX : ∀ j, X j → j < w.heap.size) (hl : L.length < 90000) (za : Option Addr) (zn zc : Nat) :
    Calls Try.prog 55 #[.pointer (some ⟨c, 0, none⟩), .pointer (some ⟨w.heap.size, 0, none⟩)] (w.alloc (.cells #[.int .i64 k, .slice za zn zc, .pointer none, .pointer none] 91)) fun e w' => e = .returned (.tuple #[]) ∧
      ∃ m, Hid (Ca w' c 2 mo (some m) (⟨w.heap.size, k, fun _ => .slice za zn zc⟩ :: L) X ∧ Mv (fun j => ¬ X j) w w') := by
  have A1 : Mv (fun _ => False) w (w.alloc (.cells #[.int .i64 k, .slice za zn zc, .pointer none, .pointer none] 91)) := Mv.alloc _ _ _
  have h1 := (h.mv A1 (fun _ h => h.elim)).mono (Y := X) (fun j hj => .inl hj)
  have hlc := h.lt_c
  refine (bins h1 (bnode w k za zn zc) (fun y hy e => ?_) ?_ hf hk (fun e => ?_) (fun j hj => ?_) (by omega)).mono ?_
  · have := h.lt_n hy
    have e' : y.b = w.heap.size := e
    omega
  · show w.heap.size ≠ c
    omega
  · have := hX _ e
    have e' : w.heap.size < w.heap.size := this
    omega
  · have := hX j hj
    simp
    omega
  · rintro e w' ⟨rfl, h2⟩
    obtain ⟨M', h3, h4⟩ := h2.out
    obtain ⟨m, rfl⟩ := h3.some_m (by simp)
    exact ⟨rfl, m, h3, (A1.mono (fun _ _ h => h.elim)).trans h4 (fun _ _ h => h)⟩

set_option maxHeartbeats 2000000 in
/-- A new key, and there is room. -/
theorem bput_room (h : Ch w c 2 mo S X) {k : Int} (hk : fits k) (hf : sfnd S k = none) (hX : ∀ j, X j → j < w.heap.size) (hl : S.length < 90000) (hr : (S.length : Int) + 1 ≤ max mo 1) (za : Option Addr) (zn zc : Nat) :
    Calls Try.prog 52 #[.pointer (some ⟨c, 0, none⟩), .int .i64 k, .slice za zn zc] w fun e w' => e = .returned (.tuple #[.int .i64 0, .bool false]) ∧ Hid (Ch w' c 2 mo ((k, fun _ => .slice za zn zc) :: S) X ∧ Mv (fun j => ¬ X j) w w') := by
  obtain ⟨M, L, h, rfl⟩ := h
  rw [sfnd_map, Option.map_eq_none_iff] at hf
  have F := bfind h hk
  rw [hf] at F
  rw [List.length_map] at hl hr
  have U := bput_ins h hk hf hX hl za zn zc
  obtain ⟨R, hR⟩ : ∃ R, R = max mo 1 := ⟨_, rfl⟩
  have room : ∀ W : World, W.cell? ⟨c, 0, none⟩ = some (.int .i64 mo) → Calls Try.prog 56 #[.pointer (some ⟨c, 0, none⟩)] W fun e w' => e = .returned (.int .i64 R) ∧ w' = W := fun W hc => hR ▸ broom hc
  rw [← hR] at hr
  clear hR hf h hk hX
  go_enter Try.func52, Try.ntmps52
  go_wp2_with fail
  refine F.mono ?_
  rintro e w1 ⟨rfl, hw⟩
  obtain rfl := hw.symm
  clear hw F
  simp only [Option.map_none, pt]
  go_wp2_with fail
  refine U.mono ?_
  rintro e w2 ⟨rfl, m, h2⟩
  clear U
  have g0 := h2.out.1.li.cm
  have g1 := h2.out.1.li.ck
  have hlen : ∀ ty, (Builtin.len_ #[81] ty #[.map (some m)]).run Try.prog w2 = .ok (.int .i64 ((L.length + 1 : Nat) : Int)) w2 := fun ty => (h2.out.1.mp1 m rfl).len 81 82 ty Try.underlying81
  have hr' : ((L.length + 1 : Nat) : Int) ≤ R := by omega
  have rm := room w2 g0
  clear room
  go_wp2_with (first | (at_len; refine wpList_len_given rfl _ _ rfl _ rfl _ (hlen _) ?_))
  refine rm.mono ?_
  rintro e w3 ⟨rfl, hw⟩
  obtain rfl := hw.symm
  clear hw rm hlen
  go_wp2_with fail
  go_ret2
  exact ⟨rfl, ⟨_, _, h2.out.1, rfl⟩, h2.out.2⟩

set_option maxHeartbeats 2000000 in
/-- A new key, and one must go. -/
theorem bput_full (h : Ch w c 2 mo S X) {k : Int} (hk : fits k) (hf : sfnd S k = none) (hX : ∀ j, X j → j < w.heap.size) (hl : S.length < 90000) (hr : max mo 1 < (S.length : Int) + 1) (za : Option Addr) (zn zc : Nat) :
    Calls Try.prog 52 #[.pointer (some ⟨c, 0, none⟩), .int .i64 k, .slice za zn zc] w fun e w' => e = .returned (.tuple #[.int .i64 (((((k, fun _ => .slice za zn zc) :: S).getLast?).map Prod.fst).getD 0), .bool true]) ∧ Hid (Ch w' c 2 mo (((k, fun _ => .slice za zn zc) :: S).dropLast) X ∧ Mv (fun j => ¬ X j) w w') := by
  obtain ⟨M, L, h, rfl⟩ := h
  rw [sfnd_map, Option.map_eq_none_iff] at hf
  have F := bfind h hk
  rw [hf] at F
  rw [List.length_map] at hl hr
  have U := bput_ins h hk hf hX hl za zn zc
  obtain ⟨R, hR⟩ : ∃ R, R = max mo 1 := ⟨_, rfl⟩
  have room : ∀ W : World, W.cell? ⟨c, 0, none⟩ = some (.int .i64 mo) → Calls Try.prog 56 #[.pointer (some ⟨c, 0, none⟩)] W fun e w' => e = .returned (.int .i64 R) ∧ w' = W := fun W hc => hR ▸ broom hc
  rw [← hR] at hr
  clear hR hf h hk hX
  go_enter Try.func52, Try.ntmps52
  go_wp2_with fail
  refine F.mono ?_
  rintro e w1 ⟨rfl, hw⟩
  obtain rfl := hw.symm
  clear hw F
  simp only [Option.map_none, pt]
  go_wp2_with fail
  refine U.mono ?_
  rintro e w2 ⟨rfl, m, h2⟩
  clear U
  have g0 := h2.out.1.li.cm
  have g1 := h2.out.1.li.ck
  obtain ⟨y, hy, hym, g3⟩ := h2.out.1.oldest (by simp)
  have hlen : ∀ ty, (Builtin.len_ #[81] ty #[.map (some m)]).run Try.prog w2 = .ok (.int .i64 ((L.length + 1 : Nat) : Int)) w2 := fun ty => (h2.out.1.mp1 m rfl).len 81 82 ty Try.underlying81
  have hr' : R < ((L.length + 1 : Nat) : Int) := by omega
  have rm := room w2 g0
  have V := brem h2.out.1 hym
  have ed := drop_last h2.out.1.ks hy
  have hfin : Hid (((((k, fun _ => .slice za zn zc) :: L.map kw).getLast?).map Prod.fst).getD 0 = y.k) := by
    show _ = _
    have e1 : ((k, fun _ => .slice za zn zc) :: L.map kw) = ((⟨w.heap.size, k, fun _ => .slice za zn zc⟩ :: L : List Nd).map kw) := rfl
    rw [e1, List.getLast?_map, hy]; rfl
  have fin : ∀ w', Hid (Ca w' c 2 mo (some m) (del (⟨w.heap.size, k, fun _ => .slice za zn zc⟩ :: L) y.k) X ∧ Nc w' 2 y ∧ Mv (fun j => ¬ X j) w2 w') → Hid (Ch w' c 2 mo (((k, fun _ => .slice za zn zc) :: L.map kw).dropLast) X ∧ Mv (fun j => ¬ X j) w w') := by
    intro w' h'
    refine ⟨⟨_, _, h'.out.1, ?_⟩, h2.out.2.trans h'.out.2.2 (fun _ _ h => h)⟩
    rw [ed, List.map_dropLast]; rfl
  clear room ed hy hym
  go_wp2_with (first | (at_len; refine wpList_len_given rfl _ _ rfl _ rfl _ (hlen _) ?_))
  refine rm.mono ?_
  rintro e w3 ⟨rfl, hw⟩
  obtain rfl := hw.symm
  clear hw rm hlen
  go_wp2_with fail
  refine V.mono ?_
  rintro e w4 ⟨rfl, h4⟩
  have hyk := h4.out.2.1.kv.key
  clear V
  go_wp2_with fail
  go_ret2
  exact ⟨by rw [hfin.out]; rfl, fin w4 h4⟩

end
end Go.Proofs.Ytjlnmkoggobbgaa
