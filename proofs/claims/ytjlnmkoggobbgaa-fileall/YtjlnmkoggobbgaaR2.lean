/- The cache that is a list: Drop. -/
import Derived.Test.YtjlnmkoggobbgaaR1
import Derived.Deep.CutRange
namespace Go.Proofs.Ytjlnmkoggobbgaa
open Go.RowKit

def nodupT (T : List Pr) : Prop := (T.map Prod.fst).Nodup
theorem kT_ne {T : List Pr} (hn : nodupT T) {i j : Nat} (hj : j < T.length) (h : i < j) : kT T i ≠ kT T j := by
  intro e
  have hi : i < T.length := by omega
  have h1 : (T.map Prod.fst)[i]'(by simpa using hi) = (T.map Prod.fst)[j]'(by simpa using hj) := by
    rw [kT_of (List.getElem?_eq_getElem hi), kT_of (List.getElem?_eq_getElem hj)] at e
    simpa using e
  exact List.pairwise_iff_getElem.1 hn i j (by simpa using hi) (by simpa using hj) h h1

theorem rdrop_none (w : World) (r : Nat) (mo : Int) (T : List Pr) (ka : Option Addr) (kc : Nat) (va : Option Addr) (vc : Nat) (h : Rf w r mo T ka kc va vc) (hl : T.length < 30000) (k : Int) (hk : ∀ j, j < T.length → kT T j ≠ k) :
    Calls Try.prog 48 #[.pointer (some ⟨r, 0, none⟩), .int .i64 k] w fun e w' => e = .returned (.bool false) ∧ w' = w := by
  have A := at_none w r ka T.length kc (kT T) k h.c1 h.sk (by omega) hk
  clear h hk
  go_enter Try.func48, Try.ntmps48
  go_wp2_with fail
  refine A.mono ?_
  rintro e w1 ⟨rfl, hw⟩
  obtain rfl := hw.symm
  clear hw A
  go_wp2_with fail
  go_ret
  exact ⟨rfl, rfl⟩

theorem kT_erase (T : List Pr) (i j : Nat) : kT (T.eraseIdx i) j = if j < i then kT T j else kT T (j + 1) := by
  unfold kT
  rw [List.getElem?_eraseIdx]
  split <;> rfl
theorem vT_erase (T : List Pr) (i j : Nat) : vT (T.eraseIdx i) j = if j < i then vT T j else vT T (j + 1) := by
  unfold vT
  rw [List.getElem?_eraseIdx]
  split <;> rfl
theorem own_sl {w : World} {base n c : Nat} {a : Option Addr} {e : TypeId} {V : Nat → Value} (h : Own w base e (.slice a n c) n V) : Sl w a n V ∧ n ≤ c ∧ (a = none → n = 0 ∧ c = 0) := by
  obtain ⟨a', c', e', s', l', n'⟩ := h.sl
  cases e'
  exact ⟨s', l', n'⟩
theorem own_lt {w : World} {base n c : Nat} {a : Option Addr} {e : TypeId} {V : Nat → Value} (h : Own w base e (.slice a n c) n V) : ∀ j, bk a = some j → base ≤ j ∧ j < w.heap.size := fun j hj => h.blk j (by rw [own_blk]; exact hj)
theorem Sl.mvb {S : Nat → Prop} {w w' : World} {a : Option Addr} {n : Nat} {V : Nat → Value} (h : Sl w a n V) (k : Mv S w w') (hs : ∀ j, bk a = some j → ¬ S j) : Sl w' a n V := h.mv k (by rintro p rfl; exact hs _ rfl)

set_option maxHeartbeats 4000000 in
set_option maxRecDepth 20000 in
theorem rdrop_some (w : World) (r : Nat) (mo : Int) (T : List Pr) (ka : Option Addr) (kc : Nat) (va : Option Addr) (vc : Nat) (h : Rf w r mo T ka kc va vc) (hl : T.length < 30000) (hn : nodupT T) (i : Nat) (hi : i < T.length) :
    Calls Try.prog 48 #[.pointer (some ⟨r, 0, none⟩), .int .i64 (kT T i)] w fun e w' => e = .returned (.bool true) ∧ ∃ ka' kc' va' vc', Hid (Rf w' r mo (T.eraseIdx i) ka' kc' va' vc' ∧ Mv (fun j => j = r) w w' ∧ (∀ j, bk ka' = some j → w.heap.size ≤ j) ∧ ∀ j, bk va' = some j → w.heap.size ≤ j) := by
  have A := at_some w r ka T.length kc (kT T) i h.c1 h.sk (by omega) hi (fun j hj => kT_ne hn hi hj)
  obtain ⟨m, hm⟩ : ∃ m, m = T.length := ⟨_, rfl⟩
  obtain ⟨b, off, rfl, hb, _⟩ := h.sk i hi
  obtain ⟨b', off', rfl, hb', _⟩ := h.sv i hi
  obtain ⟨s, hs⟩ : ∃ s, s = i + 1 := ⟨_, rfl⟩
  obtain ⟨p2, a1, c1, W1, a2, c2, W2, hp2, hr1, hr2, o2, b2, b1⟩ := cutrow w b off T.length kc i s hs (kT T) h.sk hi h.lk (by omega)
  have k1 := h.c1
  have k0 := h.z1
  have hrl : r < w.heap.size := World.block_lt_of_cell? _ _ h.c0
  have hM2 : Mv (fun _ => False) w W2 := (Mv.of_below b2).mono (fun k hk e => by omega)
  have y1 : W2.cell? ⟨r, 1, none⟩ = some (.slice (some ⟨b, off, none⟩) T.length kc) := hM2.cell h.c1 (fun h => h)
  have y0 : W2.frozen? ⟨r, 1, none⟩ = false := (hM2.frozen (p := ⟨r, 1, none⟩) hrl (fun h => h)).trans h.z1
  have y2 : W1.cell? ⟨r, 1, none⟩ = some (.slice (some ⟨b, off, none⟩) T.length kc) := (b1.cell (p := ⟨r, 1, none⟩) hrl).trans h.c1
  have htc : i ≤ kc := by have := h.lk; omega
  have htcz : (i : Int) ≤ kc := by omega
  have hsm : s ≤ T.length := by omega
  have hsmz : (s : Int) ≤ T.length := by omega
  have hwt : IntKind.i64.wrap ((i : Int) + 1) = (s : Int) := by
    rw [hs]
    simp [IntKind.wrap, IntKind.signed, IntKind.bits]
    omega
  have M3 : Mv (fun j => j = r) w (W2.setCell ⟨r, 1, none⟩ (.slice a2 (T.length - 1) c2)) := (hM2.mono (T := fun j => j = r) (fun _ _ h => h.elim)).trans (Mv.setCell _ _ _) (fun _ _ h => h)
  obtain ⟨W3, hW3⟩ : ∃ W3, W3 = W2.setCell ⟨r, 1, none⟩ (.slice a2 (T.length - 1) c2) := ⟨_, rfl⟩
  have g1 : W3.cell? ⟨r, 1, none⟩ = some (.slice a2 (T.length - 1) c2) := by rw [hW3]; exact World.cell?_setCell_same _ _ _ y1
  have g2 : W3.cell? ⟨r, 2, none⟩ = some (.slice (some ⟨b', off', none⟩) T.length vc) := by rw [hW3, World.cell?_setCell_other _ _ _ _ (addr_ne (fun _ => by omega))]; exact hM2.cell h.c2 (fun h => h)
  have g0 : W3.cell? ⟨r, 0, none⟩ = some (.int .i64 mo) := by rw [hW3, World.cell?_setCell_other _ _ _ _ (addr_ne (fun _ => by omega))]; exact hM2.cell h.c0 (fun h => h)
  have q1 : W3.frozen? ⟨r, 1, none⟩ = false := by rw [hW3, World.frozen?_setCell]; exact y0
  have q2 : W3.frozen? ⟨r, 2, none⟩ = false := by rw [hW3, World.frozen?_setCell]; exact (hM2.frozen (p := ⟨r, 2, none⟩) hrl (fun h => h)).trans h.z2
  rw [← hW3] at M3
  have s3 : Sl W3 (some ⟨b', off', none⟩) T.length (In (vT T)) := h.sv.mvb M3 (fun j hj e => h.dv (by rw [hj, e]))
  obtain ⟨p5, a4, c4, W4, a5, c5, W5, hp5, hr4, hr5, o5, b5, b4⟩ := cutrow W3 b' off' T.length vc i s hs (vT T) s3 hi h.lv (by omega)
  have hrl3 : r < W3.heap.size := World.block_lt_of_cell? _ _ g0
  have M5 : Mv (fun _ => False) W3 W5 := (Mv.of_below b5).mono (fun k hk e => by omega)
  have x2 : W5.cell? ⟨r, 2, none⟩ = some (.slice (some ⟨b', off', none⟩) T.length vc) := M5.cell g2 (fun h => h)
  have x0 : W5.frozen? ⟨r, 2, none⟩ = false := (M5.frozen (p := ⟨r, 2, none⟩) hrl3 (fun h => h)).trans q2
  have x4 : W4.cell? ⟨r, 2, none⟩ = some (.slice (some ⟨b', off', none⟩) T.length vc) := (b4.cell (p := ⟨r, 2, none⟩) hrl3).trans g2
  have hvc : i ≤ vc := by have := h.lv; omega
  have hvcz : (i : Int) ≤ vc := by omega
  have len : (T.eraseIdx i).length = T.length - 1 := List.length_eraseIdx_of_lt hi
  have R6 : Hid (Rf (W5.setCell ⟨r, 2, none⟩ (.slice a5 (T.length - 1) c5)) r mo (T.eraseIdx i) a2 c2 a5 c5 ∧ Mv (fun j => j = r) w (W5.setCell ⟨r, 2, none⟩ (.slice a5 (T.length - 1) c5)) ∧ (∀ j, bk a2 = some j → w.heap.size ≤ j) ∧ ∀ j, bk a5 = some j → w.heap.size ≤ j) := by
    have M6 := Mv.setCell W5 ⟨r, 2, none⟩ (.slice a5 (T.length - 1) c5)
    have n2 := own_lt o2
    have n5 := own_lt o5
    have M35 : Mv (fun j => j = r) W3 (W5.setCell ⟨r, 2, none⟩ (.slice a5 (T.length - 1) c5)) := (M5.mono (T := fun j => j = r) (fun _ _ h => h.elim)).trans M6 (fun _ _ h => h)
    have M23 : Mv (fun j => j = r) W2 (W5.setCell ⟨r, 2, none⟩ (.slice a5 (T.length - 1) c5)) := (by rw [hW3]; exact Mv.setCell W2 ⟨r, 1, none⟩ _ : Mv (fun j => j = r) W2 W3).trans M35 (fun _ _ h => h)
    have ne2 : ∀ j, bk a2 = some j → ¬ j = r := fun j hj e => by have := n2 j hj; omega
    have ne5 : ∀ j, bk a5 = some j → ¬ j = r := fun j hj e => by have := n5 j hj; omega
    refine ⟨⟨?_, ?_, ?_, ?_, ?_, ?_, ?_, ?_, ?_, ?_, ?_, ?_, ?_, fun j hj => Nat.lt_of_lt_of_le (n2 j hj).2 M23.size, fun j hj => Nat.lt_of_lt_of_le (n5 j hj).2 M6.size⟩, M3.trans M35 (fun _ _ h => h), fun j hj => (n2 j hj).1, fun j hj => Nat.le_trans (Nat.le_trans b2.size (by rw [hW3]; simp [World.setCell])) (n5 j hj).1⟩
    · rw [World.cell?_setCell_other _ _ _ _ (addr_ne (fun _ => by omega))]; exact M5.cell g0 (fun h => h)
    · rw [World.cell?_setCell_other _ _ _ _ (addr_ne (fun _ => by omega)), len]; exact M5.cell g1 (fun h => h)
    · rw [len]; exact World.cell?_setCell_same _ _ _ x2
    · rw [World.frozen?_setCell]; exact (M5.frozen (p := ⟨r, 1, none⟩) hrl3 (fun h => h)).trans q1
    · rw [World.frozen?_setCell]; exact x0
    · rw [len]
      refine ((own_sl o2).1.mvb M23 ne2).congr (fun j hj => ?_)
      unfold In
      rw [kT_erase]
    · rw [len]
      refine ((own_sl o5).1.mvb M6 ne5).congr (fun j hj => ?_)
      unfold In
      rw [vT_erase]
    · rw [len]; exact (own_sl o2).2.2
    · rw [len]; exact (own_sl o5).2.2
    · rw [len]; exact (own_sl o2).2.1
    · rw [len]; exact (own_sl o5).2.1
    · exact fun e => ne2 r e rfl
    · exact fun e => ne5 r e rfl
  clear M3 g1 g0 q1 s3 o5 b5 b4 M5 len
  have HS : Hid _ := hs
  have O2 : Hid _ := o2
  have H : Hid (Rf w r mo T (some ⟨b, off, none⟩) kc (some ⟨b', off', none⟩) vc) := h
  clear hs o2 b2 b1 hM2 h hb hb' hm
  go_enter Try.func48, Try.ntmps48
  go_wp2_with fail
  refine A.mono ?_
  rintro e w1 ⟨rfl, hw⟩
  obtain rfl := hw.symm
  clear hw A
  go_upto_region 4 with fail
  go_cut [] from 11 to 29 (fun wx => wx = W2.setCell ⟨r, 1, none⟩ (.slice a2 (T.length - 1) c2))
  case first =>
    go_region_law (first | (refine step_append_given rfl (.tmp 12) (.tmp 18) 31 rfl _ _ _ rfl rfl W1 hr1 ?_) | (refine step_append_given rfl (.tmp 19) (.tmp 26) 31 rfl _ _ _ rfl rfl W2 hr2 ?_))
    all_goals (go_wp2_with fail; go_meet; rfl)
  case rest =>
    rw [← hW3] at hcut
    obtain rfl := hcut.symm
    clear hcut hW3 hr1 hr2 hp2 y0 y1 y2 k0 k1
    go_upto_region 5 with fail
    go_cut [] from 30 to 48 (fun wx => wx = W5.setCell ⟨r, 2, none⟩ (.slice a5 (T.length - 1) c5))
    case first =>
      go_region_law (first | (refine step_append_given rfl (.tmp 31) (.tmp 37) 31 rfl _ _ _ rfl rfl W4 hr4 ?_) | (refine step_append_given rfl (.tmp 38) (.tmp 45) 31 rfl _ _ _ rfl rfl W5 hr5 ?_))
      all_goals (go_wp2_with fail; go_meet; rfl)
    case rest =>
      obtain rfl := hcut.symm
      clear hcut
      go_wp2_with fail
      go_ret
      exact ⟨rfl, a2, c2, a5, c5, R6⟩

end Go.Proofs.Ytjlnmkoggobbgaa
