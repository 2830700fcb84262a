/- Edit. -/
import Derived.Test.YtjelclomigmlmaaD3
namespace Go.Proofs.Ytjelclomigmlmaa
open Go.RowKit

/-- k bytes, the first of which is the m-th that was added, in the place of those from a to b. -/
def ins (L : List Bt) (a b m k : Nat) : List Bt := L.take a ++ sp1 ⟨true, m, m + k⟩ ++ L.drop b
theorem ins_length (L : List Bt) (a b m k : Nat) (h1 : a ≤ b) (h2 : b ≤ L.length) : (ins L a b m k).length = L.length - (b - a) + k := by
  unfold ins
  rw [List.length_append, List.length_append, List.length_take, List.length_drop, sp1_length]
  show min a L.length + (m + k - m) + (L.length - b) = _
  omega
theorem ins_wf {n m : Nat} {L : List Bt} (h : Wf n m L) (a b k : Nat) : Wf n (m + k) (ins L a b m k) := by
  intro x hx
  unfold ins at hx
  rcases List.mem_append.1 hx with hx | hx
  · rcases List.mem_append.1 hx with hx | hx
    · exact h.mono (by omega) x (List.mem_of_mem_take hx)
    · obtain ⟨h1, _, h3⟩ := sp1_mem.1 hx
      exact ⟨fun e => (by rw [h1] at e; cases e), fun _ => h3⟩
  · exact h.mono (by omega) x (List.mem_of_mem_drop hx)

section
variable {w : World} {p n : Nat} {L : List Bt} {m : Nat} {A : Nat → Int} {Y : Nat → Prop}

theorem TxAt.qt {w' : World} {vp va : Value} (h : TxAt w p n L m A vp va Y) (k : Qt w w') : TxAt w' p n L m A vp va Y := by
  have hp : p < w.heap.size := World.block_lt_of_cell? _ _ h.c0
  refine ⟨k.cell h.c0 (fun h => h), k.cell h.c1 (fun h => h), (k.frozen (p := ⟨p, 0, none⟩) hp (fun h => h)).trans h.z0, (k.frozen (p := ⟨p, 1, none⟩) hp (fun h => h)).trans h.z1, k.owns h.pl (fun _ _ h => h), h.ad.mv k (fun _ _ h => h), ?_, h.sep, h.wf, h.small⟩
  intro j hj
  obtain ⟨a, b, c, d⟩ := h.away j hj
  exact ⟨Nat.lt_of_lt_of_le a k.size, b, c, d⟩

theorem edit_fin {w4 w5 w6 : World} {vp va v : Value} {L' : List Bt} (h : TxAt w4 p n L m A vp va Y) (q5 : Qt w4 w5) (q6 : Qt w5 w6) (o : Op3 w6 w5.heap.size v (nf L')) (hw : Wf n m L') (hl : L'.length ≤ 20000) :
    TxAt (w6.setCell ⟨p, 0, none⟩ v) p n L' m A v va Y ∧ Mv (fun j => j = p) w4 (w6.setCell ⟨p, 0, none⟩ v) := by
  have q : Qt w4 w6 := q5.comp q6
  have h6 := h.qt q
  have hp : p < w4.heap.size := World.block_lt_of_cell? _ _ h.c0
  have s5 := q5.size
  have M : Mv (fun j => j = p) w6 (w6.setCell ⟨p, 0, none⟩ v) := Mv.setCell w6 ⟨p, 0, none⟩ v
  have b := fun j e => ow_blk o j e
  have np : ∀ j, v.ownBlock = some j → ¬ j = p := fun j e e' => by have := (b j e).1; omega
  refine ⟨⟨World.cell?_setCell_same _ _ _ h6.c0, ?_, ?_, ?_, ?_, h6.ad.mv M (fun j e e' => h.sep.2.1 (by rw [← e']; exact e)), ?_, ?_, hw, ⟨h.small.1, h.small.2.1, hl⟩⟩, (q.mono (fun _ _ h => h.elim)).trans M (fun _ _ h => h)⟩
  · rw [World.cell?_setCell_other _ _ _ _ (fun e => by cases e)]; exact h6.c1
  · rw [World.frozen?_setCell]; exact h6.z0
  · rw [World.frozen?_setCell]; exact h6.z1
  · exact ow_mono (M.owns o np) (fun _ _ => Nat.zero_le _)
  · intro j hj
    obtain ⟨x1, x2, x3, x4⟩ := h.away j hj
    refine ⟨Nat.lt_of_lt_of_le x1 (Nat.le_trans q.size M.size), x2, fun e => ?_, x4⟩
    have := (b j e).1; omega
  · refine ⟨fun e => np p e rfl, h.sep.2.1, fun j e e' => ?_⟩
    have h1 := (b j e).1
    have h2 := (h.ad.blk j e').2
    omega

set_option maxHeartbeats 1000000 in
theorem edit_arg (h : Hid (Tx w p n L m A Y)) (a b : Int) (sa : Option Addr) (k sc : Nat) (hab : ¬ (0 ≤ a ∧ a ≤ b ∧ b ≤ L.length)) :
    Calls Try.prog 13 #[.pointer (some ⟨p, 0, none⟩), .int .i64 a, .int .i64 b, .slice sa k sc] w fun e w' => e = .returned (.int .i64 1) ∧ Hid (Qt w w') := by
  by_cases h1 : a < 0
  · clear hab
    go_enter Try.func13, Try.ntmps13
    go_wp2_with fail
    go_ret
    exact ⟨rfl, Qt.refl w⟩
  · by_cases h2 : b < a
    · clear hab
      go_enter Try.func13, Try.ntmps13
      go_wp2_with fail
      go_ret
      exact ⟨rfl, Qt.refl w⟩
    · have h3 : (L.length : Int) < b := by omega
      have C := len_any h
      clear hab
      generalize L.length = k at *
      go_enter Try.func13, Try.ntmps13
      go_wp2_with fail
      refine C.mono ?_
      rintro e w1 ⟨rfl, q⟩
      go_wp2_with fail
      go_ret
      exact ⟨rfl, q⟩

set_option maxHeartbeats 1000000 in
theorem edit_big (h : Hid (Tx w p n L m A Y)) (a b : Int) (sa : Option Addr) (k sc : Nat) (hab : 0 ≤ a ∧ a ≤ b ∧ b ≤ L.length) (hk : 300 < k) :
    Calls Try.prog 13 #[.pointer (some ⟨p, 0, none⟩), .int .i64 a, .int .i64 b, .slice sa k sc] w fun e w' => e = .returned (.int .i64 10) ∧ Hid (Qt w w') := by
  obtain ⟨h1, h2, h3⟩ := hab
  have hkz : (300 : Int) < k := by omega
  have C := len_any h
  generalize L.length = k at *
  go_enter Try.func13, Try.ntmps13
  go_wp2_with fail
  refine C.mono ?_
  rintro e w1 ⟨rfl, q⟩
  go_wp2_with fail
  go_ret
  exact ⟨rfl, q⟩
end
end Go.Proofs.Ytjelclomigmlmaa
