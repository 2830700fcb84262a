/- A text over a file as the statements have it; their first call. -/
import Derived.Test.YtdhdkbaalgdicaaDZ
namespace Go.Proofs.Ytdhdkbaalgdicaa
open Go.RowKit
set_option linter.unusedVariables false

/-- Pages and a text, ahead of the file. -/
structure Pre (w0 w : World) (d : Pd) (tp : Nat) (L : List Bt) (m : Nat) (A : Nat → Int) : Prop where
  P : Pg w d none 0 (fun _ => false) 0 (fun _ => 0)
  T : Tx w tp d.n L m A (fun k => k < d.top)
  B : Below w0.heap.size w0 w
  lo : w0.heap.size ≤ d.base
/-- A text over a file; rows in the blocks K are kept. -/
def Dd (w0 w : World) (dp fq tp : Nat) (d : Pd) (mo : Int) (l : List Int) (bad : Nat → Bool) (R : List Int) (L : List Bt) (m : Nat) (A : Nat → Int) (K : Nat → Prop) : Prop :=
  ∃ Y Z, Ds w dp fq tp d mo l bad R L m A Y Z ∧ (∀ k, K k → Y k ∧ d.top ≤ k ∧ Z k ∧ k ≠ dp) ∧ (∀ k, k < w0.heap.size → Y k) ∧ Below w0.heap.size w0 w

section
variable {w0 w w' : World} {dp fq tp : Nat} {d : Pd} {mo : Int} {l : List Int} {bad : Nat → Bool} {R : List Int} {L L' : List Bt} {m m' : Nat} {A A' : Nat → Int} {K : Nat → Prop}
theorem Pre.qt (h : Pre w0 w d tp L m A) (q : Qt w w') : Pre w0 w' d tp L m A :=
  ⟨h.P.mv q (fun _ e => e.elim), (h.T.qt q).mono (fun k hk => .inl hk), h.B.trans (q.below _ h.B.size), h.lo⟩
theorem Pre.new {W1 : World} {q : Nat} (P : Pg W1 d none 0 (fun _ => false) 0 (fun _ => 0)) (B : Below w0.heap.size w0 W1) (lo : w0.heap.size ≤ d.base) (tp : d.top = W1.heap.size) (T : Tx w q d.n L m A (fun k => k < W1.heap.size)) (k : Qt W1 w) : Pre w0 w d q L m A :=
  ⟨P.mv k (fun _ e => e.elim), by rw [tp]; exact T, B.trans (k.below _ B.size), lo⟩
theorem Pre.edit (h : Pre w0 w d tp L m A) (T : Tx w' tp d.n L' m' A' (fun k => k < d.top)) (M : Mv (fun j => ¬ j < d.top) w w') : Pre w0 w' d tp L' m' A' := by
  have h1 : d.base ≤ d.top := by have := h.P.b0; have := h.P.t0; omega
  refine ⟨h.P.mv M (fun j e => ⟨by omega, fun e => by cases e⟩), T, h.B.trans (M.below h.B.size (fun k hk e => e ?_)), h.lo⟩
  have := h.lo
  omega
/-- The file is made. -/
theorem Pre.file (h : Pre w0 w d tp L m A) (mo : Int) : Calls Try.prog 15 #[.pointer (some ⟨d.bp, 0, none⟩), .int .i64 mo] w fun e w' => ∃ fq, e = .returned (.pointer (some ⟨fq, 0, none⟩)) ∧ Hid (Dd w0 (w'.alloc (.cells #[.pointer (some ⟨fq, 0, none⟩), .pointer (some ⟨tp, 0, none⟩)] 74)) w'.heap.size fq tp d mo [] (fun _ => false) [] L m A (fun _ => False)) := by
  refine (fnew_of (mo := mo) (Y := fun j => j < w.heap.size ∧ (j < d.base ∨ d.top ≤ j)) h.P (fun j hj => hj)).mono ?_
  rintro e w' ⟨rfl, F⟩
  refine ⟨_, rfl, ?_⟩
  have s := side_of (rd := fun _ => 0) h.T (fun k h1 h2 => h2) F.out.1 F.out.2
  have D := ds_of F.out.1 s.1 (Cl.nil _) s.2
  have hb := h.B.size
  have hlo := h.lo
  refine ⟨_, _, D, fun k e => e.elim, fun k hk => .inl ⟨by omega, .inl (by omega)⟩, (h.B.trans (F.out.2.mono hb)).alloc (Nat.le_trans hb F.out.2.size) _⟩

theorem Dd.D (h : Dd w0 w dp fq tp d mo l bad R L m A K) : ∃ l Y Z, Ds w dp fq tp d mo l bad R L m A Y Z := by
  obtain ⟨Y, Z, D, _⟩ := h
  exact ⟨l, Y, Z, D⟩
theorem Dd.B (h : Dd w0 w dp fq tp d mo l bad R L m A K) : Below w0.heap.size w0 w := by
  obtain ⟨Y, Z, D, _, _, B⟩ := h
  exact B
theorem Dd.small (h : Dd w0 w dp fq tp d mo l bad R L m A K) : d.n ≤ 20000 ∧ m ≤ 20000 ∧ L.length ≤ 20000 := by
  obtain ⟨l, Y, Z, D⟩ := h.D
  exact D.small
theorem Dd.qt (h : Dd w0 w dp fq tp d mo l bad R L m A K) (q : Qt w w') : Dd w0 w' dp fq tp d mo l bad R L m A K := by
  obtain ⟨Y, Z, D, k, lo, B⟩ := h
  exact ⟨_, _, D.qt q, fun j hj => ⟨.inl (k j hj).1, (k j hj).2.1, .inl (k j hj).2.2.1, (k j hj).2.2.2⟩, fun j hj => .inl (lo j hj), B.trans (q.below _ B.size)⟩
/-- A row that was made since is kept from now on. -/
theorem Dd.add (h : Dd w0 w dp fq tp d mo l bad R L m A K) (q : Qt w w') (J : Nat → Prop) (hJ : ∀ j, J j → w.heap.size ≤ j ∧ j < w'.heap.size) : Dd w0 w' dp fq tp d mo l bad R L m A (fun j => K j ∨ J j) := by
  obtain ⟨Y, Z, D, k, lo, B⟩ := h
  have tp := D.top
  have lt := D.lt
  refine ⟨_, _, D.qt q, fun j hj => ?_, fun j hj => .inl (lo j hj), B.trans (q.below _ B.size)⟩
  rcases hj with hj | hj
  · exact ⟨.inl (k j hj).1, (k j hj).2.1, .inl (k j hj).2.2.1, (k j hj).2.2.2⟩
  · have := hJ j hj
    exact ⟨.inr this, by omega, .inr this, by omega⟩
/-- A row that is kept is turned by its owner. -/
theorem Dd.turn (h : Dd w0 w dp fq tp d mo l bad R L m A K) (M : Mv K w w') (hK : ∀ k, K k → w0.heap.size ≤ k) (J : Nat → Prop) (hJ : ∀ j, J j → K j ∨ w.heap.size ≤ j ∧ j < w'.heap.size) : Dd w0 w' dp fq tp d mo l bad R L m A J := by
  obtain ⟨Y, Z, D, k, lo, B⟩ := h
  have tp := D.top
  have lt := D.lt
  refine ⟨_, _, D.mv M (fun j hj => ⟨(k j hj).1, (k j hj).2.2.1, (k j hj).2.2.2, .inl (k j hj).2.1⟩), fun j hj => ?_, fun j hj => .inl (lo j hj), B.trans (M.below B.size (fun j hj e => by have := hK j e; omega))⟩
  rcases hJ j hj with hj | hj
  · exact ⟨.inl (k j hj).1, (k j hj).2.1, .inl (k j hj).2.2.1, (k j hj).2.2.2⟩
  · exact ⟨.inr hj, by omega, .inr hj, by omega⟩

/-- Bytes that are told; those that are not; one byte. -/
def Told8 (w0 w w' : World) (dp fq tp : Nat) (d : Pd) (mo : Int) (bad : Nat → Bool) (R : List Int) (L : List Bt) (m : Nat) (A : Nat → Int) (K : Nat → Prop) (X : List Bt) (xa : Option Addr) (v : Value) : Prop :=
  ∃ l' R', Dd w0 w' dp fq tp d mo l' bad R' L m A (fun j => K j ∨ bk xa = some j) ∧ OB w' w.heap.size v (X.map (bt d.f A)) ∧ Mv (fun j => ¬ K j) w w' ∧ Rd d R R' (fun x => (false, x) ∈ X) X.length
def Left8 (w0 w w' : World) (dp fq tp : Nat) (d : Pd) (mo : Int) (bad : Nat → Bool) (R : List Int) (L : List Bt) (m : Nat) (A : Nat → Int) (K : Nat → Prop) (X : List Bt) : Prop :=
  ∃ l' R', Dd w0 w' dp fq tp d mo l' bad R' L m A K ∧ Mv (fun j => ¬ K j) w w' ∧ Rd d R R' (fun x => (false, x) ∈ X) X.length

theorem Dd.bytes (h : Hid (Dd w0 w dp fq tp d mo l bad R L m A K)) (a b : Nat) (hab : a ≤ b) (hb : b ≤ L.length) (hR : R.length + (b - a) < 20000) (hg : Gd d bad ((L.take b).drop a)) :
    Calls Try.prog 18 #[.pointer (some ⟨dp, 0, none⟩), .int .i64 a, .int .i64 b] w fun e w' => ∃ xa xc, e = .returned (.tuple #[.slice xa (b - a) xc, .int .i64 0]) ∧ Hid (Told8 w0 w w' dp fq tp d mo bad R L m A K ((L.take b).drop a) xa (.slice xa (b - a) xc)) := by
  obtain ⟨Y, Z, D, k, lo, B⟩ := h.out
  have tp' := D.top
  have lt := D.lt
  refine (dbytes_ok (h := (D : Hid _)) a b hab hb hR hg).mono ?_
  rintro e w' ⟨xa, xc, rfl, l', R', Y', Z', D', hy, hz, hv, O, M, rd⟩
  refine ⟨xa, xc, rfl, l', R', ⟨Y', Z', D', fun j hj => ?_, fun j hj => hy j (lo j hj), B.trans (M.below B.size (fun j hj e => e (lo j hj)))⟩, O, M.mono (fun j _ e hk => e (k j hk).1), rd⟩
  rcases hj with hj | hj
  · exact ⟨hy j (k j hj).1, (k j hj).2.1, hz j (k j hj).2.2.1, (k j hj).2.2.2⟩
  · have h1 := hv j (by rw [own_blk]; exact hj)
    have h2 := (ow_blk O j (by rw [own_blk]; exact hj)).1
    exact ⟨h1.1, by omega, h1.2, by omega⟩
theorem left_of_wno {Y Z : Nat → Prop} {X : List Bt} (k : ∀ j, K j → Y j ∧ d.top ≤ j ∧ Z j ∧ j ≠ dp) (lo : ∀ j, j < w0.heap.size → Y j) (B : Below w0.heap.size w0 w) (N : Wno w w' dp fq tp d mo bad R L m A Y Z X) : Left8 w0 w w' dp fq tp d mo bad R L m A K X := by
  obtain ⟨l', R', Y', Z', D', hy, hz, M, rd⟩ := N
  exact ⟨l', R', ⟨Y', Z', D', fun j hj => ⟨hy j (k j hj).1, (k j hj).2.1, hz j (k j hj).2.2.1, (k j hj).2.2.2⟩, fun j hj => hy j (lo j hj), B.trans (M.below B.size (fun j hj e => e (lo j hj)))⟩, M.mono (fun j _ e hk => e (k j hk).1), rd⟩
theorem Dd.bytes_bad (h : Hid (Dd w0 w dp fq tp d mo l bad R L m A K)) (a b : Nat) (hab : a ≤ b) (hb : b ≤ L.length) (hR : R.length + (b - a) < 20000) (hg : ¬ Gd d bad ((L.take b).drop a)) :
    Calls Try.prog 18 #[.pointer (some ⟨dp, 0, none⟩), .int .i64 a, .int .i64 b] w fun e w' => e = .returned (.tuple #[.slice none 0 0, .int .i64 11]) ∧ Hid (Left8 w0 w w' dp fq tp d mo bad R L m A K ((L.take b).drop a)) := by
  obtain ⟨Y, Z, D, k, lo, B⟩ := h.out
  refine (dbytes_bad (h := (D : Hid _)) a b hab hb hR hg).mono ?_
  rintro e w' ⟨rfl, N⟩
  exact ⟨rfl, left_of_wno k lo B N⟩
theorem Dd.at (h : Hid (Dd w0 w dp fq tp d mo l bad R L m A K)) (i : Nat) (x : Bt) (hx : L[i]? = some x) (hR : R.length + 1 < 20000) (hg : Gd d bad [x]) :
    Calls Try.prog 19 #[.pointer (some ⟨dp, 0, none⟩), .int .i64 i] w fun e w' => e = .returned (.tuple #[.int .u8 (bt d.f A x), .int .i64 0]) ∧ Hid (Left8 w0 w w' dp fq tp d mo bad R L m A K [x]) := by
  obtain ⟨Y, Z, D, k, lo, B⟩ := h.out
  refine (dat_ok (h := (D : Hid _)) i x hx hR hg).mono ?_
  rintro e w' ⟨rfl, N⟩
  exact ⟨rfl, left_of_wno k lo B N⟩
theorem Dd.len (h : Hid (Dd w0 w dp fq tp d mo l bad R L m A K)) : Calls Try.prog 17 #[.pointer (some ⟨dp, 0, none⟩)] w fun e w' => e = .returned (.int .i64 L.length) ∧ Hid (Qt w w') := by
  obtain ⟨Y, Z, D, k, lo, B⟩ := h.out
  exact dlen_any (h := (D : Hid _))
theorem Dd.bytes_arg (h : Hid (Dd w0 w dp fq tp d mo l bad R L m A K)) (a b : Int) (hr : a < 0 ∨ b < a ∨ (L.length : Int) < b) : Calls Try.prog 18 #[.pointer (some ⟨dp, 0, none⟩), .int .i64 a, .int .i64 b] w fun e w' => e = .returned (.tuple #[.slice none 0 0, .int .i64 1]) ∧ Hid (Qt w w') := by
  obtain ⟨Y, Z, D, k, lo, B⟩ := h.out
  refine (dbytes_arg (h := (D : Hid _)) a b hr).mono ?_
  rintro e w' ⟨rfl, q⟩
  exact ⟨rfl, q⟩
theorem Dd.at_arg (h : Hid (Dd w0 w dp fq tp d mo l bad R L m A K)) (i : Int) (hr : i < 0 ∨ (L.length : Int) ≤ i) (h1 : i ≤ 9223372036854775807) : Calls Try.prog 19 #[.pointer (some ⟨dp, 0, none⟩), .int .i64 i] w fun e w' => e = .returned (.tuple #[.int .u8 0, .int .i64 1]) ∧ Hid (Qt w w') := by
  obtain ⟨Y, Z, D, k, lo, B⟩ := h.out
  refine (dat_arg (h := (D : Hid _)) i hr h1).mono ?_
  rintro e w' ⟨rfl, q⟩
  exact ⟨rfl, q⟩
theorem Dd.fault (h : Dd w0 w dp fq tp d mo [] bad R L m A K) (a : Option Addr) (n c : Nat) (f : Nat → Int) (hn : n < 50000) (hl : Sl w a n (In f)) (hne : ∀ p, a = some p → d.top ≤ p.block) : Calls Try.prog 20 #[.pointer (some ⟨d.bp, 0, none⟩), .slice a n c] w fun e w' => e = .returned (.tuple #[]) ∧ Hid (Dd w0 w' dp fq tp d mo [] (among f n) R L m A K) := by
  obtain ⟨Y, Z, D, k, lo, B⟩ := h
  have hb := D.F.blk
  refine (fault_fs D.F a n c f hn hl (fun p hp => by have := hne p hp; omega)).mono ?_
  rintro e w' ⟨rfl, H⟩
  have D' := D.file H.out.1 H.out.2 (Cl.nil _) (fun k hk => hk)
  exact ⟨rfl, _, _, D', fun j hj => ⟨(k j hj).1, (k j hj).2.1, .inl (k j hj).2.2.1, (k j hj).2.2.2⟩, lo, B.trans (H.out.2.below B.size (fun j hj e => e (lo j hj)))⟩
theorem Dd.clear (h : Dd w0 w dp fq tp d mo l bad R L m A K) : Calls Try.prog 21 #[.pointer (some ⟨d.bp, 0, none⟩)] w fun e w' => e = .returned (.tuple #[]) ∧ Hid (Dd w0 w' dp fq tp d mo l bad [] L m A K ∧ Mv (fun j => ¬ K j) w w') := by
  obtain ⟨Y, Z, D, k, lo, B⟩ := h
  refine (clear_fs D.F).mono ?_
  rintro e w' ⟨rfl, H⟩
  have D' := D.file H.out.1 H.out.2 D.cl (fun k hk => hk)
  exact ⟨rfl, ⟨_, _, D', fun j hj => ⟨(k j hj).1, (k j hj).2.1, .inl (k j hj).2.2.1, (k j hj).2.2.2⟩, lo, B.trans (H.out.2.below B.size (fun j hj e => e (lo j hj)))⟩, H.out.2.mono (fun j _ e hk => e (k j hk).1)⟩
theorem Dd.reads (h : Dd w0 w dp fq tp d mo l bad R L m A K) (hR : R.length < 90000) : Calls Try.prog 22 #[.pointer (some ⟨d.bp, 0, none⟩)] w fun e w' => e = .returned (.slice (some ⟨w.heap.size, 0, none⟩) R.length R.length) ∧ Hid (Own w' w.heap.size 3 (.slice (some ⟨w.heap.size, 0, none⟩) R.length R.length) R.length (In (lof R)) ∧ Qt w w') := by
  obtain ⟨Y, Z, D, k, lo, B⟩ := h
  refine (reads_fs D.F hR).mono ?_
  rintro e w' ⟨rfl, H⟩
  exact ⟨rfl, H.out.1, (Mv.of_below H.out.2).mono (fun k hk e => by omega)⟩
theorem Dd.count (h : Dd w0 w dp fq tp d mo l bad R L m A K) : Calls Try.prog 23 #[.pointer (some ⟨d.bp, 0, none⟩)] w fun e w' => e = .returned (.int .i64 d.m) ∧ w' = w := by
  obtain ⟨Y, Z, D, k, lo, B⟩ := h
  exact count_fs D.F
theorem Dd.facts (h : Dd w0 w dp fq tp d mo l bad R L m A K) : (∀ i, i * d.sz < d.n ↔ i < d.m) ∧ 0 < d.sz ∧ d.m ≤ d.n ∧ d.n < 5000 ∧ d.top ≤ w.heap.size := by
  obtain ⟨Y, Z, D, k, lo, B⟩ := h
  have := D.F.small
  exact ⟨D.F.cnt, this.2.1, this.2.2.2, this.1, D.F.top⟩
end
theorem gd_none (d : Pd) (X : List Bt) : Gd d (fun _ => false) X := fun _ _ => rfl

def f4 : Nat → Int := fun i => [97, 98, 99, 100].getD i 0
def L3 : List Bt := ins (sp1 ⟨false, 0, 4⟩) 1 3 0 1
theorem sl_abcd (w : World) : Sl (w.alloc (.cells #[.int .u8 97, .int .u8 98, .int .u8 99, .int .u8 100] 5 (4, 5))) (some ⟨w.heap.size, 0, none⟩) 4 (By f4) := sl_lit w #[.int .u8 97, .int .u8 98, .int .u8 99, .int .u8 100] (4, 5) f4 (fun i hi => by
  have hi : i < 4 := hi
  obtain rfl | rfl | rfl | rfl : i = 0 ∨ i = 1 ∨ i = 2 ∨ i = 3 := by omega
  all_goals rfl)

set_option maxHeartbeats 2000000 in
set_option maxRecDepth 20000 in
theorem begun7 (w : World) : Calls Try.prog 7 #[] w fun e w' => e = .returned (.bool true) ∧ Hid (Below w.heap.size w w') := by
  have e28 := kc28
  have s1 : Hid _ := sl_abcd w
  go_enter Try.func7, Try.ntmps7
  go_wp2_with fail
  refine (new_ok _ 4 4 2 f4 _ (by omega) (by omega) (by omega) s1).mono ?_
  rintro e W1 ⟨d, rfl, hd, P1, B1⟩
  have B2 : Hid (Below w.heap.size w W1) := ((Below.refl w.heap.size w).alloc (Nat.le_refl _) _).trans (B1.out.mono (by simp))
  have D0 : Hid (w.heap.size ≤ d.base) := by show _ ≤ _; rw [hd.out.1]; simp
  clear s1 B1
  go_wp2_with fail
  refine (new_any 4 (by omega) W1).mono ?_
  rintro e w2 ⟨q, rfl, hq, T2⟩
  have PR : Hid (Pre w w2 d q (sp1 ⟨false, 0, 4⟩) 0 (fun _ => 0)) := Pre.new P1.out B2.out D0.out hd.out.2.1 (by rw [hd.out.2.2.1]; exact T2.out.1) T2.out.2
  clear T2 P1 B2 D0
  go_wp2_with fail
  have PR2 : Hid (Pre w (w2.alloc (.cells #[.int .u8 120] 5 (1, 2))) d q (sp1 ⟨false, 0, 4⟩) 0 (fun _ => 0)) := PR.out.qt ((Qt.refl w2).alloc _)
  refine (edit_ok (h := (PR2.out.T : Hid _)) 1 3 (some ⟨w2.heap.size, 0, none⟩) 1 1 (fun _ => 120) (by omega) (by rw [sp1_length]; decide) (by omega) (sl_x w2) (fun e => by cases e) (by omega) (by rw [sp1_length]; decide)).mono ?_
  rintro e w3 ⟨rfl, T3⟩
  have PR3 : Hid (Pre w w3 d q L3 (0 + 1) (catI (fun _ => 0) 0 (fun _ => 120))) := PR2.out.edit T3.out.1 T3.out.2
  clear T3 PR2 PR hq
  have FC := PR3.out.file 1
  go_wp2_with fail
  refine FC.mono ?_
  rintro e w4 ⟨fq, rfl, D4⟩
  clear FC PR3
  go_wp2_with fail
  refine (dnew_any _ _ w4).mono ?_
  rintro e w5 ⟨rfl, hw⟩
  obtain ⟨dp, hdp⟩ : ∃ dp, dp = w4.heap.size := ⟨_, rfl⟩
  rw [← hdp, ← hw] at D4
  rw [← hdp]
  clear hw hdp
  have BT := Dd.bytes D4 0 3 (by omega) (by decide) (by decide) (gd_none _ _)
  rw [show ((0 : Nat) : Int) = 0 from rfl, show ((3 : Nat) : Int) = 3 from rfl] at BT
  go_wp2_with fail
  refine BT.mono ?_
  rintro e w6 ⟨xa, xc, rfl, T6⟩
  clear BT D4
  obtain ⟨l6, R6, D6, O6, M6, rd6⟩ := T6.out
  have AT := Dd.at (h := (D6 : Hid _)) 1 (true, 0) (by decide) (by have := rd6.2; have h2 : ((L3.take 3).drop 0).length = 3 := (by decide); rw [h2] at this; simp at this; omega) (gd_none _ _)
  rw [show ((1 : Nat) : Int) = 1 from rfl, show bt d.f (catI (fun _ => 0) 0 (fun _ => 120)) (true, 0) = 120 from rfl] at AT
  have O6' : Hid _ := O6
  clear D6 O6 M6 rd6 T6
  go_wp2_with fail
  refine AT.mono ?_
  rintro e w7 ⟨rfl, T7⟩
  clear AT
  obtain ⟨l7, R7, D7, M7, rd7⟩ := T7.out
  have O7 := M7.owns O6'.out (fun k hk e => e (.inr (by rw [own_blk] at hk; exact hk)))
  have CV : (convert 22 9 (.slice xa (3 - 0) xc)).run Try.prog w7 = .ok (.string ⟨#[97, 120, 100]⟩) w7 := by
    obtain ⟨a2, c2, e2, h2⟩ := conv_list _ _ _ _ O7
    have hl : (((L3.take 3).drop 0).map (bt d.f (catI (fun _ => 0) 0 (fun _ => 120)))).length = 3 := by rw [List.length_map]; decide
    rw [hl] at e2 h2
    cases e2
    rw [h2]
    have : ((L3.take 3).drop 0).map (bt d.f (catI (fun _ => 0) 0 (fun _ => 120))) = [97, 120, 100] := by
      rw [hd.out.2.2.2.2]
      rfl
    rw [this]
    rfl
  have LN := Dd.len (h := (D7 : Hid _))
  rw [show L3.length = 3 by decide, show ((3 : Nat) : Int) = 3 from rfl] at LN
  have B7 : Hid _ := D7.B
  clear D7 M7 rd7 O7 T7 O6'
  go_wp2_with fail
  refine LN.mono ?_
  rintro e w8 ⟨rfl, q8⟩
  clear LN CV
  go_wp2_with fail
  go_ret
  exact ⟨rfl, B7.out.trans (q8.out.below _ B7.out.size)⟩
end Go.Proofs.Ytdhdkbaalgdicaa
