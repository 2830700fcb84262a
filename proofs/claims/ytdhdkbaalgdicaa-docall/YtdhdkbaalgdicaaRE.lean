/- The reference's text beside pages and a text; its Spell. -/
import Derived.Test.YtdhdkbaalgdicaaRX
import Derived.Test.YtdhdkbaalgdicaaEX
import Derived.Test.YtdhdkbaalgdicaaLB1
import Derived.Deep.RegionHeld3
namespace Go.Proofs.Ytdhdkbaalgdicaa
open Go.RowKit
set_option linter.unusedVariables false

set_option maxHeartbeats 1000000 in
theorem newText_new (z : Int) (hz : z ≤ 10000) (w : World) :
    Calls Try.prog 10 #[.int .i64 z] w fun e w' => e = .returned (.pointer (some ⟨w.heap.size, 0, none⟩)) ∧ ∃ vl, Hid (RxAt w' w.heap.size (sp1 ⟨false, 0, z.toNat⟩) 0 (fun _ => 0) vl (.slice none 0 0) ∧ Qt w w' ∧ ∀ j, vl.ownBlock = some j → w.heap.size < j) := by
  obtain ⟨n, hn⟩ : ∃ n : Nat, n = z.toNat := ⟨_, rfl⟩
  have hn' : n ≤ 10000 := by omega
  have HN : Hid (∀ i : Nat, (i : Int) < z ↔ i < n) := fun i => by omega
  rw [← hn]
  clear hn hz
  have START : Hid (RxAt (w.alloc (.cells #[.slice none 0 0, .slice none 0 0] 39)) w.heap.size (sp1 ⟨false, 0, 0⟩) 0 (fun _ => 0) (.slice none 0 0) (.slice none 0 0)) := ⟨(alloc_new w _ 39 0 _ rfl).1, (alloc_new w _ 39 1 _ rfl).1, (alloc_new w _ 39 0 _ rfl).2, (alloc_new w _ 39 1 _ rfl).2, ow_nil _ _ _ _, own_nil _ _ _ _⟩
  obtain ⟨r, hr⟩ : ∃ r, r = w.heap.size := ⟨_, rfl⟩
  have HR : Hid (r = w.heap.size) := hr
  rw [← hr] at START
  rw [← hr]
  go_enter Try.func10, Try.ntmps10
  go_wp2_with fail
  rw [← hr]
  clear hr
  go_loopw [4] (fun vi wr => ∃ i : Nat, i ≤ n ∧ vi = .int .i64 i ∧ ∃ vl, Hid (RxAt wr r (sp1 ⟨false, 0, i⟩) 0 (fun _ => 0) vl (.slice none 0 0) ∧ Qt w wr ∧ ∀ j, vl.ownBlock = some j → r < j)) (fun vi _ => n - (intOf vi).toNat)
  case atStart => exact ⟨0, by omega, rfl, _, START.out, (Qt.refl w).alloc _, fun j e => (by simp [Value.ownBlock] at e)⟩
  case round =>
    clear START
    obtain ⟨i, hi, rfl, vl, R⟩ := hrel
    by_cases hlt : i < n
    · have hltz : (i : Int) < z := (HN.out i).2 hlt
      have c0 := R.out.1.c0
      have z0 := R.out.1.z0
      have hl : (sp1 ⟨false, 0, i⟩).length < 90000 := by rw [sp1_length]; show i - 0 < _; omega
      obtain ⟨v', W, hr, o, mm, x⟩ := append_2one wr 0 vl (sp1 ⟨false, 0, i⟩) false (i : Int) i rfl R.out.1.ll hl (Nat.zero_le _)
      have nr : vl.ownBlock ≠ some r := fun e => by have := R.out.2.2 r e; omega
      have nr' : ∀ j, v'.ownBlock = some j → r < j := by
        intro j e
        rcases x with x | ⟨g, x, y⟩
        · rw [x] at e; exact R.out.2.2 j e
        · rw [x] at e; cases e
          have := R.out.1.lt
          omega
      have d0 := mm.cell c0 nr
      have y0 := (mm.frozen (p := ⟨r, 0, none⟩) R.out.1.lt nr).trans z0
      have R2 : Hid (RxAt (W.setCell ⟨r, 0, none⟩ v') r (sp1 ⟨false, 0, i + 1⟩) 0 (fun _ => 0) v' (.slice none 0 0) ∧ Qt w (W.setCell ⟨r, 0, none⟩ v') ∧ ∀ j, v'.ownBlock = some j → r < j) := by
        refine ⟨?_, ?_, nr'⟩
        · rw [sp1_snoc false 0 i (Nat.zero_le _)]
          have k := Mv.setCell W ⟨r, 0, none⟩ v'
          refine ⟨World.cell?_setCell_same _ _ _ d0, ?_, ?_, ?_, k.owns o (fun j e (e' : j = r) => by have := nr' j e; omega), own_nil _ _ _ _⟩
          · rw [World.cell?_setCell_other _ _ _ _ (fun e => by cases e)]; exact mm.cell R.out.1.c1 nr
          · rw [World.frozen?_setCell]; exact y0
          · rw [World.frozen?_setCell]; exact (mm.frozen (p := ⟨r, 1, none⟩) R.out.1.lt nr).trans R.out.1.z1
        · have q1 : Qt w W := R.out.2.1.trans mm (fun j hj e => by have := R.out.2.2 j e; have := HR.out; omega)
          exact q1.trans (Mv.setCell W ⟨r, 0, none⟩ v') (fun j hj e => by have := HR.out; have e : j = r := e; omega)
      obtain ⟨va0, ca0, rfl, -⟩ := ow_ls R.out.1.ll
      obtain ⟨va1, ca1, rfl, -⟩ := ow_ls o
      clear R o mm x nr nr'
      generalize (sp1 ⟨false, 0, i⟩).length = l0 at *
      generalize (sp1 ⟨false, 0, i⟩ ++ [(false, i)]).length = l1 at *
      go_wp2_with (at_builtin; first | (refine wpList_append_given rfl _ _ 37 rfl _ _ _ W rfl rfl hr ?_))
      go_wp2_with fail
      exact ⟨⟨i + 1, by omega, by go_num, _, R2⟩, by simp [intOf]; omega⟩
    · have hge : z ≤ (i : Int) := by have := (HN.out i); omega
      obtain rfl : i = n := by omega
      go_wp2_with fail
      go_ret
      exact ⟨rfl, _, R.out⟩
structure Al (w wr : World) (p n : Nat) (L : List Bt) (m : Nat) (A : Nat → Int) (r : Nat) (vl va : Value) (Y : Nat → Prop) : Prop where
  tx : Tx wr p n L m A Y
  rx : RxAt wr r L m A vl va
  yr : Y r
  yl : ∀ j, vl.ownBlock = some j → Y j
  ya : ∀ j, va.ownBlock = some j → Y j
  low : ∀ k, k < w.heap.size → Y k
  bel : Below w.heap.size w wr

section
variable {w wr w' : World} {p n : Nat} {L : List Bt} {m : Nat} {A : Nat → Int} {r : Nat} {vl va : Value} {Y : Nat → Prop}
theorem Al.qt (h : Al w wr p n L m A r vl va Y) (k : Qt wr w') : Al w w' p n L m A r vl va (fun j => Y j ∨ wr.heap.size ≤ j ∧ j < w'.heap.size) :=
  ⟨h.tx.qt k, h.rx.qt k, .inl h.yr, fun j e => .inl (h.yl j e), fun j e => .inl (h.ya j e), fun j e => .inl (h.low j e), h.bel.trans (k.below _ h.bel.size)⟩
theorem Al.small (h : Al w wr p n L m A r vl va Y) : n ≤ 20000 ∧ m ≤ 20000 ∧ L.length ≤ 20000 := by
  obtain ⟨_, _, t⟩ := h.tx
  exact t.small
theorem Al.wf (h : Al w wr p n L m A r vl va Y) : Wf n m L := by
  obtain ⟨_, _, t⟩ := h.tx
  exact t.wf
theorem Al.places (h : Al w wr p n L m A r vl va Y) : ∀ x ∈ L, x.2 < 100000 := fun x hx => by
  have h1 := h.wf.lt hx
  have h2 := h.small
  omega
theorem Al.old (h : Al w wr p n L m A r vl va Y) : r < wr.heap.size ∧ (∀ j, vl.ownBlock = some j → j < wr.heap.size) ∧ ∀ j, va.ownBlock = some j → j < wr.heap.size := ⟨h.rx.lt, fun j e => (ow_blk h.rx.ll j e).2, fun j e => (h.rx.ad.blk j e).2⟩
/-- A block that is none of theirs is written over. -/
theorem Al.spoil (h : Al w wr p n L m A r vl va Y) {g : Nat} (k : Mv (fun j => j = g) wr w') (hY : Y g) (hr : g ≠ r) (hl : vl.ownBlock ≠ some g) (ha : va.ownBlock ≠ some g) (hg : w.heap.size ≤ g) : Al w w' p n L m A r vl va (fun j => Y j ∨ wr.heap.size ≤ j ∧ j < w'.heap.size) :=
  ⟨h.tx.mv (k.mono (fun j _ e => by rw [e]; exact hY)), h.rx.mv k (fun e => hr e.symm) (fun j e e' => hl (by rw [← e']; exact e)) (fun j e e' => ha (by rw [← e']; exact e)), .inl h.yr, fun j e => .inl (h.yl j e), fun j e => .inl (h.ya j e), fun j e => .inl (h.low j e), h.bel.trans (k.below h.bel.size (fun j hj e => by omega))⟩
end

/-- Both have gone through it. -/
theorem Al.edited {w wr w3 w4 : World} {p n : Nat} {L : List Bt} {m : Nat} {A : Nat → Int} {r : Nat} {vl va : Value} {Y : Nat → Prop} {L' : List Bt} {m' : Nat} {A' : Nat → Int} {vl' va' : Value} (h : Al w wr p n L m A r vl va Y)
    (t : Tx w3 p n L' m' A' Y) (k : Mv (fun j => ¬ Y j) wr w3) (x : RxAt w4 r L' m' A' vl' va') (k' : Mv (fun j => j = r) w3 w4) (hl : ∀ j, vl'.ownBlock = some j → vl.ownBlock = some j ∨ w3.heap.size ≤ j) (ha : ∀ j, va'.ownBlock = some j → va.ownBlock = some j ∨ w3.heap.size ≤ j) (hr : w.heap.size ≤ r) :
    Al w w4 p n L' m' A' r vl' va' (fun j => Y j ∨ w3.heap.size ≤ j ∧ j < w4.heap.size) := by
  have b3 : Below w.heap.size w w3 := Tx.edit h.bel k (Nat.le_refl _) h.low
  refine ⟨t.mv (k'.mono (fun j _ e => by rw [e]; exact h.yr)), x, .inl h.yr, fun j e => ?_, fun j e => ?_, fun j e => .inl (h.low j e), b3.trans (k'.below b3.size (fun j hj e => by omega))⟩
  · rcases hl j e with h1 | h1
    · exact .inl (h.yl j h1)
    · exact .inr ⟨h1, (ow_blk x.ll j e).2⟩
  · rcases ha j e with h1 | h1
    · exact .inl (h.ya j h1)
    · exact .inr ⟨h1, (x.ad.blk j e).2⟩


/-- Pages, a text and the reference's, side by side. -/
structure Ed (w0 w : World) (d : Pd) (tp : Nat) (L : List Bt) (m : Nat) (A : Nat → Int) (r : Nat) (vl va : Value) (Y : Nat → Prop) : Prop where
  P : Pg w d none 0 (fun _ => false) 0 (fun _ => 0)
  al : Al w0 w tp d.n L m A r vl va Y
  yt : ∀ k, k < d.top → Y k
  lo : w0.heap.size ≤ d.base
  hr : d.top ≤ r
  hl : ∀ j, vl.ownBlock = some j → d.top ≤ j
  ha : ∀ j, va.ownBlock = some j → d.top ≤ j
section
variable {w0 w w' w3 w4 : World} {d : Pd} {tp : Nat} {L L' : List Bt} {m m' : Nat} {A A' : Nat → Int} {r : Nat} {vl va vl' va' : Value} {Y : Nat → Prop}
theorem Ed.qt (h : Ed w0 w d tp L m A r vl va Y) (q : Qt w w') : Ed w0 w' d tp L m A r vl va (fun j => Y j ∨ w.heap.size ≤ j ∧ j < w'.heap.size) :=
  ⟨h.P.mv q (fun _ e => e.elim), h.al.qt q, fun k hk => .inl (h.yt k hk), h.lo, h.hr, h.hl, h.ha⟩
theorem Ed.new {W1 w2 : World} {q : Nat} (P : Pg W1 d none 0 (fun _ => false) 0 (fun _ => 0)) (B : Below w0.heap.size w0 W1) (lo : w0.heap.size ≤ d.base) (tp : d.top = W1.heap.size) (T : Tx w2 q d.n L m A (fun k => k < W1.heap.size)) (k : Qt W1 w2) (x : RxAt w w2.heap.size L m A vl (.slice none 0 0)) (k2 : Qt w2 w) (hv : ∀ j, vl.ownBlock = some j → w2.heap.size < j) : ∃ Y, Ed w0 w d q L m A w2.heap.size vl (.slice none 0 0) Y := by
  have s1 := k.size
  have s2 := k2.size
  have b0 := P.b0
  have t0 := P.t0
  refine ⟨_, P.mv (k.comp k2) (fun _ e => e.elim), ⟨T.qt k2, x, .inr ⟨Nat.le_refl _, x.lt⟩, fun j e => .inr ⟨Nat.le_of_lt (hv j e), (ow_blk x.ll j e).2⟩, fun j e => by simp [Value.ownBlock] at e, fun j hj => .inl (by omega), (B.trans (k.below _ B.size)).trans (k2.below _ (Nat.le_trans B.size s1))⟩, fun j hj => .inl (by omega), lo, by omega, fun j e => by have := hv j e; omega, fun j e => by simp [Value.ownBlock] at e⟩
theorem Ed.edited (h : Ed w0 w d tp L m A r vl va Y) (t : Tx w3 tp d.n L' m' A' Y) (k : Mv (fun j => ¬ Y j) w w3) (x : RxAt w4 r L' m' A' vl' va') (k' : Mv (fun j => j = r) w3 w4) (hl : ∀ j, vl'.ownBlock = some j → w3.heap.size ≤ j) (ha : ∀ j, va'.ownBlock = some j → w3.heap.size ≤ j) : Ed w0 w4 d tp L' m' A' r vl' va' (fun j => Y j ∨ w3.heap.size ≤ j ∧ j < w4.heap.size) := by
  have tp := h.P.tp
  have s := k.size
  have b0 := h.P.b0
  have t0 := h.P.t0
  have lo := h.lo
  have hr := h.hr
  have P3 := h.P.mv k (fun j e => ⟨by have := h.yt j; by_cases hj : j < d.top; exact (e (this hj)).elim; omega, fun e => by cases e⟩)
  refine ⟨P3.mv k' (fun j e => ⟨by omega, fun e => by cases e⟩), h.al.edited t k x k' (fun j e => .inr (hl j e)) (fun j e => .inr (ha j e)) (by omega), fun j hj => .inl (h.yt j hj), lo, hr, fun j e => by have := hl j e; omega, fun j e => by have := ha j e; omega⟩
/-- The file is made, the reference goes on beside it. -/
theorem Ed.pre (h : Ed w0 w d tp L m A r vl va Y) : Pre w0 w d tp L m A := ⟨h.P, h.al.tx.mono h.yt, h.al.bel, h.lo⟩
end

set_option maxHeartbeats 4000000 in
set_option maxRecDepth 20000 in
theorem spell_any {r : Nat} {L : List Bt} {m : Nat} {A : Nat → Int} {vl va : Value} (w : World) (a0 : Option Addr) (n c0 : Nat) (f0 : Nat → Int) (h : Hid (RxAt w r L m A vl va)) (s0 : Hid (Sl w a0 n (By f0))) (wf : Hid (Wf n m L)) (sm : L.length ≤ 20000) (hn : n ≤ 20000) (hm : m ≤ 20000) :
    Calls Try.prog 16 #[.pointer (some ⟨r, 0, none⟩), .slice a0 n c0] w fun e w' => ∃ v, e = .returned v ∧ Hid (OB w' w.heap.size v (L.map (bt f0 A)) ∧ Qt w w') := by
  obtain ⟨la, lc, rfl, hls, _⟩ := ow_ls h.out.ll
  obtain ⟨aa, ac, rfl, has, _⟩ := h.out.ad.sl
  have LS : Hid (Ls w la (cellsB L)) := hls
  have AS : Hid (Sl w aa m (By A)) := has
  have c0' := h.out.c0
  have c1' := h.out.c1
  have C0 : Hid (w.cell? ⟨r, 0, none⟩ = some (.slice la L.length lc)) := c0'
  have C1 : Hid (w.cell? ⟨r, 1, none⟩ = some (.slice aa m ac)) := c1'
  obtain ⟨N, hN⟩ : ∃ N, N = L.length := ⟨_, rfl⟩
  have HN : Hid (N = L.length) := hN
  rw [← hN] at C0 sm
  clear hN hls has c0' c1'
  go_enter Try.func16, Try.ntmps16
  go_wp2_with fail
  go_loopw [5, 6] (fun vb vi wr => ∃ i : Nat, i ≤ N ∧ vi = .int .i64 i ∧ Hid (OB wr w.heap.size vb ((L.take i).map (bt f0 A)) ∧ Qt w wr)) (fun _ vi _ => N - (intOf vi).toNat)
  case atStart => exact ⟨0, by omega, rfl, (by rw [List.take_zero]; exact ow_nil _ _ _ _), Qt.refl w⟩
  case round =>
    obtain ⟨i, hi, rfl, O⟩ := hrel
    have d0 := O.out.2.cell C0.out (fun h => h)
    by_cases hlt : i < N
    · have hltz : (i : Int) < (N : Int) := by omega
      obtain ⟨x, hx⟩ : ∃ x, L[i]? = some x := ⟨L[i]'(by have := HN.out; omega), List.getElem?_eq_getElem _⟩
      obtain ⟨b, off, rfl, hb, e0, e1⟩ := lsb_get (LS.out.qt O.out.2) hx
      have hw := wf.out x (List.mem_of_getElem? hx)
      have TK : Hid (L.take (i + 1) = L.take i ++ [x]) := take_succ_get hx
      have ML : Hid (((L.take i).map (bt f0 A)).length < 90000) := by show _ < _; rw [List.length_map, List.length_take]; omega
      obtain ⟨xa, xk⟩ := x
      simp only at e0 e1 hw
      cases xa with
      | false =>
        have hk : xk < n := hw.1 rfl
        have hkz : (xk : Int) < n := by omega
        obtain ⟨gb, go, rfl, _, hg0⟩ := s0.out.mv O.out.2 (fun _ _ h => h) xk hk
        have hg : wr.cell? ⟨gb, go + xk, none⟩ = some (.int .u8 (f0 xk)) := hg0
        clear hg0
        obtain ⟨v', W, hr, o, mm⟩ := append_byte wr w.heap.size u5 _ (f0 xk) O.out.1 ML.out O.out.2.size
        have FIN : Hid (OB W w.heap.size v' ((L.take (i + 1)).map (bt f0 A)) ∧ Qt w W) := by
          refine ⟨?_, O.out.2.trans mm (fun j hj e => by have := (ow_blk O.out.1 j e).1; omega)⟩
          rw [TK.out, List.map_append]
          exact o
        clear hw hk hx hb o mm O
        go_wp2_with (at_builtin; first | (refine wpList_append_given rfl _ _ 22 rfl _ _ _ W rfl rfl hr ?_))
        exact ⟨⟨i + 1, by omega, by go_num, FIN⟩, by simp [intOf]; omega⟩
      | true =>
        have hk : xk < m := hw.2 rfl
        have hkz : (xk : Int) < m := by omega
        obtain ⟨gb, go, rfl, _, hg0⟩ := AS.out.mv O.out.2 (fun _ _ h => h) xk hk
        have hg : wr.cell? ⟨gb, go + xk, none⟩ = some (.int .u8 (A xk)) := hg0
        clear hg0
        have d1 := O.out.2.cell C1.out (fun h => h)
        have OWN : Hid (∀ W, Qt wr W → OB W w.heap.size u5 ((L.take i).map (bt f0 A))) := fun W q => q.owns O.out.1 (fun _ _ h => h)
        have SZ : Hid (w.heap.size ≤ wr.heap.size) := O.out.2.size
        have FIN : Hid (∀ v W, OB W w.heap.size v ((L.take i).map (bt f0 A) ++ [A xk]) → Below w.heap.size wr W → OB W w.heap.size v ((L.take (i + 1)).map (bt f0 A)) ∧ Qt w W) := by
          intro v W o bl
          refine ⟨?_, qt_of_below ((O.out.2.below _ (Nat.le_refl _)).trans bl)⟩
          rw [TK.out, List.map_append]
          exact o
        have LN1 : Hid (Ls (wr.alloc (.cells #[.int .u8 (A xk)] 5)) (some ⟨wr.heap.size, 0, none⟩) (bv [A xk])) := Ls.new wr #[.int .u8 (A xk)] 5
        have BL1 : Hid (Below w.heap.size wr (wr.alloc (.cells #[.int .u8 (A xk)] 5))) := (Below.refl _ wr).alloc O.out.2.size _
        have QT1 : Hid (Qt wr (wr.alloc (.cells #[.int .u8 (A xk)] 5))) := (Qt.refl wr).alloc _
        have MLL := ML.out
        have KP : Hid (∀ W, Below w.heap.size wr W → W.cell? ⟨r, 0, none⟩ = some (.slice (some ⟨b, off, none⟩) N lc) ∧ W.cell? ⟨r, 1, none⟩ = some (.slice (some ⟨gb, go, none⟩) m ac) ∧ W.cell? ⟨b, off + i * 2 + 1, none⟩ = some (.int .i64 xk) ∧ W.cell? ⟨gb, go + xk, none⟩ = some (.int .u8 (A xk))) := by
          intro W bl
          have h1 : r < w.heap.size := World.block_lt_of_cell? _ _ C0.out
          obtain ⟨b2, off2, e2, h2, _⟩ := lsb_get LS.out hx
          cases e2
          obtain ⟨g2, o2, e3, h3, _⟩ := AS.out xk hk
          cases e3
          exact ⟨(bl.cell (p := ⟨r, 0, none⟩) h1).trans d0, (bl.cell (p := ⟨r, 1, none⟩) h1).trans d1, (bl.cell (p := ⟨b, off + i * 2 + 1, none⟩) h2).trans e1, (bl.cell (p := ⟨gb, go + xk, none⟩) h3).trans hg⟩
        clear hw hk hx hb O
        go_wp2_with fail
        go_region_held3 (fun w' => w'.cell? ⟨r, 0, none⟩ = some (.slice (some ⟨b, off, none⟩) N lc) ∧ w'.cell? ⟨r, 1, none⟩ = some (.slice (some ⟨gb, go, none⟩) m ac) ∧ w'.cell? ⟨b, off + i * 2 + 1, none⟩ = some (.int .i64 xk) ∧ w'.cell? ⟨gb, go + xk, none⟩ = some (.int .u8 (A xk))) (first | go_keep | exact KP.out _ bel1)
          ((first
            | (refine step_append_b (by rfl) (.tmp 24) (.tmp 39) (by rfl) w.heap.size wr u5 ((L.take i).map (bt f0 A)) (some ⟨wr.heap.size, 0, none⟩) 1 1 [A xk] (by rfl) (by rfl) rfl (by first | exact OWN.out _ QT1.out | exact OWN.out _ (QT1.out.comp (Mv.drewN _ _ 1))) (by first | exact LN1.out | exact LN1.out.qt (Mv.drewN _ _ 1)) (by simp only [List.length_cons, List.length_nil]; omega) (fun e => by cases e) (by first | exact BL1.out | exact BL1.out.drew) SZ.out ?_; intro v1 W1 own1 gr1 bel1)))
        all_goals (go_wp2_with fail)
        all_goals exact ⟨⟨i + 1, by omega, by go_num, FIN.out v1 W1 own1 bel1⟩, by simp [intOf]; omega⟩
    · obtain rfl : i = N := by omega
      have FIN : Hid (OB wr w.heap.size u5 (L.map (bt f0 A)) ∧ Qt w wr) := by
        have := O.out
        rw [List.take_of_length_le (by have := HN.out; omega)] at this
        exact this
      go_wp2_with fail
      go_ret
      exact ⟨_, rfl, FIN⟩
end Go.Proofs.Ytdhdkbaalgdicaa
