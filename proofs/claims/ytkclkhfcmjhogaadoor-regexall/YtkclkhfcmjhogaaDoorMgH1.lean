/- The program's reader: skip, endsCat, must, oneOrAll. -/
import Derived.Test.YtkclkhfcmjhogaaDoorMgT2
import Derived.Test.YtkclkhfcmjhogaaDoorMgL
import Derived.Test.YtkclkhfcmjhogaaDoorMgS1
import Derived.Test.YtkclkhfcmjhogaaDoorMgK1
import Derived.MapKept
import Derived.Shelf.Strings.Prefix
namespace Go.Proofs.YtkclkhfcmjhogaaDoor
open Go.RowKit
set_option linter.unusedVariables false

/-- The panic with an error. -/
def chainE (e : Int) : List PanicEntry := [{ v := .iface 29 (.int .i64 e), recovered := false }]
set_option maxHeartbeats 400000 in
theorem rmust_ok (w : World) : Calls Tryd.prog 32 #[.int .i64 0] w fun e w' => e = .returned (.tuple #[]) ∧ w' = w := by
  go_enter Tryd.func32, Tryd.ntmps32
  go_wp2
  go_end0
  exact ⟨rfl, rfl⟩
set_option maxHeartbeats 400000 in
theorem rmust_bad (n : Int) (hn : n ≠ 0) (w : World) : Calls Tryd.prog 32 #[.int .i64 n] w fun e w' => e = .panicked (chainE n) ∧ w' = w := by
  have hb := beq_no hn
  go_enter Tryd.func32, Tryd.ntmps32
  go_wp2
  exact ⟨rfl, rfl, rfl⟩

/-- A reader at q: what is left is l, so many brackets are open. -/
structure Rx1 (q : Nat) (l : List Nat) (o : Nat) (w : World) : Prop where
  text : w.cell? ⟨q, 0, none⟩ = some (.string (str l))
  open_ : w.cell? ⟨q, 1, none⟩ = some (.int .i64 (o : Int))
  fz : w.frozen? ⟨q, 0, none⟩ = false
  fz1 : w.frozen? ⟨q, 1, none⟩ = false
  small : l.length < 80000
  bytes : ∀ c ∈ l, c < 256
theorem Rx1.mv {X : Nat → Prop} {q : Nat} {l : List Nat} {o : Nat} {w w' : World} (h : Rx1 q l o w) (m : Mv X w w') (hx : ¬ X q) : Rx1 q l o w' :=
  ⟨m.cell (p := ⟨q, 0, none⟩) h.text hx, m.cell (p := ⟨q, 1, none⟩) h.open_ hx, by rw [m.frozen (p := ⟨q, 0, none⟩) (World.block_lt_of_cell? w _ h.text) hx]; exact h.fz, by rw [m.frozen (p := ⟨q, 1, none⟩) (World.block_lt_of_cell? w _ h.open_) hx]; exact h.fz1, h.small, h.bytes⟩
theorem Rx1.put {q : Nat} {l t : List Nat} {o : Nat} {w : World} (h : Rx1 q l o w) (hs : t <:+ l) : Rx1 q t o (w.setCell ⟨q, 0, none⟩ (.string (str t))) := by
  refine ⟨World.cell?_setCell_same w _ _ h.text, ?_, by rw [World.frozen?_setCell]; exact h.fz, by rw [World.frozen?_setCell]; exact h.fz1, Nat.lt_of_le_of_lt hs.length_le h.small, fun c hc => h.bytes c (hs.mem hc)⟩
  rw [World.cell?_setCell_other w _ _ _ (by simp)]; exact h.open_
theorem Rx1.opens {q : Nat} {l : List Nat} {o : Nat} {w : World} (h : Rx1 q l o w) (p : Nat) : Rx1 q l p (w.setCell ⟨q, 1, none⟩ (.int .i64 (p : Int))) := by
  refine ⟨?_, World.cell?_setCell_same w _ _ h.open_, by rw [World.frozen?_setCell]; exact h.fz, by rw [World.frozen?_setCell]; exact h.fz1, h.small, h.bytes⟩
  rw [World.cell?_setCell_other w _ _ _ (by simp)]; exact h.text
theorem Rx1.lt {q : Nat} {l : List Nat} {o : Nat} {w : World} (h : Rx1 q l o w) : q < w.heap.size := World.block_lt_of_cell? w _ h.text
theorem str_ext (l : List Nat) (a b : Nat) : (str l).extract a b = str ((l.drop a).take (b - a)) := by
  apply ByteArray.ext
  apply Array.ext'
  simp [str, ByteArray.data_extract, List.map_take, List.map_drop, List.extract_eq_take_drop]
theorem str_inj {l m : List Nat} (hl : ∀ c ∈ l, c < 256) (hm : ∀ c ∈ m, c < 256) (h : str l = str m) : l = m := by
  rw [← bs_str l hl, ← bs_str m hm, h]
theorem str_beq {l m : List Nat} (hl : ∀ c ∈ l, c < 256) (hm : ∀ c ∈ m, c < 256) : ((str l).toList == (str m).toList) = decide (l = m) := by
  rw [← beq_toListBytes]
  by_cases h : l = m
  · rw [decide_eq_true h, h]; exact (MapKept.bytes_beq _ _).2 rfl
  · rw [decide_eq_false h]
    cases hb : (str l == str m) with
    | false => rfl
    | true => exact absurd (str_inj hl hm ((MapKept.bytes_beq _ _).1 hb)) h
/-- The text goes on with this byte. -/
def hd1 (b : Nat) : List Nat → Bool
  | [] => false
  | c :: _ => c == b
def tl1 (b : Nat) (l : List Nat) : List Nat := if hd1 b l then l.drop 1 else l
set_option maxHeartbeats 400000 in
theorem hasPre_any (b : Nat) (hb : b < 256) (l : List Nat) (hl : ∀ c ∈ l, c < 256) (w : World) : Calls Tryd.prog 106 #[.string (str l), .string (str [b])] w fun e w' => e = .returned (.bool (hd1 b l)) ∧ w' = w := by
  have h1 : (str [b]).size = 1 := by rw [str_size]; rfl
  cases l with
  | nil =>
    have hs : (str []).size = 0 := by rw [str_size]; rfl
    generalize str [] = S at *
    generalize str [b] = B at *
    go_enter Tryd.func106, Tryd.ntmps106
    go_wp2_with fail
    go_ret
    exact ⟨rfl, rfl⟩
  | cons c t =>
    have hs : (str (c :: t)).size = t.length + 1 := by rw [str_size]; rfl
    have he : Hid ((((str (c :: t)).extract 0 1).toList == (str [b]).toList : Bool) = hd1 b (c :: t)) := by
      show _ = _
      rw [str_ext, show ((c :: t).drop 0).take (1 - 0) = [c] from rfl, str_beq (fun x hx => by simp at hx; rw [hx]; exact hl c (by simp)) (fun x hx => by simp at hx; rw [hx]; exact hb)]
      simp only [hd1, List.cons.injEq, and_true]
      rfl
    generalize str (c :: t) = S at *
    generalize str [b] = B at *
    go_enter Tryd.func106, Tryd.ntmps106
    go_wp2_with fail
    go_ret
    exact ⟨by rw [← he.out]; rfl, rfl⟩
set_option maxHeartbeats 400000 in
theorem cutPre_any (b : Nat) (hb : b < 256) (l : List Nat) (hl : ∀ c ∈ l, c < 256) (w : World) : Calls Tryd.prog 99 #[.string (str l), .string (str [b])] w fun e w' => e = .returned (.tuple #[.string (str (tl1 b l)), .bool (hd1 b l)]) ∧ w' = w := by
  have h1 : (str [b]).size = 1 := by rw [str_size]; rfl
  have hp := fun W => hasPre_any b hb l hl W
  cases hh : hd1 b l with
  | false =>
    have ht : tl1 b l = l := by unfold tl1; rw [hh]; rfl
    rw [hh] at hp
    rw [ht]
    generalize str l = S at *
    generalize str [b] = B at *
    go_enter Tryd.func99, Tryd.ntmps99
    go_wp2_with fail
    refine (hp _).mono ?_
    rintro e w1 ⟨rfl, rfl⟩
    go_wp2_with fail
    go_ret2
    exact ⟨rfl, rfl⟩
  | true =>
    obtain ⟨c, t, rfl⟩ : ∃ c t, l = c :: t := by cases l with | nil => cases hh | cons c t => exact ⟨c, t, rfl⟩
    have ht : tl1 b (c :: t) = t := by unfold tl1; rw [hh]; rfl
    have hs : (str (c :: t)).size = t.length + 1 := by rw [str_size]; rfl
    have he : Hid ((str (c :: t)).extract 1 (t.length + 1) = str t) := by show _ = _; rw [str_ext]; simp
    rw [hh] at hp
    rw [ht]
    generalize str (c :: t) = S at *
    generalize str [b] = B at *
    go_enter Tryd.func99, Tryd.ntmps99
    go_wp2_with fail
    refine (hp _).mono ?_
    rintro e w1 ⟨rfl, rfl⟩
    go_wp2_with fail
    go_ret2
    exact ⟨by rw [← he.out]; rfl, rfl⟩
set_option maxHeartbeats 400000 in
theorem cutPre2_any (b : Nat) (hb : b < 256) (l : List Nat) (hl : ∀ c ∈ l, c < 256) (w : World) : Calls Tryd.prog 87 #[.string (str l), .string (str [b])] w fun e w' => e = .returned (.tuple #[.string (str (tl1 b l)), .bool (hd1 b l)]) ∧ w' = w := by
  have hp := fun W => cutPre_any b hb l hl W
  generalize str l = S at *
  generalize str [b] = B at *
  generalize str (tl1 b l) = T at *
  generalize hd1 b l = r at *
  go_enter Tryd.func87, Tryd.ntmps87
  go_wp2_with fail
  refine (hp _).mono ?_
  rintro e w1 ⟨rfl, rfl⟩
  go_wp2_with fail
  go_ret2
  exact ⟨rfl, rfl⟩
theorem tl1_suf (b : Nat) (l : List Nat) : tl1 b l <:+ l := by
  unfold tl1
  split
  · exact List.drop_suffix 1 l
  · exact List.suffix_refl l
/-- What a call leaves of a reader. -/
structure Gx (q : Nat) (l : List Nat) (o : Nat) (w w' : World) : Prop where
  rd : Rx1 q l o w'
  mv : Mv (fun k => k = q) w w'
set_option maxHeartbeats 400000 in
theorem rskip_any (q b : Nat) (hb : b < 256) (l : List Nat) (o : Nat) (w : World) (R : Hid (Rx1 q l o w)) : Calls Tryd.prog 71 #[.pointer (some ⟨q, 0, none⟩), .string (str [b])] w fun e w' => e = .returned (.bool (hd1 b l)) ∧ Hid (Gx q (tl1 b l) o w w') := by
  have hp := fun W => cutPre2_any b hb l R.out.bytes W
  have ht := R.out.text
  have hf := R.out.fz
  have G : Hid (Gx q (tl1 b l) o w (w.setCell ⟨q, 0, none⟩ (.string (str (tl1 b l))))) := ⟨R.out.put (tl1_suf b l), Mv.setCell w ⟨q, 0, none⟩ _⟩
  clear R
  generalize str l = S at *
  generalize str [b] = B at *
  generalize str (tl1 b l) = T at *
  generalize hd1 b l = r at *
  go_enter Tryd.func71, Tryd.ntmps71
  go_wp2_with fail
  refine (hp _).mono ?_
  rintro e w1 ⟨rfl, hw1⟩
  obtain rfl := hw1.symm
  go_wp2_with fail
  go_ret
  exact ⟨rfl, G⟩
set_option maxHeartbeats 1000000 in
theorem endsCat_any (q : Nat) (l : List Nat) (o : Nat) (w : World) (R : Hid (Rx1 q l o w)) : Calls Tryd.prog 86 #[.pointer (some ⟨q, 0, none⟩)] w fun e w' => e = .returned (.bool (endsC l)) ∧ w' = w := by
  have ht := R.out.text
  cases l with
  | nil =>
    have hs : str [] = ⟨#[]⟩ := rfl
    rw [hs] at ht
    go_enter Tryd.func86, Tryd.ntmps86
    go_wp2_with fail
    go_ret
    exact ⟨rfl, rfl⟩
  | cons c t =>
    have hc := R.out.bytes c (by simp)
    have hix : ∀ W, (Instr.index 9 (.string (str (c :: t))) (.int .i64 0)).run Tryd.prog W = .ok (.int .u8 (c : Int)) W := fun W => index_run (str (c :: t)) [] t c (by rw [bs_str _ R.out.bytes]; rfl) W
    have hem : (str (c :: t)).toList.isEmpty = false := by rw [ByteArray.toList_eq]; simp [str]
    have hem2 : ((str (c :: t)).toList = []) = False := by rw [ByteArray.toList_eq]; simp [str]
    clear R
    generalize str (c :: t) = S at *
    by_cases h1 : c = 124
    · subst h1
      go_enter Tryd.func86, Tryd.ntmps86
      go_wp2_with fail
      go_ret
      exact ⟨rfl, rfl⟩
    · have g1 : ((c : Int) == 124) = false := by simp; omega
      have g1' : ((c : Int) = 124) = False := by simp; omega
      have HE : Hid (endsC (c :: t) = ((c : Int) == 41)) := by
        show (c == 124 || c == 41) = _
        rw [show (c == 124) = false from by simp [h1], Bool.false_or]
        exact int_nat c 41
      clear h1
      go_enter Tryd.func86, Tryd.ntmps86
      go_wp2_with fail
      go_ret
      exact ⟨by rw [HE.out]; simp, rfl⟩

end Go.Proofs.YtkclkhfcmjhogaaDoor

namespace Go.Proofs.YtkclkhfcmjhogaaDoor
open Go.RowKit
set_option linter.unusedVariables false

/-- Behind a call of the reader: what was read, or the panic. -/
def Px (q o : Nat) (w : World) (r : Res) (e : Ending) (w' : World) : Prop :=
  match r with
  | .error n => e = .panicked (chainE n) ∧ Hid (Mv (fun k => k = q) w w')
  | .ok (x, t) => ∃ a c, e = .returned (.agg #[.int .i64 x.kind, .int .u64 (limb x.set 0), .int .u64 (limb x.set 1), .int .u64 (limb x.set 2), .int .u64 (limb x.set 3), .slice a x.args.length c]) ∧ Hid (Parts x.args (fun j => w.heap.size ≤ j) w' a c) ∧ Hid (Gx q t o w w')
/-- The cells of a result that nobody has written yet. -/
abbrev zeros6 : Obj := .cells #[.int .i64 0, .int .u64 0, .int .u64 0, .int .u64 0, .int .u64 0, .slice none 0 0] 28
abbrev put6 (w : World) (g : Nat) (v0 v1 v2 v3 v4 v5 : Value) : World := (((((w.setCell ⟨g, 0, none⟩ v0).setCell ⟨g, 1, none⟩ v1).setCell ⟨g, 2, none⟩ v2).setCell ⟨g, 3, none⟩ v3).setCell ⟨g, 4, none⟩ v4).setCell ⟨g, 5, none⟩ v5
theorem put6_heap {w : World} {g : Nat} {c0 c1 c2 c3 c4 c5 : Value} (h : w.heap[g]? = some (.cells #[c0, c1, c2, c3, c4, c5] 28 (0, 0))) (v0 v1 v2 v3 v4 v5 : Value) : (put6 w g v0 v1 v2 v3 v4 v5).heap[g]? = some (.cells #[v0, v1, v2, v3, v4, v5] 28 (0, 0)) :=
  heap_set (heap_set (heap_set (heap_set (heap_set (heap_set h)))))
theorem put6_mv (w : World) (g : Nat) (v0 v1 v2 v3 v4 v5 : Value) : Mv (fun k => k = g) w (put6 w g v0 v1 v2 v3 v4 v5) :=
  (((((Mv.setCell w ⟨g, 0, none⟩ v0).trans (Mv.setCell _ ⟨g, 1, none⟩ v1) (fun _ _ h => h)).trans (Mv.setCell _ ⟨g, 2, none⟩ v2) (fun _ _ h => h)).trans (Mv.setCell _ ⟨g, 3, none⟩ v3) (fun _ _ h => h)).trans (Mv.setCell _ ⟨g, 4, none⟩ v4) (fun _ _ h => h)).trans (Mv.setCell _ ⟨g, 5, none⟩ v5) (fun _ _ h => h)
/-- A block of six cells. -/
abbrev B6 (g : Nat) (v0 v1 v2 v3 v4 v5 : Value) (w : World) : Prop := w.heap[g]? = some (.cells #[v0, v1, v2, v3, v4, v5] 28 (0, 0))
theorem B6.mv {X : Nat → Prop} {g : Nat} {v0 v1 v2 v3 v4 v5 : Value} {w w' : World} (h : B6 g v0 v1 v2 v3 v4 v5 w) (m : Mv X w w') (hx : ¬ X g) : Hid (B6 g v0 v1 v2 v3 v4 v5 w') := (m.block g (Array.getElem?_eq_some_iff.1 h).1 hx).trans h
theorem B6.facts {g : Nat} {v0 v1 v2 v3 v4 v5 : Value} {w : World} (h : Hid (B6 g v0 v1 v2 v3 v4 v5 w)) : w.cell? ⟨g, 0, none⟩ = some v0 ∧ w.cell? ⟨g, 1, none⟩ = some v1 ∧ w.cell? ⟨g, 2, none⟩ = some v2 ∧ w.cell? ⟨g, 3, none⟩ = some v3 ∧ w.cell? ⟨g, 4, none⟩ = some v4 ∧ w.cell? ⟨g, 5, none⟩ = some v5 ∧ w.frozen? ⟨g, 0, none⟩ = false ∧ w.frozen? ⟨g, 1, none⟩ = false ∧ w.frozen? ⟨g, 2, none⟩ = false ∧ w.frozen? ⟨g, 3, none⟩ = false ∧ w.frozen? ⟨g, 4, none⟩ = false ∧ w.frozen? ⟨g, 5, none⟩ = false := by
  have h' := h.out
  unfold B6 at h'
  refine ⟨?_, ?_, ?_, ?_, ?_, ?_, ?_, ?_, ?_, ?_, ?_, ?_⟩ <;> simp [World.cell?, World.frozen?, h']
theorem B6.lt {g : Nat} {v0 v1 v2 v3 v4 v5 : Value} {w : World} (h : B6 g v0 v1 v2 v3 v4 v5 w) : g < w.heap.size := (Array.getElem?_eq_some_iff.1 h).1
/-- What is left behind a result that was written into its block. -/
theorem Gx.end {q g o : Nat} {l t : List Nat} {w w1 : World} (hq : q < w.heap.size) (hg : w.heap.size ≤ g) (h : Gx q t o w w1) (v0 v1 v2 v3 v4 v5 : Value) : Gx q t o w (put6 w1 g v0 v1 v2 v3 v4 v5) :=
  ⟨h.rd.mv (put6_mv w1 g v0 v1 v2 v3 v4 v5) (by omega), h.mv.trans (put6_mv w1 g v0 v1 v2 v3 v4 v5) (fun j hj e => by omega)⟩
theorem Gx.comp {q o : Nat} {l t : List Nat} {w w1 w2 : World} (h : Mv (fun k => k = q) w w1) (k : Gx q t o w1 w2) : Gx q t o w w2 := ⟨k.rd, h.trans k.mv (fun _ _ h => h)⟩

set_option maxHeartbeats 1000000 in
/-- One of a row: it. -/
theorem oneOrAll_one (k : Int) (x : RX) (base : Nat) (K : Nat → Prop) (b n c : Nat) (w : World) (hn : n = 1) (hR : Hid (Ro base K w (.slice (some ⟨b, 0, none⟩) n c) [x])) :
    Calls Tryd.prog 72 #[.int .i64 k, .slice (some ⟨b, 0, none⟩) n c] w fun e w' => ∃ a c', e = .returned (.agg #[.int .i64 x.kind, .int .u64 (limb x.set 0), .int .u64 (limb x.set 1), .int .u64 (limb x.set 2), .int .u64 (limb x.set 3), .slice a x.args.length c']) ∧ Hid (Parts x.args K w' a c') ∧ Hid (Qt w w') := by
  subst hn
  obtain ⟨b2, a', c', hb, hbb, hpt, q0, q1, q2, q3, q4, q5⟩ := hR.out.at (i := 0) (x := x) rfl
  cases hb
  have qa := Mv.alloc (fun _ => False) w zeros6
  have r0 := Qt.keep qa q0
  have r1 := Qt.keep qa q1
  have r2 := Qt.keep qa q2
  have r3 := Qt.keep qa q3
  have r4 := Qt.keep qa q4
  have r5 := Qt.keep qa q5
  simp only [Nat.zero_mul, Nat.zero_add] at r0 r1 r2 r3 r4 r5
  have HP : Hid (Parts x.args K w a' c') := hpt
  have Z : Hid (B6 w.heap.size (.int .i64 0) (.int .u64 0) (.int .u64 0) (.int .u64 0) (.int .u64 0) (.slice none 0 0) (w.alloc zeros6)) := heap_alloc_new w zeros6
  obtain ⟨z0, z1, z2, z3, z4, z5, f0, f1, f2, f3, f4, f5⟩ := B6.facts Z
  clear q0 q1 q2 q3 q4 q5 hpt qa hbb
  go_enter Tryd.func72, Tryd.ntmps72
  go_wp2_with fail
  refine bodyPost_ret (results_cell_row (p := 4) (ty := 28) rfl _ _ w.heap.size 28 _ (0, 0) _ rfl (heap_alloc_new w _) Tryd.underlying28 rfl (by kernel_rfl)) rfl ?_
  exact ⟨a', c', rfl, HP.out.mv (Mv.alloc (fun _ => False) w _) (fun _ _ h => h), Mv.alloc _ _ _⟩
set_option maxHeartbeats 1000000 in
/-- Of more: all of them. -/
theorem oneOrAll_all (k : Int) (a : Option Addr) (n c : Nat) (w : World) (hn : n ≠ 1) :
    Calls Tryd.prog 72 #[.int .i64 k, .slice a n c] w fun e w' => e = .returned (.agg #[.int .i64 k, .int .u64 0, .int .u64 0, .int .u64 0, .int .u64 0, .slice a n c]) ∧ Hid (Qt w w') := by
  have hz : ((n : Int) == 1) = false := by simp; omega
  have hz' : ((n : Int) = 1) = False := by simp; omega
  have hz2 : (n = 1) = False := by simp; omega
  go_enter Tryd.func72, Tryd.ntmps72
  go_wp2_with fail
  refine bodyPost_ret (results_cell_row (p := 4) (ty := 28) rfl _ _ w.heap.size 28 _ (0, 0) _ rfl (heap_alloc_new w _) Tryd.underlying28 rfl (by kernel_rfl)) rfl ?_
  exact ⟨rfl, Mv.alloc _ _ _⟩
/-- A row of trees as one tree. -/
theorem oneOrAll_any (k : Int) (l : List RX) (base : Nat) (K : Nat → Prop) (v : Value) (w : World) (hl : l ≠ []) (hlen : l.length < 100000) (hR : Hid (Ro base K w v l)) (hb : ∀ j, v.ownBlock = some j → base ≤ j) :
    Calls Tryd.prog 72 #[.int .i64 k, v] w fun e w' => ∃ a c, e = .returned (.agg #[.int .i64 (one k l).kind, .int .u64 (limb (one k l).set 0), .int .u64 (limb (one k l).set 1), .int .u64 (limb (one k l).set 2), .int .u64 (limb (one k l).set 3), .slice a (one k l).args.length c]) ∧ Hid (Parts (one k l).args (fun j => K j ∨ base ≤ j) w' a c) ∧ Hid (Qt w w') := by
  obtain ⟨a, c, hv, hp, hnn⟩ := hR.out.sl hlen
  match l, hl with
  | [x], _ =>
    subst hv
    obtain ⟨b, _, _, ha, _⟩ := hR.out.at (i := 0) (x := x) rfl
    subst ha
    refine (oneOrAll_one k x base K b _ c w rfl hR).mono ?_
    rintro e w' ⟨a', c', rfl, h1, h2⟩
    exact ⟨a', c', rfl, h1.out.mono (fun j hj => .inl hj), h2⟩
  | x :: y :: m, _ =>
    subst hv
    refine (oneOrAll_all k a (x :: y :: m).length c w (by simp)).mono ?_
    rintro e w' ⟨rfl, h2⟩
    refine ⟨a, c, ?_, (hp.mv h2.out (fun _ _ h => h)).mono (fun j hj => hj.imp id (fun h => hb j h)), h2⟩
    show _ = Ending.returned (.agg #[.int .i64 k, .int .u64 (limb eset 0), .int .u64 (limb eset 1), .int .u64 (limb eset 2), .int .u64 (limb eset 3), .slice a (x :: y :: m).length c])
    rw [show limb eset 0 = 0 from limb_none 0, show limb eset 1 = 0 from limb_none 1, show limb eset 2 = 0 from limb_none 2, show limb eset 3 = 0 from limb_none 3]
    rfl

end Go.Proofs.YtkclkhfcmjhogaaDoor

namespace Go.Proofs.YtkclkhfcmjhogaaDoor
open Go.RowKit
set_option linter.unusedVariables false

/-- What stands behind a first bracket. -/
def brS (f : List Nat → Res) (l : List Nat) : Res := match f l with
  | .error e => .error e
  | .ok (x, []) => .error 2
  | .ok (x, d :: v) => if d = 41 then .ok (x, v) else .error 2
theorem brS_error {f : List Nat → Res} {l : List Nat} {e : Int} (h : f l = .error e) : brS f l = .error e := by unfold brS; rw [h]
theorem brS_bad {f : List Nat → Res} {l t : List Nat} {x : RX} (h : f l = .ok (x, t)) (ht : hd1 41 t = false) : brS f l = .error 2 := by
  unfold brS
  rw [h]
  cases t with
  | nil => rfl
  | cons d v =>
    have : d ≠ 41 := by intro e; rw [e] at ht; simp [hd1] at ht
    simp [this]
theorem brS_ok {f : List Nat → Res} {l v : List Nat} {x : RX} (h : f l = .ok (x, 41 :: v)) : brS f l = .ok (x, v) := by unfold brS; rw [h]; rfl
theorem Px.ok {q o : Nat} {w W : World} {x : RX} {t : List Nat} {a : Option Addr} {c : Nat} (hq : q < w.heap.size) (hp : Parts x.args (fun j => w.heap.size + 1 ≤ j) W a c) (g : Gx q t o w W) (v0 v1 v2 v3 v4 v5 : Value) :
    Px q o w (.ok (x, t)) (.returned (.agg #[.int .i64 x.kind, .int .u64 (limb x.set 0), .int .u64 (limb x.set 1), .int .u64 (limb x.set 2), .int .u64 (limb x.set 3), .slice a x.args.length c])) (put6 W w.heap.size v0 v1 v2 v3 v4 v5) :=
  ⟨a, c, rfl, (hp.mv (put6_mv W w.heap.size v0 v1 v2 v3 v4 v5) (fun j hj e => by omega)).mono (fun j hj => by omega), Gx.end (l := []) hq (Nat.le_refl _) g v0 v1 v2 v3 v4 v5⟩
def CAlt (n : Nat) : Prop := ∀ (q : Nat) (l : List Nat) (o : Nat) (w : World), o + n = 13 → Hid (Rx1 q l o w) → Calls Tryd.prog 47 #[.pointer (some ⟨q, 0, none⟩)] w fun e w' => Px q o w (altN n l) e w'
theorem eq41 : str [41] = ⟨#[41]⟩ := rfl
theorem eq40 : str [40] = ⟨#[40]⟩ := rfl
theorem Rx1.al {q o : Nat} {l : List Nat} {w : World} (h : Hid (Rx1 q l o w)) (x : Obj) : Hid (Rx1 q l o (w.alloc x)) := h.out.mv (Mv.alloc (fun _ => False) w x) (fun h => h)

set_option maxHeartbeats 1000000 in
theorem brackets_0 (q : Nat) (l : List Nat) (w : World) (R : Hid (Rx1 q l 13 w)) : Calls Tryd.prog 104 #[.pointer (some ⟨q, 0, none⟩)] w fun e w' => Px q 13 w (.error 6) e w' := by
  have R1 := Rx1.al R zeros6
  have ho := R1.out.open_
  have hf := R1.out.fz1
  rw [show ((13 : Nat) : Int) = 13 from rfl] at ho
  go_enter Tryd.func104, Tryd.ntmps104
  go_wp2_with fail
  exact ⟨rfl, rfl, Mv.alloc _ _ _⟩

set_option maxHeartbeats 2000000 in
theorem brackets_n (m : Nat) (hA : CAlt m) (q : Nat) (l : List Nat) (o : Nat) (w : World) (ho : o + (m + 1) = 13) (R : Hid (Rx1 q l o w)) : Calls Tryd.prog 104 #[.pointer (some ⟨q, 0, none⟩)] w fun e w' => Px q o w (brS (altN m) l) e w' := by
  have R1 := Rx1.al R zeros6
  have HQ : Hid (q < w.heap.size) := R.out.lt
  have hop := R1.out.open_
  have hf := R1.out.fz1
  have ho2 : ¬ (12 : Int) < (o : Int) := by omega
  have ho3 : decide ((12 : Int) < (o : Int)) = false := decide_eq_false ho2
  have ho4 : (o : Int) ≤ 12 := by omega
  have R2 : Hid (Rx1 q l (o + 1) ((w.alloc zeros6).setCell ⟨q, 1, none⟩ (.int .i64 ((o : Int) + 1)))) := by
    have := R1.out.opens (o + 1)
    rw [show ((o + 1 : Nat) : Int) = (o : Int) + 1 from by omega] at this
    exact this
  have M2 : Hid (Mv (fun k => k = q) w ((w.alloc zeros6).setCell ⟨q, 1, none⟩ (.int .i64 ((o : Int) + 1)))) := Mv.trans (Mv.alloc (fun _ => False) w zeros6 |>.mono (fun _ _ h => h.elim)) (Mv.setCell _ ⟨q, 1, none⟩ _) (fun _ _ h => h)
  have Z2 : Hid (B6 w.heap.size (.int .i64 0) (.int .u64 0) (.int .u64 0) (.int .u64 0) (.int .u64 0) (.slice none 0 0) ((w.alloc zeros6).setCell ⟨q, 1, none⟩ (.int .i64 ((o : Int) + 1)))) := B6.mv (heap_alloc_new w zeros6) (Mv.setCell _ ⟨q, 1, none⟩ _) (by have := HQ.out; simp; omega)
  have hA2 := hA q l (o + 1) _ (by omega) R2
  have HO : Hid (o ≤ 12) := by show _ ≤ _; omega
  clear R R1 hA ho
  obtain ⟨s, hs⟩ : ∃ s, s = brS (altN m) l := ⟨_, rfl⟩
  rw [← hs]
  have HS0 : Hid (s = brS (altN m) l) := hs
  clear hs
  obtain ⟨r, hr⟩ : ∃ r, r = altN m l := ⟨_, rfl⟩
  rw [← hr] at hA2
  have HR0 : Hid (altN m l = r) := hr.symm
  clear hr
  go_enter Tryd.func104, Tryd.ntmps104
  go_wp2_with fail
  refine hA2.mono ?_
  intro e w1 h1
  cases r with
  | error n =>
    obtain ⟨rfl, m1⟩ := h1
    refine ⟨rfl, ?_⟩
    rw [HS0.out, brS_error HR0.out]
    exact ⟨rfl, M2.out.trans m1.out (fun _ _ h => h)⟩
  | ok r =>
    obtain ⟨x, t⟩ := r
    obtain ⟨a, c, rfl, P1, G1⟩ := h1
    have Z3 := B6.mv Z2.out G1.out.mv (by have := HQ.out; omega)
    have HS : Hid (w.heap.size ≤ w1.heap.size) := Nat.le_trans M2.out.size G1.out.mv.size
    have PB : Hid (B6 w1.heap.size (.int .i64 x.kind) (.int .u64 (limb x.set 0)) (.int .u64 (limb x.set 1)) (.int .u64 (limb x.set 2)) (.int .u64 (limb x.set 3)) (.slice a x.args.length c) (w1.alloc (.cells #[.int .i64 x.kind, .int .u64 (limb x.set 0), .int .u64 (limb x.set 1), .int .u64 (limb x.set 2), .int .u64 (limb x.set 3), .slice a x.args.length c] 28))) := heap_alloc_new w1 _
    have R3 : Hid (Rx1 q t (o + 1) (w1.alloc (.cells #[.int .i64 x.kind, .int .u64 (limb x.set 0), .int .u64 (limb x.set 1), .int .u64 (limb x.set 2), .int .u64 (limb x.set 3), .slice a x.args.length c] 28))) := Rx1.al (show Hid _ from G1.out.rd) _
    have hk := rskip_any q 41 (by decide) t (o + 1) _ R3
    rw [eq41] at hk
    have MB : Hid (Mv (fun k => k = q) w (w1.alloc (.cells #[.int .i64 x.kind, .int .u64 (limb x.set 0), .int .u64 (limb x.set 1), .int .u64 (limb x.set 2), .int .u64 (limb x.set 3), .slice a x.args.length c] 28))) := (M2.out.trans G1.out.mv (fun _ _ h => h)).trans (Mv.alloc (fun _ => False) _ _) (fun _ _ h => h.elim)
    have ZB := B6.mv Z3.out (Mv.alloc (fun _ => False) w1 (.cells #[.int .i64 x.kind, .int .u64 (limb x.set 0), .int .u64 (limb x.set 1), .int .u64 (limb x.set 2), .int .u64 (limb x.set 3), .slice a x.args.length c] 28)) (fun h => h)
    have PP : Hid (Parts x.args (fun j => w.heap.size ≤ j ∧ j < w1.heap.size) w1 a c) := P1.out.lt.mono (fun j hj => ⟨by have := hj.1; simp [World.setCell] at this; omega, hj.2⟩)
    have PQ : Hid (Parts x.args (fun j => w.heap.size + 1 ≤ j ∧ j < w1.heap.size) w1 a c) := P1.out.lt.mono (fun j hj => ⟨by have := hj.1; simp [World.setCell] at this; omega, hj.2⟩)
    clear R2 M2 Z2 hA2 hop hf Z3 G1 P1
    cases hh : hd1 41 t with
    | false =>
      have HB : Hid (s = .error 2) := by show _ = _; rw [HS0.out]; exact brS_bad HR0.out hh
      rw [hh] at hk
      clear hh
      go_wp2_with fail
      refine hk.mono ?_
      rintro e2 w2 ⟨rfl, G2⟩
      go_wp2_with fail
      refine ⟨rfl, ?_⟩
      rw [HB.out]
      exact ⟨rfl, MB.out.trans G2.out.mv (fun _ _ h => h)⟩
    | true =>
      obtain ⟨v, rfl⟩ : ∃ v, t = 41 :: v := by
        cases t with
        | nil => cases hh
        | cons d v =>
          have hd : d = 41 := by simpa [hd1] using hh
          exact ⟨v, by rw [hd]⟩
      rw [hh] at hk
      rw [show tl1 41 (41 :: v) = v from rfl] at hk
      have HB : Hid (s = .ok (x, v)) := by show _ = _; rw [HS0.out]; exact brS_ok HR0.out
      clear hh
      go_wp2_with fail
      refine hk.mono ?_
      rintro e2 w2 ⟨rfl, G2⟩
      have hop := G2.out.rd.open_
      have hf := G2.out.rd.fz1
      rw [show ((o + 1 : Nat) : Int) = (o : Int) + 1 from by omega] at hop
      have RO := G2.out.rd.opens o
      have PB2 : Hid _ := B6.mv PB.out G2.out.mv (by have := HQ.out; have := HS.out; omega)
      have PB3 : Hid _ := B6.mv PB2.out (Mv.setCell w2 ⟨q, 1, none⟩ (.int .i64 (o : Int))) (by have := HQ.out; have := HS.out; simp; omega)
      have ZB3 : Hid _ := B6.mv (B6.mv ZB.out G2.out.mv (by have := HQ.out; omega)).out (Mv.setCell w2 ⟨q, 1, none⟩ (.int .i64 (o : Int))) (by have := HQ.out; simp; omega)
      have GG : Hid (Gx q v o w (w2.setCell ⟨q, 1, none⟩ (.int .i64 (o : Int)))) := ⟨RO, (MB.out.trans G2.out.mv (fun _ _ h => h)).trans (Mv.setCell w2 ⟨q, 1, none⟩ _) (fun _ _ h => h)⟩
      have PF : Hid (Parts x.args (fun j => w.heap.size + 1 ≤ j ∧ j < w1.heap.size) (w2.setCell ⟨q, 1, none⟩ (.int .i64 (o : Int))) a c) := ((PQ.out.mv (Mv.alloc (fun _ => False) w1 _) (fun _ _ h => h)).mv G2.out.mv (fun j hj e => by have := HQ.out; omega)).mv (Mv.setCell w2 ⟨q, 1, none⟩ _) (fun j hj e => by have := HQ.out; simp at e; omega)
      obtain ⟨p0, p1, p2, p3, p4, p5, _, _, _, _, _, _⟩ := B6.facts PB3
      obtain ⟨z0, z1, z2, z3, z4, z5, f0, f1, f2, f3, f4, f5⟩ := B6.facts ZB3
      have hsub : (o : Int) + 1 - 1 = (o : Int) := by omega
      have hso : wrap64 ((o : Int) + 1 - 1) = (o : Int) := by rw [hsub]; have := HO.out; simp [wrap64]; omega
      clear RO G2 PB PB2 PQ PP MB ZB hk R3
      go_wp2_with fail
      refine bodyPost_ret (results_cell_row (p := 2) (ty := 28) rfl _ _ w.heap.size 28 _ (0, 0) _ rfl (put6_heap ZB3.out _ _ _ _ _ _) Tryd.underlying28 rfl (by kernel_rfl)) rfl ?_
      rw [HB.out]
      exact Px.ok HQ.out (PF.out.mono (fun j hj => hj.1)) GG.out _ _ _ _ _ _

theorem rbr_any (n : Nat) (hA : ∀ m, n = m + 1 → CAlt m) (q : Nat) (l : List Nat) (o : Nat) (w : World) (ho : o + n = 13) (R : Hid (Rx1 q l o w)) : Calls Tryd.prog 104 #[.pointer (some ⟨q, 0, none⟩)] w fun e w' => Px q o w (brS (inn n) l) e w' := by
  cases n with
  | zero =>
    obtain rfl : o = 13 := by omega
    have e : brS (inn 0) l = .error 6 := brS_error rfl
    rw [e]
    exact brackets_0 q l w R
  | succ m => exact brackets_n m (hA m rfl) q l o w ho R

theorem rest_ext (l t : List Nat) (h : t <:+ l) : (str l).extract (l.length - t.length) l.length = str t := by
  obtain ⟨p, rfl⟩ := h
  rw [str_ext]
  congr 1
  rw [List.length_append, Nat.add_sub_cancel, List.drop_left']
  · exact List.take_of_length_le (by omega)
  · rfl
theorem pset_some {l t : List Nat} {p : Nat → Bool} (hb : ∀ c ∈ l, c < 256) (h : cls l = some (p, t)) : pset (str l) = p ∧ plen (str l) = l.length - t.length ∧ perr (str l) = 0 := by
  unfold pset plen perr
  rw [bs_str l hb, h, str_size]
  exact ⟨rfl, rfl, rfl⟩
theorem pset_none {l : List Nat} (hb : ∀ c ∈ l, c < 256) (h : cls l = none) : perr (str l) = 2 := by
  unfold perr
  rw [bs_str l hb, h]
theorem hd1_yes {b : Nat} {l : List Nat} (h : hd1 b l = true) : ∃ t, l = b :: t := by
  cases l with
  | nil => cases h
  | cons c t =>
    have : c = b := by simpa [hd1] using h
    exact ⟨t, by rw [this]⟩
theorem atomS_br (f : List Nat → Res) (t : List Nat) : atomS f (40 :: t) = brS f t := rfl
theorem atomS_cons (f : List Nat → Res) (c : Nat) (t : List Nat) : atomS f (c :: t) = if c = 40 then brS f t else (match cls (c :: t) with | none => .error 2 | some (p, u) => .ok (⟨1, p, []⟩, u)) := rfl
theorem atomS_none {f : List Nat → Res} {l : List Nat} (h : hd1 40 l = false) (hc : cls l = none) : atomS f l = .error 2 := by
  cases l with
  | nil => rfl
  | cons c t =>
    have : c ≠ 40 := by intro e; rw [e] at h; simp [hd1] at h
    rw [atomS_cons, if_neg this, hc]
theorem atomS_some {f : List Nat → Res} {l u : List Nat} {p : Nat → Bool} (h : hd1 40 l = false) (hc : cls l = some (p, u)) : atomS f l = .ok (⟨1, p, []⟩, u) := by
  cases l with
  | nil => cases hc
  | cons c t =>
    have : c ≠ 40 := by intro e; rw [e] at h; simp [hd1] at h
    rw [atomS_cons, if_neg this, hc]

set_option maxHeartbeats 2000000 in
theorem atom_any (n : Nat) (hA : ∀ m, n = m + 1 → CAlt m) (q : Nat) (l : List Nat) (o : Nat) (w : World) (ho : o + n = 13) (R : Hid (Rx1 q l o w)) : Calls Tryd.prog 98 #[.pointer (some ⟨q, 0, none⟩)] w fun e w' => Px q o w (atomS (inn n) l) e w' := by
  have R1 := Rx1.al R zeros6
  have HQ : Hid (q < w.heap.size) := R.out.lt
  have Z1 : Hid (B6 w.heap.size (.int .i64 0) (.int .u64 0) (.int .u64 0) (.int .u64 0) (.int .u64 0) (.slice none 0 0) (w.alloc zeros6)) := heap_alloc_new w zeros6
  have hk := rskip_any q 40 (by decide) l o _ R1
  rw [eq40] at hk
  have M1 : Hid (Mv (fun k => k = q) w (w.alloc zeros6)) := Mv.alloc _ _ _
  obtain ⟨s, hs⟩ : ∃ s, s = atomS (inn n) l := ⟨_, rfl⟩
  rw [← hs]
  have HS0 : Hid (s = atomS (inn n) l) := hs
  have HB0 : Hid (∀ c ∈ l, c < 256) := R.out.bytes
  have HSM : Hid (l.length < 1000000) := Nat.lt_trans R.out.small (by decide)
  have HA : Hid _ := hA
  have HO : Hid (o + n = 13) := ho
  clear hs R hA ho R1
  cases hh : hd1 40 l with
  | true =>
    obtain ⟨t, rfl⟩ := hd1_yes hh
    rw [hh] at hk
    rw [show tl1 40 (40 :: t) = t from rfl] at hk
    clear hh
    go_enter Tryd.func98, Tryd.ntmps98
    go_wp2_with fail
    refine hk.mono ?_
    rintro e1 w1 ⟨rfl, G1⟩
    have hb := rbr_any n HA.out q t o w1 HO.out (show Hid _ from G1.out.rd)
    have HM1 : Hid (Mv (fun k => k = q) w w1) := M1.out.trans G1.out.mv (fun _ _ h => h)
    have Z2 : Hid _ := B6.mv Z1.out G1.out.mv (by have := HQ.out; omega)
    rw [← atomS_br, ← HS0.out] at hb
    go_wp2_with fail
    refine hb.mono ?_
    intro e2 w2 h2
    cases s with
    | error n2 =>
      obtain ⟨rfl, m2⟩ := h2
      refine ⟨rfl, ?_⟩
      exact ⟨rfl, HM1.out.trans m2.out (fun _ _ h => h)⟩
    | ok r =>
      obtain ⟨x, u⟩ := r
      obtain ⟨a, c, rfl, P2, G2⟩ := h2
      have Z3 : Hid _ := B6.mv Z2.out G2.out.mv (by have := HQ.out; omega)
      have HW : Hid (w.heap.size + 1 ≤ w1.heap.size) := Z2.out.lt
      obtain ⟨z0, z1, z2, z3, z4, z5, f0, f1, f2, f3, f4, f5⟩ := B6.facts Z3
      have GG : Hid (Gx q u o w w2) := ⟨G2.out.rd, HM1.out.trans G2.out.mv (fun _ _ h => h)⟩
      clear hb hk
      go_wp2_with fail
      refine bodyPost_ret (results_cell_row (p := 2) (ty := 28) rfl _ _ w.heap.size 28 _ (0, 0) _ rfl (put6_heap Z3.out _ _ _ _ _ _) Tryd.underlying28 rfl (by kernel_rfl)) rfl ?_
      exact Px.ok HQ.out (P2.out.mono (fun j hj => by have := HW.out; omega)) GG.out _ _ _ _ _ _
  | false =>
    rw [hh] at hk
    have ht : tl1 40 l = l := by unfold tl1; rw [hh]; rfl
    rw [ht] at hk
    have HH : Hid (hd1 40 l = false) := hh
    clear hh ht
    go_enter Tryd.func98, Tryd.ntmps98
    go_wp2_with fail
    refine hk.mono ?_
    rintro e1 w1 ⟨rfl, G1⟩
    have htx := G1.out.rd.text
    have hfz := G1.out.rd.fz
    have hp := parse_any (str l) w1 (by rw [str_size]; exact HSM.out)
    have HM1 : Hid (Mv (fun k => k = q) w w1) := M1.out.trans G1.out.mv (fun _ _ h => h)
    have Z2 : Hid _ := B6.mv Z1.out G1.out.mv (by have := HQ.out; omega)
    cases hc : cls l with
    | none =>
      rw [pset_none HB0.out hc] at hp
      have HE : Hid (s = .error 2) := by show _ = _; rw [HS0.out]; exact atomS_none HH.out hc
      clear hc
      rw [sv_cells] at hp
      go_wp2_with fail
      refine hp.mono ?_
      rintro e2 w2 ⟨rfl, q2⟩
      go_wp2_with fail
      refine (rmust_bad 2 (by decide) _).mono ?_
      rintro e3 w3 ⟨rfl, hw3⟩
      obtain rfl := hw3.symm
      refine ⟨rfl, ?_⟩
      rw [HE.out]
      exact ⟨rfl, (HM1.out.trans q2.out (fun _ _ h => h.elim)).trans (Mv.alloc (fun _ => False) _ _) (fun _ _ h => h.elim)⟩
    | some r =>
      obtain ⟨p, u⟩ := r
      obtain ⟨hs1, hs2, hs3⟩ := pset_some HB0.out hc
      have HE : Hid (s = .ok (⟨1, p, []⟩, u)) := by show _ = _; rw [HS0.out]; exact atomS_some HH.out hc
      have hsuf := (cls_suf hc).1
      have hlen := hsuf.len
      have HSU : Hid (u <:+ l) := hsuf.suf
      have hex : Hid ((str l).extract (l.length - u.length) l.length = str u) := rest_ext l u hsuf.suf
      rw [hs1, hs2, hs3, sv_cells] at hp
      have hsz : (str l).size = l.length := str_size l
      obtain ⟨k, hk2⟩ : ∃ k, k = l.length - u.length := ⟨_, rfl⟩
      rw [← hk2] at hp hex
      have hkl : k ≤ l.length := by omega
      have HG : Hid (Rx1 q u o (w1.setCell ⟨q, 0, none⟩ (.string (str u)))) := G1.out.rd.put hsuf.suf
      clear hc hs1 hs2 hs3
      have hkz : (k : Int) ≤ (l.length : Int) := by omega
      have HK2 : Hid (k = l.length - u.length) := hk2
      have hex2 := hex.out
      clear hk2 hsuf hlen
      go_wp2_with fail
      refine hp.mono ?_
      rintro e2 w2 ⟨rfl, q2⟩
      go_wp2_with fail
      refine (rmust_ok _).mono ?_
      rintro e3 w3 ⟨rfl, hw3⟩
      have hq3 : Qt w1 w3 := by rw [hw3]; exact q2.out.alloc _
      have hset : w3.heap[w2.heap.size]? = some (.cells #[.int .u64 (limb p 0), .int .u64 (limb p 1), .int .u64 (limb p 2), .int .u64 (limb p 3)] 25 (0, 0)) := by rw [hw3]; exact heap_alloc_new _ _
      have HW2 : Hid (w1.heap.size ≤ w2.heap.size) := q2.out.size
      have Z3 : Hid _ := B6.mv Z2.out hq3 (fun h => h)
      have tx3 := Qt.keep (show Hid _ from hq3) htx
      have fz3 : w3.frozen? ⟨q, 0, none⟩ = false := by rw [hq3.frozen (p := ⟨q, 0, none⟩) (World.block_lt_of_cell? w1 _ htx) (fun h => h)]; exact hfz
      have R3 := G1.out.rd.mv hq3 (fun h => h)
      have hqs : ¬ w2.heap.size = q := by have := G1.out.rd.lt; have := HW2.out; omega
      have hset2 : (w3.setCell ⟨q, 0, none⟩ (.string (str u))).heap[w2.heap.size]? = some (.cells #[.int .u64 (limb p 0), .int .u64 (limb p 1), .int .u64 (limb p 2), .int .u64 (limb p 3)] 25 (0, 0)) := ((Mv.setCell w3 ⟨q, 0, none⟩ (.string (str u))).block _ (Array.getElem?_eq_some_iff.1 hset).1 hqs).trans hset
      have s0 : (w3.setCell ⟨q, 0, none⟩ (.string (str u))).cell? ⟨w2.heap.size, 0, none⟩ = some (.int .u64 (limb p 0)) := by simp only [World.cell?, hset2]; rfl
      have s1 : (w3.setCell ⟨q, 0, none⟩ (.string (str u))).cell? ⟨w2.heap.size, 1, none⟩ = some (.int .u64 (limb p 1)) := by simp only [World.cell?, hset2]; rfl
      have s2 : (w3.setCell ⟨q, 0, none⟩ (.string (str u))).cell? ⟨w2.heap.size, 2, none⟩ = some (.int .u64 (limb p 2)) := by simp only [World.cell?, hset2]; rfl
      have s3 : (w3.setCell ⟨q, 0, none⟩ (.string (str u))).cell? ⟨w2.heap.size, 3, none⟩ = some (.int .u64 (limb p 3)) := by simp only [World.cell?, hset2]; rfl
      have hsf := HS0
      have GG : Hid (Gx q u o w (w3.setCell ⟨q, 0, none⟩ (.string (str u)))) := ⟨R3.put (show u <:+ l from HSU.out), ((HM1.out.trans hq3 (fun _ _ h => h.elim)).trans (Mv.setCell w3 ⟨q, 0, none⟩ _) (fun _ _ h => h))⟩
      have Z4 : Hid _ := B6.mv Z3.out (Mv.setCell w3 ⟨q, 0, none⟩ (.string (str u))) (by have := HQ.out; simp; omega)
      obtain ⟨z0, z1, z2, z3, z4, z5, f0, f1, f2, f3, f4, f5⟩ := B6.facts Z4
      clear hw3 hset hset2 R3 htx hfz hp hk hqs Z3
      go_wp2_with fail
      refine bodyPost_ret (results_cell_row (p := 2) (ty := 28) rfl _ _ w.heap.size 28 _ (0, 0) _ rfl (put6_heap Z4.out _ _ _ _ _ _) Tryd.underlying28 rfl (by kernel_rfl)) rfl ?_
      rw [HE.out]
      exact Px.ok (x := ⟨1, p, []⟩) (c := 0) HQ.out ⟨[], fun q h => (by cases h), Nat.le_refl _, ⟨by simp, fun _ => ⟨rfl, rfl⟩⟩, Ls.nil _ _, rfl⟩ GG.out _ _ _ _ _ _

end Go.Proofs.YtkclkhfcmjhogaaDoor
