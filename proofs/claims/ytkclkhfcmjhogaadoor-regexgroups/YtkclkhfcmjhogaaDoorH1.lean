/- The program's reader: skip, endsCat, must, oneOrAll. -/
import Derived.Test.YtkclkhfcmjhogaaDoorB3
import Derived.Test.YtkclkhfcmjhogaaDoorT3
import Derived.Test.YtkclkhfcmjhogaaDoorP1
import Derived.Test.YtkclkhfcmjhogaaDoorS1
import Derived.Test.YtkclkhfcmjhogaaDoorK1
import Derived.MapKept
import Derived.Shelf.Strings.Prefix
namespace Go.Proofs.YtkclkhfcmjhogaaDoor
open Go.RowKit
set_option linter.unusedVariables false

/-- The panic with an error. -/
def chainE (e : Int) : List PanicEntry := [{ v := .iface 29 (.int .i64 e), recovered := false }]
set_option maxHeartbeats 400000 in
theorem rmust_ok (w : World) : Calls Tryd.prog 32 #[.int .i64 0] w fun e w' => e = .returned (.tuple #[]) ∧ w' = w := by
  go_enter Tryd.func32, Tryd.ntmps32
  go_wp2
  go_end0
  exact ⟨rfl, rfl⟩
set_option maxHeartbeats 400000 in
theorem rmust_bad (n : Int) (hn : n ≠ 0) (w : World) : Calls Tryd.prog 32 #[.int .i64 n] w fun e w' => e = .panicked (chainE n) ∧ w' = w := by
  have hb := beq_no hn
  go_enter Tryd.func32, Tryd.ntmps32
  go_wp2
  exact ⟨rfl, rfl, rfl⟩

/-- A reader at q: what is left is l, so many brackets are open. -/
structure Rx1 (q : Nat) (l : List Nat) (o : Nat) (w : World) : Prop where
  text : w.cell? ⟨q, 0, none⟩ = some (.string (str l))
  open_ : w.cell? ⟨q, 1, none⟩ = some (.int .i64 (o : Int))
  fz : w.frozen? ⟨q, 0, none⟩ = false
  fz1 : w.frozen? ⟨q, 1, none⟩ = false
  small : l.length < 80000
  bytes : ∀ c ∈ l, c < 256
theorem Rx1.mv {X : Nat → Prop} {q : Nat} {l : List Nat} {o : Nat} {w w' : World} (h : Rx1 q l o w) (m : Mv X w w') (hx : ¬ X q) : Rx1 q l o w' :=
  ⟨m.cell (p := ⟨q, 0, none⟩) h.text hx, m.cell (p := ⟨q, 1, none⟩) h.open_ hx, by rw [m.frozen (p := ⟨q, 0, none⟩) (World.block_lt_of_cell? w _ h.text) hx]; exact h.fz, by rw [m.frozen (p := ⟨q, 1, none⟩) (World.block_lt_of_cell? w _ h.open_) hx]; exact h.fz1, h.small, h.bytes⟩
theorem Rx1.put {q : Nat} {l t : List Nat} {o : Nat} {w : World} (h : Rx1 q l o w) (hs : t <:+ l) : Rx1 q t o (w.setCell ⟨q, 0, none⟩ (.string (str t))) := by
  refine ⟨World.cell?_setCell_same w _ _ h.text, ?_, by rw [World.frozen?_setCell]; exact h.fz, by rw [World.frozen?_setCell]; exact h.fz1, Nat.lt_of_le_of_lt hs.length_le h.small, fun c hc => h.bytes c (hs.mem hc)⟩
  rw [World.cell?_setCell_other w _ _ _ (by simp)]; exact h.open_
theorem Rx1.opens {q : Nat} {l : List Nat} {o : Nat} {w : World} (h : Rx1 q l o w) (p : Nat) : Rx1 q l p (w.setCell ⟨q, 1, none⟩ (.int .i64 (p : Int))) := by
  refine ⟨?_, World.cell?_setCell_same w _ _ h.open_, by rw [World.frozen?_setCell]; exact h.fz, by rw [World.frozen?_setCell]; exact h.fz1, h.small, h.bytes⟩
  rw [World.cell?_setCell_other w _ _ _ (by simp)]; exact h.text
theorem Rx1.lt {q : Nat} {l : List Nat} {o : Nat} {w : World} (h : Rx1 q l o w) : q < w.heap.size := World.block_lt_of_cell? w _ h.text
theorem str_ext (l : List Nat) (a b : Nat) : (str l).extract a b = str ((l.drop a).take (b - a)) := by
  apply ByteArray.ext
  apply Array.ext'
  simp [str, ByteArray.data_extract, List.map_take, List.map_drop, List.extract_eq_take_drop]
theorem str_inj {l m : List Nat} (hl : ∀ c ∈ l, c < 256) (hm : ∀ c ∈ m, c < 256) (h : str l = str m) : l = m := by
  rw [← bs_str l hl, ← bs_str m hm, h]
theorem str_beq {l m : List Nat} (hl : ∀ c ∈ l, c < 256) (hm : ∀ c ∈ m, c < 256) : ((str l).toList == (str m).toList) = decide (l = m) := by
  rw [← beq_toListBytes]
  by_cases h : l = m
  · rw [decide_eq_true h, h]; exact (MapKept.bytes_beq _ _).2 rfl
  · rw [decide_eq_false h]
    cases hb : (str l == str m) with
    | false => rfl
    | true => exact absurd (str_inj hl hm ((MapKept.bytes_beq _ _).1 hb)) h
/-- The text goes on with this byte. -/
def hd1 (b : Nat) : List Nat → Bool
  | [] => false
  | c :: _ => c == b
def tl1 (b : Nat) (l : List Nat) : List Nat := if hd1 b l then l.drop 1 else l
set_option maxHeartbeats 400000 in
theorem hasPre_any (b : Nat) (hb : b < 256) (l : List Nat) (hl : ∀ c ∈ l, c < 256) (w : World) : Calls Tryd.prog 106 #[.string (str l), .string (str [b])] w fun e w' => e = .returned (.bool (hd1 b l)) ∧ w' = w := by
  have h1 : (str [b]).size = 1 := by rw [str_size]; rfl
  cases l with
  | nil =>
    have hs : (str []).size = 0 := by rw [str_size]; rfl
    generalize str [] = S at *
    generalize str [b] = B at *
    go_enter Tryd.func106, Tryd.ntmps106
    go_wp2_with fail
    go_ret
    exact ⟨rfl, rfl⟩
  | cons c t =>
    have hs : (str (c :: t)).size = t.length + 1 := by rw [str_size]; rfl
    have he : Hid ((((str (c :: t)).extract 0 1).toList == (str [b]).toList : Bool) = hd1 b (c :: t)) := by
      show _ = _
      rw [str_ext, show ((c :: t).drop 0).take (1 - 0) = [c] from rfl, str_beq (fun x hx => by simp at hx; rw [hx]; exact hl c (by simp)) (fun x hx => by simp at hx; rw [hx]; exact hb)]
      simp only [hd1, List.cons.injEq, and_true]
      rfl
    generalize str (c :: t) = S at *
    generalize str [b] = B at *
    go_enter Tryd.func106, Tryd.ntmps106
    go_wp2_with fail
    go_ret
    exact ⟨by rw [← he.out]; rfl, rfl⟩
set_option maxHeartbeats 400000 in
theorem cutPre_any (b : Nat) (hb : b < 256) (l : List Nat) (hl : ∀ c ∈ l, c < 256) (w : World) : Calls Tryd.prog 99 #[.string (str l), .string (str [b])] w fun e w' => e = .returned (.tuple #[.string (str (tl1 b l)), .bool (hd1 b l)]) ∧ w' = w := by
  have h1 : (str [b]).size = 1 := by rw [str_size]; rfl
  have hp := fun W => hasPre_any b hb l hl W
  cases hh : hd1 b l with
  | false =>
    have ht : tl1 b l = l := by unfold tl1; rw [hh]; rfl
    rw [hh] at hp
    rw [ht]
    generalize str l = S at *
    generalize str [b] = B at *
    go_enter Tryd.func99, Tryd.ntmps99
    go_wp2_with fail
    refine (hp _).mono ?_
    rintro e w1 ⟨rfl, rfl⟩
    go_wp2_with fail
    go_ret2
    exact ⟨rfl, rfl⟩
  | true =>
    obtain ⟨c, t, rfl⟩ : ∃ c t, l = c :: t := by cases l with | nil => cases hh | cons c t => exact ⟨c, t, rfl⟩
    have ht : tl1 b (c :: t) = t := by unfold tl1; rw [hh]; rfl
    have hs : (str (c :: t)).size = t.length + 1 := by rw [str_size]; rfl
    have he : Hid ((str (c :: t)).extract 1 (t.length + 1) = str t) := by show _ = _; rw [str_ext]; simp
    rw [hh] at hp
    rw [ht]
    generalize str (c :: t) = S at *
    generalize str [b] = B at *
    go_enter Tryd.func99, Tryd.ntmps99
    go_wp2_with fail
    refine (hp _).mono ?_
    rintro e w1 ⟨rfl, rfl⟩
    go_wp2_with fail
    go_ret2
    exact ⟨by rw [← he.out]; rfl, rfl⟩
set_option maxHeartbeats 400000 in
theorem cutPre2_any (b : Nat) (hb : b < 256) (l : List Nat) (hl : ∀ c ∈ l, c < 256) (w : World) : Calls Tryd.prog 87 #[.string (str l), .string (str [b])] w fun e w' => e = .returned (.tuple #[.string (str (tl1 b l)), .bool (hd1 b l)]) ∧ w' = w := by
  have hp := fun W => cutPre_any b hb l hl W
  generalize str l = S at *
  generalize str [b] = B at *
  generalize str (tl1 b l) = T at *
  generalize hd1 b l = r at *
  go_enter Tryd.func87, Tryd.ntmps87
  go_wp2_with fail
  refine (hp _).mono ?_
  rintro e w1 ⟨rfl, rfl⟩
  go_wp2_with fail
  go_ret2
  exact ⟨rfl, rfl⟩
theorem tl1_suf (b : Nat) (l : List Nat) : tl1 b l <:+ l := by
  unfold tl1
  split
  · exact List.drop_suffix 1 l
  · exact List.suffix_refl l
/-- What a call leaves of a reader. -/
structure Gx (q : Nat) (l : List Nat) (o : Nat) (w w' : World) : Prop where
  rd : Rx1 q l o w'
  mv : Mv (fun k => k = q) w w'
set_option maxHeartbeats 400000 in
theorem rskip_any (q b : Nat) (hb : b < 256) (l : List Nat) (o : Nat) (w : World) (R : Hid (Rx1 q l o w)) : Calls Tryd.prog 71 #[.pointer (some ⟨q, 0, none⟩), .string (str [b])] w fun e w' => e = .returned (.bool (hd1 b l)) ∧ Hid (Gx q (tl1 b l) o w w') := by
  have hp := fun W => cutPre2_any b hb l R.out.bytes W
  have ht := R.out.text
  have hf := R.out.fz
  have G : Hid (Gx q (tl1 b l) o w (w.setCell ⟨q, 0, none⟩ (.string (str (tl1 b l))))) := ⟨R.out.put (tl1_suf b l), Mv.setCell w ⟨q, 0, none⟩ _⟩
  clear R
  generalize str l = S at *
  generalize str [b] = B at *
  generalize str (tl1 b l) = T at *
  generalize hd1 b l = r at *
  go_enter Tryd.func71, Tryd.ntmps71
  go_wp2_with fail
  refine (hp _).mono ?_
  rintro e w1 ⟨rfl, hw1⟩
  obtain rfl := hw1.symm
  go_wp2_with fail
  go_ret
  exact ⟨rfl, G⟩
set_option maxHeartbeats 1000000 in
theorem endsCat_any (q : Nat) (l : List Nat) (o : Nat) (w : World) (R : Hid (Rx1 q l o w)) : Calls Tryd.prog 86 #[.pointer (some ⟨q, 0, none⟩)] w fun e w' => e = .returned (.bool (endsC l)) ∧ w' = w := by
  have ht := R.out.text
  cases l with
  | nil =>
    have hs : str [] = ⟨#[]⟩ := rfl
    rw [hs] at ht
    go_enter Tryd.func86, Tryd.ntmps86
    go_wp2_with fail
    go_ret
    exact ⟨rfl, rfl⟩
  | cons c t =>
    have hc := R.out.bytes c (by simp)
    have hix : ∀ W, (Instr.index 9 (.string (str (c :: t))) (.int .i64 0)).run Tryd.prog W = .ok (.int .u8 (c : Int)) W := fun W => index_run (str (c :: t)) [] t c (by rw [bs_str _ R.out.bytes]; rfl) W
    have hem : (str (c :: t)).toList.isEmpty = false := by rw [ByteArray.toList_eq]; simp [str]
    have hem2 : ((str (c :: t)).toList = []) = False := by rw [ByteArray.toList_eq]; simp [str]
    clear R
    generalize str (c :: t) = S at *
    by_cases h1 : c = 124
    · subst h1
      go_enter Tryd.func86, Tryd.ntmps86
      go_wp2_with fail
      go_ret
      exact ⟨rfl, rfl⟩
    · have g1 : ((c : Int) == 124) = false := by simp; omega
      have g1' : ((c : Int) = 124) = False := by simp; omega
      have HE : Hid (endsC (c :: t) = ((c : Int) == 41)) := by
        show (c == 124 || c == 41) = _
        rw [show (c == 124) = false from by simp [h1], Bool.false_or]
        exact int_nat c 41
      clear h1
      go_enter Tryd.func86, Tryd.ntmps86
      go_wp2_with fail
      go_ret
      exact ⟨by rw [HE.out]; simp, rfl⟩

end Go.Proofs.YtkclkhfcmjhogaaDoor
