/- How expressions are shown. -/
import Derived.Test.YtkclkhfcmjhogaaDoorMgK5
import Derived.Test.YtkclkhfcmjhogaaDoorMgT1
import Derived.Test.YtkclkhfcmjhogaaDoorMgS3
import Derived.Test.YtkclkhfcmjhogaaDoorMgH1
import Derived.BigQuiet
namespace Go.Proofs.YtkclkhfcmjhogaaDoor
open Go.RowKit
set_option linter.unusedVariables false

def signC (k : Int) : Nat := if k = 4 then 42 else if k = 5 then 43 else 63
/-- A part within an expression of kind k: with brackets, where it binds less. -/
def brk1 (k : Int) (a : RX) (t : List Nat) : List Nat := if lvl a.kind < lvl k then 40 :: (t ++ [41]) else t
def joinK (k : Int) (U : List (List Nat)) : List Nat := if k = 2 then U.flatten else if k = 3 then [124].intercalate U else (match U with
  | [] => []
  | t :: _ => t ++ [signC k])
/-- The text of an expression, g of sets. -/
def RX.sh (g : (Nat → Bool) → List Nat) : RX → List Nat := RX.fold (fun k p l T => if k = 1 then g p else joinK k (List.zipWith (brk1 k) l T))
def texts (g : (Nat → Bool) → List Nat) (k : Int) (l : List RX) : List (List Nat) := l.map (fun a => brk1 k a (a.sh g))
theorem sh_eq (g : (Nat → Bool) → List Nat) (k : Int) (p : Nat → Bool) (l : List RX) : RX.sh g ⟨k, p, l⟩ = if k = 1 then g p else joinK k (texts g k l) := by
  rw [RX.sh, RX.fold_eq]
  congr 2
  rw [texts, List.zipWith_map_right, List.zipWith_self]
  rfl
theorem sh_at (g : (Nat → Bool) → List Nat) (x : RX) : x.sh g = if x.kind = 1 then g x.set else joinK x.kind (texts g x.kind x.args) := by obtain ⟨k, p, l⟩ := x; exact sh_eq g k p l
/-- g tells how sets are shown. -/
def Gd (g : (Nat → Bool) → List Nat) : Prop := ∀ p, ∃ R, Runs p 0 R ∧ g p = shw R
theorem Gd.small {g : (Nat → Bool) → List Nat} (h : Gd g) (p : Nat → Bool) : (g p).length ≤ 3000 ∧ ∀ c ∈ g p, c < 256 := by
  obtain ⟨R, h1, h2⟩ := h p
  rw [h2]
  exact shw_len h1 (by have := Runs.len h1 (by omega); omega)
theorem sum_le {l : List RX} {f : RX → Nat} (h : ∀ x ∈ l, f x ≤ 3004 * x.nodes) : (l.map f).sum ≤ 3004 * (l.map RX.nodes).sum := by
  induction l with
  | nil => simp
  | cons x l ih =>
    have h1 := h x (by simp)
    have h2 := ih (fun y hy => h y (by simp [hy]))
    simp only [List.map_cons, List.sum_cons]
    omega
theorem brk1_len (k : Int) (a : RX) (t : List Nat) : (brk1 k a t).length ≤ t.length + 2 := by
  unfold brk1
  split
  · simp
  · omega
theorem inter_len (U : List (List Nat)) : ([124].intercalate U).length ≤ (U.map (fun t => t.length + 1)).sum := by
  unfold List.intercalate
  induction U with
  | nil => simp
  | cons t U ih =>
    cases U with
    | nil => simp
    | cons u U =>
      rw [List.intersperse_cons_cons, List.flatten_cons, List.flatten_cons, List.length_append, List.length_append, List.map_cons, List.sum_cons]
      simp only [List.length_singleton] at *
      omega
theorem sh_len {g : (Nat → Bool) → List Nat} (hg : Gd g) : ∀ x : RX, (x.sh g).length + 4 ≤ 3004 * x.nodes := by
  refine RX.ind ?_
  intro k p l ih
  rw [sh_eq, nodes_eq]
  have h1 : ((l.map (fun a => (brk1 k a (a.sh g)).length + 1))).sum ≤ 3004 * (l.map RX.nodes).sum := sum_le (fun x hx => by have := ih x hx; have := brk1_len k x (x.sh g); omega)
  split
  · have := (hg.small p).1; omega
  · unfold joinK
    split
    · unfold texts
      have h2 : ((l.map (fun a => brk1 k a (a.sh g))).flatten).length ≤ ((l.map (fun a => (brk1 k a (a.sh g)).length + 1))).sum := by
        clear h1 ih
        induction l with
        | nil => simp
        | cons x l ih => simp only [List.map_cons, List.flatten_cons, List.length_append, List.sum_cons]; omega
      omega
    · split
      · have h2 := inter_len (texts g k l)
        unfold texts at h2
        rw [List.map_map] at h2
        have h3 : (List.map ((fun t => t.length + 1) ∘ fun a => brk1 k a (RX.sh g a)) l).sum = ((l.map (fun a => (brk1 k a (a.sh g)).length + 1))).sum := rfl
        unfold texts
        omega
      · unfold texts
        cases l with
        | nil => simp
        | cons x l =>
          simp only [List.map_cons, List.sum_cons, List.length_append, List.length_singleton] at *
          have := nodes_pos x
          omega

end Go.Proofs.YtkclkhfcmjhogaaDoor

namespace Go.Proofs.YtkclkhfcmjhogaaDoor
open Go.RowKit
set_option linter.unusedVariables false

theorem zero9 : Tryd.t9.zero = some (.string ⟨#[]⟩) := by kernel_rfl
theorem info9 : Tryd.prog.info? 9 = some Tryd.t9 := by kernel_rfl
theorem size9 : Tryd.t9.size = 1 := by kernel_rfl
theorem bytes9 : Tryd.t9.bytes = 16 := by kernel_rfl
/-- A row of texts of its own. -/
def Rt9 (base : Nat) (w : World) (v : Value) (U : List (List Nat)) : Prop := w.ownsRow base 9 1 v U.length (U.map (fun t => .string (str t)))
theorem Rt9.push {base : Nat} {w : World} {v : Value} {U : List (List Nat)} (h : Rt9 base w v U) (hb : base ≤ w.heap.size) (hl : U.length < 90000) (t : List Nat) :
    ∃ v' W, (Builtin.append_ #[46, 46] 46 #[v, .slice (some ⟨w.heap.size, 0, none⟩) 1 1]).run Tryd.prog (w.alloc (.cells #[.string (str t)] 9)) = .ok v' W ∧ Hid (Rt9 base W v' (U ++ [t])) ∧ Hid (Mv (fun j => base ≤ j) w W) := by
  have qa := Mv.alloc (fun _ => False) w (.cells #[.string (str t)] 9)
  obtain ⟨v', W, hr, hown, hgr, hnb⟩ := append_ow 46 46 9 Tryd.t9 _ 1 16 Tryd.underlying46 info9 zero9 size9 bytes9 rfl (by decide) (by decide) (w.alloc (.cells #[.string (str t)] 9)) base v U.length 1 1 _ [.string (str t)] (some ⟨w.heap.size, 0, none⟩) (World.ownsRow.alloc h _) (Ls.new w _ 9) rfl (by intro u hu; simp at hu; rw [hu]; rfl) (by omega) (by simp) (Nat.le_trans hb qa.size)
  refine ⟨v', W, hr, ?_, ?_⟩
  · show W.ownsRow base 9 1 v' (U ++ [t]).length ((U ++ [t]).map (fun t => .string (str t)))
    rw [List.length_append, List.length_singleton, List.map_append]
    exact hown
  · exact Mv.trans (qa.mono (fun _ _ h => h.elim)) (Mv.of_grown hgr) (fun j hj e => (ow_blk h j e).1)
theorem Rt9.qt {base : Nat} {w w' : World} {v : Value} {U : List (List Nat)} (h : Rt9 base w v U) (q : Qt w w') : Rt9 base w' v U := q.owns h (fun _ _ h => h)
theorem texts_take {g : (Nat → Bool) → List Nat} {k : Int} {l : List RX} {i : Nat} {x : RX} (hx : l[i]? = some x) : (texts g k l).take (i + 1) = (texts g k l).take i ++ [brk1 k x (x.sh g)] := by
  rw [List.take_add_one]
  congr 1
  unfold texts
  rw [List.getElem?_map, hx]
  rfl
theorem texts_len (g : (Nat → Bool) → List Nat) (k : Int) (l : List RX) : (texts g k l).length = l.length := by unfold texts; rw [List.length_map]

theorem pushed {g : (Nat → Bool) → List Nat} {k : Int} {l : List RX} {i : Nat} {t : List Nat} {w W W2 : World} {v' v0 v1 v2 v3 v4 v5 : Value} (hT : (texts g k l).take (i + 1) = (texts g k l).take i ++ [t]) (R2 : Rt9 (w.heap.size + 1) W2 v' ((texts g k l).take i ++ [t])) (q : Qt w W) (z : B6 w.heap.size v0 v1 v2 v3 v4 v5 W) (m : Mv (fun j => w.heap.size + 1 ≤ j) W W2) :
    Rt9 (w.heap.size + 1) W2 v' ((texts g k l).take (i + 1)) ∧ Qt w W2 ∧ B6 w.heap.size v0 v1 v2 v3 v4 v5 W2 :=
  ⟨by rw [hT]; exact R2, Mv.trans q m (fun j hj e => by omega), (B6.mv z m (by omega)).out⟩
set_option maxHeartbeats 4000000 in
theorem showArgs_any (g : (Nat → Bool) → List Nat) (hg : Gd g) (X : RX) (hX : X.nodes ≤ 40) (hXf : X.formed = true) (IH : ∀ x ∈ X.args, ∀ (K : Nat → Prop) (a : Option Addr) (c : Nat) (w : World), Parts x.args K w a c → Hid (Tab w) → x.nodes ≤ 40 → x.formed = true → Calls Tryd.prog 42 #[.agg #[.int .i64 x.kind, .int .u64 (limb x.set 0), .int .u64 (limb x.set 1), .int .u64 (limb x.set 2), .int .u64 (limb x.set 3), .slice a x.args.length c]] w fun e w' => e = .returned (.string (str (x.sh g))) ∧ Hid (Qt w w'))
    (K : Nat → Prop) (a : Option Addr) (c : Nat) (w : World) (hp : Parts X.args K w a c) (hT : Hid (Tab w)) :
    Calls Tryd.prog 56 #[.agg #[.int .i64 X.kind, .int .u64 (limb X.set 0), .int .u64 (limb X.set 1), .int .u64 (limb X.set 2), .int .u64 (limb X.set 3), .slice a X.args.length c]] w fun e w' => ∃ v, e = .returned v ∧ Hid (Rt9 (w.heap.size + 1) w' v (texts g X.kind X.args)) ∧ Hid (Qt w w') := by
  have HP : Hid (Parts X.args K w a c) := hp
  have HI : Hid _ := IH
  have HN : Hid (X.nodes ≤ 40) := hX
  have HF : Hid (X.formed = true) := hXf
  have hlen : X.args.length ≤ 40 := by have h1 := nodes_at X; have h2 := len_le_sum X.args; omega
  have PB : Hid (B6 w.heap.size (.int .i64 X.kind) (.int .u64 (limb X.set 0)) (.int .u64 (limb X.set 1)) (.int .u64 (limb X.set 2)) (.int .u64 (limb X.set 3)) (.slice a X.args.length c) (w.alloc (.cells #[.int .i64 X.kind, .int .u64 (limb X.set 0), .int .u64 (limb X.set 1), .int .u64 (limb X.set 2), .int .u64 (limb X.set 3), .slice a X.args.length c] 28))) := heap_alloc_new w _
  have Q0 : Hid (Qt w (w.alloc (.cells #[.int .i64 X.kind, .int .u64 (limb X.set 0), .int .u64 (limb X.set 1), .int .u64 (limb X.set 2), .int .u64 (limb X.set 3), .slice a X.args.length c] 28))) := Mv.alloc _ _ _
  obtain ⟨b0, b1, b2, b3, b4, b5, _, _, _, _, _, _⟩ := B6.facts PB
  clear hp IH hX hXf
  go_enter Tryd.func56, Tryd.ntmps56
  go_wp2_with fail
  clear b0 b1 b2 b3 b4 b5
  generalize w.alloc (.cells #[.int .i64 X.kind, .int .u64 (limb X.set 0), .int .u64 (limb X.set 1), .int .u64 (limb X.set 2), .int .u64 (limb X.set 3), .slice a X.args.length c] 28) = W0 at *
  generalize Value.agg #[.int .i64 X.kind, .int .u64 (limb X.set 0), .int .u64 (limb X.set 1), .int .u64 (limb X.set 2), .int .u64 (limb X.set 3), .slice a X.args.length c] = xv0 at *
  go_loopw [3, 10] (fun s3 s10 wr => ∃ i : Nat, i ≤ X.args.length ∧ s10 = .int .i64 i ∧ Hid (Rt9 (w.heap.size + 1) wr s3 ((texts g X.kind X.args).take i) ∧ Qt w wr ∧ B6 w.heap.size (.int .i64 X.kind) (.int .u64 (limb X.set 0)) (.int .u64 (limb X.set 1)) (.int .u64 (limb X.set 2)) (.int .u64 (limb X.set 3)) (.slice a X.args.length c) wr)) (fun _ s10 _ => X.args.length - (intOf s10).toNat)
  case atStart => exact ⟨0, by omega, rfl, World.ownsRow_nil _ _ _ _, Q0.out, PB.out⟩
  case round =>
    obtain ⟨i, hi, rfl, B⟩ := hrel
    obtain ⟨v, hv⟩ : ∃ v, v = u3 := ⟨_, rfl⟩
    subst hv
    by_cases hlt : i < X.args.length
    · obtain ⟨x, hx⟩ : ∃ x, X.args[i]? = some x := ⟨_, List.getElem?_eq_getElem hlt⟩
      have HX1 : Hid (X.args[i]? = some x) := hx
      obtain ⟨b, o, a2, c2, ha, hp2, q0, q1, q2, q3, q4, q5⟩ := (HP.out.mv B.out.2.1 (fun _ _ h => h)).at hx
      subst ha
      have hmem : x ∈ X.args := List.mem_of_getElem? hx
      have hxn : x.nodes ≤ 40 := by have h1 := nodes_at X; have h2 := mem_le_sum hmem; have := HN.out; omega
      have qa := Mv.alloc (fun _ => False) wr (.cells #[.int .i64 x.kind, .int .u64 (limb x.set 0), .int .u64 (limb x.set 1), .int .u64 (limb x.set 2), .int .u64 (limb x.set 3), .slice a2 x.args.length c2] 28)
      have hsh := HI.out x hmem K a2 c2 (wr.alloc (.cells #[.int .i64 x.kind, .int .u64 (limb x.set 0), .int .u64 (limb x.set 1), .int .u64 (limb x.set 2), .int .u64 (limb x.set 3), .slice a2 x.args.length c2] 28)) (hp2.mv qa (fun _ _ h => h)) ((hT.out.qt B.out.2.1).qt qa) hxn (formed_part HF.out hmem).1
      have PX : Hid (B6 wr.heap.size (.int .i64 x.kind) (.int .u64 (limb x.set 0)) (.int .u64 (limb x.set 1)) (.int .u64 (limb x.set 2)) (.int .u64 (limb x.set 3)) (.slice a2 x.args.length c2) (wr.alloc (.cells #[.int .i64 x.kind, .int .u64 (limb x.set 0), .int .u64 (limb x.set 1), .int .u64 (limb x.set 2), .int .u64 (limb x.set 3), .slice a2 x.args.length c2] 28))) := heap_alloc_new wr _
      have QA : Hid (Qt wr (wr.alloc (.cells #[.int .i64 x.kind, .int .u64 (limb x.set 0), .int .u64 (limb x.set 1), .int .u64 (limb x.set 2), .int .u64 (limb x.set 3), .slice a2 x.args.length c2] 28))) := qa
      obtain ⟨d0, d1, d2, d3, d4, d5, _, _, _, _, _, _⟩ := B6.facts PX
      have HL : Hid ((x.sh g).length ≤ 120200) := by have := sh_len hg x; show _ ≤ _; omega
      have hsz : (str (x.sh g)).size ≤ 120200 := by rw [str_size]; exact HL.out
      clear hx hp2 hmem hxn qa
      have HT1 := texts_take (g := g) (k := X.kind) HX1.out
      have HT : Hid _ := HT1
      clear HT1
      by_cases hlv : lvl x.kind < lvl X.kind
      · have HB : Hid (brk1 X.kind x (x.sh g) = 40 :: (x.sh g ++ [41])) := if_pos hlv
        have hd : decide (lvl x.kind < lvl X.kind) = true := decide_eq_true hlv
        have HS : Hid (⟨#[40]⟩ ++ str (x.sh g) ++ ⟨#[41]⟩ = str (brk1 X.kind x (x.sh g))) := by
          show _ = _
          rw [HB.out, show (⟨#[40]⟩ : ByteArray) = str [40] from rfl, show (⟨#[41]⟩ : ByteArray) = str [41] from rfl, str_append, str_append]
          rfl
        go_wp2_with fail
        refine hsh.mono ?_
        rintro e2 w2 ⟨rfl, q2'⟩
        have PX2 := B6.mv PX.out q2'.out (fun h => h)
        have PB2 := B6.mv B.out.2.2 (QA.out.comp q2'.out) (fun h => h)
        have k0 := (B6.facts PX2).1
        have k1 := (B6.facts PB2).1
        have QW : Hid (Qt wr w2) := QA.out.comp q2'.out
        clear d0 d1 d2 d3 d4 d5 hsh
        go_wp2_with fail
        go_quiet ((first | (go_at_call 51; exact Calls.quiet_of_same (level_any _ _))))
        obtain ⟨W, hW⟩ : ∃ W, W = w2.drewN nq := ⟨_, rfl⟩
        have QF : Hid (Qt wr W) := by rw [hW]; exact QW.out.trans (Mv.drewN (fun _ => False) w2 nq) (fun _ _ h => h.elim)
        rw [← hW]
        clear hW
        have HW : Hid (w.heap.size < wr.heap.size) := B6.lt B.out.2.2
        have hlen3 : ((texts g X.kind X.args).take i).length < 90000 := by rw [List.length_take]; omega
        obtain ⟨v', W2, hr, R2, M2⟩ := (B.out.1.qt QF.out).push (Nat.lt_of_lt_of_le HW.out QF.out.size) hlen3 (brk1 X.kind x (x.sh g))
        have BN : Hid _ := pushed (g := g) HT.out R2.out (B.out.2.1.comp QF.out) (B6.mv B.out.2.2 QF.out (fun h => h)).out M2.out
        rw [← HS.out] at hr
        clear k0 k1 hlen3 R2 M2
        go_wp2_with (at_builtin; first | (refine wpList_append_given rfl _ _ 46 rfl _ _ _ W2 rfl rfl hr ?_))
        refine ⟨⟨i + 1, by omega, by go_num, BN⟩, by simp [intOf]; omega⟩
      · have HB : Hid (brk1 X.kind x (x.sh g) = x.sh g) := if_neg hlv
        have hd : decide (lvl x.kind < lvl X.kind) = false := decide_eq_false hlv
        go_wp2_with fail
        refine hsh.mono ?_
        rintro e2 w2 ⟨rfl, q2'⟩
        have PX2 := B6.mv PX.out q2'.out (fun h => h)
        have PB2 := B6.mv B.out.2.2 (QA.out.comp q2'.out) (fun h => h)
        have k0 := (B6.facts PX2).1
        have k1 := (B6.facts PB2).1
        have QW : Hid (Qt wr w2) := QA.out.comp q2'.out
        clear d0 d1 d2 d3 d4 d5 hsh
        go_wp2_with fail
        go_quiet ((first | (go_at_call 51; exact Calls.quiet_of_same (level_any _ _))))
        obtain ⟨W, hW⟩ : ∃ W, W = w2.drewN nq := ⟨_, rfl⟩
        have QF : Hid (Qt wr W) := by rw [hW]; exact QW.out.trans (Mv.drewN (fun _ => False) w2 nq) (fun _ _ h => h.elim)
        rw [← hW]
        clear hW
        have HW : Hid (w.heap.size < wr.heap.size) := B6.lt B.out.2.2
        have hlen3 : ((texts g X.kind X.args).take i).length < 90000 := by rw [List.length_take]; omega
        obtain ⟨v', W2, hr, R2, M2⟩ := (B.out.1.qt QF.out).push (Nat.lt_of_lt_of_le HW.out QF.out.size) hlen3 (brk1 X.kind x (x.sh g))
        have BN : Hid _ := pushed (g := g) HT.out R2.out (B.out.2.1.comp QF.out) (B6.mv B.out.2.2 QF.out (fun h => h)).out M2.out
        rw [HB.out] at hr
        clear k0 k1 hlen3 R2 M2
        go_wp2_with (at_builtin; first | (refine wpList_append_given rfl _ _ 46 rfl _ _ _ W2 rfl rfl hr ?_))
        refine ⟨⟨i + 1, by omega, by go_num, BN⟩, by simp [intOf]; omega⟩
    · obtain rfl : i = X.args.length := by omega
      have HE : Hid ((texts g X.kind X.args).take X.args.length = texts g X.kind X.args) := by show _ = _; rw [← texts_len g X.kind X.args, List.take_length]
      go_wp2_with fail
      go_ret
      exact ⟨_, rfl, by rw [← HE.out]; exact B.out.1, B.out.2.1⟩

end Go.Proofs.YtkclkhfcmjhogaaDoor

namespace Go.Proofs.YtkclkhfcmjhogaaDoor
open Go.RowKit
set_option linter.unusedVariables false

theorem showc_of {p : Nat → Bool} {g : (Nat → Bool) → List Nat} (hg : Gd g) (w : World) (hT : Hid (Tab w)) : Calls Tryd.prog 57 #[sv p] w fun e w' => e = .returned (.string (str (g p))) ∧ Hid (Qt w w') := by
  obtain ⟨R, h, h'⟩ := hg p
  rw [h']
  refine (show_set p w hT).mono ?_
  rintro e w' ⟨R', h1, h2, h3⟩
  rw [Runs.one h1 h] at h2
  exact ⟨h2, h3⟩
theorem inter_map (f : Nat → UInt8) (s : List Nat) (U : List (List Nat)) : (s.map f).intercalate (U.map (fun t => t.map f)) = (s.intercalate U).map f := by
  unfold List.intercalate
  rw [List.map_flatten]
  congr 1
  induction U with
  | nil => rfl
  | cons t U ih =>
    cases U with
    | nil => rfl
    | cons u U =>
      rw [List.map_cons, List.map_cons, List.intersperse_cons_cons, List.intersperse_cons_cons, List.map_cons, List.map_cons]
      rw [List.map_cons] at ih
      rw [ih]
theorem inter_nil (U : List (List Nat)) : ([] : List Nat).intercalate U = U.flatten := by
  unfold List.intercalate
  induction U with
  | nil => rfl
  | cons t U ih =>
    cases U with
    | nil => rfl
    | cons u U => rw [List.intersperse_cons_cons, List.flatten_cons, List.flatten_cons, ih]; rfl
theorem join_str (s : List Nat) (U : List (List Nat)) : (⟨(Lib.join ((U.map str).map (fun x => x.data.toList)) (str s).data.toList).toArray⟩ : ByteArray) = str (s.intercalate U) := by
  unfold Lib.join
  have e1 : (U.map str).map (fun x => x.data.toList) = U.map (fun t => t.map UInt8.ofNat) := by
    rw [List.map_map]
    apply List.map_congr_left
    intro t _
    simp [str]
  have e2 : (str s).data.toList = s.map UInt8.ofNat := by simp [str]
  rw [e1, e2, inter_map]
  rfl
theorem qt_of_below {w w' : World} (h : Below w.heap.size w w') : Qt w w' := ⟨h.os, h.tape, h.output, h.size, fun k hk _ => h.block k hk⟩
/-- A row of texts, joined. -/
theorem joins {base : Nat} {w : World} {v : Value} {U : List (List Nat)} (h : Rt9 base w v U) (hU : U ≠ []) (s : List Nat) (hs : (s.intercalate U).length ≤ 1000000) (hn : U.length ≤ 1000) : Calls Tryd.prog 58 #[v, .string (str s)] w fun e w' => e = .returned (.string (str (s.intercalate U))) ∧ Hid (Qt w w') := by
  obtain ⟨a, c, hv, hls, hc, _, _⟩ := ow_ls h
  subst hv
  obtain ⟨t, U', rfl⟩ : ∃ t U', U = t :: U' := by cases U with | nil => exact absurd rfl hU | cons t U' => exact ⟨t, U', rfl⟩
  obtain ⟨b, o, rfl, hb, _⟩ := hls 0 _ rfl
  have hj := join_any b o c ((t :: U').map str) (str s) w (fun j x hx => by
      rw [List.getElem?_map] at hx
      obtain ⟨u, hu, rfl⟩ := Option.map_eq_some_iff.1 hx
      obtain ⟨b2, o2, e, _, hcell⟩ := hls j (.string (str u)) (by rw [List.getElem?_map, hu]; rfl)
      cases e
      exact hcell) hb (by rw [List.length_map]; omega) (by rw [List.length_map]; exact hc) (by
      have := congrArg ByteArray.size (join_str s (t :: U'))
      rw [str_size] at this
      have h2 : (Lib.join (((t :: U').map str).map (fun x => x.data.toList)) (str s).data.toList).length = (s.intercalate (t :: U')).length := by
        rw [← this]; simp [ByteArray.size]
      rw [h2]; omega)
  rw [List.length_map, join_str] at hj
  refine hj.mono ?_
  rintro e w' ⟨h1, h2⟩
  exact ⟨h1, qt_of_below h2⟩

end Go.Proofs.YtkclkhfcmjhogaaDoor

namespace Go.Proofs.YtkclkhfcmjhogaaDoor
open Go.RowKit
set_option linter.unusedVariables false

theorem exs0 : (⟨#[42, 43, 63]⟩ : ByteArray).extract 0 3 = str [42, 43, 63] := by decide +kernel
theorem exs1 : (⟨#[42, 43, 63]⟩ : ByteArray).extract 1 3 = str [43, 63] := by decide +kernel
theorem exs2 : (⟨#[42, 43, 63]⟩ : ByteArray).extract 2 3 = str [63] := by decide +kernel
theorem ext4 : (str [42, 43, 63]).extract 0 1 = str [42] := by decide +kernel
theorem ext5 : (str [43, 63]).extract 0 1 = str [43] := by decide +kernel
theorem ext6 : (str [63]).extract 0 1 = str [63] := by decide +kernel
theorem str_sz3 : (str [42, 43, 63]).size = 3 := rfl
theorem str_sz2 : (str [43, 63]).size = 2 := rfl
theorem str_sz1 : (str [63]).size = 1 := rfl
theorem Rt9.first {base : Nat} {w : World} {v : Value} {t : List Nat} {U : List (List Nat)} (h : Rt9 base w v (t :: U)) : ∃ b o n c, v = .slice (some ⟨b, o, none⟩) n c ∧ 0 < n ∧ w.cell? ⟨b, o, none⟩ = some (.string (str t)) := by
  obtain ⟨a, c, hv, hls, hc, _, _⟩ := ow_ls h
  obtain ⟨b, o, rfl, hb, hcell⟩ := hls 0 _ rfl
  exact ⟨b, o, _, c, hv, by simp, by simpa using hcell⟩

/-- What show tells. -/
def ShC (g : (Nat → Bool) → List Nat) (x : RX) : Prop := ∀ (K : Nat → Prop) (a : Option Addr) (c : Nat) (w : World), Parts x.args K w a c → Hid (Tab w) → x.nodes ≤ 40 → x.formed = true → Calls Tryd.prog 42 #[.agg #[.int .i64 x.kind, .int .u64 (limb x.set 0), .int .u64 (limb x.set 1), .int .u64 (limb x.set 2), .int .u64 (limb x.set 3), .slice a x.args.length c]] w fun e w' => e = .returned (.string (str (x.sh g))) ∧ Hid (Qt w w')

set_option maxHeartbeats 4000000 in
theorem show_step (g : (Nat → Bool) → List Nat) (hg : Gd g) (X : RX) (IH : ∀ x ∈ X.args, ShC g x) : ShC g X := by
  intro K a c w hp hT hX hXf
  have q0 := Mv.alloc (fun _ => False) w (.cells #[.int .i64 X.kind, .int .u64 (limb X.set 0), .int .u64 (limb X.set 1), .int .u64 (limb X.set 2), .int .u64 (limb X.set 3), .slice a X.args.length c] 28)
  have hargs := showArgs_any g hg X hX hXf IH K a c _ (hp.mv q0 (fun _ _ h => h)) (hT.out.qt q0)
  have hset := fun W (q : Hid (Qt w W)) => showc_of (p := X.set) hg W (hT.out.qt q.out)
  rw [sv_cells] at hset
  have PB : Hid (B6 w.heap.size (.int .i64 X.kind) (.int .u64 (limb X.set 0)) (.int .u64 (limb X.set 1)) (.int .u64 (limb X.set 2)) (.int .u64 (limb X.set 3)) (.slice a X.args.length c) (w.alloc (.cells #[.int .i64 X.kind, .int .u64 (limb X.set 0), .int .u64 (limb X.set 1), .int .u64 (limb X.set 2), .int .u64 (limb X.set 3), .slice a X.args.length c] 28))) := heap_alloc_new w _
  have Q0 : Hid (Qt w (w.alloc (.cells #[.int .i64 X.kind, .int .u64 (limb X.set 0), .int .u64 (limb X.set 1), .int .u64 (limb X.set 2), .int .u64 (limb X.set 3), .slice a X.args.length c] 28))) := q0
  obtain ⟨b0, b1, b2, b3, b4, b5, _, _, _, _, _, _⟩ := B6.facts PB
  have hk := formed_kind hXf
  have HA : Hid (X.sh g = if X.kind = 1 then g X.set else joinK X.kind (texts g X.kind X.args)) := sh_at g X
  have HSL : Hid ((X.sh g).length ≤ 120200) := by have := sh_len hg X; show _ ≤ _; omega
  have HN40 : Hid ((texts g X.kind X.args).length ≤ 1000) := by show _ ≤ _; rw [texts_len]; have h1 := nodes_at X; have h2 := len_le_sum X.args; omega
  have HNE : Hid (X.kind = 1 ∨ texts g X.kind X.args ≠ []) := by
    rcases hk with h | h
    · exact .inl h
    · right
      intro e
      have hl := texts_len g X.kind X.args
      rw [e] at hl
      rw [formed_at, Bool.and_eq_true] at hXf
      have hn := hXf.1
      unfold RX.node node at hn
      rw [← hl] at hn
      simp only [List.length_nil] at hn
      split at hn
      · simp at hn
      · split at hn
        · simp at hn
        · split at hn
          · omega
          · cases hn
  generalize X.sh g = T at *
  generalize texts g X.kind X.args = U at *
  clear hXf hX IH hp q0
  generalize limb X.set 0 = x0 at *
  generalize limb X.set 1 = x1 at *
  generalize limb X.set 2 = x2 at *
  generalize limb X.set 3 = x3 at *
  generalize X.args.length = n at *
  generalize hkk : X.kind = k at *
  clear hkk
  rcases hk with rfl | rfl | rfl | rfl | rfl | rfl
  · go_enter Tryd.func42, Tryd.ntmps42
    go_wp2_with fail
    refine hargs.mono ?_
    rintro e1 w1 ⟨v, rfl, R1, q1⟩
    have PB1 := B6.mv PB.out q1.out (fun h => h)
    have Q1 : Hid (Qt w w1) := Q0.out.comp q1.out
    clear b0 b1 b2 b3 b4 b5
    obtain ⟨b0, b1, b2, b3, b4, b5, _, _, _, _, _, _⟩ := B6.facts PB1
    have hs1 := hset w1 Q1
    have HE : Hid (T = g X.set) := by have := HA.out; simp at this; exact this
    go_wp2_with fail
    refine hs1.mono ?_
    rintro e2 w2 ⟨rfl, q2⟩
    go_wp2_with fail
    go_ret
    exact ⟨by rw [HE.out]; rfl, Q1.out.comp q2.out⟩
  · have HE : Hid (T = ([] : List Nat).intercalate U) := by show _ = _; rw [HA.out, if_neg (by decide)]; unfold joinK; rw [if_pos rfl, inter_nil]
    have HNU : Hid (U ≠ []) := HNE.out.resolve_left (by decide)
    go_enter Tryd.func42, Tryd.ntmps42
    go_wp2_with fail
    refine hargs.mono ?_
    rintro e1 w1 ⟨v, rfl, R1, q1⟩
    have PB1 := B6.mv PB.out q1.out (fun h => h)
    have Q1 : Hid (Qt w w1) := Q0.out.comp q1.out
    clear b0 b1 b2 b3 b4 b5
    obtain ⟨b0, b1, b2, b3, b4, b5, _, _, _, _, _, _⟩ := B6.facts PB1
    have hs1 := joins R1.out HNU.out [] (by rw [← HE.out]; exact Nat.le_trans HSL.out (by decide)) HN40.out
    rw [← HE.out, show str [] = ⟨#[]⟩ from rfl] at hs1
    go_wp2_with fail
    refine hs1.mono ?_
    rintro e2 w2 ⟨rfl, q2⟩
    go_wp2_with fail
    go_ret
    exact ⟨rfl, Q1.out.comp q2.out⟩
  · have HE : Hid (T = [124].intercalate U) := by show _ = _; rw [HA.out, if_neg (by decide)]; unfold joinK; rw [if_neg (by decide), if_pos rfl]
    have HNU : Hid (U ≠ []) := HNE.out.resolve_left (by decide)
    go_enter Tryd.func42, Tryd.ntmps42
    go_wp2_with fail
    refine hargs.mono ?_
    rintro e1 w1 ⟨v, rfl, R1, q1⟩
    have PB1 := B6.mv PB.out q1.out (fun h => h)
    have Q1 : Hid (Qt w w1) := Q0.out.comp q1.out
    clear b0 b1 b2 b3 b4 b5
    obtain ⟨b0, b1, b2, b3, b4, b5, _, _, _, _, _, _⟩ := B6.facts PB1
    have hs1 := joins R1.out HNU.out [124] (by rw [← HE.out]; exact Nat.le_trans HSL.out (by decide)) HN40.out
    rw [← HE.out, show str [124] = ⟨#[124]⟩ from rfl] at hs1
    go_wp2_with fail
    refine hs1.mono ?_
    rintro e2 w2 ⟨rfl, q2⟩
    go_wp2_with fail
    go_ret
    exact ⟨rfl, Q1.out.comp q2.out⟩
  · have HNU : Hid (U ≠ []) := HNE.out.resolve_left (by decide)
    obtain ⟨t, U2, hU⟩ : ∃ t U2, U = t :: U2 := by cases U with | nil => exact absurd rfl HNU.out | cons t U2 => exact ⟨t, U2, rfl⟩
    have HE : Hid (str t ++ str [42] = str T) := by show _ = _; rw [HA.out, if_neg (by decide), hU, str_append]; rfl
    have htl : t.length ≤ 120200 := by have h1 := HSL.out; have h2 := congrArg ByteArray.size HE.out; rw [ByteArray.size_append, str_size, str_size, str_size] at h2; simp at h2; omega
    have hsz : (str t).size ≤ 120200 := by rw [str_size]; exact htl
    have E1 := exs0
    have E2 := ext4
    have E3 := str_sz3
    rw [hU] at hargs
    clear hU htl
    go_enter Tryd.func42, Tryd.ntmps42
    go_wp2_with fail
    refine hargs.mono ?_
    rintro e1 w1 ⟨v, rfl, R1, q1⟩
    have PB1 := B6.mv PB.out q1.out (fun h => h)
    have Q1 : Hid (Qt w w1) := Q0.out.comp q1.out
    clear b0 b1 b2 b3 b4 b5
    obtain ⟨b0, b1, b2, b3, b4, b5, _, _, _, _, _, _⟩ := B6.facts PB1
    obtain ⟨bb, oo, nn, cc, hv, hpos, hcell⟩ := R1.out.first
    subst hv
    have hpos2 : (0 : Int) < (nn : Int) := by omega
    have HEQ := HE.out
    have hz1 : (str [42]).size = 1 := rfl
    have W0 : IntKind.i64.wrap 0 = 0 := by decide
    go_wp2_with fail
    go_quiet (fail)
    go_wp2_with fail
    go_ret
    exact ⟨by rw [← HEQ]; rfl, Q1.out.trans (Mv.drewN (fun _ => False) w1 nq) (fun _ _ h => h.elim)⟩
  · have HNU : Hid (U ≠ []) := HNE.out.resolve_left (by decide)
    obtain ⟨t, U2, hU⟩ : ∃ t U2, U = t :: U2 := by cases U with | nil => exact absurd rfl HNU.out | cons t U2 => exact ⟨t, U2, rfl⟩
    have HE : Hid (str t ++ str [43] = str T) := by show _ = _; rw [HA.out, if_neg (by decide), hU, str_append]; rfl
    have htl : t.length ≤ 120200 := by have h1 := HSL.out; have h2 := congrArg ByteArray.size HE.out; rw [ByteArray.size_append, str_size, str_size, str_size] at h2; simp at h2; omega
    have hsz : (str t).size ≤ 120200 := by rw [str_size]; exact htl
    have E1 := exs1
    have E2 := ext5
    have E3 := str_sz2
    rw [hU] at hargs
    clear hU htl
    go_enter Tryd.func42, Tryd.ntmps42
    go_wp2_with fail
    refine hargs.mono ?_
    rintro e1 w1 ⟨v, rfl, R1, q1⟩
    have PB1 := B6.mv PB.out q1.out (fun h => h)
    have Q1 : Hid (Qt w w1) := Q0.out.comp q1.out
    clear b0 b1 b2 b3 b4 b5
    obtain ⟨b0, b1, b2, b3, b4, b5, _, _, _, _, _, _⟩ := B6.facts PB1
    obtain ⟨bb, oo, nn, cc, hv, hpos, hcell⟩ := R1.out.first
    subst hv
    have hpos2 : (0 : Int) < (nn : Int) := by omega
    have HEQ := HE.out
    have hz1 : (str [43]).size = 1 := rfl
    have W0 : IntKind.i64.wrap 1 = 1 := by decide
    go_wp2_with fail
    go_quiet (fail)
    go_wp2_with fail
    go_ret
    exact ⟨by rw [← HEQ]; rfl, Q1.out.trans (Mv.drewN (fun _ => False) w1 nq) (fun _ _ h => h.elim)⟩
  · have HNU : Hid (U ≠ []) := HNE.out.resolve_left (by decide)
    obtain ⟨t, U2, hU⟩ : ∃ t U2, U = t :: U2 := by cases U with | nil => exact absurd rfl HNU.out | cons t U2 => exact ⟨t, U2, rfl⟩
    have HE : Hid (str t ++ str [63] = str T) := by show _ = _; rw [HA.out, if_neg (by decide), hU, str_append]; rfl
    have htl : t.length ≤ 120200 := by have h1 := HSL.out; have h2 := congrArg ByteArray.size HE.out; rw [ByteArray.size_append, str_size, str_size, str_size] at h2; simp at h2; omega
    have hsz : (str t).size ≤ 120200 := by rw [str_size]; exact htl
    have E1 := exs2
    have E2 := ext6
    have E3 := str_sz1
    rw [hU] at hargs
    clear hU htl
    go_enter Tryd.func42, Tryd.ntmps42
    go_wp2_with fail
    refine hargs.mono ?_
    rintro e1 w1 ⟨v, rfl, R1, q1⟩
    have PB1 := B6.mv PB.out q1.out (fun h => h)
    have Q1 : Hid (Qt w w1) := Q0.out.comp q1.out
    clear b0 b1 b2 b3 b4 b5
    obtain ⟨b0, b1, b2, b3, b4, b5, _, _, _, _, _, _⟩ := B6.facts PB1
    obtain ⟨bb, oo, nn, cc, hv, hpos, hcell⟩ := R1.out.first
    subst hv
    have hpos2 : (0 : Int) < (nn : Int) := by omega
    have HEQ := HE.out
    have hz1 : (str [63]).size = 1 := rfl
    have W0 : IntKind.i64.wrap 2 = 2 := by decide
    go_wp2_with fail
    go_quiet (fail)
    go_wp2_with fail
    go_ret
    exact ⟨by rw [← HEQ]; rfl, Q1.out.trans (Mv.drewN (fun _ => False) w1 nq) (fun _ _ h => h.elim)⟩
theorem showAll (g : (Nat → Bool) → List Nat) (hg : Gd g) : ∀ x, ShC g x := by
  refine RX.ind ?_
  intro k p l ih
  exact show_step g hg ⟨k, p, l⟩ ih
set_option maxHeartbeats 1000000 in
/-- Show, of an expression that may be. -/
theorem showX_any (g : (Nat → Bool) → List Nat) (hg : Gd g) (X : RX) (K : Nat → Prop) (a : Option Addr) (c : Nat) (w : World) (hK : ∀ j, K j → j < w.heap.size) (hp : Parts X.args K w a c) (hT : Hid (Tab w)) (hm : may X = 0) : Calls Tryd.prog 22 #[.agg #[.int .i64 X.kind, .int .u64 (limb X.set 0), .int .u64 (limb X.set 1), .int .u64 (limb X.set 2), .int .u64 (limb X.set 3), .slice a X.args.length c]] w fun e w' => e = .returned (.string (str (X.sh g))) ∧ Hid (Qt w w') := by
  obtain ⟨h1, h2, h3⟩ : X.formed = true ∧ X.nodes ≤ 40 ∧ X.depth ≤ 12 := by
    unfold may at hm
    split at hm
    · cases hm
    · rename_i hf
      split at hm
      · rename_i h; exact ⟨by simpa using hf, h⟩
      · cases hm
  have ht : X.tall < 90000 := by have := tall_nodes X; omega
  have q0 := Mv.alloc (fun _ => False) w (.cells #[.int .i64 X.kind, .int .u64 (limb X.set 0), .int .u64 (limb X.set 1), .int .u64 (limb X.set 2), .int .u64 (limb X.set 3), .slice a X.args.length c] 28)
  have hmay := may_any X K a c _ (fun j hj => Nat.lt_of_lt_of_le (hK j hj) q0.size) (hp.mv q0 (fun _ _ h => h)) ht
  rw [hm] at hmay
  have hsh := fun W (q : Hid (Qt w W)) => showAll g hg X K a c W (hp.mv q.out (fun _ _ h => h)) (hT.out.qt q.out) h2 h1
  clear hm ht h1 h2 h3 hp hK
  unfold xv at hmay
  go_enter Tryd.func22, Tryd.ntmps22
  go_wp2_with fail
  refine hmay.mono ?_
  rintro e1 w1 ⟨rfl, q1⟩
  have Q1 : Hid (Qt w w1) := ((Qt.refl w).alloc _).comp q1.out
  obtain ⟨b0, b1, b2, b3, b4, b5⟩ := box6 q1
  have hs := hsh w1 Q1
  go_wp2_with fail
  refine hs.mono ?_
  rintro e2 w2 ⟨rfl, q2⟩
  go_wp2_with fail
  go_ret
  exact ⟨rfl, Q1.out.comp q2.out⟩

end Go.Proofs.YtkclkhfcmjhogaaDoor
