/- showArgs. -/
import Derived.Test.YtkclkhfcmjhogaaDoorV1
import Derived.Test.YtkclkhfcmjhogaaDoorH2
namespace Go.Proofs.YtkclkhfcmjhogaaDoor
open Go.RowKit
set_option linter.unusedVariables false

theorem zero9 : Tryd.t9.zero = some (.string ⟨#[]⟩) := by kernel_rfl
theorem info9 : Tryd.prog.info? 9 = some Tryd.t9 := by kernel_rfl
theorem size9 : Tryd.t9.size = 1 := by kernel_rfl
theorem bytes9 : Tryd.t9.bytes = 16 := by kernel_rfl
/-- A row of texts of its own. -/
def Rt9 (base : Nat) (w : World) (v : Value) (U : List (List Nat)) : Prop := w.ownsRow base 9 1 v U.length (U.map (fun t => .string (str t)))
theorem Rt9.push {base : Nat} {w : World} {v : Value} {U : List (List Nat)} (h : Rt9 base w v U) (hb : base ≤ w.heap.size) (hl : U.length < 90000) (t : List Nat) :
    ∃ v' W, (Builtin.append_ #[46, 46] 46 #[v, .slice (some ⟨w.heap.size, 0, none⟩) 1 1]).run Tryd.prog (w.alloc (.cells #[.string (str t)] 9)) = .ok v' W ∧ Hid (Rt9 base W v' (U ++ [t])) ∧ Hid (Mv (fun j => base ≤ j) w W) := by
  have qa := Mv.alloc (fun _ => False) w (.cells #[.string (str t)] 9)
  obtain ⟨v', W, hr, hown, hgr, hnb⟩ := append_ow 46 46 9 Tryd.t9 _ 1 16 Tryd.underlying46 info9 zero9 size9 bytes9 rfl (by decide) (by decide) (w.alloc (.cells #[.string (str t)] 9)) base v U.length 1 1 _ [.string (str t)] (some ⟨w.heap.size, 0, none⟩) (World.ownsRow.alloc h _) (Ls.new w _ 9) rfl (by intro u hu; simp at hu; rw [hu]; rfl) (by omega) (by simp) (Nat.le_trans hb qa.size)
  refine ⟨v', W, hr, ?_, ?_⟩
  · show W.ownsRow base 9 1 v' (U ++ [t]).length ((U ++ [t]).map (fun t => .string (str t)))
    rw [List.length_append, List.length_singleton, List.map_append]
    exact hown
  · exact Mv.trans (qa.mono (fun _ _ h => h.elim)) (Mv.of_grown hgr) (fun j hj e => (ow_blk h j e).1)
theorem Rt9.qt {base : Nat} {w w' : World} {v : Value} {U : List (List Nat)} (h : Rt9 base w v U) (q : Qt w w') : Rt9 base w' v U := q.owns h (fun _ _ h => h)
theorem texts_take {g : (Nat → Bool) → List Nat} {k : Int} {l : List RX} {i : Nat} {x : RX} (hx : l[i]? = some x) : (texts g k l).take (i + 1) = (texts g k l).take i ++ [brk1 k x (x.sh g)] := by
  rw [List.take_add_one]
  congr 1
  unfold texts
  rw [List.getElem?_map, hx]
  rfl
theorem texts_len (g : (Nat → Bool) → List Nat) (k : Int) (l : List RX) : (texts g k l).length = l.length := by unfold texts; rw [List.length_map]

theorem pushed {g : (Nat → Bool) → List Nat} {k : Int} {l : List RX} {i : Nat} {t : List Nat} {w W W2 : World} {v' v0 v1 v2 v3 v4 v5 : Value} (hT : (texts g k l).take (i + 1) = (texts g k l).take i ++ [t]) (R2 : Rt9 (w.heap.size + 1) W2 v' ((texts g k l).take i ++ [t])) (q : Qt w W) (z : B6 w.heap.size v0 v1 v2 v3 v4 v5 W) (m : Mv (fun j => w.heap.size + 1 ≤ j) W W2) :
    Rt9 (w.heap.size + 1) W2 v' ((texts g k l).take (i + 1)) ∧ Qt w W2 ∧ B6 w.heap.size v0 v1 v2 v3 v4 v5 W2 :=
  ⟨by rw [hT]; exact R2, Mv.trans q m (fun j hj e => by omega), (B6.mv z m (by omega)).out⟩
set_option maxHeartbeats 4000000 in
theorem showArgs_any (g : (Nat → Bool) → List Nat) (hg : Gd g) (X : RX) (hX : X.nodes ≤ 40) (hXf : X.formed = true) (IH : ∀ x ∈ X.args, ∀ (K : Nat → Prop) (a : Option Addr) (c : Nat) (w : World), Parts x.args K w a c → Hid (Tab w) → x.nodes ≤ 40 → x.formed = true → Calls Tryd.prog 42 #[.agg #[.int .i64 x.kind, .int .u64 (limb x.set 0), .int .u64 (limb x.set 1), .int .u64 (limb x.set 2), .int .u64 (limb x.set 3), .slice a x.args.length c]] w fun e w' => e = .returned (.string (str (x.sh g))) ∧ Hid (Qt w w'))
    (K : Nat → Prop) (a : Option Addr) (c : Nat) (w : World) (hp : Parts X.args K w a c) (hT : Hid (Tab w)) :
    Calls Tryd.prog 56 #[.agg #[.int .i64 X.kind, .int .u64 (limb X.set 0), .int .u64 (limb X.set 1), .int .u64 (limb X.set 2), .int .u64 (limb X.set 3), .slice a X.args.length c]] w fun e w' => ∃ v, e = .returned v ∧ Hid (Rt9 (w.heap.size + 1) w' v (texts g X.kind X.args)) ∧ Hid (Qt w w') := by
  have HP : Hid (Parts X.args K w a c) := hp
  have HI : Hid _ := IH
  have HN : Hid (X.nodes ≤ 40) := hX
  have HF : Hid (X.formed = true) := hXf
  have hlen : X.args.length ≤ 40 := by have h1 := nodes_at X; have h2 := len_le_sum X.args; omega
  have PB : Hid (B6 w.heap.size (.int .i64 X.kind) (.int .u64 (limb X.set 0)) (.int .u64 (limb X.set 1)) (.int .u64 (limb X.set 2)) (.int .u64 (limb X.set 3)) (.slice a X.args.length c) (w.alloc (.cells #[.int .i64 X.kind, .int .u64 (limb X.set 0), .int .u64 (limb X.set 1), .int .u64 (limb X.set 2), .int .u64 (limb X.set 3), .slice a X.args.length c] 28))) := heap_alloc_new w _
  have Q0 : Hid (Qt w (w.alloc (.cells #[.int .i64 X.kind, .int .u64 (limb X.set 0), .int .u64 (limb X.set 1), .int .u64 (limb X.set 2), .int .u64 (limb X.set 3), .slice a X.args.length c] 28))) := Mv.alloc _ _ _
  obtain ⟨b0, b1, b2, b3, b4, b5, _, _, _, _, _, _⟩ := B6.facts PB
  clear hp IH hX hXf
  go_enter Tryd.func56, Tryd.ntmps56
  go_wp2_with fail
  clear b0 b1 b2 b3 b4 b5
  generalize w.alloc (.cells #[.int .i64 X.kind, .int .u64 (limb X.set 0), .int .u64 (limb X.set 1), .int .u64 (limb X.set 2), .int .u64 (limb X.set 3), .slice a X.args.length c] 28) = W0 at *
  generalize Value.agg #[.int .i64 X.kind, .int .u64 (limb X.set 0), .int .u64 (limb X.set 1), .int .u64 (limb X.set 2), .int .u64 (limb X.set 3), .slice a X.args.length c] = xv0 at *
  go_loopw [3, 10] (fun s3 s10 wr => ∃ i : Nat, i ≤ X.args.length ∧ s10 = .int .i64 i ∧ Hid (Rt9 (w.heap.size + 1) wr s3 ((texts g X.kind X.args).take i) ∧ Qt w wr ∧ B6 w.heap.size (.int .i64 X.kind) (.int .u64 (limb X.set 0)) (.int .u64 (limb X.set 1)) (.int .u64 (limb X.set 2)) (.int .u64 (limb X.set 3)) (.slice a X.args.length c) wr)) (fun _ s10 _ => X.args.length - (intOf s10).toNat)
  case atStart => exact ⟨0, by omega, rfl, World.ownsRow_nil _ _ _ _, Q0.out, PB.out⟩
  case round =>
    obtain ⟨i, hi, rfl, B⟩ := hrel
    obtain ⟨v, hv⟩ : ∃ v, v = u3 := ⟨_, rfl⟩
    subst hv
    by_cases hlt : i < X.args.length
    · obtain ⟨x, hx⟩ : ∃ x, X.args[i]? = some x := ⟨_, List.getElem?_eq_getElem hlt⟩
      have HX1 : Hid (X.args[i]? = some x) := hx
      obtain ⟨b, o, a2, c2, ha, hp2, q0, q1, q2, q3, q4, q5⟩ := (HP.out.mv B.out.2.1 (fun _ _ h => h)).at hx
      subst ha
      have hmem : x ∈ X.args := List.mem_of_getElem? hx
      have hxn : x.nodes ≤ 40 := by have h1 := nodes_at X; have h2 := mem_le_sum hmem; have := HN.out; omega
      have qa := Mv.alloc (fun _ => False) wr (.cells #[.int .i64 x.kind, .int .u64 (limb x.set 0), .int .u64 (limb x.set 1), .int .u64 (limb x.set 2), .int .u64 (limb x.set 3), .slice a2 x.args.length c2] 28)
      have hsh := HI.out x hmem K a2 c2 (wr.alloc (.cells #[.int .i64 x.kind, .int .u64 (limb x.set 0), .int .u64 (limb x.set 1), .int .u64 (limb x.set 2), .int .u64 (limb x.set 3), .slice a2 x.args.length c2] 28)) (hp2.mv qa (fun _ _ h => h)) ((hT.out.qt B.out.2.1).qt qa) hxn (formed_part HF.out hmem).1
      have PX : Hid (B6 wr.heap.size (.int .i64 x.kind) (.int .u64 (limb x.set 0)) (.int .u64 (limb x.set 1)) (.int .u64 (limb x.set 2)) (.int .u64 (limb x.set 3)) (.slice a2 x.args.length c2) (wr.alloc (.cells #[.int .i64 x.kind, .int .u64 (limb x.set 0), .int .u64 (limb x.set 1), .int .u64 (limb x.set 2), .int .u64 (limb x.set 3), .slice a2 x.args.length c2] 28))) := heap_alloc_new wr _
      have QA : Hid (Qt wr (wr.alloc (.cells #[.int .i64 x.kind, .int .u64 (limb x.set 0), .int .u64 (limb x.set 1), .int .u64 (limb x.set 2), .int .u64 (limb x.set 3), .slice a2 x.args.length c2] 28))) := qa
      obtain ⟨d0, d1, d2, d3, d4, d5, _, _, _, _, _, _⟩ := B6.facts PX
      have HL : Hid ((x.sh g).length ≤ 120200) := by have := sh_len hg x; show _ ≤ _; omega
      have hsz : (str (x.sh g)).size ≤ 120200 := by rw [str_size]; exact HL.out
      clear hx hp2 hmem hxn qa
      have HT1 := texts_take (g := g) (k := X.kind) HX1.out
      have HT : Hid _ := HT1
      clear HT1
      by_cases hlv : lvl x.kind < lvl X.kind
      · have HB : Hid (brk1 X.kind x (x.sh g) = 40 :: (x.sh g ++ [41])) := if_pos hlv
        have hd : decide (lvl x.kind < lvl X.kind) = true := decide_eq_true hlv
        have HS : Hid (⟨#[40]⟩ ++ str (x.sh g) ++ ⟨#[41]⟩ = str (brk1 X.kind x (x.sh g))) := by
          show _ = _
          rw [HB.out, show (⟨#[40]⟩ : ByteArray) = str [40] from rfl, show (⟨#[41]⟩ : ByteArray) = str [41] from rfl, str_append, str_append]
          rfl
        go_wp2_with fail
        refine hsh.mono ?_
        rintro e2 w2 ⟨rfl, q2'⟩
        have PX2 := B6.mv PX.out q2'.out (fun h => h)
        have PB2 := B6.mv B.out.2.2 (QA.out.comp q2'.out) (fun h => h)
        have k0 := (B6.facts PX2).1
        have k1 := (B6.facts PB2).1
        have QW : Hid (Qt wr w2) := QA.out.comp q2'.out
        clear d0 d1 d2 d3 d4 d5 hsh
        go_wp2_with fail
        go_quiet ((first | (go_at_call 51; exact Calls.quiet_of_same (level_any _ _))))
        obtain ⟨W, hW⟩ : ∃ W, W = w2.drewN nq := ⟨_, rfl⟩
        have QF : Hid (Qt wr W) := by rw [hW]; exact QW.out.trans (Mv.drewN (fun _ => False) w2 nq) (fun _ _ h => h.elim)
        rw [← hW]
        clear hW
        have HW : Hid (w.heap.size < wr.heap.size) := B6.lt B.out.2.2
        have hlen3 : ((texts g X.kind X.args).take i).length < 90000 := by rw [List.length_take]; omega
        obtain ⟨v', W2, hr, R2, M2⟩ := (B.out.1.qt QF.out).push (Nat.lt_of_lt_of_le HW.out QF.out.size) hlen3 (brk1 X.kind x (x.sh g))
        have BN : Hid _ := pushed (g := g) HT.out R2.out (B.out.2.1.comp QF.out) (B6.mv B.out.2.2 QF.out (fun h => h)).out M2.out
        rw [← HS.out] at hr
        clear k0 k1 hlen3 R2 M2
        go_wp2_with (at_builtin; first | (refine wpList_append_given rfl _ _ 46 rfl _ _ _ W2 rfl rfl hr ?_))
        refine ⟨⟨i + 1, by omega, by go_num, BN⟩, by simp [intOf]; omega⟩
      · have HB : Hid (brk1 X.kind x (x.sh g) = x.sh g) := if_neg hlv
        have hd : decide (lvl x.kind < lvl X.kind) = false := decide_eq_false hlv
        go_wp2_with fail
        refine hsh.mono ?_
        rintro e2 w2 ⟨rfl, q2'⟩
        have PX2 := B6.mv PX.out q2'.out (fun h => h)
        have PB2 := B6.mv B.out.2.2 (QA.out.comp q2'.out) (fun h => h)
        have k0 := (B6.facts PX2).1
        have k1 := (B6.facts PB2).1
        have QW : Hid (Qt wr w2) := QA.out.comp q2'.out
        clear d0 d1 d2 d3 d4 d5 hsh
        go_wp2_with fail
        go_quiet ((first | (go_at_call 51; exact Calls.quiet_of_same (level_any _ _))))
        obtain ⟨W, hW⟩ : ∃ W, W = w2.drewN nq := ⟨_, rfl⟩
        have QF : Hid (Qt wr W) := by rw [hW]; exact QW.out.trans (Mv.drewN (fun _ => False) w2 nq) (fun _ _ h => h.elim)
        rw [← hW]
        clear hW
        have HW : Hid (w.heap.size < wr.heap.size) := B6.lt B.out.2.2
        have hlen3 : ((texts g X.kind X.args).take i).length < 90000 := by rw [List.length_take]; omega
        obtain ⟨v', W2, hr, R2, M2⟩ := (B.out.1.qt QF.out).push (Nat.lt_of_lt_of_le HW.out QF.out.size) hlen3 (brk1 X.kind x (x.sh g))
        have BN : Hid _ := pushed (g := g) HT.out R2.out (B.out.2.1.comp QF.out) (B6.mv B.out.2.2 QF.out (fun h => h)).out M2.out
        rw [HB.out] at hr
        clear k0 k1 hlen3 R2 M2
        go_wp2_with (at_builtin; first | (refine wpList_append_given rfl _ _ 46 rfl _ _ _ W2 rfl rfl hr ?_))
        refine ⟨⟨i + 1, by omega, by go_num, BN⟩, by simp [intOf]; omega⟩
    · obtain rfl : i = X.args.length := by omega
      have HE : Hid ((texts g X.kind X.args).take X.args.length = texts g X.kind X.args) := by show _ = _; rw [← texts_len g X.kind X.args, List.take_length]
      go_wp2_with fail
      go_ret
      exact ⟨_, rfl, by rw [← HE.out]; exact B.out.1, B.out.2.1⟩

end Go.Proofs.YtkclkhfcmjhogaaDoor
