/- A set's runs. -/
import Derived.Test.YtkclkhfcmjhogaaDoorMgA4
import Derived.Test.YtkclkhfcmjhogaaDoorMgA
namespace Go.Proofs.YtkclkhfcmjhogaaDoor
open Go.RowKit
set_option linter.unusedVariables false

/-- Where the run through b ends. -/
def Ends (p : Nat → Bool) (b e : Nat) : Prop := b ≤ e ∧ e < 256 ∧ (∀ c, b ≤ c → c ≤ e → p c = true) ∧ (e + 1 < 256 → p (e + 1) = false)

set_option maxHeartbeats 1000000 in
theorem last_none (p : Nat → Bool) (b : Nat) (hb : b < 256) (h : any (fun c => no p c && frm b c) = false) (w : World) :
    Calls Tryd.prog 90 #[sv p, .int .u8 (b : Int)] w fun e w' => e = .returned (.int .u8 255) ∧ Hid (Qt w w') := by
  have hs := fun W => since_any b W (by omega)
  have HL : Hid _ := h
  clear h
  rw [sv_cells]
  go_enter Tryd.func90, Tryd.ntmps90
  go_wp2_with fail
  refine (not_any p _).mono ?_
  rintro e w1 ⟨rfl, q1⟩
  go_wp2_with fail
  refine (hs _).mono ?_
  rintro e w2 ⟨rfl, q2⟩
  go_wp2_with fail
  refine (and_any (no p) (frm b) _).mono ?_
  rintro e w3 ⟨rfl, q3⟩
  go_wp2_with fail
  refine (least_none _ HL.out _).mono ?_
  rintro e w4 ⟨rfl, q4⟩
  go_wp2_with fail
  go_ret
  exact ⟨rfl, (((((Qt.refl w).alloc _).comp q1.out).comp q2.out).comp q3.out).comp q4.out⟩
set_option maxHeartbeats 1000000 in
theorem last_some (p : Nat → Bool) (b x : Nat) (hb : b < 256) (hx1 : 0 < x) (h : IsL (fun c => no p c && frm b c) x) (w : World) (hT : Tab w) :
    Calls Tryd.prog 90 #[sv p, .int .u8 (b : Int)] w fun e w' => e = .returned (.int .u8 ((x - 1 : Nat) : Int)) ∧ Hid (Qt w w') := by
  have hs := fun W => since_any b W (by omega)
  have hx2 := h.1
  have HL : Hid (IsL (fun c => no p c && frm b c) x) := h
  have HT : Hid (Tab w) := hT
  have hw : IntKind.u8.wrap ((x : Int) - 1) = ((x - 1 : Nat) : Int) := by rw [IntKind.wrap_u8]; omega
  have hw2 : (x : Int) - 1 = ((x - 1 : Nat) : Int) := by omega
  clear h hT
  rw [sv_cells]
  go_enter Tryd.func90, Tryd.ntmps90
  go_wp2_with fail
  refine (not_any p _).mono ?_
  rintro e w1 ⟨rfl, q1⟩
  go_wp2_with fail
  refine (hs _).mono ?_
  rintro e w2 ⟨rfl, q2⟩
  go_wp2_with fail
  refine (and_any (no p) (frm b) _).mono ?_
  rintro e w3 ⟨rfl, q3⟩
  go_wp2_with fail
  have Q3 : Hid (Qt w w3) := ((((Qt.refl w).alloc _).comp q1.out).comp q2.out).comp q3.out
  refine (least_some _ x HL.out _ (HT.out.qt Q3.out)).mono ?_
  rintro e w4 ⟨rfl, q4⟩
  clear hw2
  go_wp2_with fail
  go_ret
  exact ⟨by simp, Q3.out.comp q4.out⟩
theorem last_any (p : Nat → Bool) (b : Nat) (hb : b < 256) (hp : p b = true) (w : World) (hT : Tab w) :
    ∃ e, Ends p b e ∧ Calls Tryd.prog 90 #[sv p, .int .u8 (b : Int)] w fun r w' => r = .returned (.int .u8 (e : Int)) ∧ Hid (Qt w w') := by
  cases h : any (fun c => no p c && frm b c) with
  | false =>
    refine ⟨255, ⟨by omega, by omega, fun c h1 h2 => ?_, fun h => by omega⟩, last_none p b hb h w⟩
    have := any_false.1 h c (by omega)
    unfold no frm at this
    simp [h1] at this
    exact this
  | true =>
    obtain ⟨x, hx⟩ := isL_of_any h
    obtain ⟨h1, h2, h3⟩ := hx
    unfold no frm at h2 h3
    simp at h2 h3
    have hne : x ≠ b := by rintro rfl; rw [hp] at h2; exact absurd h2.1 (by simp)
    refine ⟨x - 1, ⟨by omega, by omega, fun c k1 k2 => ?_, fun _ => ?_⟩, last_some p b x hb (by omega) ⟨h1, by unfold no frm; simp [h2], fun c hc => by unfold no frm; simp; exact h3 c hc⟩ w hT⟩
    · have := h3 c (by omega)
      cases hpc : p c with
      | true => rfl
      | false => have := this hpc; omega
    · rw [show x - 1 + 1 = x from by omega]; exact h2.1

/-- Runs as cells. -/
def rc (R : List (Nat × Nat)) : List Value := R.flatMap fun r => [.int .u8 (r.1 : Int), .int .u8 (r.2 : Int)]
theorem rc_length (R : List (Nat × Nat)) : (rc R).length = R.length * 2 := by
  induction R with
  | nil => rfl
  | cons r R ih => unfold rc at *; rw [List.flatMap_cons, List.length_append, ih]; simp; omega
theorem rc_append (R Q : List (Nat × Nat)) : rc (R ++ Q) = rc R ++ rc Q := List.flatMap_append
theorem info58 : Tryd.prog.info? 99 = some Tryd.t99 := by kernel_rfl

/-- The least byte, if there is one. -/
def Lo (p : Nat → Bool) (o : Option Nat) : Prop := match o with
  | none => any p = false
  | some a => IsL p a
/-- While the runs are told: R are told, n is where it goes on, o the least byte from there. -/
structure Rr (w wr : World) (p : Nat → Bool) (v : Value) (R : List (Nat × Nat)) (n : Nat) (o : Option Nat) : Prop where
  own : wr.ownsRow (w.heap.size + 1) 99 2 v R.length (rc R)
  bk : wr.heap[w.heap.size]? = some (.cells #[.int .u64 (limb p 0), .int .u64 (limb p 1), .int .u64 (limb p 2), .int .u64 (limb p 3)] 25 (0, 0))
  qt : Qt w wr
  len : R.length ≤ n
  le : n ≤ 256
  spec : ∀ l, Runs p n l → Runs p 0 (R ++ l)
  next : Lo (fun c => p c && frm n c) o
theorem runs_snoc {p : Nat → Bool} {n a e : Nat} (ha : IsL (fun c => p c && frm n c) a) (he : Ends p a e) {l : List (Nat × Nat)} (h : Runs p (e + 1) l) : Runs p n ((a, e) :: l) := by
  obtain ⟨h1, h2, h3⟩ := ha
  unfold frm at h2 h3
  simp at h2 h3
  refine ⟨h2.2, he.1, he.2.1, fun c k1 k2 => ?_, he.2.2.1, he.2.2.2, h⟩
  cases hp : p c with
  | false => rfl
  | true => have := h3 c k2 hp; omega
theorem runs_nil {p : Nat → Bool} {n : Nat} (h : any (fun c => p c && frm n c) = false) : Runs p n [] := by
  intro b hn hb
  have := any_false.1 h b hb
  unfold frm at this
  simpa [hn] using this
theorem next_any (p : Nat → Bool) (w : World) (hT : Tab w) : ∃ o : Option Nat, Lo p o ∧ Calls Tryd.prog 89 #[sv p] w fun e w' => e = .returned (.tuple #[.int .u8 ((o.getD 0 : Nat) : Int), .bool o.isSome]) ∧ Hid (Qt w w') := by
  cases h : any p with
  | false => exact ⟨none, h, least_none p h w⟩
  | true =>
    obtain ⟨a, ha⟩ := isL_of_any h
    exact ⟨some a, ha, least_some p a ha w hT⟩

/-- What a region may read of W, and that nothing has turned since. -/
theorem hold5 {W w' : World} {g h : Nat} {u0 u1 u2 u3 u4 : Value} (c0 : Hid (W.cell? ⟨g, 0, none⟩ = some u0)) (c1 : Hid (W.cell? ⟨g, 1, none⟩ = some u1)) (c2 : Hid (W.cell? ⟨g, 2, none⟩ = some u2)) (c3 : Hid (W.cell? ⟨g, 3, none⟩ = some u3)) (c4 : Hid (W.cell? ⟨h, 1, none⟩ = some u4)) (q : Hid (Qt W w')) :
    w'.cell? ⟨g, 0, none⟩ = some u0 ∧ w'.cell? ⟨g, 1, none⟩ = some u1 ∧ w'.cell? ⟨g, 2, none⟩ = some u2 ∧ w'.cell? ⟨g, 3, none⟩ = some u3 ∧ w'.cell? ⟨h, 1, none⟩ = some u4 ∧ Hid (Qt W w') :=
  ⟨Qt.keep q c0.out, Qt.keep q c1.out, Qt.keep q c2.out, Qt.keep q c3.out, Qt.keep q c4.out, q⟩
theorem hold5q {W w' w'' : World} {A B C D E : Prop} (q : Hid (Qt w' w'')) (h : A ∧ B ∧ C ∧ D ∧ E ∧ Hid (Qt W w')) : Hid (Qt W w'') := h.2.2.2.2.2.out.comp q.out
/-- What runsOf tells. -/
def Rt (p : Nat → Bool) (w : World) (e : Ending) (w' : World) : Prop := ∃ (R : List (Nat × Nat)) (v : Value), e = .returned v ∧ Runs p 0 R ∧ w'.ownsRow w.heap.size 99 2 v R.length (rc R) ∧ Qt w w' ∧ R.length ≤ 256
/-- A round: the run from a to e is told. -/
theorem Rr.step {w wr W3 : World} {p : Nat → Bool} {v v3 : Value} {R : List (Nat × Nat)} {n a e : Nat} {o2 : Option Nat} (B : Rr w wr p v R n (some a)) (he : Ends p a e)
    (hown : W3.ownsRow (w.heap.size + 1) 99 2 v3 (R ++ [(a, e)]).length (rc (R ++ [(a, e)])))
    (hb : W3.heap[w.heap.size]? = some (.cells #[.int .u64 (limb p 0), .int .u64 (limb p 1), .int .u64 (limb p 2), .int .u64 (limb p 3)] 25 (0, 0)))
    (q : Qt w W3) (h2 : Lo (fun c => p c && frm (e + 1) c) o2) : Rr w W3 p v3 (R ++ [(a, e)]) (e + 1) o2 := by
  have ha : IsL (fun c => p c && frm n c) a := B.next
  have hle : n ≤ a := by have := ha.2.1; unfold frm at this; simp at this; exact this.2
  have := he.1
  have := he.2.1
  have := B.len
  refine ⟨hown, hb, q, by simp; omega, by omega, fun l hl => ?_, h2⟩
  rw [List.append_assoc]
  exact B.spec _ (runs_snoc ha he hl)

set_option maxHeartbeats 4000000 in
theorem runs_any (p : Nat → Bool) (w : World) (hT : Hid (Tab w)) :
    Calls Tryd.prog 75 #[sv p] w fun e w' => Rt p w e w' := by
  have hn : ∀ W, Hid (Qt w W) → ∃ o : Option Nat, Lo p o ∧ Calls Tryd.prog 89 #[sv p] W fun e w' => e = .returned (.tuple #[.int .u8 ((o.getD 0 : Nat) : Int), .bool o.isSome]) ∧ Hid (Qt W w') := fun W q => next_any p W (hT.out.qt q.out)
  obtain ⟨o, ho, hL⟩ := hn _ ((Qt.refl w).alloc (.cells #[.int .u64 (limb p 0), .int .u64 (limb p 1), .int .u64 (limb p 2), .int .u64 (limb p 3)] 25))
  have HO : Hid (Lo p o) := ho
  clear ho hn
  rw [sv_cells] at hL
  rw [sv_cells]
  go_enter Tryd.func75, Tryd.ntmps75
  go_wp2_with fail
  refine hL.mono ?_
  rintro e w1 ⟨rfl, q1⟩
  clear hL
  go_wp2_with fail
  have B0 : Hid (Rr w w1 p (.slice none 0 0) [] 0 o) := by
    have hf : (fun c => p c && frm 0 c) = p := by funext c; simp [frm]
    refine ⟨ow_nil _ _ _ _, ?_, ((Qt.refl w).alloc _).comp q1.out, by simp, by omega, fun l h => h, ?_⟩
    · rw [q1.out.block _ (by simp) (fun h => h)]; exact heap_alloc_new _ _
    · rw [hf]; exact HO.out
  go_loopw [3, 4, 5] (fun s3 s4 s5 wr => ∃ (R : List (Nat × Nat)) (n : Nat) (o : Option Nat), s4 = .int .u8 ((o.getD 0 : Nat) : Int) ∧ s5 = .bool o.isSome ∧ Hid (Rr w wr p s3 R n o)) (fun _ s4 s5 _ => match s5 with | .bool true => 256 - (intOf s4).toNat | _ => 0)
  case atStart => exact ⟨_, _, _, rfl, rfl, B0⟩
  case round =>
    clear B0 HO q1
    obtain ⟨R, n, o2, rfl, rfl, B⟩ := hrel
    obtain ⟨v, hv⟩ : ∃ v, v = u3 := ⟨_, rfl⟩
    subst hv
    match o2, B with
    | none, B =>
      go_wp2_with fail
      go_ret
      refine ⟨R, _, rfl, ?_, ow_mono B.out.own (fun j hj => Nat.le_of_succ_le (ow_blk B.out.own j hj).1), B.out.qt, Nat.le_trans B.out.len B.out.le⟩
      have := B.out.spec [] (runs_nil B.out.next)
      rwa [List.append_nil] at this
    | some a, B =>
      have ha : IsL (fun c => p c && frm n c) a := B.out.next
      have hpa : p a = true := by have := ha.2.1; simp at this; exact this.1
      have ha256 := ha.1
      obtain ⟨e, he, hE⟩ := last_any p a ha256 hpa wr (hT.out.qt B.out.qt)
      have HE : Hid (Ends p a e) := he
      have he256 : e < 256 := he.2.1
      rw [sv_cells] at hE
      have e0 := B.out.bk
      obtain ⟨k0, k1, k2, k3⟩ : wr.cell? ⟨w.heap.size, 0, none⟩ = some (.int .u64 (limb p 0)) ∧ wr.cell? ⟨w.heap.size, 1, none⟩ = some (.int .u64 (limb p 1)) ∧ wr.cell? ⟨w.heap.size, 2, none⟩ = some (.int .u64 (limb p 2)) ∧ wr.cell? ⟨w.heap.size, 3, none⟩ = some (.int .u64 (limb p 3)) := ⟨by simp [World.cell?, e0], by simp [World.cell?, e0], by simp [World.cell?, e0], by simp [World.cell?, e0]⟩
      clear he ha hpa e0
      go_wp2_with fail
      refine hE.mono ?_
      rintro e' w2 ⟨rfl, q2⟩
      clear hE k0 k1 k2 k3
      have qW : Qt w2 ((w2.alloc (.cells #[.int .u8 (a : Int), .int .u8 (e : Int)] 99)).alloc (.cells #[.int .u8 (a : Int), .int .u8 (e : Int)] 99)) := ((Qt.refl w2).alloc _).alloc _
      have hsz : w.heap.size < w2.heap.size := Nat.lt_of_lt_of_le (Array.getElem?_eq_some_iff.1 B.out.bk).1 q2.out.size
      have own2 := (q2.out.comp qW).owns B.out.own (fun _ _ h => h)
      obtain ⟨v3, W3, hr, hown3, hgr, hnb⟩ := append_ow 96 96 99 Tryd.t99 (.agg #[.int .u8 0, .int .u8 0]) 2 2 Tryd.underlying96 info58 (by kernel_rfl) (by kernel_rfl) (by kernel_rfl) (by rfl) (by omega) (by omega) ((w2.alloc (.cells #[.int .u8 (a : Int), .int .u8 (e : Int)] 99)).alloc (.cells #[.int .u8 (a : Int), .int .u8 (e : Int)] 99)) (w.heap.size + 1) v R.length 1 1 (rc R) [.int .u8 (a : Int), .int .u8 (e : Int)] (some ⟨w2.heap.size + 1, 0, none⟩) own2 (by have := Ls.new (w2.alloc (.cells #[.int .u8 (a : Int), .int .u8 (e : Int)] 99)) #[.int .u8 (a : Int), .int .u8 (e : Int)] 99; simpa using this) rfl (by intro u hu; simp at hu; rcases hu with rfl | rfl <;> rfl) (by have := B.out.len; have := B.out.le; omega) (by intro h; cases h) (by simp; omega)
      have N3 : Hid (Qt w W3 ∧ W3.ownsRow (w.heap.size + 1) 99 2 v3 (R ++ [(a, e)]).length (rc (R ++ [(a, e)])) ∧ W3.heap[w.heap.size]? = some (.cells #[.int .u64 (limb p 0), .int .u64 (limb p 1), .int .u64 (limb p 2), .int .u64 (limb p 3)] 25 (0, 0)) ∧ W3.heap[w2.heap.size]? = some (.cells #[.int .u8 (a : Int), .int .u8 (e : Int)] 99 (0, 0))) := by
        have mg := Mv.of_grown hgr
        have hlow : ∀ j, v.ownBlock = some j → w.heap.size + 1 ≤ j ∧ j < w2.heap.size := fun j hj => ⟨(ow_blk B.out.own j hj).1, Nat.lt_of_lt_of_le (ow_blk B.out.own j hj).2 q2.out.size⟩
        refine ⟨Mv.trans ((B.out.qt.comp q2.out).comp qW) mg (fun j hj h => ?_), ?_, ?_, ?_⟩
        · have := (hlow j h).1; omega
        · rw [rc_append, List.length_append]; exact hown3
        · rw [mg.block _ (by simp; omega) (fun h => by have := (hlow _ h).1; omega), qW.block _ hsz (fun h => h), q2.out.block _ (Array.getElem?_eq_some_iff.1 B.out.bk).1 (fun h => h)]; exact B.out.bk
        · rw [mg.block _ (by simp; omega) (fun h => by have := (hlow _ h).2; omega)]
          exact heap2a _ _ _
      clear own2 hown3 hgr hnb qW
      go_wp2_with (at_builtin; first | (refine wpList_append_given rfl _ _ 96 rfl _ _ _ W3 rfl rfl hr ?_))
      have hs2 := fun W => since_any (e + 1) W (by omega)
      rw [show ((e + 1 : Nat) : Int) = (e : Int) + 1 from by omega] at hs2
      have hA := fun W => and_any p (frm (e + 1)) W
      rw [sv_cells p] at hA
      have hw1 : IntKind.i64.wrap ((e : Int) + 1) = (e : Int) + 1 := by rw [IntKind.wrap_i64]; omega
      have hw3 : IntKind.i64.wrap (e : Int) = (e : Int) := by rw [IntKind.wrap_i64]; omega
      have e0 := N3.out.2.2.1
      have e1 := N3.out.2.2.2
      have C0 : Hid (W3.cell? ⟨w.heap.size, 0, none⟩ = some (.int .u64 (limb p 0))) := by show _ = _; simp [World.cell?, e0]
      have C1 : Hid (W3.cell? ⟨w.heap.size, 1, none⟩ = some (.int .u64 (limb p 1))) := by show _ = _; simp [World.cell?, e0]
      have C2 : Hid (W3.cell? ⟨w.heap.size, 2, none⟩ = some (.int .u64 (limb p 2))) := by show _ = _; simp [World.cell?, e0]
      have C3 : Hid (W3.cell? ⟨w.heap.size, 3, none⟩ = some (.int .u64 (limb p 3))) := by show _ = _; simp [World.cell?, e0]
      have C4 : Hid (W3.cell? ⟨w2.heap.size, 1, none⟩ = some (.int .u8 (e : Int))) := by show _ = _; simp [World.cell?, e1]
      have k0 := C0.out
      have k1 := C1.out
      have k2 := C2.out
      have k3 := C3.out
      have k4 := C4.out
      have DQ : Hid (Qt W3 W3.drew) := Mv.drewN _ W3 1
      clear e0 e1 hr hsz
      go_region_held3 (fun w' => w'.cell? ⟨w.heap.size, 0, none⟩ = some (.int .u64 (limb p 0)) ∧ w'.cell? ⟨w.heap.size, 1, none⟩ = some (.int .u64 (limb p 1)) ∧ w'.cell? ⟨w.heap.size, 2, none⟩ = some (.int .u64 (limb p 2)) ∧ w'.cell? ⟨w.heap.size, 3, none⟩ = some (.int .u64 (limb p 3)) ∧ w'.cell? ⟨w2.heap.size, 1, none⟩ = some (.int .u8 (e : Int)) ∧ Hid (Qt W3 w'))
        (first | (refine hold5 C0 C1 C2 C3 C4 ?_; first | exact hold5q (by assumption) (by assumption) | exact DQ | exact Qt.comp DQ.out (Hid.out (by assumption))))
        ((first
          | (go_at_call 92; with_reducible refine (hs2 _).mono ?_; rintro e4 w4 ⟨rfl, q4⟩)
          | (go_at_call 91; with_reducible refine (hA _).mono ?_; rintro e5 w5 ⟨rfl, q5⟩)
          | (go_at_call 89; obtain ⟨o3, ho3, hL3⟩ := next_any (fun c => p c && frm (e + 1) c) w5 (hT.out.qt (((N3.out.1.comp DQ.out).comp q4.out).comp q5.out)); refine hL3.mono ?_; rintro e6 w6 ⟨rfl, q6⟩)))
      have HO3 : Hid (Lo (fun c => p c && frm (e + 1) c) o3) := ho3
      have Q6 : Hid (Qt W3 w6) := ((DQ.out.comp q4.out).comp q5.out).comp q6.out
      have B6 : Hid (Rr w w6 p v3 (R ++ [(a, e)]) (e + 1) o3) := by
        refine B.out.step HE.out (Q6.out.owns N3.out.2.1 (fun _ _ h => h)) ?_ (N3.out.1.comp Q6.out) HO3.out
        rw [Q6.out.block _ (Array.getElem?_eq_some_iff.1 N3.out.2.2.1).1 (fun h => h)]; exact N3.out.2.2.1
      clear ho3 hL3 k0 k1 k2 k3 k4 hs2 hA hw1 hw3
      go_wp2_with fail
      refine ⟨⟨_, _, o3, rfl, rfl, B6⟩, ?_⟩
      have hae := HE.out.1
      cases o3 with
      | none => simp [intOf]; omega
      | some b =>
        have hb : IsL (fun c => p c && frm (e + 1) c) b := HO3.out
        have := hb.2.1
        unfold frm at this
        simp at this
        simp [intOf]; omega

end Go.Proofs.YtkclkhfcmjhogaaDoor
