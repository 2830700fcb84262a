/- The reference's Show. -/
import Derived.Test.YtkclkhfcmjhogaaDoorMgX
import Derived.Test.YtkclkhfcmjhogaaDoorMgN
import Derived.Test.YtkclkhfcmjhogaaDoorMgB
import Derived.Test.YtkclkhfcmjhogaaDoorMgD
namespace Go.Proofs.YtkclkhfcmjhogaaDoor
open Go.RowKit
set_option linter.unusedVariables false

theorem sum_take (l : List Nat) (i : Nat) : (l.take i).sum ≤ l.sum := by
  conv => rhs; rw [← List.take_append_drop i l]
  rw [List.sum_append]; omega
theorem pre_bound {g : (Nat → Bool) → List Nat} (hg : Gd g) (x : RX) (hn : x.nodes ≤ 40) (k : Int) (i : Nat) : (((texts g k x.args).take i).map (fun t => t.length + 1)).sum ≤ 120160 := by
  have h1 : ((x.args.map (fun a => (brk1 k a (a.sh g)).length + 1))).sum ≤ 3004 * (x.args.map RX.nodes).sum := sum_le (fun y hy => by have := sh_len hg y; have := brk1_len k y (y.sh g); omega)
  rw [List.map_take]
  refine Nat.le_trans (sum_take _ _) ?_
  unfold texts
  rw [List.map_map]
  have h2 : (List.map ((fun t => t.length + 1) ∘ fun a => brk1 k a (RX.sh g a)) x.args).sum = ((x.args.map (fun a => (brk1 k a (a.sh g)).length + 1))).sum := rfl
  rw [h2]
  rw [nodes_at] at hn
  omega
theorem flat_len (U : List (List Nat)) : U.flatten.length ≤ (U.map (fun t => t.length + 1)).sum := by
  induction U with
  | nil => simp
  | cons t U ih => simp only [List.map_cons, List.flatten_cons, List.length_append, List.sum_cons]; omega
theorem flat_succ {U : List (List Nat)} {i : Nat} {T : List Nat} (h : U[i]? = some T) : (U.take (i + 1)).flatten = (U.take i).flatten ++ T := by
  rw [List.take_add_one, h]
  simp
theorem inter_one (T : List Nat) : [124].intercalate [T] = T := by rw [inter_flat]; simp
theorem inter_succ {U : List (List Nat)} {i : Nat} {T : List Nat} (h : U[i]? = some T) (hi : 0 < i) : [124].intercalate (U.take (i + 1)) = [124].intercalate (U.take i) ++ 124 :: T := by
  have hl : i < U.length := (List.getElem?_eq_some_iff.1 h).1
  rw [List.take_add_one, h]
  cases hU : U.take i with
  | nil =>
    have := congrArg List.length hU
    rw [List.length_take, List.length_nil] at this
    omega
  | cons B A =>
    show [124].intercalate (B :: A ++ [T]) = _
    rw [List.cons_append, inter_flat, inter_flat, List.flatMap_append, List.append_assoc]
    simp
theorem inter_first {U : List (List Nat)} {T : List Nat} (h : U[0]? = some T) : [124].intercalate (U.take (0 + 1)) = [124].intercalate (U.take 0) ++ T := by
  rw [List.take_add_one, h]
  show [124].intercalate [T] = [] ++ T
  rw [inter_one]; rfl
theorem texts_at {g : (Nat → Bool) → List Nat} {k : Int} {l : List RX} {i : Nat} {a : RX} (h : l[i]? = some a) : (texts g k l)[i]? = some (brk1 k a (a.sh g)) := by
  unfold texts; rw [List.getElem?_map, h]; rfl
theorem txs_len {g : (Nat → Bool) → List Nat} {k : Int} {l : List RX} : (texts g k l).length = l.length := by unfold texts; simp
theorem brk_str (t : List Nat) : (⟨#[40]⟩ : ByteArray) ++ str t ++ ⟨#[41]⟩ = str (40 :: (t ++ [41])) := by
  rw [show (⟨#[40]⟩ : ByteArray) = str [40] from rfl, show (⟨#[41]⟩ : ByteArray) = str [41] from rfl, str_append, str_append]
  rfl

def RsC (g : (Nat → Bool) → List Nat) (x : RX) : Prop := ∀ (K : Nat → Prop) (a : Option Addr) (c : Nat) (w : World), Hid (Parts x.args K w a c) → x.formed = true → x.nodes ≤ 40 → Calls Tryd.prog 23 #[.agg #[.int .i64 x.kind, .int .u64 (limb x.set 0), .int .u64 (limb x.set 1), .int .u64 (limb x.set 2), .int .u64 (limb x.set 3), .slice a x.args.length c]] w fun e w' => e = .returned (.string (str (x.sh g))) ∧ Hid (Qt w w')

set_option maxRecDepth 20000 in
set_option maxHeartbeats 4000000 in
theorem rsh_set {g : (Nat → Bool) → List Nat} (hg : Gd g) (x : RX) (hk : x.kind = 1) : RsC g x := by
  intro K a c w HX hf hn
  have hsh : x.sh g = g x.set := by rw [sh_at, if_pos hk]
  have HS : Hid (∀ R, Runs x.set 0 R → str (shw R) = str (x.sh g)) := fun R h => by
    obtain ⟨R', h', e⟩ := hg x.set
    rw [hsh, e, Runs.one h h']
  have hr := rshow_any x.set (w.alloc (.cells #[.int .i64 x.kind, .int .u64 (limb x.set 0), .int .u64 (limb x.set 1), .int .u64 (limb x.set 2), .int .u64 (limb x.set 3), .slice a x.args.length c] 28))
  have PX : Hid (B6 w.heap.size (.int .i64 x.kind) (.int .u64 (limb x.set 0)) (.int .u64 (limb x.set 1)) (.int .u64 (limb x.set 2)) (.int .u64 (limb x.set 3)) (.slice a x.args.length c) (w.alloc (.cells #[.int .i64 x.kind, .int .u64 (limb x.set 0), .int .u64 (limb x.set 1), .int .u64 (limb x.set 2), .int .u64 (limb x.set 3), .slice a x.args.length c] 28))) := heap_alloc_new w _
  obtain ⟨k0, k1, k2, k3, k4, k5, _⟩ := B6.facts PX
  have hkb : (x.kind == 1) = true := by rw [hk]; rfl
  clear hf hn hk hsh
  go_enter Tryd.func23, Tryd.ntmps23
  go_wp2_with fail
  refine hr.mono ?_
  rintro e1 w1 ⟨R, hR, rfl, q1⟩
  rw [HS.out R hR]
  go_wp2_with fail
  go_ret
  exact ⟨rfl, ((Qt.refl w).alloc _).comp q1⟩

set_option maxRecDepth 20000 in
set_option maxHeartbeats 8000000 in
theorem rsh_k2 {g : (Nat → Bool) → List Nat} (hg : Gd g) (x : RX) (hk : x.kind = 2) (IH : ∀ z ∈ x.args, RsC g z) : RsC g x := by
  intro K a c w HX hf hn
  have HI : Hid _ := IH
  have HF : Hid _ := (formed_pts hf).2
  have HK : Hid (x.kind = 2) := hk
  have HG : Hid (Gd g) := hg
  have HN : Hid (x.nodes ≤ 40) := hn
  have HB : Hid (∀ i, (str (((texts g 2 x.args).take i).flatten)).size ≤ 120160) := fun i => by
    rw [str_size]
    exact Nat.le_trans (flat_len _) (pre_bound hg x hn 2 i)
  have HE : Hid (str (((texts g 2 x.args).take x.args.length).flatten) = str (x.sh g)) := by
    show _ = _
    rw [sh_at, if_neg (by omega), hk, List.take_of_length_le (by rw [txs_len]; exact Nat.le_refl _)]
    rfl
  have hbig : x.args.length < 140737488355328 := by obtain ⟨_, _, _, h, _⟩ := HX.out; exact h.1
  have hk1 : (x.kind == 1) = false := by rw [hk]; rfl
  have hk2 : (x.kind == 2) = true := by rw [hk]; rfl
  have hk3 : (x.kind == 3) = false := by rw [hk]; rfl
  have Q0 : Hid (Qt w (w.alloc (.cells #[.int .i64 x.kind, .int .u64 (limb x.set 0), .int .u64 (limb x.set 1), .int .u64 (limb x.set 2), .int .u64 (limb x.set 3), .slice a x.args.length c] 28))) := (Qt.refl w).alloc _
  have PX : Hid (B6 w.heap.size (.int .i64 x.kind) (.int .u64 (limb x.set 0)) (.int .u64 (limb x.set 1)) (.int .u64 (limb x.set 2)) (.int .u64 (limb x.set 3)) (.slice a x.args.length c) (w.alloc (.cells #[.int .i64 x.kind, .int .u64 (limb x.set 0), .int .u64 (limb x.set 1), .int .u64 (limb x.set 2), .int .u64 (limb x.set 3), .slice a x.args.length c] 28))) := heap_alloc_new w _
  obtain ⟨k0, k1, k2, k3, k4, k5, _⟩ := B6.facts PX
  clear IH hf hk hg hn
  go_enter Tryd.func23, Tryd.ntmps23
  go_wp2_with fail
  generalize w.alloc (.cells #[.int .i64 x.kind, .int .u64 (limb x.set 0), .int .u64 (limb x.set 1), .int .u64 (limb x.set 2), .int .u64 (limb x.set 3), .slice a x.args.length c] 28) = W0 at *
  clear k0 k1 k2 k3 k4 k5
  go_loopw [3, 4] (fun s3 s4 wr => ∃ i : Nat, i ≤ x.args.length ∧ s4 = .int .i64 i ∧ s3 = .string (str (((texts g 2 x.args).take i).flatten)) ∧ Hid (Qt W0 wr)) (fun _ s4 _ => x.args.length - (intOf s4).toNat)
  case atStart => exact ⟨0, by omega, rfl, rfl, Qt.refl W0⟩
  case round =>
    obtain ⟨i, hi, rfl, rfl, B⟩ := hrel
    have PW := B6.mv PX.out B.out (fun h => h)
    obtain ⟨k0, k1, k2, k3, k4, k5, _⟩ := B6.facts PW
    have hb0 := HB.out i
    by_cases hlt : i < x.args.length
    · obtain ⟨u, hu⟩ : ∃ u, x.args[i]? = some u := ⟨_, List.getElem?_eq_getElem hlt⟩
      have QW : Hid (Qt w wr) := Q0.out.comp B.out
      obtain ⟨bu, ou, au, cu, ea, pu, e0, e1, e2, e3, e4, e5⟩ := (HX.out.mv QW.out (fun _ _ h => h)).at hu
      subst ea
      have hlu := HF.out u (List.mem_of_getElem? hu)
      have hT := texts_at (g := g) (k := 2) hu
      have hnu : u.nodes ≤ 40 := by have := HN.out; rw [nodes_at] at this; have := mem_le_sum (List.mem_of_getElem? hu); have := List.length_pos_of_mem (List.mem_of_getElem? hu); omega
      have hul := sh_len HG.out u
      have hsu : (str (u.sh g)).size ≤ 120160 := by rw [str_size]; omega
      have hcall := HI.out u (List.mem_of_getElem? hu) K au cu wr (show Hid _ from pu) hlu.1 hnu
      have hku : u.kind = 3 ∨ u.kind ≠ 3 := by omega
      have hlv : lvl u.kind < lvl 2 ↔ u.kind = 3 := by
        have := lvl_of (formed_kd hlu.1).1
        have h2 : lvl 2 = 2 := rfl
        rw [h2]; omega
      clear hu pu hnu hul
      rcases hku with hku | hku
      · have hkb : (u.kind == 3) = true := by rw [hku]; rfl
        have E : Hid (str (((texts g 2 x.args).take i).flatten) ++ (((⟨#[40]⟩ : ByteArray) ++ str (u.sh g)) ++ (⟨#[41]⟩ : ByteArray)) = str (((texts g 2 x.args).take (i + 1)).flatten)) := by
          show _ = _
          rw [brk_str, flat_succ hT, str_append]
          unfold brk1
          rw [if_pos (hlv.2 hku)]
        have sz1 : ((⟨#[40]⟩ : ByteArray) ++ str (u.sh g)).size ≤ 120161 := by rw [size_add]; have : (⟨#[40]⟩ : ByteArray).size = 1 := rfl; omega
        have sz2 : (((⟨#[40]⟩ : ByteArray) ++ str (u.sh g)) ++ (⟨#[41]⟩ : ByteArray)).size ≤ 120162 := by rw [size_add]; have : (⟨#[41]⟩ : ByteArray).size = 1 := rfl; omega
        clear hku hlv hT hlu
        generalize str (u.sh g) = S at *
        generalize hT0 : str (((texts g 2 x.args).take i).flatten) = T at *
        go_wp2_with fail
        refine hcall.mono ?_
        rintro e9 w9 ⟨rfl, q9⟩
        obtain ⟨k0, k1, k2, k3, k4, k5, _⟩ := B6.facts (B6.mv PW.out q9.out (fun h => h))
        have f0 := Qt.keep q9 e0
        go_wp2_with fail
        exact ⟨⟨i + 1, by omega, by go_num, by rw [E.out], B.out.comp q9.out⟩, by simp [intOf]; omega⟩
      · have hkb : (u.kind == 3) = false := beq_false_of_ne hku
        have E : Hid (str (((texts g 2 x.args).take i).flatten) ++ str (u.sh g) = str (((texts g 2 x.args).take (i + 1)).flatten)) := by
          show _ = _
          rw [flat_succ hT, str_append]
          unfold brk1
          rw [if_neg (fun h => hku (hlv.1 h))]
        clear hku hlv hT hlu
        generalize str (u.sh g) = S at *
        generalize hT0 : str (((texts g 2 x.args).take i).flatten) = T at *
        go_wp2_with fail
        refine hcall.mono ?_
        rintro e9 w9 ⟨rfl, q9⟩
        obtain ⟨k0, k1, k2, k3, k4, k5, _⟩ := B6.facts (B6.mv PW.out q9.out (fun h => h))
        have f0 := Qt.keep q9 e0
        go_wp2_with fail
        exact ⟨⟨i + 1, by omega, by go_num, by rw [E.out], B.out.comp q9.out⟩, by simp [intOf]; omega⟩
    · obtain rfl : i = x.args.length := by omega
      obtain ⟨S, hS⟩ : ∃ S, S = str (x.sh g) := ⟨_, rfl⟩
      rw [HE.out, ← hS] at hb0 ⊢
      have HS : Hid (S = str (x.sh g)) := hS
      clear hS
      go_wp2_with fail
      go_ret
      exact ⟨by rw [← HS.out]; rfl, Q0.out.comp B.out⟩

set_option maxRecDepth 20000 in
set_option maxHeartbeats 8000000 in
theorem rsh_k3 {g : (Nat → Bool) → List Nat} (hg : Gd g) (x : RX) (hk : x.kind = 3) (IH : ∀ z ∈ x.args, RsC g z) : RsC g x := by
  intro K a c w HX hf hn
  have HI : Hid _ := IH
  have HF : Hid _ := (formed_pts hf).2
  have HK : Hid (x.kind = 3) := hk
  have HG : Hid (Gd g) := hg
  have HN : Hid (x.nodes ≤ 40) := hn
  have HB : Hid (∀ i, (str ([124].intercalate ((texts g 3 x.args).take i))).size ≤ 120160) := fun i => by
    rw [str_size]
    exact Nat.le_trans (inter_len _) (pre_bound hg x hn 3 i)
  have HE : Hid (str ([124].intercalate ((texts g 3 x.args).take x.args.length)) = str (x.sh g)) := by
    show _ = _
    rw [sh_at, if_neg (by omega), hk, List.take_of_length_le (by rw [txs_len]; exact Nat.le_refl _)]
    rfl
  have hbig : x.args.length < 140737488355328 := by obtain ⟨_, _, _, h, _⟩ := HX.out; exact h.1
  have hk1 : (x.kind == 1) = false := by rw [hk]; rfl
  have hk2 : (x.kind == 2) = false := by rw [hk]; rfl
  have hk3 : (x.kind == 3) = true := by rw [hk]; rfl
  have Q0 : Hid (Qt w (w.alloc (.cells #[.int .i64 x.kind, .int .u64 (limb x.set 0), .int .u64 (limb x.set 1), .int .u64 (limb x.set 2), .int .u64 (limb x.set 3), .slice a x.args.length c] 28))) := (Qt.refl w).alloc _
  have PX : Hid (B6 w.heap.size (.int .i64 x.kind) (.int .u64 (limb x.set 0)) (.int .u64 (limb x.set 1)) (.int .u64 (limb x.set 2)) (.int .u64 (limb x.set 3)) (.slice a x.args.length c) (w.alloc (.cells #[.int .i64 x.kind, .int .u64 (limb x.set 0), .int .u64 (limb x.set 1), .int .u64 (limb x.set 2), .int .u64 (limb x.set 3), .slice a x.args.length c] 28))) := heap_alloc_new w _
  obtain ⟨k0, k1, k2, k3, k4, k5, _⟩ := B6.facts PX
  clear IH hf hk hg hn
  go_enter Tryd.func23, Tryd.ntmps23
  go_wp2_with fail
  generalize w.alloc (.cells #[.int .i64 x.kind, .int .u64 (limb x.set 0), .int .u64 (limb x.set 1), .int .u64 (limb x.set 2), .int .u64 (limb x.set 3), .slice a x.args.length c] 28) = W0 at *
  clear k0 k1 k2 k3 k4 k5
  go_loopw [3, 4] (fun s3 s4 wr => ∃ i : Nat, i ≤ x.args.length ∧ s4 = .int .i64 i ∧ s3 = .string (str ([124].intercalate ((texts g 3 x.args).take i))) ∧ Hid (Qt W0 wr)) (fun _ s4 _ => x.args.length - (intOf s4).toNat)
  case atStart => exact ⟨0, by omega, rfl, rfl, Qt.refl W0⟩
  case round =>
    obtain ⟨i, hi, rfl, rfl, B⟩ := hrel
    have PW := B6.mv PX.out B.out (fun h => h)
    obtain ⟨k0, k1, k2, k3, k4, k5, _⟩ := B6.facts PW
    have hb0 := HB.out i
    by_cases hlt : i < x.args.length
    · obtain ⟨u, hu⟩ : ∃ u, x.args[i]? = some u := ⟨_, List.getElem?_eq_getElem hlt⟩
      have QW : Hid (Qt w wr) := Q0.out.comp B.out
      obtain ⟨bu, ou, au, cu, ea, pu, e0, e1, e2, e3, e4, e5⟩ := (HX.out.mv QW.out (fun _ _ h => h)).at hu
      subst ea
      have hlu := HF.out u (List.mem_of_getElem? hu)
      have hT := texts_at (g := g) (k := 3) hu
      have hnu : u.nodes ≤ 40 := by have := HN.out; rw [nodes_at] at this; have := mem_le_sum (List.mem_of_getElem? hu); have := List.length_pos_of_mem (List.mem_of_getElem? hu); omega
      have hul := sh_len HG.out u
      have hsu : (str (u.sh g)).size ≤ 120160 := by rw [str_size]; omega
      have hcall := HI.out u (List.mem_of_getElem? hu) K au cu wr (show Hid _ from pu) hlu.1 hnu
      have hlv : ¬ lvl u.kind < lvl 3 := by
        have := lvl_of (formed_kd hlu.1).1
        have h2 : lvl 3 = 1 := rfl
        rw [h2]; omega
      have hbr : brk1 3 u (u.sh g) = u.sh g := by unfold brk1; rw [if_neg hlv]
      rw [hbr] at hT
      clear hu pu hnu hul hlv hbr hlu
      by_cases h0 : i = 0
      · have E : Hid (str ([124].intercalate ((texts g 3 x.args).take i)) ++ str (u.sh g) = str ([124].intercalate ((texts g 3 x.args).take (i + 1)))) := by
          show _ = _
          rw [h0] at hT ⊢
          rw [inter_first hT, str_append]
        have hi0 : (i : Int) ≤ 0 := by omega
        clear h0 hT
        generalize str (u.sh g) = S at *
        generalize hT0 : str ([124].intercalate ((texts g 3 x.args).take i)) = T at *
        go_wp2_with fail
        refine hcall.mono ?_
        rintro e9 w9 ⟨rfl, q9⟩
        obtain ⟨k0, k1, k2, k3, k4, k5, _⟩ := B6.facts (B6.mv PW.out q9.out (fun h => h))
        go_wp2_with fail
        exact ⟨⟨i + 1, by omega, by go_num, by rw [E.out], B.out.comp q9.out⟩, by simp [intOf]; omega⟩
      · have E : Hid ((str ([124].intercalate ((texts g 3 x.args).take i)) ++ (⟨#[124]⟩ : ByteArray)) ++ str (u.sh g) = str ([124].intercalate ((texts g 3 x.args).take (i + 1)))) := by
          show _ = _
          rw [inter_succ hT (by omega), show (⟨#[124]⟩ : ByteArray) = str [124] from rfl, str_append, str_append]
          congr 1
          simp
        have hi0 : (0 : Int) < (i : Int) := by omega
        have sz1 : (str ([124].intercalate ((texts g 3 x.args).take i)) ++ (⟨#[124]⟩ : ByteArray)).size ≤ 120161 := by rw [size_add]; have : (⟨#[124]⟩ : ByteArray).size = 1 := rfl; omega
        clear h0 hT
        generalize str (u.sh g) = S at *
        generalize hT0 : str ([124].intercalate ((texts g 3 x.args).take i)) = T at *
        go_wp2_with fail
        refine hcall.mono ?_
        rintro e9 w9 ⟨rfl, q9⟩
        obtain ⟨k0, k1, k2, k3, k4, k5, _⟩ := B6.facts (B6.mv PW.out q9.out (fun h => h))
        go_wp2_with fail
        exact ⟨⟨i + 1, by omega, by go_num, by rw [E.out], B.out.comp q9.out⟩, by simp [intOf]; omega⟩
    · obtain rfl : i = x.args.length := by omega
      obtain ⟨S, hS⟩ : ∃ S, S = str (x.sh g) := ⟨_, rfl⟩
      rw [HE.out, ← hS] at hb0 ⊢
      have HS : Hid (S = str (x.sh g)) := hS
      clear hS
      go_wp2_with fail
      go_ret
      exact ⟨by rw [← HS.out]; rfl, Q0.out.comp B.out⟩

set_option maxRecDepth 20000 in
set_option maxHeartbeats 8000000 in
theorem rsh_sign {g : (Nat → Bool) → List Nat} (hg : Gd g) (x : RX) (k : Nat) (hk : x.kind = (k : Int) + 4) (hk3 : k < 3) (IH : ∀ z ∈ x.args, RsC g z) : RsC g x := by
  intro K a c w HX hf hn
  have HI : Hid _ := IH
  have hl : x.args.length = 1 := (formed_kd hf).2.2.2.2 (by omega)
  obtain ⟨u, hu⟩ : ∃ u, x.args = [u] := by
    match hx : x.args, hl with
    | [u], _ => exact ⟨u, rfl⟩
  have hu0 : x.args[0]? = some u := by rw [hu]; rfl
  have hmem : u ∈ x.args := List.mem_of_getElem? hu0
  have hlu := (formed_pts hf).2 u hmem
  have hkd := lvl_of (formed_kd hlu.1).1
  have hlx : lvl x.kind = 3 := by rw [hk]; unfold lvl; rcases (show k = 0 ∨ k = 1 ∨ k = 2 from by omega) with rfl | rfl | rfl <;> rfl
  have hnu : u.nodes ≤ 40 := by rw [nodes_at, hu] at hn; simp at hn; omega
  have hul := sh_len hg u
  have hsu : (str (u.sh g)).size ≤ 120160 := by rw [str_size]; omega
  have hsh : x.sh g = brk1 x.kind u (u.sh g) ++ [signC x.kind] := by
    rw [sh_at, if_neg (by omega), hu]
    unfold joinK
    rw [if_neg (by omega), if_neg (by omega)]
    rfl
  have hsg : (⟨#[(signC x.kind).toUInt8]⟩ : ByteArray) = str [signC x.kind] := rfl
  have hbig : x.args.length < 140737488355328 := by omega
  have hk1 : (x.kind == 1) = false := beq_false_of_ne (by omega)
  have hk2 : (x.kind == 2) = false := beq_false_of_ne (by omega)
  have hk3b : (x.kind == 3) = false := beq_false_of_ne (by omega)
  have hks : x.kind - 4 = (k : Int) := by omega
  have hl0 : (0 : Int) < (x.args.length : Int) := by omega
  have hl1 : 0 < x.args.length := by omega
  have Q0 : Hid (Qt w (w.alloc (.cells #[.int .i64 x.kind, .int .u64 (limb x.set 0), .int .u64 (limb x.set 1), .int .u64 (limb x.set 2), .int .u64 (limb x.set 3), .slice a x.args.length c] 28))) := (Qt.refl w).alloc _
  obtain ⟨bv, ov, av, cv, ea, pv, v0, v1, v2, v3, v4, v5⟩ := (HX.out.mv Q0.out (fun _ _ h => h)).at hu0
  subst ea
  have PX : Hid (B6 w.heap.size (.int .i64 x.kind) (.int .u64 (limb x.set 0)) (.int .u64 (limb x.set 1)) (.int .u64 (limb x.set 2)) (.int .u64 (limb x.set 3)) (.slice (some ⟨bv, ov, none⟩) x.args.length c) (w.alloc (.cells #[.int .i64 x.kind, .int .u64 (limb x.set 0), .int .u64 (limb x.set 1), .int .u64 (limb x.set 2), .int .u64 (limb x.set 3), .slice (some ⟨bv, ov, none⟩) x.args.length c] 28))) := heap_alloc_new w _
  obtain ⟨k0, k1, k2, k3, k4, k5, _⟩ := B6.facts PX
  simp only [Nat.zero_mul, Nat.add_zero] at v0 v1 v2 v3 v4 v5
  have hcall := HI.out u hmem K av cv _ (show Hid _ from pv) hlu.1 hnu
  have HSG : Hid (x.kind = (k : Int) + 4) := hk
  have hkf : k = 0 ∨ k = 1 ∨ k = 2 := by omega
  have HE1 : Hid (u.kind ≠ 1 → str (x.sh g) = (((⟨#[40]⟩ : ByteArray) ++ str (u.sh g)) ++ (⟨#[41]⟩ : ByteArray)) ++ str [signC x.kind]) := fun h => by
    rw [brk_str, str_append, hsh]
    unfold brk1
    rw [if_pos (by rw [hlx]; have := hlu.2; rw [hlx] at this; omega)]
  have HE2 : Hid (u.kind = 1 → str (x.sh g) = str (u.sh g) ++ str [signC x.kind]) := fun h => by
    rw [str_append, hsh]
    unfold brk1
    rw [if_neg (by rw [hlx]; omega)]
  have sz1 : ((⟨#[40]⟩ : ByteArray) ++ str (u.sh g)).size ≤ 120161 := by rw [size_add]; have : (⟨#[40]⟩ : ByteArray).size = 1 := rfl; omega
  have sz2 : (((⟨#[40]⟩ : ByteArray) ++ str (u.sh g)) ++ (⟨#[41]⟩ : ByteArray)).size ≤ 120162 := by rw [size_add]; have : (⟨#[41]⟩ : ByteArray).size = 1 := rfl; omega
  obtain ⟨S, hS⟩ : ∃ S, S = str (x.sh g) := ⟨_, rfl⟩
  rw [← hS]
  have HS : Hid (S = str (x.sh g)) := hS
  clear hS hsh hsg IH hf hk hn hul hnu hlu hkd hlx hu hu0 hl hmem pv
  generalize str (u.sh g) = T at *
  by_cases hu1 : u.kind = 1
  · have hub : (u.kind != 1) = false := by rw [hu1]; rfl
    have HE := HE2.out hu1
    clear hu1 HE1 HE2 sz1 sz2
    rcases hkf with rfl | rfl | rfl
    · have hks2 : x.kind - 4 = 0 := by rw [hks]; rfl
      have hb4 : 4 ≤ x.kind ∧ x.kind ≤ 6 := by have := HSG.out; omega
      have HE3 : Hid (S = T ++ (⟨#[42]⟩ : ByteArray)) := by
        show _ = _
        rw [HS.out, HE, HSG.out]
        rfl
      clear HE hks
      go_enter Tryd.func23, Tryd.ntmps23
      go_wp2_with fail
      refine hcall.mono ?_
      rintro e9 w9 ⟨rfl, q9⟩
      clear k0 k1 k2 k3 k4 k5
      obtain ⟨k0, k1, k2, k3, k4, k5, _⟩ := B6.facts (B6.mv PX.out q9.out (fun h => h))
      have f0 := Qt.keep q9 v0
      have HQ9 := Qt.keep (show Hid (Qt w9 (w9.alloc (.cells #[.string ⟨#[42]⟩, .string ⟨#[43]⟩, .string ⟨#[63]⟩] 9))) from Mv.alloc _ _ _) k0
      clear v0 v1 v2 v3 v4 v5
      go_wp2_with fail
      go_ret
      exact ⟨by rw [HE3.out]; rfl, (Q0.out.comp q9.out).alloc _⟩
    · have hks2 : x.kind - 4 = 1 := by rw [hks]; rfl
      have hb4 : 4 ≤ x.kind ∧ x.kind ≤ 6 := by have := HSG.out; omega
      have HE3 : Hid (S = T ++ (⟨#[43]⟩ : ByteArray)) := by
        show _ = _
        rw [HS.out, HE, HSG.out]
        rfl
      clear HE hks
      go_enter Tryd.func23, Tryd.ntmps23
      go_wp2_with fail
      refine hcall.mono ?_
      rintro e9 w9 ⟨rfl, q9⟩
      clear k0 k1 k2 k3 k4 k5
      obtain ⟨k0, k1, k2, k3, k4, k5, _⟩ := B6.facts (B6.mv PX.out q9.out (fun h => h))
      have f0 := Qt.keep q9 v0
      have HQ9 := Qt.keep (show Hid (Qt w9 (w9.alloc (.cells #[.string ⟨#[42]⟩, .string ⟨#[43]⟩, .string ⟨#[63]⟩] 9))) from Mv.alloc _ _ _) k0
      clear v0 v1 v2 v3 v4 v5
      go_wp2_with fail
      go_ret
      exact ⟨by rw [HE3.out]; rfl, (Q0.out.comp q9.out).alloc _⟩
    · have hks2 : x.kind - 4 = 2 := by rw [hks]; rfl
      have hb4 : 4 ≤ x.kind ∧ x.kind ≤ 6 := by have := HSG.out; omega
      have HE3 : Hid (S = T ++ (⟨#[63]⟩ : ByteArray)) := by
        show _ = _
        rw [HS.out, HE, HSG.out]
        rfl
      clear HE hks
      go_enter Tryd.func23, Tryd.ntmps23
      go_wp2_with fail
      refine hcall.mono ?_
      rintro e9 w9 ⟨rfl, q9⟩
      clear k0 k1 k2 k3 k4 k5
      obtain ⟨k0, k1, k2, k3, k4, k5, _⟩ := B6.facts (B6.mv PX.out q9.out (fun h => h))
      have f0 := Qt.keep q9 v0
      have HQ9 := Qt.keep (show Hid (Qt w9 (w9.alloc (.cells #[.string ⟨#[42]⟩, .string ⟨#[43]⟩, .string ⟨#[63]⟩] 9))) from Mv.alloc _ _ _) k0
      clear v0 v1 v2 v3 v4 v5
      go_wp2_with fail
      go_ret
      exact ⟨by rw [HE3.out]; rfl, (Q0.out.comp q9.out).alloc _⟩
  · have hub : (u.kind != 1) = true := bne_iff_ne.2 hu1
    have HE := HE1.out hu1
    clear hu1 HE1 HE2
    rcases hkf with rfl | rfl | rfl
    · have hks2 : x.kind - 4 = 0 := by rw [hks]; rfl
      have hb4 : 4 ≤ x.kind ∧ x.kind ≤ 6 := by have := HSG.out; omega
      have HE3 : Hid (S = (((⟨#[40]⟩ : ByteArray) ++ T) ++ (⟨#[41]⟩ : ByteArray)) ++ (⟨#[42]⟩ : ByteArray)) := by
        show _ = _
        rw [HS.out, HE, HSG.out]
        rfl
      clear HE hks
      go_enter Tryd.func23, Tryd.ntmps23
      go_wp2_with fail
      refine hcall.mono ?_
      rintro e9 w9 ⟨rfl, q9⟩
      clear k0 k1 k2 k3 k4 k5
      obtain ⟨k0, k1, k2, k3, k4, k5, _⟩ := B6.facts (B6.mv PX.out q9.out (fun h => h))
      have f0 := Qt.keep q9 v0
      have HQ9 := Qt.keep (show Hid (Qt w9 (w9.alloc (.cells #[.string ⟨#[42]⟩, .string ⟨#[43]⟩, .string ⟨#[63]⟩] 9))) from Mv.alloc _ _ _) k0
      clear v0 v1 v2 v3 v4 v5
      go_wp2_with fail
      go_ret
      exact ⟨by rw [HE3.out]; rfl, (Q0.out.comp q9.out).alloc _⟩
    · have hks2 : x.kind - 4 = 1 := by rw [hks]; rfl
      have hb4 : 4 ≤ x.kind ∧ x.kind ≤ 6 := by have := HSG.out; omega
      have HE3 : Hid (S = (((⟨#[40]⟩ : ByteArray) ++ T) ++ (⟨#[41]⟩ : ByteArray)) ++ (⟨#[43]⟩ : ByteArray)) := by
        show _ = _
        rw [HS.out, HE, HSG.out]
        rfl
      clear HE hks
      go_enter Tryd.func23, Tryd.ntmps23
      go_wp2_with fail
      refine hcall.mono ?_
      rintro e9 w9 ⟨rfl, q9⟩
      clear k0 k1 k2 k3 k4 k5
      obtain ⟨k0, k1, k2, k3, k4, k5, _⟩ := B6.facts (B6.mv PX.out q9.out (fun h => h))
      have f0 := Qt.keep q9 v0
      have HQ9 := Qt.keep (show Hid (Qt w9 (w9.alloc (.cells #[.string ⟨#[42]⟩, .string ⟨#[43]⟩, .string ⟨#[63]⟩] 9))) from Mv.alloc _ _ _) k0
      clear v0 v1 v2 v3 v4 v5
      go_wp2_with fail
      go_ret
      exact ⟨by rw [HE3.out]; rfl, (Q0.out.comp q9.out).alloc _⟩
    · have hks2 : x.kind - 4 = 2 := by rw [hks]; rfl
      have hb4 : 4 ≤ x.kind ∧ x.kind ≤ 6 := by have := HSG.out; omega
      have HE3 : Hid (S = (((⟨#[40]⟩ : ByteArray) ++ T) ++ (⟨#[41]⟩ : ByteArray)) ++ (⟨#[63]⟩ : ByteArray)) := by
        show _ = _
        rw [HS.out, HE, HSG.out]
        rfl
      clear HE hks
      go_enter Tryd.func23, Tryd.ntmps23
      go_wp2_with fail
      refine hcall.mono ?_
      rintro e9 w9 ⟨rfl, q9⟩
      clear k0 k1 k2 k3 k4 k5
      obtain ⟨k0, k1, k2, k3, k4, k5, _⟩ := B6.facts (B6.mv PX.out q9.out (fun h => h))
      have f0 := Qt.keep q9 v0
      have HQ9 := Qt.keep (show Hid (Qt w9 (w9.alloc (.cells #[.string ⟨#[42]⟩, .string ⟨#[43]⟩, .string ⟨#[63]⟩] 9))) from Mv.alloc _ _ _) k0
      clear v0 v1 v2 v3 v4 v5
      go_wp2_with fail
      go_ret
      exact ⟨by rw [HE3.out]; rfl, (Q0.out.comp q9.out).alloc _⟩

theorem rsh_any {g : (Nat → Bool) → List Nat} (hg : Gd g) : ∀ x : RX, RsC g x := by
  refine RX.ind ?_
  intro k p l ih K a c w HX hf hn
  rcases (formed_kd hf).1 with h | h | h | h | h | h
  · exact rsh_set hg ⟨k, p, l⟩ h K a c w HX hf hn
  · exact rsh_k2 hg ⟨k, p, l⟩ h ih K a c w HX hf hn
  · exact rsh_k3 hg ⟨k, p, l⟩ h ih K a c w HX hf hn
  · exact rsh_sign hg ⟨k, p, l⟩ 0 (by rw [h]; rfl) (by omega) ih K a c w HX hf hn
  · exact rsh_sign hg ⟨k, p, l⟩ 1 (by rw [h]; rfl) (by omega) ih K a c w HX hf hn
  · exact rsh_sign hg ⟨k, p, l⟩ 2 (by rw [h]; rfl) (by omega) ih K a c w HX hf hn

end Go.Proofs.YtkclkhfcmjhogaaDoor

namespace Go.Proofs.YtkclkhfcmjhogaaDoor
open Go.RowKit
set_option linter.unusedVariables false

variable {g : (Nat → Bool) → List Nat}
theorem whole_of {T : List Nat} {x : RX} (h : Rdd (altS (inn 13)) shut T x) (hm : may x = 0) : ∃ x', sameX x' x = true ∧ prsX T = .ok x' := by
  obtain ⟨x', hs, hr⟩ := h [] (.inl rfl)
  refine ⟨x', hs, ?_⟩
  rw [List.append_nil] at hr
  have hw : wholeS T = .ok x' := by
    unfold wholeS
    rw [altN_inn, hr]
  unfold prsX
  rw [hw]
  show (if may x' = 0 then Except.ok x' else .error (may x')) = _
  rw [same_may hs, if_pos hm]
/-- In one pair of brackets, in two. -/
theorem prs_group (hg : Gd g) {x : RX} (hm : may x = 0) : ∃ x', sameX x' x = true ∧ prsX (40 :: (x.sh g ++ [41])) = .ok x' := by
  obtain ⟨h1, h2, h3⟩ := may_small hm
  exact whole_of (up_alt (up_cat (up_rep (in_brackets ((bk_all hg x h1).2 12 (by omega)).alt)))) hm
theorem prs_group2 (hg : Gd g) {x : RX} (hm : may x = 0) : ∃ x', sameX x' x = true ∧ prsX (40 :: 40 :: (x.sh g ++ [41, 41])) = .ok x' := by
  obtain ⟨h1, h2, h3⟩ := may_small hm
  have h := whole_of (up_alt (up_cat (up_rep (in_brackets (up_alt (up_cat (up_rep (in_brackets ((bk_all hg x h1).2 11 (by omega)).alt)))))))) hm
  have e : 40 :: (40 :: (x.sh g ++ [41]) ++ [41]) = 40 :: 40 :: (x.sh g ++ [41, 41]) := by simp
  rw [e] at h
  exact h
/-- The parts that a bar joins. -/
def alts (x : RX) : List RX := if x.kind = 3 then x.args else [x]
theorem alts_ne {x : RX} (hf : x.formed = true) : alts x ≠ [] := by
  unfold alts
  split
  · next h => have := (formed_kd hf).2.2.2.1 (.inr h); intro e; rw [e] at this; simp at this
  · simp
theorem alts_kids {x : RX} (hf : x.formed = true) : ∀ a ∈ alts x, a.formed = true ∧ lvl a.kind ≠ 1 := by
  intro a ha
  unfold alts at ha
  split at ha
  · next h =>
    have := (formed_pts hf).2 a ha
    rw [h] at this
    exact this
  · next h =>
    have e : a = x := by simpa using ha
    rw [e]
    have := lvl_of (formed_kd hf).1
    exact ⟨hf, by omega⟩
theorem alts_text {x : RX} (hf : x.formed = true) : [124].intercalate (texts g 3 (alts x)) = x.sh g := by
  unfold alts
  split
  · next h => rw [sh_at, if_neg (by omega), h]; rfl
  · next h =>
    show [124].intercalate [brk1 3 x (x.sh g)] = _
    rw [inter_one]
    unfold brk1
    have := lvl_of (formed_kd hf).1
    have h3 : lvl 3 = 1 := rfl
    rw [if_neg (by rw [h3]; omega)]
theorem inter_app {U V : List (List Nat)} (hU : U ≠ []) (hV : V ≠ []) : [124].intercalate (U ++ V) = [124].intercalate U ++ 124 :: [124].intercalate V := by
  match U, V, hU, hV with
  | T :: U, R :: V, _, _ =>
    rw [List.cons_append, inter_flat, inter_flat, inter_flat, List.flatMap_append, List.flatMap_cons, List.append_assoc]
    simp
theorem alts_nodes {x : RX} : ((alts x).map RX.nodes).sum ≤ x.nodes := by
  unfold alts
  split
  · rw [nodes_at]; omega
  · simp
theorem alts_depth {x : RX} : ∀ a ∈ alts x, a.depth ≤ x.depth := by
  intro a ha
  unfold alts at ha
  split at ha
  · have h1 := depth_at x
    have := le_maxl (List.mem_map.2 ⟨a, ha, rfl⟩ : a.depth ∈ x.args.map RX.depth)
    omega
  · have e : a = x := by simpa using ha
    rw [e]; exact Nat.le_refl _
/-- What a bar makes of two. -/
def barX (x y : RX) : RX := ⟨3, fun _ => false, alts x ++ alts y⟩
theorem bar_may {x y : RX} (hx : x.formed = true) (hy : y.formed = true) (hn : x.nodes + y.nodes ≤ 39) (hd : x.depth ≤ 11 ∧ y.depth ≤ 11) : may (barX x y) = 0 := by
  have n1 := alts_nodes (x := x)
  have n2 := alts_nodes (x := y)
  refine may_of ?_ ?_ ?_
  · unfold barX
    rw [formed_eq, Bool.and_eq_true, Bool.and_eq_true, List.all_eq_true, List.all_eq_true]
    have h1 := List.length_pos_iff.2 (alts_ne hx)
    have h2 := List.length_pos_iff.2 (alts_ne hy)
    refine ⟨?_, fun a ha => ?_, fun a ha => ?_⟩
    · unfold node
      rw [any_none, if_pos (.inl rfl), List.length_append]
      simp; omega
    · rw [decide_eq_true_iff]
      have h3 : lvl 3 = 1 := rfl
      rw [h3]
      rcases List.mem_append.1 ha with h | h
      · exact (alts_kids hx a h).2
      · exact (alts_kids hy a h).2
    · rcases List.mem_append.1 ha with h | h
      · exact (alts_kids hx a h).1
      · exact (alts_kids hy a h).1
  · unfold barX
    rw [nodes_eq, List.map_append, List.sum_append]
    omega
  · unfold barX
    rw [depth_eq]
    have : maxl ((alts x ++ alts y).map RX.depth) ≤ 11 := maxl_le.2 (fun n hn => by
      obtain ⟨a, ha, rfl⟩ := List.mem_map.1 hn
      rcases List.mem_append.1 ha with h | h
      · have := alts_depth a h; omega
      · have := alts_depth a h; omega)
    omega
theorem prs_bar (hg : Gd g) {x y : RX} (hx : x.formed = true) (hy : y.formed = true) (hn : x.nodes + y.nodes ≤ 39) (hd : x.depth ≤ 11 ∧ y.depth ≤ 11) : ∃ r, sameX r (barX x y) = true ∧ prsX (x.sh g ++ 124 :: y.sh g) = .ok r := by
  have h := prsX_sh hg (bar_may hx hy hn hd)
  have e : (barX x y).sh g = x.sh g ++ 124 :: y.sh g := by
    unfold barX
    rw [sh_eq, if_neg (by decide)]
    show [124].intercalate (texts g 3 (alts x ++ alts y)) = _
    have ht : texts g 3 (alts x ++ alts y) = texts g 3 (alts x) ++ texts g 3 (alts y) := by unfold texts; rw [List.map_append]
    have ne : ∀ {z : RX}, z.formed = true → texts g 3 (alts z) ≠ [] := fun hz e => alts_ne hz (by unfold texts at e; simpa using e)
    rw [ht, inter_app (ne hx) (ne hy), alts_text hx, alts_text hy]
  rw [e] at h
  exact h
/-- A bracket that is not shut; one that was not opened. -/
theorem prs_open (hg : Gd g) {x : RX} (hm : may x = 0) : prsX (40 :: x.sh g) = .error 2 := by
  obtain ⟨h1, h2, h3⟩ := may_small hm
  obtain ⟨x', hs, hr⟩ := ((bk_all hg x h1).2 12 (by omega)).alt [] (.inl rfl)
  rw [List.append_nil] at hr
  have ha : atomS (inn 13) (40 :: x.sh g) = .error 2 := by
    have e2 : inn 13 (x.sh g) = .ok (x', []) := by
      show altN 12 _ = _
      rw [altN_inn]; exact hr
    simp [atomS, e2]
  have hrp : repS (inn 13) (40 :: x.sh g) = .error 2 := by unfold repS; rw [ha]
  have hct : catS (inn 13) (40 :: x.sh g) = .error 2 := by unfold catS; rw [hrp]
  have hat : altS (inn 13) (40 :: x.sh g) = .error 2 := by unfold altS; rw [hct]
  have hw : wholeS (40 :: x.sh g) = .error 2 := by unfold wholeS; rw [altN_inn, hat]
  unfold prsX
  rw [hw]
theorem prs_shut (hg : Gd g) {x : RX} (hm : may x = 0) : prsX (x.sh g ++ [41]) = .error 2 := by
  obtain ⟨h1, h2, h3⟩ := may_small hm
  obtain ⟨x', hs, hr⟩ := ((bk_all hg x h1).2 13 (by omega)).alt [41] (.inr ⟨[], rfl⟩)
  have hw : wholeS (x.sh g ++ [41]) = .error 2 := by unfold wholeS; rw [altN_inn, hr]
  unfold prsX
  rw [hw]

theorem row_one' {K : Nat → Prop} {w : World} : ∀ {l : List RX} {ys : List Value}, RX.lies.row l K w ys → ∀ u ∈ ys, u.oneCell' = true
  | [], ys, h, u, hu => by rw [RX.lies.row] at h; subst h; cases hu
  | x :: l, ys, h, u, hu => by
    rw [RX.lies.row] at h
    obtain ⟨cs, zs, rfl, h1, h2⟩ := h
    rcases List.mem_append.1 hu with hu | hu
    · obtain ⟨k, p, m⟩ := x
      obtain ⟨a, c, rfl, _⟩ := RX.lies_iff.1 h1
      exact cells6_one _ _ _ _ _ u hu
    · exact row_one' h2 u hu
/-- Many more. -/
theorem Ro.cat {base : Nat} {K : Nat → Prop} {w : World} {v : Value} {l m : List RX} {a : Option Addr} {c : Nat} (h : Ro base K w v l) (hb : base ≤ w.heap.size) (hl : l.length + m.length < 90000) (hK : ∀ j, K j → j < w.heap.size) (hm : Parts m K w a c) :
    ∃ v' W, (Builtin.append_ #[26, 26] 26 #[v, .slice a m.length c]).run Tryd.prog w = .ok v' W ∧ Hid (Ro base K W v' (l ++ m)) ∧ Hid (Mv (fun j => v.ownBlock = some j) w W) ∧ Hid (v'.ownBlock = v.ownBlock ∨ ∃ g, v'.ownBlock = some g ∧ w.heap.size ≤ g) := by
  obtain ⟨ys, h1, h2⟩ := h.ow
  obtain ⟨zs, p1, p2, p3, p4, p5⟩ := hm
  obtain ⟨v', W, hr, hown, hgr, hnb⟩ := append_ow 26 26 28 Tryd.t28 _ 6 64 Tryd.underlying26 info28' zero28 size28' bytes28 rfl (by decide) (by decide) w base v l.length m.length c ys zs a h1 p4 (row_len p5) (row_one' p5) (by omega) (fun e => ⟨by rw [(p3.2 e).1]; rfl, (p3.2 e).2⟩) hb
  have hmv : Mv (fun j => v.ownBlock = some j) w W := Mv.of_grown hgr
  refine ⟨v', W, hr, ⟨⟨ys ++ zs, ?_, ?_⟩, ?_⟩, hmv, hnb⟩
  · rw [List.length_append]; exact hown
  · exact row_append (row_mv hmv (fun j hj e => h.off j hj e) h2) (row_mv hmv (fun j hj e => h.off j hj e) p5)
  · intro j hj e
    rcases hnb with e2 | ⟨g, e2, hg⟩
    · exact h.off j hj (e2.symm.trans e)
    · have hg2 : g = j := by rw [e2] at e; exact Option.some.inj e
      have := hK j hj
      omega

/-- While what is wanted is made: gw its box, v its row; R the row of the two, behind the box. -/
structure Wt (w0 : World) (gw : Nat) (R : Array Value) (wr : World) (v : Value) (acc : List RX) : Prop where
  ro : Ro (gw + 2) (fun j => j < w0.heap.size) wr v acc
  r : B6 gw (.int .i64 3) (.int .u64 0) (.int .u64 0) (.int .u64 0) (.int .u64 0) v wr
  row : wr.heap[gw + 1]? = some (.cells R 28 (0, 0))
  mv : Qt w0 wr
  hg : w0.heap.size ≤ gw
theorem Wt.lt {w0 wr : World} {gw : Nat} {R : Array Value} {v : Value} {acc : List RX} (h : Wt w0 gw R wr v acc) : gw + 2 ≤ wr.heap.size := by
  have := (Array.getElem?_eq_some_iff.1 h.row).1
  omega
theorem Wt.blk {w0 wr : World} {gw : Nat} {R : Array Value} {v : Value} {acc : List RX} (h : Wt w0 gw R wr v acc) : ∀ j, v.ownBlock = some j → gw + 2 ≤ j ∧ j < wr.heap.size := by
  obtain ⟨ys, h1, _⟩ := h.ro.ow
  exact ow_blk h1
theorem Wt.qt {w0 wr wr' : World} {gw : Nat} {R : Array Value} {v : Value} {acc : List RX} (h : Wt w0 gw R wr v acc) (q : Qt wr wr') : Wt w0 gw R wr' v acc :=
  ⟨h.ro.mv q (fun _ _ h => h) (fun _ _ h => h), (B6.mv h.r q (fun h => h)).out, (q.block _ (Array.getElem?_eq_some_iff.1 h.row).1 (fun h => h)).trans h.row, h.mv.comp q, h.hg⟩
theorem Wt.put {w0 wr W : World} {gw : Nat} {R : Array Value} {v v' : Value} {acc acc' : List RX} (h : Wt w0 gw R wr v acc) (hr : Ro (gw + 2) (fun j => j < w0.heap.size) W v' acc') (m : Mv (fun j => v.ownBlock = some j) wr W) : Hid (B6 gw (.int .i64 3) (.int .u64 0) (.int .u64 0) (.int .u64 0) (.int .u64 0) v W) ∧ Hid (Wt w0 gw R (W.setCell ⟨gw, 5, none⟩ v') v' acc') := by
  have hb := h.blk
  have hg := h.hg
  have hR := B6.mv h.r m (fun e => by have := hb gw e; omega)
  have mg := Mv.setCell W ⟨gw, 5, none⟩ v'
  have hv' : ∀ j, v'.ownBlock = some j → gw + 2 ≤ j ∧ j < W.heap.size := by
    obtain ⟨ys, h1, _⟩ := hr.ow
    exact ow_blk h1
  have hrow : W.heap[gw + 1]? = some (.cells R 28 (0, 0)) := (m.block _ (Array.getElem?_eq_some_iff.1 h.row).1 (fun e => by have := hb _ e; omega)).trans h.row
  refine ⟨hR, ⟨hr.mv mg (fun j hj e => by simp at e; omega) (fun j hj e => by have := hv' j hj; simp at e; omega), heap_set hR.out, (mg.block _ (Array.getElem?_eq_some_iff.1 hrow).1 (by simp)).trans hrow, ?_, hg⟩⟩
  exact (h.mv.trans m (fun j hj e => by have := hb j e; omega)).trans mg (fun j hj e => by simp at e; omega)
theorem Wt.new {w0 : World} {R : Array Value} : Hid (Wt w0 w0.heap.size R ((w0.alloc (.cells #[.int .i64 3, .int .u64 0, .int .u64 0, .int .u64 0, .int .u64 0, .slice none 0 0] 28)).alloc (.cells R 28)) (.slice none 0 0) []) := by
  have h := heap_alloc_new (w0.alloc (.cells #[.int .i64 3, .int .u64 0, .int .u64 0, .int .u64 0, .int .u64 0, .slice none 0 0] 28)) (.cells R 28)
  rw [show (w0.alloc (.cells #[.int .i64 3, .int .u64 0, .int .u64 0, .int .u64 0, .int .u64 0, .slice none 0 0] 28)).heap.size = w0.heap.size + 1 from by simp] at h
  exact ⟨⟨⟨[], ow_nil _ _ _ _, rfl⟩, (fun j hj e => nomatch e)⟩, (B6.mv (heap_alloc_new w0 _) (Mv.alloc (fun _ => False) _ _) (fun h => h)).out, h, ((Qt.refl w0).alloc _).alloc _, Nat.le_refl _⟩
/-- All of a part's parts. -/
theorem Wt.cat {w0 wr : World} {gw : Nat} {R : Array Value} {v : Value} {acc m : List RX} {a : Option Addr} {c : Nat} (h : Wt w0 gw R wr v acc) (hl : acc.length + m.length < 90000) (hm : Parts m (fun j => j < w0.heap.size) wr a c) :
    ∃ v' W, (Builtin.append_ #[26, 26] 26 #[v, .slice a m.length c]).run Tryd.prog wr = .ok v' W ∧ (∃ va vc, v' = .slice va (acc ++ m).length vc) ∧ Hid (B6 gw (.int .i64 3) (.int .u64 0) (.int .u64 0) (.int .u64 0) (.int .u64 0) v W) ∧ Hid (Wt w0 gw R (W.setCell ⟨gw, 5, none⟩ v') v' (acc ++ m)) := by
  obtain ⟨v', W, hr, ro, m2, _⟩ := h.ro.cat h.lt hl (fun j hj => Nat.lt_of_lt_of_le hj h.mv.size) hm
  refine ⟨v', W, hr, ?_, h.put ro.out m2.out⟩
  obtain ⟨ys, h1, _⟩ := ro.out.ow
  obtain ⟨va, vc, e, _⟩ := ow_ls h1
  exact ⟨va, vc, e⟩
/-- One part. -/
theorem Wt.one {w0 wr : World} {gw : Nat} {R : Array Value} {v : Value} {acc : List RX} {x : RX} {a : Option Addr} {c : Nat} (h : Wt w0 gw R wr v acc) (hl : acc.length < 90000) (hm : Parts x.args (fun j => j < w0.heap.size) wr a c) :
    ∃ v' W, (Builtin.append_ #[26, 26] 26 #[v, .slice (some ⟨wr.heap.size, 0, none⟩) 1 1]).run Tryd.prog (wr.alloc (.cells #[.int .i64 x.kind, .int .u64 (limb x.set 0), .int .u64 (limb x.set 1), .int .u64 (limb x.set 2), .int .u64 (limb x.set 3), .slice a x.args.length c] 28)) = .ok v' W ∧ (∃ va vc, v' = .slice va (acc ++ [x]).length vc) ∧ Hid (B6 gw (.int .i64 3) (.int .u64 0) (.int .u64 0) (.int .u64 0) (.int .u64 0) v W) ∧ Hid (Wt w0 gw R (W.setCell ⟨gw, 5, none⟩ v') v' (acc ++ [x])) := by
  obtain ⟨v', W, hr, ro, m2, _⟩ := h.ro.push h.lt hl (fun j hj => Nat.lt_of_lt_of_le hj h.mv.size) hm
  refine ⟨v', W, hr, ?_, h.put ro.out m2.out⟩
  obtain ⟨ys, h1, _⟩ := ro.out.ow
  obtain ⟨va, vc, e, _⟩ := ow_ls h1
  exact ⟨va, vc, e⟩
/-- It is made. -/
theorem Wt.tr {w0 wr : World} {gw : Nat} {R : Array Value} {va : Option Addr} {vn vc : Nat} {acc : List RX} (h : Wt w0 gw R wr (.slice va vn vc) acc) (hl : acc.length < 90000) (hT : Tab wr) : Hid (Tr ⟨3, fun _ => false, acc⟩ va vc gw wr) := by
  obtain ⟨a, c, hv, hp, _⟩ := h.ro.sl (by omega)
  obtain ⟨rfl, rfl, rfl⟩ := Value.slice.inj hv
  refine ⟨hp.mono (fun j hj => ?_), ?_, hT⟩
  · rcases hj with hj | hj
    · exact Nat.lt_of_lt_of_le hj h.mv.size
    · exact (h.blk j hj).2
  · have := h.r
    show wr.heap[gw]? = some (.cells #[.int .i64 3, .int .u64 (limb (fun _ => false) 0), .int .u64 (limb (fun _ => false) 1), .int .u64 (limb (fun _ => false) 2), .int .u64 (limb (fun _ => false) 3), .slice va acc.length vc] 28 (0, 0))
    rw [limb_none, limb_none, limb_none, limb_none]
    exact this
theorem Wt.cells {w0 wr : World} {gw : Nat} {u0 u1 u2 u3 u4 u5 u6 u7 u8 u9 u10 u11 v : Value} {acc : List RX} (h : Hid (Wt w0 gw #[u0, u1, u2, u3, u4, u5, u6, u7, u8, u9, u10, u11] wr v acc)) :
    wr.cell? ⟨gw + 1, 0, none⟩ = some u0 ∧ wr.cell? ⟨gw + 1, 1, none⟩ = some u1 ∧ wr.cell? ⟨gw + 1, 2, none⟩ = some u2 ∧ wr.cell? ⟨gw + 1, 3, none⟩ = some u3 ∧ wr.cell? ⟨gw + 1, 4, none⟩ = some u4 ∧ wr.cell? ⟨gw + 1, 5, none⟩ = some u5 ∧ wr.cell? ⟨gw + 1, 6, none⟩ = some u6 ∧ wr.cell? ⟨gw + 1, 7, none⟩ = some u7 ∧ wr.cell? ⟨gw + 1, 8, none⟩ = some u8 ∧ wr.cell? ⟨gw + 1, 9, none⟩ = some u9 ∧ wr.cell? ⟨gw + 1, 10, none⟩ = some u10 ∧ wr.cell? ⟨gw + 1, 11, none⟩ = some u11 := by
  have hr := h.out.row
  refine ⟨?_, ?_, ?_, ?_, ?_, ?_, ?_, ?_, ?_, ?_, ?_, ?_⟩ <;> simp [World.cell?, hr]
def accs (x y : RX) : Nat → List RX
  | 0 => []
  | 1 => alts x
  | _ => alts x ++ alts y
/-- An append whose end is known, in a region that draws. -/
theorem step_given {P : Program} {ops : Array Oper} {o : Oper} {a : Act} {w : World} {K : Act → World → Prop} {Q : Exit → Act → World → Prop} {E : Prop}
    (hg : o.guard = none) (s x : Operand) (t : TypeId) (hop : o.op = Op.call { callee := Callee.builtin Builtin.append, args := #[s, x], argTypes := #[t, t] })
    (sv xv v' : Value) (hs : a.eval s = sv) (hx : a.eval x = xv) (W : World) (hr : (Builtin.append_ #[t, t] o.type #[sv, xv]).run P w = .ok v' W)
    (hK : K (a.put o.dst v') W) : if Region.wanted o (yielded ops a.tmps) = true then Oper.wp P o a w K Q else E := by
  have hw : Region.wanted o (yielded ops a.tmps) = true := by simp [Region.wanted, hg]
  rw [if_pos hw]
  unfold Oper.wp
  simp [execOp, hop, resolve, invoke, builtin, hs, hx, hr, Result.andThen]
  exact hK

end Go.Proofs.YtkclkhfcmjhogaaDoor
