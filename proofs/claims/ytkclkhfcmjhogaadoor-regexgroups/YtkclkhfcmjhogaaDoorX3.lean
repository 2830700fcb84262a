/- The reference's Show. -/
import Derived.Test.YtkclkhfcmjhogaaDoorX2
import Derived.Test.YtkclkhfcmjhogaaDoorR11
import Derived.Test.YtkclkhfcmjhogaaDoorRM
namespace Go.Proofs.YtkclkhfcmjhogaaDoor
open Go.RowKit
set_option linter.unusedVariables false

theorem sum_take (l : List Nat) (i : Nat) : (l.take i).sum ≤ l.sum := by
  conv => rhs; rw [← List.take_append_drop i l]
  rw [List.sum_append]; omega
theorem pre_bound {g : (Nat → Bool) → List Nat} (hg : Gd g) (x : RX) (hn : x.nodes ≤ 40) (k : Int) (i : Nat) : (((texts g k x.args).take i).map (fun t => t.length + 1)).sum ≤ 120160 := by
  have h1 : ((x.args.map (fun a => (brk1 k a (a.sh g)).length + 1))).sum ≤ 3004 * (x.args.map RX.nodes).sum := sum_le (fun y hy => by have := sh_len hg y; have := brk1_len k y (y.sh g); omega)
  rw [List.map_take]
  refine Nat.le_trans (sum_take _ _) ?_
  unfold texts
  rw [List.map_map]
  have h2 : (List.map ((fun t => t.length + 1) ∘ fun a => brk1 k a (RX.sh g a)) x.args).sum = ((x.args.map (fun a => (brk1 k a (a.sh g)).length + 1))).sum := rfl
  rw [h2]
  rw [nodes_at] at hn
  omega
theorem flat_len (U : List (List Nat)) : U.flatten.length ≤ (U.map (fun t => t.length + 1)).sum := by
  induction U with
  | nil => simp
  | cons t U ih => simp only [List.map_cons, List.flatten_cons, List.length_append, List.sum_cons]; omega
theorem flat_succ {U : List (List Nat)} {i : Nat} {T : List Nat} (h : U[i]? = some T) : (U.take (i + 1)).flatten = (U.take i).flatten ++ T := by
  rw [List.take_add_one, h]
  simp
theorem inter_one (T : List Nat) : [124].intercalate [T] = T := by rw [inter_flat]; simp
theorem inter_succ {U : List (List Nat)} {i : Nat} {T : List Nat} (h : U[i]? = some T) (hi : 0 < i) : [124].intercalate (U.take (i + 1)) = [124].intercalate (U.take i) ++ 124 :: T := by
  have hl : i < U.length := (List.getElem?_eq_some_iff.1 h).1
  rw [List.take_add_one, h]
  cases hU : U.take i with
  | nil =>
    have := congrArg List.length hU
    rw [List.length_take, List.length_nil] at this
    omega
  | cons B A =>
    show [124].intercalate (B :: A ++ [T]) = _
    rw [List.cons_append, inter_flat, inter_flat, List.flatMap_append, List.append_assoc]
    simp
theorem inter_first {U : List (List Nat)} {T : List Nat} (h : U[0]? = some T) : [124].intercalate (U.take (0 + 1)) = [124].intercalate (U.take 0) ++ T := by
  rw [List.take_add_one, h]
  show [124].intercalate [T] = [] ++ T
  rw [inter_one]; rfl
theorem texts_at {g : (Nat → Bool) → List Nat} {k : Int} {l : List RX} {i : Nat} {a : RX} (h : l[i]? = some a) : (texts g k l)[i]? = some (brk1 k a (a.sh g)) := by
  unfold texts; rw [List.getElem?_map, h]; rfl
theorem txs_len {g : (Nat → Bool) → List Nat} {k : Int} {l : List RX} : (texts g k l).length = l.length := by unfold texts; simp
theorem brk_str (t : List Nat) : (⟨#[40]⟩ : ByteArray) ++ str t ++ ⟨#[41]⟩ = str (40 :: (t ++ [41])) := by
  rw [show (⟨#[40]⟩ : ByteArray) = str [40] from rfl, show (⟨#[41]⟩ : ByteArray) = str [41] from rfl, str_append, str_append]
  rfl

def RsC (g : (Nat → Bool) → List Nat) (x : RX) : Prop := ∀ (K : Nat → Prop) (a : Option Addr) (c : Nat) (w : World), Hid (Parts x.args K w a c) → x.formed = true → x.nodes ≤ 40 → Calls Tryd.prog 23 #[.agg #[.int .i64 x.kind, .int .u64 (limb x.set 0), .int .u64 (limb x.set 1), .int .u64 (limb x.set 2), .int .u64 (limb x.set 3), .slice a x.args.length c]] w fun e w' => e = .returned (.string (str (x.sh g))) ∧ Hid (Qt w w')

set_option maxRecDepth 20000 in
set_option maxHeartbeats 4000000 in
theorem rsh_set {g : (Nat → Bool) → List Nat} (hg : Gd g) (x : RX) (hk : x.kind = 1) : RsC g x := by
  intro K a c w HX hf hn
  have hsh : x.sh g = g x.set := by rw [sh_at, if_pos hk]
  have HS : Hid (∀ R, Runs x.set 0 R → str (shw R) = str (x.sh g)) := fun R h => by
    obtain ⟨R', h', e⟩ := hg x.set
    rw [hsh, e, Runs.one h h']
  have hr := rshow_any x.set (w.alloc (.cells #[.int .i64 x.kind, .int .u64 (limb x.set 0), .int .u64 (limb x.set 1), .int .u64 (limb x.set 2), .int .u64 (limb x.set 3), .slice a x.args.length c] 28))
  have PX : Hid (B6 w.heap.size (.int .i64 x.kind) (.int .u64 (limb x.set 0)) (.int .u64 (limb x.set 1)) (.int .u64 (limb x.set 2)) (.int .u64 (limb x.set 3)) (.slice a x.args.length c) (w.alloc (.cells #[.int .i64 x.kind, .int .u64 (limb x.set 0), .int .u64 (limb x.set 1), .int .u64 (limb x.set 2), .int .u64 (limb x.set 3), .slice a x.args.length c] 28))) := heap_alloc_new w _
  obtain ⟨k0, k1, k2, k3, k4, k5, _⟩ := B6.facts PX
  have hkb : (x.kind == 1) = true := by rw [hk]; rfl
  clear hf hn hk hsh
  go_enter Tryd.func23, Tryd.ntmps23
  go_wp2_with fail
  refine hr.mono ?_
  rintro e1 w1 ⟨R, hR, rfl, q1⟩
  rw [HS.out R hR]
  go_wp2_with fail
  go_ret
  exact ⟨rfl, ((Qt.refl w).alloc _).comp q1⟩

set_option maxRecDepth 20000 in
set_option maxHeartbeats 8000000 in
theorem rsh_k2 {g : (Nat → Bool) → List Nat} (hg : Gd g) (x : RX) (hk : x.kind = 2) (IH : ∀ z ∈ x.args, RsC g z) : RsC g x := by
  intro K a c w HX hf hn
  have HI : Hid _ := IH
  have HF : Hid _ := (formed_pts hf).2
  have HK : Hid (x.kind = 2) := hk
  have HG : Hid (Gd g) := hg
  have HN : Hid (x.nodes ≤ 40) := hn
  have HB : Hid (∀ i, (str (((texts g 2 x.args).take i).flatten)).size ≤ 120160) := fun i => by
    rw [str_size]
    exact Nat.le_trans (flat_len _) (pre_bound hg x hn 2 i)
  have HE : Hid (str (((texts g 2 x.args).take x.args.length).flatten) = str (x.sh g)) := by
    show _ = _
    rw [sh_at, if_neg (by omega), hk, List.take_of_length_le (by rw [txs_len]; exact Nat.le_refl _)]
    rfl
  have hbig : x.args.length < 140737488355328 := by obtain ⟨_, _, _, h, _⟩ := HX.out; exact h.1
  have hk1 : (x.kind == 1) = false := by rw [hk]; rfl
  have hk2 : (x.kind == 2) = true := by rw [hk]; rfl
  have hk3 : (x.kind == 3) = false := by rw [hk]; rfl
  have Q0 : Hid (Qt w (w.alloc (.cells #[.int .i64 x.kind, .int .u64 (limb x.set 0), .int .u64 (limb x.set 1), .int .u64 (limb x.set 2), .int .u64 (limb x.set 3), .slice a x.args.length c] 28))) := (Qt.refl w).alloc _
  have PX : Hid (B6 w.heap.size (.int .i64 x.kind) (.int .u64 (limb x.set 0)) (.int .u64 (limb x.set 1)) (.int .u64 (limb x.set 2)) (.int .u64 (limb x.set 3)) (.slice a x.args.length c) (w.alloc (.cells #[.int .i64 x.kind, .int .u64 (limb x.set 0), .int .u64 (limb x.set 1), .int .u64 (limb x.set 2), .int .u64 (limb x.set 3), .slice a x.args.length c] 28))) := heap_alloc_new w _
  obtain ⟨k0, k1, k2, k3, k4, k5, _⟩ := B6.facts PX
  clear IH hf hk hg hn
  go_enter Tryd.func23, Tryd.ntmps23
  go_wp2_with fail
  generalize w.alloc (.cells #[.int .i64 x.kind, .int .u64 (limb x.set 0), .int .u64 (limb x.set 1), .int .u64 (limb x.set 2), .int .u64 (limb x.set 3), .slice a x.args.length c] 28) = W0 at *
  clear k0 k1 k2 k3 k4 k5
  go_loopw [3, 4] (fun s3 s4 wr => ∃ i : Nat, i ≤ x.args.length ∧ s4 = .int .i64 i ∧ s3 = .string (str (((texts g 2 x.args).take i).flatten)) ∧ Hid (Qt W0 wr)) (fun _ s4 _ => x.args.length - (intOf s4).toNat)
  case atStart => exact ⟨0, by omega, rfl, rfl, Qt.refl W0⟩
  case round =>
    obtain ⟨i, hi, rfl, rfl, B⟩ := hrel
    have PW := B6.mv PX.out B.out (fun h => h)
    obtain ⟨k0, k1, k2, k3, k4, k5, _⟩ := B6.facts PW
    have hb0 := HB.out i
    by_cases hlt : i < x.args.length
    · obtain ⟨u, hu⟩ : ∃ u, x.args[i]? = some u := ⟨_, List.getElem?_eq_getElem hlt⟩
      have QW : Hid (Qt w wr) := Q0.out.comp B.out
      obtain ⟨bu, ou, au, cu, ea, pu, e0, e1, e2, e3, e4, e5⟩ := (HX.out.mv QW.out (fun _ _ h => h)).at hu
      subst ea
      have hlu := HF.out u (List.mem_of_getElem? hu)
      have hT := texts_at (g := g) (k := 2) hu
      have hnu : u.nodes ≤ 40 := by have := HN.out; rw [nodes_at] at this; have := mem_le_sum (List.mem_of_getElem? hu); have := List.length_pos_of_mem (List.mem_of_getElem? hu); omega
      have hul := sh_len HG.out u
      have hsu : (str (u.sh g)).size ≤ 120160 := by rw [str_size]; omega
      have hcall := HI.out u (List.mem_of_getElem? hu) K au cu wr (show Hid _ from pu) hlu.1 hnu
      have hku : u.kind = 3 ∨ u.kind ≠ 3 := by omega
      have hlv : lvl u.kind < lvl 2 ↔ u.kind = 3 := by
        have := lvl_of (formed_kd hlu.1).1
        have h2 : lvl 2 = 2 := rfl
        rw [h2]; omega
      clear hu pu hnu hul
      rcases hku with hku | hku
      · have hkb : (u.kind == 3) = true := by rw [hku]; rfl
        have E : Hid (str (((texts g 2 x.args).take i).flatten) ++ (((⟨#[40]⟩ : ByteArray) ++ str (u.sh g)) ++ (⟨#[41]⟩ : ByteArray)) = str (((texts g 2 x.args).take (i + 1)).flatten)) := by
          show _ = _
          rw [brk_str, flat_succ hT, str_append]
          unfold brk1
          rw [if_pos (hlv.2 hku)]
        have sz1 : ((⟨#[40]⟩ : ByteArray) ++ str (u.sh g)).size ≤ 120161 := by rw [size_add]; have : (⟨#[40]⟩ : ByteArray).size = 1 := rfl; omega
        have sz2 : (((⟨#[40]⟩ : ByteArray) ++ str (u.sh g)) ++ (⟨#[41]⟩ : ByteArray)).size ≤ 120162 := by rw [size_add]; have : (⟨#[41]⟩ : ByteArray).size = 1 := rfl; omega
        clear hku hlv hT hlu
        generalize str (u.sh g) = S at *
        generalize hT0 : str (((texts g 2 x.args).take i).flatten) = T at *
        go_wp2_with fail
        refine hcall.mono ?_
        rintro e9 w9 ⟨rfl, q9⟩
        obtain ⟨k0, k1, k2, k3, k4, k5, _⟩ := B6.facts (B6.mv PW.out q9.out (fun h => h))
        have f0 := Qt.keep q9 e0
        go_wp2_with fail
        exact ⟨⟨i + 1, by omega, by go_num, by rw [E.out], B.out.comp q9.out⟩, by simp [intOf]; omega⟩
      · have hkb : (u.kind == 3) = false := beq_false_of_ne hku
        have E : Hid (str (((texts g 2 x.args).take i).flatten) ++ str (u.sh g) = str (((texts g 2 x.args).take (i + 1)).flatten)) := by
          show _ = _
          rw [flat_succ hT, str_append]
          unfold brk1
          rw [if_neg (fun h => hku (hlv.1 h))]
        clear hku hlv hT hlu
        generalize str (u.sh g) = S at *
        generalize hT0 : str (((texts g 2 x.args).take i).flatten) = T at *
        go_wp2_with fail
        refine hcall.mono ?_
        rintro e9 w9 ⟨rfl, q9⟩
        obtain ⟨k0, k1, k2, k3, k4, k5, _⟩ := B6.facts (B6.mv PW.out q9.out (fun h => h))
        have f0 := Qt.keep q9 e0
        go_wp2_with fail
        exact ⟨⟨i + 1, by omega, by go_num, by rw [E.out], B.out.comp q9.out⟩, by simp [intOf]; omega⟩
    · obtain rfl : i = x.args.length := by omega
      obtain ⟨S, hS⟩ : ∃ S, S = str (x.sh g) := ⟨_, rfl⟩
      rw [HE.out, ← hS] at hb0 ⊢
      have HS : Hid (S = str (x.sh g)) := hS
      clear hS
      go_wp2_with fail
      go_ret
      exact ⟨by rw [← HS.out]; rfl, Q0.out.comp B.out⟩

set_option maxRecDepth 20000 in
set_option maxHeartbeats 8000000 in
theorem rsh_k3 {g : (Nat → Bool) → List Nat} (hg : Gd g) (x : RX) (hk : x.kind = 3) (IH : ∀ z ∈ x.args, RsC g z) : RsC g x := by
  intro K a c w HX hf hn
  have HI : Hid _ := IH
  have HF : Hid _ := (formed_pts hf).2
  have HK : Hid (x.kind = 3) := hk
  have HG : Hid (Gd g) := hg
  have HN : Hid (x.nodes ≤ 40) := hn
  have HB : Hid (∀ i, (str ([124].intercalate ((texts g 3 x.args).take i))).size ≤ 120160) := fun i => by
    rw [str_size]
    exact Nat.le_trans (inter_len _) (pre_bound hg x hn 3 i)
  have HE : Hid (str ([124].intercalate ((texts g 3 x.args).take x.args.length)) = str (x.sh g)) := by
    show _ = _
    rw [sh_at, if_neg (by omega), hk, List.take_of_length_le (by rw [txs_len]; exact Nat.le_refl _)]
    rfl
  have hbig : x.args.length < 140737488355328 := by obtain ⟨_, _, _, h, _⟩ := HX.out; exact h.1
  have hk1 : (x.kind == 1) = false := by rw [hk]; rfl
  have hk2 : (x.kind == 2) = false := by rw [hk]; rfl
  have hk3 : (x.kind == 3) = true := by rw [hk]; rfl
  have Q0 : Hid (Qt w (w.alloc (.cells #[.int .i64 x.kind, .int .u64 (limb x.set 0), .int .u64 (limb x.set 1), .int .u64 (limb x.set 2), .int .u64 (limb x.set 3), .slice a x.args.length c] 28))) := (Qt.refl w).alloc _
  have PX : Hid (B6 w.heap.size (.int .i64 x.kind) (.int .u64 (limb x.set 0)) (.int .u64 (limb x.set 1)) (.int .u64 (limb x.set 2)) (.int .u64 (limb x.set 3)) (.slice a x.args.length c) (w.alloc (.cells #[.int .i64 x.kind, .int .u64 (limb x.set 0), .int .u64 (limb x.set 1), .int .u64 (limb x.set 2), .int .u64 (limb x.set 3), .slice a x.args.length c] 28))) := heap_alloc_new w _
  obtain ⟨k0, k1, k2, k3, k4, k5, _⟩ := B6.facts PX
  clear IH hf hk hg hn
  go_enter Tryd.func23, Tryd.ntmps23
  go_wp2_with fail
  generalize w.alloc (.cells #[.int .i64 x.kind, .int .u64 (limb x.set 0), .int .u64 (limb x.set 1), .int .u64 (limb x.set 2), .int .u64 (limb x.set 3), .slice a x.args.length c] 28) = W0 at *
  clear k0 k1 k2 k3 k4 k5
  go_loopw [3, 4] (fun s3 s4 wr => ∃ i : Nat, i ≤ x.args.length ∧ s4 = .int .i64 i ∧ s3 = .string (str ([124].intercalate ((texts g 3 x.args).take i))) ∧ Hid (Qt W0 wr)) (fun _ s4 _ => x.args.length - (intOf s4).toNat)
  case atStart => exact ⟨0, by omega, rfl, rfl, Qt.refl W0⟩
  case round =>
    obtain ⟨i, hi, rfl, rfl, B⟩ := hrel
    have PW := B6.mv PX.out B.out (fun h => h)
    obtain ⟨k0, k1, k2, k3, k4, k5, _⟩ := B6.facts PW
    have hb0 := HB.out i
    by_cases hlt : i < x.args.length
    · obtain ⟨u, hu⟩ : ∃ u, x.args[i]? = some u := ⟨_, List.getElem?_eq_getElem hlt⟩
      have QW : Hid (Qt w wr) := Q0.out.comp B.out
      obtain ⟨bu, ou, au, cu, ea, pu, e0, e1, e2, e3, e4, e5⟩ := (HX.out.mv QW.out (fun _ _ h => h)).at hu
      subst ea
      have hlu := HF.out u (List.mem_of_getElem? hu)
      have hT := texts_at (g := g) (k := 3) hu
      have hnu : u.nodes ≤ 40 := by have := HN.out; rw [nodes_at] at this; have := mem_le_sum (List.mem_of_getElem? hu); have := List.length_pos_of_mem (List.mem_of_getElem? hu); omega
      have hul := sh_len HG.out u
      have hsu : (str (u.sh g)).size ≤ 120160 := by rw [str_size]; omega
      have hcall := HI.out u (List.mem_of_getElem? hu) K au cu wr (show Hid _ from pu) hlu.1 hnu
      have hlv : ¬ lvl u.kind < lvl 3 := by
        have := lvl_of (formed_kd hlu.1).1
        have h2 : lvl 3 = 1 := rfl
        rw [h2]; omega
      have hbr : brk1 3 u (u.sh g) = u.sh g := by unfold brk1; rw [if_neg hlv]
      rw [hbr] at hT
      clear hu pu hnu hul hlv hbr hlu
      by_cases h0 : i = 0
      · have E : Hid (str ([124].intercalate ((texts g 3 x.args).take i)) ++ str (u.sh g) = str ([124].intercalate ((texts g 3 x.args).take (i + 1)))) := by
          show _ = _
          rw [h0] at hT ⊢
          rw [inter_first hT, str_append]
        have hi0 : (i : Int) ≤ 0 := by omega
        clear h0 hT
        generalize str (u.sh g) = S at *
        generalize hT0 : str ([124].intercalate ((texts g 3 x.args).take i)) = T at *
        go_wp2_with fail
        refine hcall.mono ?_
        rintro e9 w9 ⟨rfl, q9⟩
        obtain ⟨k0, k1, k2, k3, k4, k5, _⟩ := B6.facts (B6.mv PW.out q9.out (fun h => h))
        go_wp2_with fail
        exact ⟨⟨i + 1, by omega, by go_num, by rw [E.out], B.out.comp q9.out⟩, by simp [intOf]; omega⟩
      · have E : Hid ((str ([124].intercalate ((texts g 3 x.args).take i)) ++ (⟨#[124]⟩ : ByteArray)) ++ str (u.sh g) = str ([124].intercalate ((texts g 3 x.args).take (i + 1)))) := by
          show _ = _
          rw [inter_succ hT (by omega), show (⟨#[124]⟩ : ByteArray) = str [124] from rfl, str_append, str_append]
          congr 1
          simp
        have hi0 : (0 : Int) < (i : Int) := by omega
        have sz1 : (str ([124].intercalate ((texts g 3 x.args).take i)) ++ (⟨#[124]⟩ : ByteArray)).size ≤ 120161 := by rw [size_add]; have : (⟨#[124]⟩ : ByteArray).size = 1 := rfl; omega
        clear h0 hT
        generalize str (u.sh g) = S at *
        generalize hT0 : str ([124].intercalate ((texts g 3 x.args).take i)) = T at *
        go_wp2_with fail
        refine hcall.mono ?_
        rintro e9 w9 ⟨rfl, q9⟩
        obtain ⟨k0, k1, k2, k3, k4, k5, _⟩ := B6.facts (B6.mv PW.out q9.out (fun h => h))
        go_wp2_with fail
        exact ⟨⟨i + 1, by omega, by go_num, by rw [E.out], B.out.comp q9.out⟩, by simp [intOf]; omega⟩
    · obtain rfl : i = x.args.length := by omega
      obtain ⟨S, hS⟩ : ∃ S, S = str (x.sh g) := ⟨_, rfl⟩
      rw [HE.out, ← hS] at hb0 ⊢
      have HS : Hid (S = str (x.sh g)) := hS
      clear hS
      go_wp2_with fail
      go_ret
      exact ⟨by rw [← HS.out]; rfl, Q0.out.comp B.out⟩

set_option maxRecDepth 20000 in
set_option maxHeartbeats 8000000 in
theorem rsh_sign {g : (Nat → Bool) → List Nat} (hg : Gd g) (x : RX) (k : Nat) (hk : x.kind = (k : Int) + 4) (hk3 : k < 3) (IH : ∀ z ∈ x.args, RsC g z) : RsC g x := by
  intro K a c w HX hf hn
  have HI : Hid _ := IH
  have hl : x.args.length = 1 := (formed_kd hf).2.2.2.2 (by omega)
  obtain ⟨u, hu⟩ : ∃ u, x.args = [u] := by
    match hx : x.args, hl with
    | [u], _ => exact ⟨u, rfl⟩
  have hu0 : x.args[0]? = some u := by rw [hu]; rfl
  have hmem : u ∈ x.args := List.mem_of_getElem? hu0
  have hlu := (formed_pts hf).2 u hmem
  have hkd := lvl_of (formed_kd hlu.1).1
  have hlx : lvl x.kind = 3 := by rw [hk]; unfold lvl; rcases (show k = 0 ∨ k = 1 ∨ k = 2 from by omega) with rfl | rfl | rfl <;> rfl
  have hnu : u.nodes ≤ 40 := by rw [nodes_at, hu] at hn; simp at hn; omega
  have hul := sh_len hg u
  have hsu : (str (u.sh g)).size ≤ 120160 := by rw [str_size]; omega
  have hsh : x.sh g = brk1 x.kind u (u.sh g) ++ [signC x.kind] := by
    rw [sh_at, if_neg (by omega), hu]
    unfold joinK
    rw [if_neg (by omega), if_neg (by omega)]
    rfl
  have hsg : (⟨#[(signC x.kind).toUInt8]⟩ : ByteArray) = str [signC x.kind] := rfl
  have hbig : x.args.length < 140737488355328 := by omega
  have hk1 : (x.kind == 1) = false := beq_false_of_ne (by omega)
  have hk2 : (x.kind == 2) = false := beq_false_of_ne (by omega)
  have hk3b : (x.kind == 3) = false := beq_false_of_ne (by omega)
  have hks : x.kind - 4 = (k : Int) := by omega
  have hl0 : (0 : Int) < (x.args.length : Int) := by omega
  have hl1 : 0 < x.args.length := by omega
  have Q0 : Hid (Qt w (w.alloc (.cells #[.int .i64 x.kind, .int .u64 (limb x.set 0), .int .u64 (limb x.set 1), .int .u64 (limb x.set 2), .int .u64 (limb x.set 3), .slice a x.args.length c] 28))) := (Qt.refl w).alloc _
  obtain ⟨bv, ov, av, cv, ea, pv, v0, v1, v2, v3, v4, v5⟩ := (HX.out.mv Q0.out (fun _ _ h => h)).at hu0
  subst ea
  have PX : Hid (B6 w.heap.size (.int .i64 x.kind) (.int .u64 (limb x.set 0)) (.int .u64 (limb x.set 1)) (.int .u64 (limb x.set 2)) (.int .u64 (limb x.set 3)) (.slice (some ⟨bv, ov, none⟩) x.args.length c) (w.alloc (.cells #[.int .i64 x.kind, .int .u64 (limb x.set 0), .int .u64 (limb x.set 1), .int .u64 (limb x.set 2), .int .u64 (limb x.set 3), .slice (some ⟨bv, ov, none⟩) x.args.length c] 28))) := heap_alloc_new w _
  obtain ⟨k0, k1, k2, k3, k4, k5, _⟩ := B6.facts PX
  simp only [Nat.zero_mul, Nat.add_zero] at v0 v1 v2 v3 v4 v5
  have hcall := HI.out u hmem K av cv _ (show Hid _ from pv) hlu.1 hnu
  have HSG : Hid (x.kind = (k : Int) + 4) := hk
  have hkf : k = 0 ∨ k = 1 ∨ k = 2 := by omega
  have HE1 : Hid (u.kind ≠ 1 → str (x.sh g) = (((⟨#[40]⟩ : ByteArray) ++ str (u.sh g)) ++ (⟨#[41]⟩ : ByteArray)) ++ str [signC x.kind]) := fun h => by
    rw [brk_str, str_append, hsh]
    unfold brk1
    rw [if_pos (by rw [hlx]; have := hlu.2; rw [hlx] at this; omega)]
  have HE2 : Hid (u.kind = 1 → str (x.sh g) = str (u.sh g) ++ str [signC x.kind]) := fun h => by
    rw [str_append, hsh]
    unfold brk1
    rw [if_neg (by rw [hlx]; omega)]
  have sz1 : ((⟨#[40]⟩ : ByteArray) ++ str (u.sh g)).size ≤ 120161 := by rw [size_add]; have : (⟨#[40]⟩ : ByteArray).size = 1 := rfl; omega
  have sz2 : (((⟨#[40]⟩ : ByteArray) ++ str (u.sh g)) ++ (⟨#[41]⟩ : ByteArray)).size ≤ 120162 := by rw [size_add]; have : (⟨#[41]⟩ : ByteArray).size = 1 := rfl; omega
  obtain ⟨S, hS⟩ : ∃ S, S = str (x.sh g) := ⟨_, rfl⟩
  rw [← hS]
  have HS : Hid (S = str (x.sh g)) := hS
  clear hS hsh hsg IH hf hk hn hul hnu hlu hkd hlx hu hu0 hl hmem pv
  generalize str (u.sh g) = T at *
  by_cases hu1 : u.kind = 1
  · have hub : (u.kind != 1) = false := by rw [hu1]; rfl
    have HE := HE2.out hu1
    clear hu1 HE1 HE2 sz1 sz2
    rcases hkf with rfl | rfl | rfl
    · have hks2 : x.kind - 4 = 0 := by rw [hks]; rfl
      have hb4 : 4 ≤ x.kind ∧ x.kind ≤ 6 := by have := HSG.out; omega
      have HE3 : Hid (S = T ++ (⟨#[42]⟩ : ByteArray)) := by
        show _ = _
        rw [HS.out, HE, HSG.out]
        rfl
      clear HE hks
      go_enter Tryd.func23, Tryd.ntmps23
      go_wp2_with fail
      refine hcall.mono ?_
      rintro e9 w9 ⟨rfl, q9⟩
      clear k0 k1 k2 k3 k4 k5
      obtain ⟨k0, k1, k2, k3, k4, k5, _⟩ := B6.facts (B6.mv PX.out q9.out (fun h => h))
      have f0 := Qt.keep q9 v0
      have HQ9 := Qt.keep (show Hid (Qt w9 (w9.alloc (.cells #[.string ⟨#[42]⟩, .string ⟨#[43]⟩, .string ⟨#[63]⟩] 9))) from Mv.alloc _ _ _) k0
      clear v0 v1 v2 v3 v4 v5
      go_wp2_with fail
      go_ret
      exact ⟨by rw [HE3.out]; rfl, (Q0.out.comp q9.out).alloc _⟩
    · have hks2 : x.kind - 4 = 1 := by rw [hks]; rfl
      have hb4 : 4 ≤ x.kind ∧ x.kind ≤ 6 := by have := HSG.out; omega
      have HE3 : Hid (S = T ++ (⟨#[43]⟩ : ByteArray)) := by
        show _ = _
        rw [HS.out, HE, HSG.out]
        rfl
      clear HE hks
      go_enter Tryd.func23, Tryd.ntmps23
      go_wp2_with fail
      refine hcall.mono ?_
      rintro e9 w9 ⟨rfl, q9⟩
      clear k0 k1 k2 k3 k4 k5
      obtain ⟨k0, k1, k2, k3, k4, k5, _⟩ := B6.facts (B6.mv PX.out q9.out (fun h => h))
      have f0 := Qt.keep q9 v0
      have HQ9 := Qt.keep (show Hid (Qt w9 (w9.alloc (.cells #[.string ⟨#[42]⟩, .string ⟨#[43]⟩, .string ⟨#[63]⟩] 9))) from Mv.alloc _ _ _) k0
      clear v0 v1 v2 v3 v4 v5
      go_wp2_with fail
      go_ret
      exact ⟨by rw [HE3.out]; rfl, (Q0.out.comp q9.out).alloc _⟩
    · have hks2 : x.kind - 4 = 2 := by rw [hks]; rfl
      have hb4 : 4 ≤ x.kind ∧ x.kind ≤ 6 := by have := HSG.out; omega
      have HE3 : Hid (S = T ++ (⟨#[63]⟩ : ByteArray)) := by
        show _ = _
        rw [HS.out, HE, HSG.out]
        rfl
      clear HE hks
      go_enter Tryd.func23, Tryd.ntmps23
      go_wp2_with fail
      refine hcall.mono ?_
      rintro e9 w9 ⟨rfl, q9⟩
      clear k0 k1 k2 k3 k4 k5
      obtain ⟨k0, k1, k2, k3, k4, k5, _⟩ := B6.facts (B6.mv PX.out q9.out (fun h => h))
      have f0 := Qt.keep q9 v0
      have HQ9 := Qt.keep (show Hid (Qt w9 (w9.alloc (.cells #[.string ⟨#[42]⟩, .string ⟨#[43]⟩, .string ⟨#[63]⟩] 9))) from Mv.alloc _ _ _) k0
      clear v0 v1 v2 v3 v4 v5
      go_wp2_with fail
      go_ret
      exact ⟨by rw [HE3.out]; rfl, (Q0.out.comp q9.out).alloc _⟩
  · have hub : (u.kind != 1) = true := bne_iff_ne.2 hu1
    have HE := HE1.out hu1
    clear hu1 HE1 HE2
    rcases hkf with rfl | rfl | rfl
    · have hks2 : x.kind - 4 = 0 := by rw [hks]; rfl
      have hb4 : 4 ≤ x.kind ∧ x.kind ≤ 6 := by have := HSG.out; omega
      have HE3 : Hid (S = (((⟨#[40]⟩ : ByteArray) ++ T) ++ (⟨#[41]⟩ : ByteArray)) ++ (⟨#[42]⟩ : ByteArray)) := by
        show _ = _
        rw [HS.out, HE, HSG.out]
        rfl
      clear HE hks
      go_enter Tryd.func23, Tryd.ntmps23
      go_wp2_with fail
      refine hcall.mono ?_
      rintro e9 w9 ⟨rfl, q9⟩
      clear k0 k1 k2 k3 k4 k5
      obtain ⟨k0, k1, k2, k3, k4, k5, _⟩ := B6.facts (B6.mv PX.out q9.out (fun h => h))
      have f0 := Qt.keep q9 v0
      have HQ9 := Qt.keep (show Hid (Qt w9 (w9.alloc (.cells #[.string ⟨#[42]⟩, .string ⟨#[43]⟩, .string ⟨#[63]⟩] 9))) from Mv.alloc _ _ _) k0
      clear v0 v1 v2 v3 v4 v5
      go_wp2_with fail
      go_ret
      exact ⟨by rw [HE3.out]; rfl, (Q0.out.comp q9.out).alloc _⟩
    · have hks2 : x.kind - 4 = 1 := by rw [hks]; rfl
      have hb4 : 4 ≤ x.kind ∧ x.kind ≤ 6 := by have := HSG.out; omega
      have HE3 : Hid (S = (((⟨#[40]⟩ : ByteArray) ++ T) ++ (⟨#[41]⟩ : ByteArray)) ++ (⟨#[43]⟩ : ByteArray)) := by
        show _ = _
        rw [HS.out, HE, HSG.out]
        rfl
      clear HE hks
      go_enter Tryd.func23, Tryd.ntmps23
      go_wp2_with fail
      refine hcall.mono ?_
      rintro e9 w9 ⟨rfl, q9⟩
      clear k0 k1 k2 k3 k4 k5
      obtain ⟨k0, k1, k2, k3, k4, k5, _⟩ := B6.facts (B6.mv PX.out q9.out (fun h => h))
      have f0 := Qt.keep q9 v0
      have HQ9 := Qt.keep (show Hid (Qt w9 (w9.alloc (.cells #[.string ⟨#[42]⟩, .string ⟨#[43]⟩, .string ⟨#[63]⟩] 9))) from Mv.alloc _ _ _) k0
      clear v0 v1 v2 v3 v4 v5
      go_wp2_with fail
      go_ret
      exact ⟨by rw [HE3.out]; rfl, (Q0.out.comp q9.out).alloc _⟩
    · have hks2 : x.kind - 4 = 2 := by rw [hks]; rfl
      have hb4 : 4 ≤ x.kind ∧ x.kind ≤ 6 := by have := HSG.out; omega
      have HE3 : Hid (S = (((⟨#[40]⟩ : ByteArray) ++ T) ++ (⟨#[41]⟩ : ByteArray)) ++ (⟨#[63]⟩ : ByteArray)) := by
        show _ = _
        rw [HS.out, HE, HSG.out]
        rfl
      clear HE hks
      go_enter Tryd.func23, Tryd.ntmps23
      go_wp2_with fail
      refine hcall.mono ?_
      rintro e9 w9 ⟨rfl, q9⟩
      clear k0 k1 k2 k3 k4 k5
      obtain ⟨k0, k1, k2, k3, k4, k5, _⟩ := B6.facts (B6.mv PX.out q9.out (fun h => h))
      have f0 := Qt.keep q9 v0
      have HQ9 := Qt.keep (show Hid (Qt w9 (w9.alloc (.cells #[.string ⟨#[42]⟩, .string ⟨#[43]⟩, .string ⟨#[63]⟩] 9))) from Mv.alloc _ _ _) k0
      clear v0 v1 v2 v3 v4 v5
      go_wp2_with fail
      go_ret
      exact ⟨by rw [HE3.out]; rfl, (Q0.out.comp q9.out).alloc _⟩

theorem rsh_any {g : (Nat → Bool) → List Nat} (hg : Gd g) : ∀ x : RX, RsC g x := by
  refine RX.ind ?_
  intro k p l ih K a c w HX hf hn
  rcases (formed_kd hf).1 with h | h | h | h | h | h
  · exact rsh_set hg ⟨k, p, l⟩ h K a c w HX hf hn
  · exact rsh_k2 hg ⟨k, p, l⟩ h ih K a c w HX hf hn
  · exact rsh_k3 hg ⟨k, p, l⟩ h ih K a c w HX hf hn
  · exact rsh_sign hg ⟨k, p, l⟩ 0 (by rw [h]; rfl) (by omega) ih K a c w HX hf hn
  · exact rsh_sign hg ⟨k, p, l⟩ 1 (by rw [h]; rfl) (by omega) ih K a c w HX hf hn
  · exact rsh_sign hg ⟨k, p, l⟩ 2 (by rw [h]; rfl) (by omega) ih K a c w HX hf hn

end Go.Proofs.YtkclkhfcmjhogaaDoor
