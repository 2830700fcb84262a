/- Least, from the greatest byte down; what a region may read of two sets. -/
import Derived.Test.YtnchddgjeeaohaaDoorN2
namespace Go.Proofs.YtnchddgjeeaohaaDoor
open Go.RowKit
set_option linter.unusedVariables false

/-- The least byte from i on, or that there is none. -/
def Dn (p : Nat → Bool) (i k : Nat) (b : Bool) : Prop := (b = false ∧ k = 0 ∧ ∀ c, i ≤ c → c < 256 → p c = false) ∨ (b = true ∧ i ≤ k ∧ k < 256 ∧ p k = true ∧ ∀ c, i ≤ c → c < k → p c = false)
theorem Dn.start (p : Nat → Bool) : Hid (Dn p 256 0 false) := .inl ⟨rfl, rfl, fun c h1 h2 => by omega⟩
theorem Dn.no {p : Nat → Bool} {i k : Nat} {b : Bool} (h : Hid (Dn p (i + 1) k b)) (hp : p i = false) : Hid (Dn p i k b) := by
  rcases h.out with ⟨h1, h2, h3⟩ | ⟨h1, h2, h3, h4, h5⟩
  · exact .inl ⟨h1, h2, fun c c1 c2 => by
      by_cases e : c = i
      · rw [e]; exact hp
      · exact h3 c (by omega) c2⟩
  · exact .inr ⟨h1, by omega, h3, h4, fun c c1 c2 => by
      by_cases e : c = i
      · rw [e]; exact hp
      · exact h5 c (by omega) c2⟩
theorem Dn.yes {p : Nat → Bool} {i : Nat} (hi : i < 256) (hp : p i = true) : Hid (Dn p i i true) := .inr ⟨rfl, Nat.le_refl _, hi, hp, fun c h1 h2 => by omega⟩
theorem Dn.lt {p : Nat → Bool} {i k : Nat} {b : Bool} (h : Dn p i k b) : k < 256 := by
  rcases h with ⟨_, h, _⟩ | ⟨_, _, h, _⟩ <;> omega
theorem Dn.one {p : Nat → Bool} {k l : Nat} {b c : Bool} (h : Dn p 0 k b) (g : Dn p 0 l c) : k = l ∧ b = c := by
  rcases h with ⟨rfl, rfl, h3⟩ | ⟨rfl, _, h3, h4, h5⟩ <;> rcases g with ⟨rfl, rfl, g3⟩ | ⟨rfl, _, g3, g4, g5⟩
  · exact ⟨rfl, rfl⟩
  · rw [h3 l (by omega) g3] at g4; cases g4
  · rw [g3 k (by omega) h3] at h4; cases h4
  · exact ⟨IsL.one ⟨h3, h4, fun c hc => h5 c (by omega) hc⟩ ⟨g3, g4, fun c hc => g5 c (by omega) hc⟩, rfl⟩
theorem isl_ex (p : Nat → Bool) (h : any p = true) : ∃ k, IsL p k := by
  have hl : 0 < (upl p 256).length := by
    rcases Nat.eq_zero_or_pos (upl p 256).length with e | e
    · obtain ⟨b, hb, hp⟩ := any_true.1 h
      rw [runs_len0 e b (by omega) hb] at hp; cases hp
    · exact e
  have e := ub_at hl
  exact ⟨ub p 0, e.1, e.2.1, fun c hc => upl_gap (m := 0) (a := ub p 0) (by omega) (by omega) hc⟩
theorem least_ex (p : Nat → Bool) : ∃ k b, Hid (Dn p 0 k b) ∧ ∀ W, Hid (Tab W) → Calls Tryd.prog 13 #[.agg #[.int .u64 (limb p 0), .int .u64 (limb p 1), .int .u64 (limb p 2), .int .u64 (limb p 3)]] W fun e w' => e = .returned (.tuple #[.int .u8 (k : Int), .bool b]) ∧ Hid (Qt W w') := by
  cases h : any p with
  | false => exact ⟨0, false, .inl ⟨rfl, rfl, fun c _ hc => any_false.1 h c hc⟩, fun W _ => least_none p h W⟩
  | true =>
    obtain ⟨k, hk⟩ := isl_ex p h
    exact ⟨k, true, .inr ⟨rfl, by omega, hk.1, hk.2.1, fun c _ hc => hk.2.2 c hc⟩, fun W hT => least_some p k hk W hT.out⟩
theorem rnotA (p : Nat → Bool) (w : World) : Calls Tryd.prog 21 #[.agg #[.int .u64 (limb p 0), .int .u64 (limb p 1), .int .u64 (limb p 2), .int .u64 (limb p 3)]] w fun e w' => e = .returned (.agg #[.int .u64 (limb (no p) 0), .int .u64 (limb (no p) 1), .int .u64 (limb (no p) 2), .int .u64 (limb (no p) 3)]) ∧ Hid (Qt w w') := rnot_any p w
theorem randA (p q : Nat → Bool) (w : World) : Calls Tryd.prog 19 #[.agg #[.int .u64 (limb p 0), .int .u64 (limb p 1), .int .u64 (limb p 2), .int .u64 (limb p 3)], .agg #[.int .u64 (limb q 0), .int .u64 (limb q 1), .int .u64 (limb q 2), .int .u64 (limb q 3)]] w fun e w' => e = .returned (.agg #[.int .u64 (limb (et p q) 0), .int .u64 (limb (et p q) 1), .int .u64 (limb (et p q) 2), .int .u64 (limb (et p q) 3)]) ∧ Hid (Qt w w') := rand_any p q w
theorem rorA (p q : Nat → Bool) (w : World) : Calls Tryd.prog 17 #[.agg #[.int .u64 (limb p 0), .int .u64 (limb p 1), .int .u64 (limb p 2), .int .u64 (limb p 3)], .agg #[.int .u64 (limb q 0), .int .u64 (limb q 1), .int .u64 (limb q 2), .int .u64 (limb q 3)]] w fun e w' => e = .returned (.agg #[.int .u64 (limb (ou p q) 0), .int .u64 (limb (ou p q) 1), .int .u64 (limb (ou p q) 2), .int .u64 (limb (ou p q) 3)]) ∧ Hid (Qt w w') := ror_any p q w
theorem hasA (p : Nat → Bool) (b : Nat) (hb : b < 256) (w : World) : Calls Tryd.prog 15 #[.agg #[.int .u64 (limb p 0), .int .u64 (limb p 1), .int .u64 (limb p 2), .int .u64 (limb p 3)], .int .u8 b] w fun e w' => e = .returned (.bool (p b)) ∧ Hid (Qt w w') := has_any p b hb w
/-- What a region may read of W: two sets, and that nothing has turned since. -/
theorem hold8 {W w' : World} {g0 g1 : Nat} {p q : Nat → Bool} (h0 : Hid (Bk g0 p W)) (h1 : Hid (Bk g1 q W)) (m : Hid (Qt W w')) :
    w'.cell? ⟨g0, 0, none⟩ = some (.int .u64 (limb p 0)) ∧ w'.cell? ⟨g0, 1, none⟩ = some (.int .u64 (limb p 1)) ∧ w'.cell? ⟨g0, 2, none⟩ = some (.int .u64 (limb p 2)) ∧ w'.cell? ⟨g0, 3, none⟩ = some (.int .u64 (limb p 3)) ∧ w'.cell? ⟨g1, 0, none⟩ = some (.int .u64 (limb q 0)) ∧ w'.cell? ⟨g1, 1, none⟩ = some (.int .u64 (limb q 1)) ∧ w'.cell? ⟨g1, 2, none⟩ = some (.int .u64 (limb q 2)) ∧ w'.cell? ⟨g1, 3, none⟩ = some (.int .u64 (limb q 3)) ∧ Hid (Qt W w') := by
  obtain ⟨a0, a1, a2, a3, _⟩ := Bk.facts (Bk.mv h0 m.out (fun h => h))
  obtain ⟨b0, b1, b2, b3, _⟩ := Bk.facts (Bk.mv h1 m.out (fun h => h))
  exact ⟨a0, a1, a2, a3, b0, b1, b2, b3, m⟩
theorem hold8o {W w' : World} {A0 A1 A2 A3 A4 A5 A6 A7 : Prop} (h : A0 ∧ A1 ∧ A2 ∧ A3 ∧ A4 ∧ A5 ∧ A6 ∧ A7 ∧ Hid (Qt W w')) : Hid (Qt W w') := h.2.2.2.2.2.2.2.2
theorem hold8q {W w' w'' : World} {A0 A1 A2 A3 A4 A5 A6 A7 : Prop} (q : Hid (Qt w' w'')) (h : A0 ∧ A1 ∧ A2 ∧ A3 ∧ A4 ∧ A5 ∧ A6 ∧ A7 ∧ Hid (Qt W w')) : Hid (Qt W w'') := (hold8o h).out.comp q.out
/-- Of, and the reference's, of a row that lay there at W. -/
theorem of_in {a : Option Addr} {n cap : Nat} {f : Nat → Nat} {W : World} (hs : Hid (Sl W a n (Bn f))) (hf : Hid (∀ i, i < n → f i < 256)) (hn : Hid (n < 1000000)) (X : World) (m : Hid (Qt W X)) : Calls Tryd.prog 22 #[.slice a n cap] X fun e w' => e = .returned (.agg #[.int .u64 (limb (ofl f n) 0), .int .u64 (limb (ofl f n) 1), .int .u64 (limb (ofl f n) 2), .int .u64 (limb (ofl f n) 3)]) ∧ Hid (Qt X w') :=
  of_any a n cap f X (hs.out.mv m.out (fun _ _ h => h)) hf.out hn.out
theorem rof_in {a : Option Addr} {n cap : Nat} {f : Nat → Nat} {W : World} (hs : Hid (Sl W a n (Bn f))) (hf : Hid (∀ i, i < n → f i < 256)) (hn : Hid (n < 1000000)) (X : World) (m : Hid (Qt W X)) : Calls Tryd.prog 23 #[.slice a n cap] X fun e w' => e = .returned (.agg #[.int .u64 (limb (ofl f n) 0), .int .u64 (limb (ofl f n) 1), .int .u64 (limb (ofl f n) 2), .int .u64 (limb (ofl f n) 3)]) ∧ Hid (Qt X w') :=
  rof_f a n cap f X (hs.out.mv m.out (fun _ _ h => h)) hf.out hn.out
theorem byteN {a : Int} (h : (Lit.int .u8 a).wf = true) : ∃ n : Nat, a = (n : Int) ∧ n < 256 := by
  have hb : 0 ≤ a ∧ a ≤ 255 := by
    simp [Lit.wf, IntKind.min, IntKind.max, IntKind.signed, IntKind.bits] at h
    omega
  exact ⟨a.toNat, by omega, by omega⟩
/-- A row that is handed in, by its bytes as numbers. -/
theorem rowN {w : World} {a : Option Addr} {n : Nat} {f : Nat → Int} (hs : Sl w a n (fun i => .int .u8 (f i))) (hw : ∀ i, (Lit.int .u8 (f i)).wf = true) : Hid (Sl w a n (Bn (fun i => (f i).toNat))) ∧ Hid (∀ i, i < n → (f i).toNat < 256) := by
  refine ⟨fun i hi => ?_, fun i _ => ?_⟩
  · obtain ⟨b, off, h1, h2, h3⟩ := hs i hi
    obtain ⟨m, hm, _⟩ := byteN (hw i)
    refine ⟨b, off, h1, h2, ?_⟩
    rw [h3]
    simp [Bn, hm]
  · obtain ⟨m, hm, _⟩ := byteN (hw i)
    rw [hm]; simpa
end Go.Proofs.YtnchddgjeeaohaaDoor
