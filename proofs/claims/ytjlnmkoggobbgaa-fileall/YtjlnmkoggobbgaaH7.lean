/- What FileAll's walk leans on. -/
import Derived.Test.YtjlnmkoggobbgaaH6
namespace Go.Proofs.Ytjlnmkoggobbgaa
open Go.RowKit

/-- A slice of operations lies there. -/
def So (w : World) (u : Option Addr) (k : Nat) (K A B : Nat → Int) : Prop := ∀ i, i < k → ∃ b off, u = some ⟨b, off, none⟩ ∧ b < w.heap.size ∧ w.cell? ⟨b, off + i * 3, none⟩ = some (.int .i64 (K i)) ∧ w.cell? ⟨b, off + i * 3 + 1, none⟩ = some (.int .i64 (A i)) ∧ w.cell? ⟨b, off + i * 3 + 2, none⟩ = some (.int .i64 (B i))
theorem So.below {w w' : World} {u : Option Addr} {k : Nat} {K A B : Nat → Int} (h : So w u k K A B) (hb : Below w.heap.size w w') : So w' u k K A B := by
  intro i hi
  obtain ⟨b, off, e, hl, h1, h2, h3⟩ := h i hi
  exact ⟨b, off, e, Nat.lt_of_lt_of_le hl hb.size, (hb.cell hl).trans h1, (hb.cell hl).trans h2, (hb.cell hl).trans h3⟩

theorem Sa.start {w W2 : World} {q : Nat} {d : Pd} {mo : Int} (F : Fs W2 q d mo [] (fun _ => false) [] (fun j => j < w.heap.size)) (B : Below w.heap.size w W2) : Sa w (W2.alloc (.cells #[.int .i64 mo, .slice none 0 0, .slice none 0 0] 49)) q d mo W2.heap.size (badf (-1)) [] [] [] none 0 none 0 (fun _ => False) := by
  have C : ∀ i v, (#[Value.int .i64 mo, .slice none 0 0, .slice none 0 0] : Array Value)[i]? = some v → _ := fun i v => alloc_new W2 #[.int .i64 mo, .slice none 0 0, .slice none 0 0] 49 i v
  have Bl : Below W2.heap.size W2 (W2.alloc (.cells #[.int .i64 mo, .slice none 0 0, .slice none 0 0] 49)) := (Below.refl _ _).alloc (Nat.le_refl _) _
  refine ⟨?_, ⟨(C 0 _ rfl).1, (C 1 _ rfl).1, (C 2 _ rfl).1, (C 1 _ rfl).2, (C 2 _ rfl).2, fun i hi => (by simp [zt] at hi), fun i hi => (by simp [zt] at hi), fun _ => ⟨rfl, rfl⟩, fun _ => ⟨rfl, rfl⟩, Nat.le_refl _, Nat.le_refl _, fun e => (by cases e), fun e => (by cases e), fun j e => (by cases e), fun j e => (by cases e)⟩, B.alloc B.size _, F.top, B.size⟩
  rw [← bad_start]
  refine (F.below Bl).mono (fun j hj => ?_)
  rcases hj with (hj | hj | hj | hj) | hj
  · exact .inl hj
  · exact .inr (by rw [hj]; simp)
  · cases hj
  · cases hj
  · exact hj.elim


theorem size5 (w : World) : (sizeOf 5).run Try.prog w = .ok 1 w := by
  have e : Try.t5.size = 1 := by kernel_rfl
  simp [sizeOf, typeInfo, info5, e]
theorem elem22 : Try.prog.elem 22 = 5 := by kernel_rfl
theorem under22 : Try.prog.underlying 22 = some (.slice (Try.prog.elem 22)) := by rw [elem22]; exact Try.underlying22
/-- A part of a slice. -/
theorem slice_mid (a : Option Addr) (n c y z : Nat) (h1 : y ≤ z) (h2 : z ≤ n) (h3 : n ≤ c) : ∃ p k, (∀ w, (Instr.slice 22 (.slice a n c) (some (.int .i64 (y : Int))) (some (.int .i64 (z : Int))) none).run Try.prog w = .ok (.slice p (z - y) k) w) ∧ (∀ w f, Sl w a n (By f) → Sl w p (z - y) (By fun j => f (y + j))) := by
  refine ⟨if c = y then a else a.map (·.add (y * 1)), c - y, ?_, ?_⟩
  · intro w
    rw [run_slice_lh w 22 a n c under22 .i64 .i64 y z (by omega) (by omega) (by omega), elem22, size5]
    simp only [Result.andThen_ok, sliced, Int.toNat_natCast]
  · intro w f h j hj
    rw [if_neg (by omega), Nat.mul_one]
    obtain ⟨b, off, e, hb, hc⟩ := h (y + j) (by omega)
    refine ⟨b, off + y, ?_, hb, ?_⟩
    · rw [e, Option.map_some, addr_add]
    · rw [Nat.add_assoc]; exact hc

theorem kappa (x : Int) : 0 ≤ (wrap64 (x.tmod 10 + 10)).tmod 10 ∧ (wrap64 (x.tmod 10 + 10)).tmod 10 ≤ 9 := by
  have h1 : -9 ≤ x.tmod 10 ∧ x.tmod 10 ≤ 9 := by
    by_cases h : 0 ≤ x
    · rw [Int.tmod_eq_emod_of_nonneg h]; omega
    · have e : x.tmod 10 = -((-x).tmod 10) := by rw [Int.neg_tmod]; omega
      rw [e, Int.tmod_eq_emod_of_nonneg (by omega)]; omega
  rw [wrap64_small (by omega) (by omega), Int.tmod_eq_emod_of_nonneg (by omega)]
  omega

section
variable {w wr : World} {q : Nat} {d : Pd} {mo : Int} {r : Nat} {bad : Nat → Bool} {lF R lR : List Int} {ka : Option Addr} {kc : Nat} {va : Option Addr} {vc : Nat} {Z : Nat → Prop}
theorem Sa.keys (h : Sa w wr q d mo r bad lF R lR ka kc va vc Z) : lF.Nodup ∧ lF.length ≤ cap mo ∧ lF.length ≤ 5000 := by
  have h1 := h.F.nodup
  have h2 := h.F.small
  exact ⟨h1.1, h.F.room, by omega⟩
end
end Go.Proofs.Ytjlnmkoggobbgaa
