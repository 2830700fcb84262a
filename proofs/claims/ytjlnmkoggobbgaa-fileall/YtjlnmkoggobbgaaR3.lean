/- The cache that is a list: what Put lays. -/
import Derived.Test.YtjlnmkoggobbgaaR2
namespace Go.Proofs.Ytjlnmkoggobbgaa
open Go.RowKit

def consf (k : Int) (f : Nat → Int) : Nat → Int := fun i => if i = 0 then k else f (i - 1)
theorem own_one (W : World) (base : Nat) (k : Int) (B : Nat) (hB : B = W.heap.size) (hb : base ≤ W.heap.size) : Own (W.alloc (.cells #[.int .i64 k] 3)) base 3 (.slice (some ⟨B, 0, none⟩) 1 1) 1 (In fun _ => k) := by
  subst hB
  exact World.ownsRow_lit (e := 3) (size := 1) (base := base) W #[.int .i64 k] 1 hb (by simp [maxLen]) (by simp)

/-- A row behind one number. -/
theorem grow1 (W : World) (base bA : Nat) (k : Int) (OA : Own W base 3 (.slice (some ⟨bA, 0, none⟩) 1 1) 1 (In fun _ => k)) (s : Option Addr) (m c : Nat) (f : Nat → Int) (hs : Sl W s m (In f)) (hnone : s = none → m = 0 ∧ c = 0) (hm : m < 40000) (hb : base ≤ W.heap.size) :
    ∃ a' c' W', (Builtin.append_ #[31, 31] 31 #[.slice (some ⟨bA, 0, none⟩) 1 1, .slice s m c]).run Try.prog W = .ok (.slice a' (1 + m) c') W' ∧ Own W' base 3 (.slice a' (1 + m) c') (1 + m) (In (consf k f)) ∧ Mv (fun j => j = bA) W W' ∧ (bk a' = some bA ∨ ∃ g, bk a' = some g ∧ W.heap.size ≤ g) := by
  obtain ⟨v1, W1, hr1, o1, g1, hf⟩ := append_own 31 31 3 Try.t3 (.int .i64 0) 8 Try.underlying31 info3 (by kernel_rfl) (by kernel_rfl) (by kernel_rfl) rfl (by omega) W base _ 1 m c (In fun _ => k) (In f) s OA hs (fun _ => rfl) (by omega) hnone hb
  obtain ⟨a1, c1, rfl, _⟩ := o1.sl
  rw [own_blk] at hf
  refine ⟨a1, c1, W1, hr1, o1.congr (fun i hi => ?_), (Mv.of_grown g1).mono (fun j _ e => ?_), hf⟩
  · unfold cat In consf
    by_cases h : i < 1
    · rw [if_pos h, if_pos (by omega)]
    · rw [if_neg h, if_neg (by omega)]
  · have e' : bA = j := Option.some.inj e
    exact e'.symm

/-- What the region leaves: the two rows. -/
def Two (w0 Wf : World) (k z : Int) (m : Nat) (f g : Nat → Int) (a1 : Option Addr) (c1 : Nat) (a2 : Option Addr) (c2 : Nat) : Prop :=
  Own Wf w0.heap.size 3 (.slice a1 (1 + m) c1) (1 + m) (In (consf k f)) ∧ Own Wf w0.heap.size 3 (.slice a2 (1 + m) c2) (1 + m) (In (consf z g)) ∧ Below w0.heap.size w0 Wf

theorem below_of {w W W' : World} {S : Nat → Prop} (h : Below w.heap.size w W) (hm : Mv S W W') (hs : ∀ j, S j → w.heap.size ≤ j) : Below w.heap.size w W' := below_mv h hm (Nat.le_refl _) (fun j hj hS => by have := hs j hS; omega)

theorem ord1 (w0 : World) (k z : Int) (ka va : Option Addr) (m kc vc : Nat) (f g : Nat → Int) (sk : Sl w0 ka m (In f)) (sv : Sl w0 va m (In g)) (nk : ka = none → m = 0 ∧ kc = 0) (nv : va = none → m = 0 ∧ vc = 0) (hm : m < 40000) : ∃ a1 c1 W1 a2 c2 W2,
    (Builtin.append_ #[31, 31] 31 #[.slice (some ⟨w0.heap.size, 0, none⟩) 1 1, .slice ka m kc]).run Try.prog (w0.alloc (.cells #[.int .i64 k] 3)).drew = .ok (.slice a1 (1 + m) c1) W1 ∧
    (Builtin.append_ #[31, 31] 31 #[.slice (some ⟨W1.heap.size, 0, none⟩) 1 1, .slice va m vc]).run Try.prog (W1.alloc (.cells #[.int .i64 z] 3)) = .ok (.slice a2 (1 + m) c2) W2 ∧
    Two w0 W2 k z m f g a1 c1 a2 c2 ∧ Below w0.heap.size w0 W1 := by
  have B0 : Below w0.heap.size w0 w0.drew := (Below.refl _ _).drew
  have B1 : Below w0.heap.size w0 (w0.drew.alloc (.cells #[.int .i64 k] 3)) := B0.alloc (Nat.le_refl _) _
  obtain ⟨a1, c1, W1, hr1, o1, m1, l1⟩ := grow1 (w0.drew.alloc (.cells #[.int .i64 k] 3)) w0.heap.size w0.heap.size k (own_one w0.drew w0.heap.size k w0.heap.size rfl (Nat.le_refl _)) ka m kc f (sk.below B1) nk hm B1.size
  have B2 : Below w0.heap.size w0 W1 := below_of B1 m1 (fun j e => by rw [e]; exact Nat.le_refl _)
  have B3 : Below w0.heap.size w0 (W1.alloc (.cells #[.int .i64 z] 3)) := B2.alloc B2.size _
  obtain ⟨a2, c2, W2, hr2, o2, m2, l2⟩ := grow1 (W1.alloc (.cells #[.int .i64 z] 3)) w0.heap.size W1.heap.size z (own_one W1 w0.heap.size z W1.heap.size rfl B2.size) va m vc g (sv.below B3) nv hm B3.size
  refine ⟨a1, c1, W1, a2, c2, W2, hr1, hr2, ⟨?_, o2, below_of B3 m2 (fun j e => by rw [e]; exact B2.size)⟩, B2⟩
  refine (o1.mv (Mv.alloc (fun _ => False) _ _) (fun _ _ h => h)).mv m2 (fun j hj e => ?_)
  have := (o1.blk j hj).2
  omega
theorem ord2 (w0 : World) (k z : Int) (ka va : Option Addr) (m kc vc : Nat) (f g : Nat → Int) (sk : Sl w0 ka m (In f)) (sv : Sl w0 va m (In g)) (nk : ka = none → m = 0 ∧ kc = 0) (nv : va = none → m = 0 ∧ vc = 0) (hm : m < 40000) : ∃ a1 c1 W1 a2 c2 W2,
    (Builtin.append_ #[31, 31] 31 #[.slice (some ⟨w0.heap.size, 0, none⟩) 1 1, .slice ka m kc]).run Try.prog ((w0.alloc (.cells #[.int .i64 k] 3)).alloc (.cells #[.int .i64 z] 3)).drew = .ok (.slice a1 (1 + m) c1) W1 ∧
    (Builtin.append_ #[31, 31] 31 #[.slice (some ⟨w0.heap.size + 1, 0, none⟩) 1 1, .slice va m vc]).run Try.prog W1 = .ok (.slice a2 (1 + m) c2) W2 ∧
    Two w0 W2 k z m f g a1 c1 a2 c2 ∧ Below w0.heap.size w0 W1 := by
  have B0 : Below w0.heap.size w0 w0.drew := (Below.refl _ _).drew
  have B1 : Below w0.heap.size w0 (w0.drew.alloc (.cells #[.int .i64 k] 3)) := B0.alloc (Nat.le_refl _) _
  have B2 : Below w0.heap.size w0 ((w0.drew.alloc (.cells #[.int .i64 k] 3)).alloc (.cells #[.int .i64 z] 3)) := B1.alloc B1.size _
  have hs1 : (w0.drew.alloc (.cells #[.int .i64 k] 3)).heap.size = w0.heap.size + 1 := by simp
  have OA := (own_one w0.drew w0.heap.size k w0.heap.size rfl (Nat.le_refl _)).mv (Mv.alloc (fun _ => False) _ (.cells #[.int .i64 z] 3)) (fun _ _ h => h)
  have OB := own_one (w0.drew.alloc (.cells #[.int .i64 k] 3)) w0.heap.size z (w0.heap.size + 1) hs1.symm B1.size
  obtain ⟨a1, c1, W1, hr1, o1, m1, l1⟩ := grow1 _ w0.heap.size w0.heap.size k OA ka m kc f (sk.below B2) nk hm B2.size
  have B3 : Below w0.heap.size w0 W1 := below_of B2 m1 (fun j e => by rw [e]; exact Nat.le_refl _)
  have OB1 := OB.mv m1 (fun j hj e => by
    have e' : w0.heap.size + 1 = j := Option.some.inj hj
    omega)
  obtain ⟨a2, c2, W2, hr2, o2, m2, l2⟩ := grow1 W1 w0.heap.size (w0.heap.size + 1) z OB1 va m vc g (sv.below B3) nv hm B3.size
  refine ⟨a1, c1, W1, a2, c2, W2, hr1, hr2, ⟨?_, o2, below_of B3 m2 (fun j e => by omega)⟩, B3⟩
  refine o1.mv m2 (fun j hj e => ?_)
  rw [own_blk] at hj
  rcases l1 with h | ⟨q, h, h2⟩
  · rw [h] at hj
    have := Option.some.inj hj
    omega
  · rw [h] at hj
    have := Option.some.inj hj
    simp at h2
    omega
theorem ord3 (w0 : World) (k z : Int) (ka va : Option Addr) (m kc vc : Nat) (f g : Nat → Int) (sk : Sl w0 ka m (In f)) (sv : Sl w0 va m (In g)) (nk : ka = none → m = 0 ∧ kc = 0) (nv : va = none → m = 0 ∧ vc = 0) (hm : m < 40000) : ∃ a1 c1 W1 a2 c2 W2,
    (Builtin.append_ #[31, 31] 31 #[.slice (some ⟨w0.heap.size + 1, 0, none⟩) 1 1, .slice ka m kc]).run Try.prog ((w0.alloc (.cells #[.int .i64 z] 3)).alloc (.cells #[.int .i64 k] 3)).drew = .ok (.slice a1 (1 + m) c1) W1 ∧
    (Builtin.append_ #[31, 31] 31 #[.slice (some ⟨w0.heap.size, 0, none⟩) 1 1, .slice va m vc]).run Try.prog W1 = .ok (.slice a2 (1 + m) c2) W2 ∧
    Two w0 W2 k z m f g a1 c1 a2 c2 ∧ Below w0.heap.size w0 W1 := by
  have B0 : Below w0.heap.size w0 w0.drew := (Below.refl _ _).drew
  have B1 : Below w0.heap.size w0 (w0.drew.alloc (.cells #[.int .i64 z] 3)) := B0.alloc (Nat.le_refl _) _
  have B2 : Below w0.heap.size w0 ((w0.drew.alloc (.cells #[.int .i64 z] 3)).alloc (.cells #[.int .i64 k] 3)) := B1.alloc B1.size _
  have hs1 : (w0.drew.alloc (.cells #[.int .i64 z] 3)).heap.size = w0.heap.size + 1 := by simp
  have OB := (own_one w0.drew w0.heap.size z w0.heap.size rfl (Nat.le_refl _)).mv (Mv.alloc (fun _ => False) _ (.cells #[.int .i64 k] 3)) (fun _ _ h => h)
  have OA := own_one (w0.drew.alloc (.cells #[.int .i64 z] 3)) w0.heap.size k (w0.heap.size + 1) hs1.symm B1.size
  obtain ⟨a1, c1, W1, hr1, o1, m1, l1⟩ := grow1 _ w0.heap.size (w0.heap.size + 1) k OA ka m kc f (sk.below B2) nk hm B2.size
  have B3 : Below w0.heap.size w0 W1 := below_of B2 m1 (fun j e => by omega)
  have OB1 := OB.mv m1 (fun j hj e => by
    have e' : w0.heap.size = j := Option.some.inj hj
    omega)
  obtain ⟨a2, c2, W2, hr2, o2, m2, l2⟩ := grow1 W1 w0.heap.size w0.heap.size z OB1 va m vc g (sv.below B3) nv hm B3.size
  refine ⟨a1, c1, W1, a2, c2, W2, hr1, hr2, ⟨?_, o2, below_of B3 m2 (fun j e => by rw [e]; exact Nat.le_refl _)⟩, B3⟩
  refine o1.mv m2 (fun j hj e => ?_)
  rw [own_blk] at hj
  rcases l1 with h | ⟨q, h, h2⟩
  · rw [h] at hj
    have := Option.some.inj hj
    omega
  · rw [h] at hj
    have := Option.some.inj hj
    simp at h2
    omega
theorem kT_cons (k z : Int) (T : List Pr) : kT ((k, z) :: T) = consf k (kT T) := by
  funext i
  unfold kT consf
  cases i with
  | zero => rfl
  | succ i => simp
theorem vT_cons (k z : Int) (T : List Pr) : vT ((k, z) :: T) = consf z (vT T) := by
  funext i
  unfold vT consf
  cases i with
  | zero => rfl
  | succ i => simp

/-- Laid into the cache. -/
theorem Rf.lay {w W : World} {r : Nat} {mo : Int} {T : List Pr} {ka : Option Addr} {kc : Nat} {va : Option Addr} {vc : Nat} (h : Rf w r mo T ka kc va vc) {k z : Int} {a1 a2 : Option Addr} {c1 c2 : Nat} (h2 : Two w W k z T.length (kT T) (vT T) a1 c1 a2 c2) :
    (W.cell? ⟨r, 1, none⟩ = some (.slice ka T.length kc) ∧ W.cell? ⟨r, 2, none⟩ = some (.slice va T.length vc) ∧ W.frozen? ⟨r, 1, none⟩ = false ∧ W.frozen? ⟨r, 2, none⟩ = false) ∧
    Hid (Rf ((W.setCell ⟨r, 1, none⟩ (.slice a1 (1 + T.length) c1)).setCell ⟨r, 2, none⟩ (.slice a2 (1 + T.length) c2)) r mo ((k, z) :: T) a1 c1 a2 c2 ∧ Mv (fun j => j = r) w ((W.setCell ⟨r, 1, none⟩ (.slice a1 (1 + T.length) c1)).setCell ⟨r, 2, none⟩ (.slice a2 (1 + T.length) c2)) ∧ (∀ j, bk a1 = some j → w.heap.size ≤ j) ∧ ∀ j, bk a2 = some j → w.heap.size ≤ j) := by
  obtain ⟨o1, o2, b⟩ := h2
  have hrl : r < w.heap.size := World.block_lt_of_cell? _ _ h.c0
  have hM : Mv (fun _ => False) w W := (Mv.of_below b).mono (fun k hk e => by omega)
  have y1 : W.cell? ⟨r, 1, none⟩ = some (.slice ka T.length kc) := hM.cell h.c1 (fun h => h)
  have y2 : W.cell? ⟨r, 2, none⟩ = some (.slice va T.length vc) := hM.cell h.c2 (fun h => h)
  have z1 : W.frozen? ⟨r, 1, none⟩ = false := (hM.frozen (p := ⟨r, 1, none⟩) hrl (fun h => h)).trans h.z1
  have z2 : W.frozen? ⟨r, 2, none⟩ = false := (hM.frozen (p := ⟨r, 2, none⟩) hrl (fun h => h)).trans h.z2
  have MS : Mv (fun j => j = r) W ((W.setCell ⟨r, 1, none⟩ (.slice a1 (1 + T.length) c1)).setCell ⟨r, 2, none⟩ (.slice a2 (1 + T.length) c2)) := (Mv.setCell W ⟨r, 1, none⟩ _).trans (Mv.setCell _ ⟨r, 2, none⟩ _) (fun _ _ h => h)
  have n1 := own_lt o1
  have n2 := own_lt o2
  have len : ((k, z) :: T).length = 1 + T.length := by rw [List.length_cons]; omega
  have ne1 : ∀ j, bk a1 = some j → ¬ j = r := fun j hj e => by have := n1 j hj; omega
  have ne2 : ∀ j, bk a2 = some j → ¬ j = r := fun j hj e => by have := n2 j hj; omega
  refine ⟨⟨y1, y2, z1, z2⟩, ⟨?_, ?_, ?_, ?_, ?_, ?_, ?_, ?_, ?_, ?_, ?_, ?_, ?_, fun j hj => Nat.lt_of_lt_of_le (n1 j hj).2 MS.size, fun j hj => Nat.lt_of_lt_of_le (n2 j hj).2 MS.size⟩, (hM.mono (T := fun j => j = r) (fun _ _ h => h.elim)).trans MS (fun _ _ h => h), fun j hj => (n1 j hj).1, fun j hj => (n2 j hj).1⟩
  · rw [World.cell?_setCell_other _ _ _ _ (addr_ne (fun _ => by omega)), World.cell?_setCell_other _ _ _ _ (addr_ne (fun _ => by omega))]; exact hM.cell h.c0 (fun h => h)
  · rw [World.cell?_setCell_other _ _ _ _ (addr_ne (fun _ => by omega)), len]; exact World.cell?_setCell_same _ _ _ y1
  · rw [len]
    refine World.cell?_setCell_same _ _ _ (u := .slice va T.length vc) ?_
    rw [World.cell?_setCell_other _ _ _ _ (addr_ne (fun _ => by omega))]; exact y2
  · rw [World.frozen?_setCell, World.frozen?_setCell]; exact z1
  · rw [World.frozen?_setCell, World.frozen?_setCell]; exact z2
  · rw [len, kT_cons]; exact (own_sl o1).1.mvb MS ne1
  · rw [len, vT_cons]; exact (own_sl o2).1.mvb MS ne2
  · rw [len]; exact (own_sl o1).2.2
  · rw [len]; exact (own_sl o2).2.2
  · rw [len]; exact (own_sl o1).2.1
  · rw [len]; exact (own_sl o2).2.1
  · exact fun e => ne1 r e rfl
  · exact fun e => ne2 r e rfl

end Go.Proofs.Ytjlnmkoggobbgaa
