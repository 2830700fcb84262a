/- OP: r7_O4. -/
import Derived.Deep.SlicePairs
import Derived.ChangeArms
import Derived.Test.YtdhdkbaalgdicaaOO
import Derived.Test.YtdhdkbaalgdicaaEX
/- A slice of operations that is handed in, opened. -/
namespace Go.Proofs.Ytdhdkbaalgdicaa
open Go.RowKit Go.ChangeShapes Go.WideShapes Go.Deep
section
variable {H : Type} {enc : TypeId × Value → H} {P : Program} {w : World} {base : Nat} {spare : Nat → Bool} {held : Bool}
theorem open_ops {t e : TypeId} {f0 f1 f2 f3 : Field} {e2 : TypeId} {fuel : Nat} {u : Option Addr} {k c : Nat} {x : DataW H × List MemPlace} (ht : P.underlying t = some (.slice e)) (he : P.underlying e = some (.struct #[f0, f1, f2, f3]))
    (ce : P.cellsOf e = 4) (o0 : f0.offset = 0) (o1 : f1.offset = 1) (o2 : f2.offset = 2) (o3 : f3.offset = 3) (c0 : P.cellsOf f0.type = 1) (c1 : P.cellsOf f1.type = 1) (c2 : P.cellsOf f2.type = 1) (c3 : P.cellsOf f3.type = 1)
    (t0 : P.underlying f0.type = some (.int .i64)) (t1 : P.underlying f1.type = some (.int .i64)) (t2 : P.underlying f2.type = some (.slice e2)) (t2e : P.underlying e2 = some (.int .u8)) (t2c : P.cellsOf e2 = 1) (t3 : P.underlying f3.type = some .bool)
    (h : DataW.trod enc P w base spare held fuel t [.slice u k c] = some x) : So w u k := by
  rcases open_slice ht h with ⟨h0, _⟩ | ⟨a, len, cap, m, n, D, Pl, hcs, hb, hl, hm, hmm, rfl, hx⟩
  · simp at h0
    obtain ⟨rfl, rfl, rfl⟩ := h0
    exact fun i hi => by omega
  simp only [List.cons.injEq, Value.slice.injEq, and_true] at hcs
  obtain ⟨rfl, rfl, rfl⟩ := hcs
  have hlm : k ≤ m := by rw [hmm]; split <;> omega
  intro i hi
  obtain ⟨cs', h1, h2⟩ := hx i (by omega)
  rw [ce] at h1
  obtain ⟨_, hlen, hcell⟩ := World.cells?_some h1
  obtain ⟨xs, k', hk, hxy, _, hxl, hf⟩ := DataW.trod_struct he h2
  match xs, hxl, cs', hlen with
  | [y0, y1, y2, y3], _, [v0, v1, v2, v3], _ =>
    have g0 := hf 0 f0 rfl
    have g1 := hf 1 f1 rfl
    have g2 := hf 2 f2 rfl
    have g3 := hf 3 f3 rfl
    simp [o0, o1, o2, o3, c0, c1, c2, c3] at g0 g1 g2 g3
    obtain ⟨n0, e0, _, w0⟩ := DataW.trod_int t0 g0
    obtain ⟨n1, e1, _, w1⟩ := DataW.trod_int t1 g1
    obtain ⟨b3, e3, _⟩ := DataW.trod_bool t3 g3
    obtain ⟨sa, sn, sc, e2'⟩ : ∃ sa sn sc, v2 = .slice sa sn sc := by
      rcases DataW.trod_slice t2 g2 with ⟨h0, _⟩ | ⟨q, l, c', _, _, _, _, h0, _⟩
      · exact ⟨none, 0, 0, by simpa using h0⟩
      · exact ⟨some q, l, c', by simpa using h0⟩
    subst e2'
    obtain ⟨f, s, _, z⟩ := open_row (k := .u8) (by decide) t2 t2e t2c g2
    have room := open_room (k := .u8) t2 t2e t2c g2
    simp at e0 e1 e3
    subst e0 e1 e3
    have d0 := hcell 0 (by omega)
    have d1 := hcell 1 (by omega)
    have d2 := hcell 2 (by omega)
    have d3 := hcell 3 (by omega)
    rw [add_add] at d0 d1 d2 d3
    obtain ⟨b, off, spot⟩ := a
    have hspot : spot = none := by
      obtain ⟨cs0, h10, h20⟩ := hx 0 (by omega)
      rw [ce, Nat.zero_mul] at h10
      obtain ⟨_, hlen0, hcell0⟩ := World.cells?_some h10
      have h00 := hcell0 0 (by omega)
      rw [add_add] at h00
      have : ∃ v, cs0[0]? = some v := ⟨cs0[0]'(by omega), List.getElem?_eq_getElem _⟩
      obtain ⟨v, hv⟩ := this
      rw [hv] at h00
      simpa [Addr.add] using World.cell?_spot h00
    subst hspot
    rw [addr_add] at d0 d1 d2 d3
    simp at d0 d1 d2 d3
    exact ⟨b, off, ⟨n0, n1, sa, sn, sc, f, b3⟩, rfl, World.block_lt_of_cell? w _ d0, d0, by rw [Nat.add_assoc]; exact d1, by rw [Nat.add_assoc]; exact d2, by rw [Nat.add_assoc]; exact d3, s, z, room⟩
end
end Go.Proofs.Ytdhdkbaalgdicaa
