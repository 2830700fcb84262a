/- A set of rows: a map whose keys are a kind, where a row begins, and how long it is. -/
import Derived.Test.YtojbakkbmfgoaaaDoorMg11
import Derived.Laws.StructEq
import Derived.LaidEql
import Derived.MapKept
import Derived.ChangeKeysEq
namespace Go.Proofs.YtojbakkbmfgoaaaDoor
open Go.RowKit
set_option linter.unusedVariables false

/-- A key. -/
def kv (r : Int × Addr × Nat) : Value := .agg #[.int .i64 r.1, .pointer (some r.2.1), .int .i64 (r.2.2 : Int)]
theorem stood93 : Tryd.prog.stoodInHeld 95 = false := by kernel_rfl
theorem under93 : Tryd.prog.underlying 95 = some (.struct (Tryd.prog.fieldsOf 95)) := by kernel_rfl
theorem plain3 : Tryd.prog.plainKey 3 = true := by kernel_rfl
theorem fields93 : (Tryd.prog.fieldsOf 95).toList.map (fun f => (f.name, f.type, f.offset)) = [("kind", 3, 0), ("first", 93, 1), ("count", 3, 2)] := by kernel_rfl
theorem i64_eq (d : Nat) (a b : Int) (W : World) : (Op.equalIn (d + 1) 3 (.int .i64 a) (.int .i64 b)).run Tryd.prog W = .ok (a == b) W := by
  simp [Op.equalIn, run_underlying Tryd.underlying3]
theorem ptr_eq (d : Nat) (a b : Addr) (w : World) (hr : Flat w a) (hs : Flat w b) : (Op.equalIn (d + 1) 93 (.pointer (some a)) (.pointer (some b))).run Tryd.prog w = .ok (decide (a = b)) w := by
  by_cases hab : a = b
  · subst hab
    simp [Op.equalIn, run_underlying Tryd.underlying93, run_sameAddr_same]
  · obtain ⟨_, ca, ta, ga⟩ := hr
    obtain ⟨_, cb, tb, gb⟩ := hs
    simp [Op.equalIn, run_underlying Tryd.underlying93, run_sameAddr_other w hab ga gb, hab]
theorem part91 (w : World) (xs : Array Value) (off : Nat) (v : Value) (h : xs[off]? = some v) : (part 93 xs off).run Tryd.prog w = .ok v w := by
  unfold part
  simp [Tryd.isAgg93, h]
theorem kv_eq (r s : Int × Addr × Nat) (w : World) (hr : Flat w r.2.1) (hs : Flat w s.2.1) : (Op.equal 95 (kv r) (kv s)).run Tryd.prog w = .ok (decide (r = s)) w := by
  obtain ⟨k, a, n⟩ := r
  obtain ⟨j, b, m⟩ := s
  have e0 : Op.equal 95 (kv (k, a, n)) (kv (j, b, m)) = Op.equalIn (9999 + 1) 95 (kv (k, a, n)) (kv (j, b, m)) := rfl
  rw [e0]
  unfold kv
  rw [run_equalIn_struct w 9999 95 _ _ under93 stood93]
  have hf := fields93
  generalize (Tryd.prog.fieldsOf 95).toList = fs at hf
  have hp0 := fun (x y : Int) (q : Addr) => run_part_plain (P := Tryd.prog) w plain3 (xs := #[.int .i64 x, .pointer (some q), .int .i64 y]) (off := 0) (v := .int .i64 x) rfl
  have hp2 := fun (x y : Int) (q : Addr) => run_part_plain (P := Tryd.prog) w plain3 (xs := #[.int .i64 x, .pointer (some q), .int .i64 y]) (off := 2) (v := .int .i64 y) rfl
  have hp1 := fun (x y : Int) (q : Addr) => part91 w #[.int .i64 x, .pointer (some q), .int .i64 y] 1 (.pointer (some q)) rfl
  have hi : ∀ x y : Int, (Op.equalIn 9999 3 (.int .i64 x) (.int .i64 y)).run Tryd.prog w = .ok (x == y) w := fun x y => i64_eq 9998 x y w
  have hq : (Op.equalIn 9999 93 (.pointer (some a)) (.pointer (some b))).run Tryd.prog w = .ok (decide (a = b)) w := ptr_eq 9998 a b w hr hs
  obtain ⟨f0, f1, f2, rfl⟩ : ∃ f0 f1 f2, fs = [f0, f1, f2] := by
    match fs, hf with
    | [f0, f1, f2], _ => exact ⟨f0, f1, f2, rfl⟩
    | [], h => simp at h
    | [_], h => simp at h
    | [_, _], h => simp at h
    | _ :: _ :: _ :: _ :: _, h => simp at h
  simp only [List.map_cons, List.map_nil, List.cons.injEq, Prod.mk.injEq, and_true] at hf
  obtain ⟨⟨n0, t0, o0⟩, ⟨n1, t1, o1⟩, ⟨n2, t2, o2⟩⟩ := hf
  unfold Op.eqFields
  rw [n0, t0, o0, if_pos (by decide)]
  simp only [Sem.run_bind, hp0, hi, Result.andThen_ok]
  by_cases h0 : k = j
  · have g0 : (k == j) = true := by simp [h0]
    rw [g0]
    simp only [Bool.not_true, Bool.false_eq_true, if_false]
    unfold Op.eqFields
    rw [n1, t1, o1, if_pos (by decide)]
    simp only [Sem.run_bind, hp1, hq, Result.andThen_ok]
    by_cases h1 : a = b
    · rw [decide_eq_true h1]
      simp only [Bool.not_true, Bool.false_eq_true, if_false]
      unfold Op.eqFields
      rw [n2, t2, o2, if_pos (by decide)]
      simp only [Sem.run_bind, hp2, hi, Result.andThen_ok]
      by_cases h2 : n = m
      · have g2 : ((n : Int) == (m : Int)) = true := by simp [h2]
        rw [g2, h0, h1, h2]
        simp [Op.eqFields]
      · have g2 : ((n : Int) == (m : Int)) = false := by simp; omega
        rw [g2]
        simp [h2]
    · rw [decide_eq_false h1]
      simp [h1]
  · have g0 : (k == j) = false := by simp [h0]
    rw [g0]
    simp [h0]

/-- Block m is a set of these keys. -/
def Mk (m : Nat) (L : List (Int × Addr × Nat)) (w : World) : Prop :=
  ∃ es clock, w.heap[m]? = some (.map es clock) ∧ es.toList.map (·.key) = L.map kv ∧ (∀ e ∈ es.toList, e.val = .agg #[]) ∧ ∀ r ∈ L, Flat w r.2.1
theorem Mk.mv {X : Nat → Prop} {m : Nat} {L : List (Int × Addr × Nat)} {w w' : World} (h : Mk m L w) (k : Mv X w w') (hm : ¬ X m) (hl : ∀ r ∈ L, ¬ X r.2.1.block) : Mk m L w' := by
  obtain ⟨es, clock, h1, h2, hv, h3⟩ := h
  exact ⟨es, clock, (k.block m (Array.getElem?_eq_some_iff.1 h1).1 hm).trans h1, h2, hv, fun r hr => (h3 r hr).mv k (hl r hr)⟩
theorem Mk.lt {m : Nat} {L : List (Int × Addr × Nat)} {w : World} (h : Mk m L w) : m < w.heap.size := by
  obtain ⟨es, clock, h1, _⟩ := h
  exact (Array.getElem?_eq_some_iff.1 h1).1
theorem fields3 : ∃ f0 f1 f2, (Tryd.prog.fieldsOf 95).toList = [f0, f1, f2] ∧ (f0.name = "kind" ∧ f0.type = 3 ∧ f0.offset = 0) ∧ (f1.name = "first" ∧ f1.type = 93 ∧ f1.offset = 1) ∧ (f2.name = "count" ∧ f2.type = 3 ∧ f2.offset = 2) := by
  have hf := fields93
  generalize (Tryd.prog.fieldsOf 95).toList = fs at hf
  obtain ⟨f0, f1, f2, rfl⟩ : ∃ f0 f1 f2, fs = [f0, f1, f2] := by
    match fs, hf with
    | [f0, f1, f2], _ => exact ⟨f0, f1, f2, rfl⟩
    | [], h => simp at h
    | [_], h => simp at h
    | [_, _], h => simp at h
    | _ :: _ :: _ :: _ :: _, h => simp at h
  simp only [List.map_cons, List.map_nil, List.cons.injEq, Prod.mk.injEq, and_true] at hf
  exact ⟨f0, f1, f2, rfl, hf⟩
theorem checkKey_3 (b : Bool) (n : Nat) (x : Int) (w : World) : (Instr.checkKey b (n + 1) 3 (.int .i64 x)).run Tryd.prog w = .ok () w := by
  unfold Instr.checkKey
  simp [run_underlying Tryd.underlying3]
theorem checkKey_91 (b : Bool) (n : Nat) (q : Addr) (w : World) : (Instr.checkKey b (n + 1) 93 (.pointer (some q))).run Tryd.prog w = .ok () w := by
  unfold Instr.checkKey
  simp [run_underlying Tryd.underlying93]
theorem checkKey_kv (r : Int × Addr × Nat) (b : Bool) (w : World) : (Instr.checkKey b 10000 95 (kv r)).run Tryd.prog w = .ok () w := by
  have e0 : Instr.checkKey b 10000 95 (kv r) = Instr.checkKey b (9999 + 1) 95 (kv r) := rfl
  rw [e0]
  have k3 := fun x => checkKey_3 b 9998 x w
  have k91 := fun q => checkKey_91 b 9998 q w
  simp only [Nat.reduceAdd] at k3 k91
  have hp0 := fun (x y : Int) (q : Addr) => run_part_plain (P := Tryd.prog) w plain3 (xs := #[.int .i64 x, .pointer (some q), .int .i64 y]) (off := 0) (v := .int .i64 x) rfl
  have hp2 := fun (x y : Int) (q : Addr) => run_part_plain (P := Tryd.prog) w plain3 (xs := #[.int .i64 x, .pointer (some q), .int .i64 y]) (off := 2) (v := .int .i64 y) rfl
  have hp1 := fun (x y : Int) (q : Addr) => part91 w #[.int .i64 x, .pointer (some q), .int .i64 y] 1 (.pointer (some q)) rfl
  unfold Instr.checkKey kv
  simp only [Sem.run_bind, run_underlying under93, Result.andThen_ok]
  rw [← Array.forIn_toList]
  obtain ⟨f0, f1, f2, hf, ⟨n0, t0, o0⟩, ⟨n1, t1, o1⟩, ⟨n2, t2, o2⟩⟩ := fields3
  rw [hf]
  generalize 9999 = N at *
  simp [n0, t0, o0, n1, t1, o1, n2, t2, o2, hp0, hp1, hp2, k3, k91, Result.andThen]
theorem findNow_row (d : TypeDesc) (r : Int × Addr × Nat) (es : List MapEntry) (i : Nat) : Instr.findNow d (kv r) es i = some none ∨ Instr.findNow d (kv r) es i = none := by
  cases es with
  | nil => exact .inl rfl
  | cons e es =>
    right
    unfold Instr.findNow kv Instr.sameNow
    cases d <;> rfl
theorem findAsking_kv (w : World) (r : Int × Addr × Nat) (hr : Flat w r.2.1) : ∀ (es : List MapEntry) (L : List (Int × Addr × Nat)) (i : Nat), es.map (·.key) = L.map kv → (∀ s ∈ L, Flat w s.2.1) →
    ∃ a, (Instr.findAsking 95 (kv r) es i).run Tryd.prog w = .ok a w ∧ a.isSome = L.contains r ∧ ∀ x, a = some x → ∃ e ∈ es, e.val = x.2
  | [], L, i, h, _ => by
    have : L = [] := by cases L with | nil => rfl | cons _ _ => simp at h
    subst this
    exact ⟨none, rfl, rfl, fun x h => by cases h⟩
  | e :: es, [], i, h, _ => by simp at h
  | e :: es, s :: L, i, h, hL => by
    simp only [List.map_cons, List.cons.injEq] at h
    have he := kv_eq r s w hr (hL s (by simp))
    unfold Instr.findAsking
    simp only [Sem.run_bind, h.1, he, Result.andThen_ok]
    by_cases hrs : r = s
    · rw [decide_eq_true hrs]
      exact ⟨some (i, e.val), rfl, by simp [hrs], fun x h => ⟨e, by simp, by cases h; rfl⟩⟩
    · rw [decide_eq_false hrs]
      obtain ⟨a, h1, h2, h3⟩ := findAsking_kv w r hr es L (i + 1) h.2 (fun s hs => hL s (by simp [hs]))
      exact ⟨a, h1, by rw [h2]; simp [hrs], fun x h => by obtain ⟨e, he, hv⟩ := h3 x h; exact ⟨e, by simp [he], hv⟩⟩
theorem findKey_kv (w : World) (r : Int × Addr × Nat) (hr : Flat w r.2.1) (es : List MapEntry) (L : List (Int × Addr × Nat)) (h : es.map (·.key) = L.map kv) (hL : ∀ s ∈ L, Flat w s.2.1) :
    ∃ a, (Instr.findKey 95 (kv r) es).run Tryd.prog w = .ok a w ∧ a.isSome = L.contains r ∧ ∀ x, a = some x → ∃ e ∈ es, e.val = x.2 := by
  unfold Instr.findKey
  simp only [Sem.run_bind, run_underlying under93, Result.andThen_ok]
  rcases findNow_row (.struct (Tryd.prog.fieldsOf 95)) r es 0 with h0 | h0
  · rw [h0]
    cases es with
    | nil =>
      have : L = [] := by cases L with | nil => rfl | cons _ _ => simp at h
      subst this
      exact ⟨none, rfl, rfl, fun x h => by cases h⟩
    | cons e es =>
      exfalso
      unfold Instr.findNow kv Instr.sameNow at h0
      simp at h0
  · rw [h0]
    exact findAsking_kv w r hr es L 0 h hL

theorem zero94 (w : World) : (zeroValue 96).run Tryd.prog w = .ok (.agg #[]) w := by
  have h : Tryd.prog.info? 96 = some Tryd.t96 := by kernel_rfl
  unfold zeroValue
  simp only [Sem.run_bind, run_typeInfo w h, Result.andThen_ok]
  rfl
/-- Is it one of them? -/
theorem Mk.look {m : Nat} {L : List (Int × Addr × Nat)} {w : World} (h : Mk m L w) (r : Int × Addr × Nat) (hr : Flat w r.2.1) : (Instr.lookup 86 (.map (some m)) (kv r) true).run Tryd.prog w = .ok (.tuple #[.agg #[], .bool (L.contains r)]) w := by
  obtain ⟨es, clock, h1, h2, hv, h3⟩ := h
  obtain ⟨a, g1, g2, g3⟩ := findKey_kv w r hr es.toList L h2 h3
  unfold Instr.lookup
  simp only [Sem.run_bind, run_underlying Tryd.underlying86, Result.andThen_ok, MapKept.run_getObj_map h1, checkKey_kv, g1, Sem.run_pure]
  cases a with
  | none =>
    simp only [Sem.run_bind, zero94, Result.andThen_ok, Sem.run_pure]
    rw [← g2]; rfl
  | some x =>
    obtain ⟨e, he, hx⟩ := g3 x rfl
    rw [hv e he] at hx
    obtain ⟨i, v⟩ := x
    obtain rfl : v = .agg #[] := hx.symm
    rw [← g2]; rfl
/-- One more. -/
theorem Mk.put {m : Nat} {L : List (Int × Addr × Nat)} {w : World} (h : Mk m L w) (r : Int × Addr × Nat) (hr : Flat w r.2.1) (hn : L.contains r = false) :
    ∃ w', (Instr.mapUpdate 86 (.map (some m)) (kv r) (.agg #[])).run Tryd.prog w = .ok () w' ∧ Mv (fun k => k = m) w w' ∧ (r.2.1.block ≠ m → (∀ s ∈ L, s.2.1.block ≠ m) → Mk m (L ++ [r]) w') := by
  obtain ⟨es, clock, h1, h2, hv, h3⟩ := h
  obtain ⟨a, g1, g2, g3⟩ := findKey_kv w r hr es.toList L h2 h3
  rw [hn] at g2
  obtain rfl : a = none := by cases a with | none => rfl | some _ => simp at g2
  have hmv : Mv (fun k => k = m) w { w with heap := w.heap.setIfInBounds m (.map (es.push { key := kv r, val := .agg #[], born := clock }) (clock + 1)) } :=
    ⟨rfl, rfl, rfl, by simp, fun k hk hs => by simp [Ne.symm hs]⟩
  refine ⟨_, ?_, hmv, ?_⟩
  · unfold Instr.mapUpdate
    simp only [Sem.run_bind, run_underlying Tryd.underlying86, Result.andThen_ok, MapKept.run_getObj_map h1, checkKey_kv, g1, MapKept.run_setObj_map _ h1]
  · intro hb hL
    refine ⟨_, _, (MapKept.heap_set h1).1, by simp [h2], fun e he => ?_, ?_⟩
    · simp at he
      rcases he with he | he
      · exact hv e (by simpa using he)
      · rw [he]
    intro s hs
    rcases List.mem_append.1 hs with hs | hs
    · exact (h3 s hs).mv hmv (hL s hs)
    · simp at hs; rw [hs]; exact hr.mv hmv hb

end Go.Proofs.YtojbakkbmfgoaaaDoor
