/- A page that is read. -/
import Derived.Test.YtjlnmkoggobbgaaF3
namespace Go.Proofs.Ytjlnmkoggobbgaa
open Go.RowKit

theorem app_lof (R : List Int) (x : Int) (j : Nat) (hj : j < R.length + 1) : app (lof R) R.length x j = lof (R ++ [x]) j := by
  unfold app lof
  by_cases h : j < R.length
  · rw [if_pos h, List.getElem?_append_left h]
  · obtain rfl : j = R.length := by omega
    rw [if_neg h, List.getElem?_append_right (Nat.le_refl _), Nat.sub_self]; rfl

theorem pS_mem {mo : Int} {S : List Kw} {k : Int} {v : Nat → Value} {p : Kw} (h : p ∈ pS mo S k v) : p = (k, v) ∨ p ∈ S := by
  unfold pS at h
  have h2 : p ∈ (k, v) :: sdel S k := by
    split at h
    · exact h
    · exact List.dropLast_subset _ h
  rcases List.mem_cons.1 h2 with h | h
  · exact .inl h
  · exact .inr (List.mem_filter.1 h).1

def fchain : List PanicEntry := [{ v := .iface 26 (.int .i64 11), recovered := false }]

section
variable {w : World} {q : Nat} {d : Pd} {mo : Int} {l : List Int} {bad : Nat → Bool} {R : List Int} {Y : Nat → Prop}

theorem Fi.read {c : Nat} {ra ra' : Option Addr} {rc rc' : Nat} {S : List Kw} {X : Nat → Prop} {w1 : World} {i : Nat} (h : Fi w q d mo bad R Y c ra rc S X) (P : Pg w1 d ra' rc' bad (R.length + 1) (app (lof R) R.length i)) (K : bk ra' = bk ra ∨ ∃ g, bk ra' = some g ∧ w.heap.size ≤ g) (M : Mv (fun j => j = d.bp ∨ bk ra = some j) w w1) :
    Fi w1 q d mo bad (R ++ [(i : Int)]) Y c ra' rc' S (fun j => X j ∨ (w.heap.size ≤ j ∧ j < w1.heap.size)) ∧ Mv (fun j => ¬ Y j) w w1 := by
  obtain ⟨t1, t2, t3⟩ := h.P.t0
  have hq := h.qn
  have hnew : ∀ j, j < w.heap.size → bk ra ≠ some j → bk ra' ≠ some j := by
    intro j hj hr e
    rcases K with K | ⟨g, k1, k2⟩
    · exact hr (K ▸ e)
    · rw [k1] at e
      have := Option.some.inj e
      omega
  have hqs : ¬ (q = d.bp ∨ bk ra = some q) := by
    rintro (e | e)
    · omega
    · exact hq.2 e
  have hql : q < w.heap.size := World.block_lt_of_cell? _ _ h.fp
  refine ⟨⟨M.cell h.fp hqs, M.cell h.fk hqs, ?_, (h.C.mv M (fun j hj => ?_)).mono (fun j hj => ?_), fun j hj => .inl (h.xy j hj), fun j hj => .inl (h.xt j hj), .inl h.xq, fun j hj => ?_, fun j hj => ?_, fun j hj => ?_, ⟨hq.1, hnew q hql hq.2⟩, h.len, fun p hp => ?_⟩, M.mono (fun j _ hj hy => ?_)⟩
  · rw [List.length_append]
    exact P.rds (fun j hj => app_lof R i j hj)
  · rcases hj with e | e
    · rw [e]; exact h.xt _ t1
    · exact h.xr j e
  · rcases hj with hj | hj
    · exact .inl hj
    · exact .inr hj.1
  · rcases K with K | ⟨g, k1, k2⟩
    · exact .inl (h.xr j (K ▸ hj))
    · have e := k1 ▸ hj
      have e2 := Option.some.inj e
      exact .inr ⟨by omega, (P.reads.blk j (by rw [own_blk]; exact hj)).2⟩
  · rcases hj with hj | hj
    · exact Nat.lt_of_lt_of_le (h.xw j hj) M.size
    · exact hj.2
  · have y := h.yp j hj
    exact ⟨y.1, y.2.1, hnew j (h.xw j (h.xy j hj)) y.2.2.1, y.2.2.2⟩
  · obtain ⟨i, g, h1, h2, h3, h4, h5, h6, h7, h8⟩ := h.pg p hp
    refine ⟨i, g, h1, h2, h3, h4, hnew g (h.xw g h6) h5, .inl h6, h7, fun j hj => M.cell (h8 j hj) ?_⟩
    rintro (e | e)
    · have e' : g = d.bp := e
      omega
    · exact h5 e
  · have y := h.yp j hy
    rcases hj with e | e
    · exact y.1 e
    · exact y.2.2.1 e

set_option maxHeartbeats 1000000 in
theorem fpage_bad (h : Fs w q d mo l bad R Y) {i : Nat} (hi : (i : Int) ∉ l) (him : i < d.m) (hb : bad i = true) (hR : R.length < 50000) :
    Calls Try.prog 50 #[.pointer (some ⟨q, 0, none⟩), .int .i64 i] w fun e w' => e = .panicked fchain ∧ Hid (Fs w' q d mo l bad (R ++ [(i : Int)]) Y ∧ Mv (fun j => ¬ Y j) w w') := by
  have hsm := h.small
  obtain ⟨c, ra, rc, S, X, h, rfl⟩ := h
  have L := bget_none h.C (fits_nat (by omega)) (sfnd_none_iff.2 hi)
  have RB := read_bad d i ra rc R.length bad (lof R) w h.P hR him hb
  have hc := h.fk
  have hp := h.fp
  have fin : ∀ w', WasRead w w' d ra bad R.length (lof R) i → Hid (Fs w' q d mo (ks S) bad (R ++ [(i : Int)]) Y ∧ Mv (fun j => ¬ Y j) w w') := by
    rintro w' ⟨ra', rc', P, K, M⟩
    have := h.read P.out K.out M.out
    exact ⟨⟨c, ra', rc', S, _, this.1, rfl⟩, this.2⟩
  clear h hsm hi him hb hR
  go_enter Try.func50, Try.ntmps50
  go_wp2_with fail
  refine L.mono ?_
  rintro e w1 ⟨rfl, hw⟩
  obtain rfl := hw.symm
  clear hw L
  go_wp2_with fail
  refine RB.mono ?_
  rintro e w2 ⟨rfl, H⟩
  clear RB
  go_wp2_with fail
  exact ⟨rfl, rfl, fin w2 H⟩

set_option maxHeartbeats 1000000 in
theorem fpage_miss (h : Fs w q d mo l bad R Y) {i : Nat} (hi : (i : Int) ∉ l) (him : i < d.m) (hb : bad i = false) (hR : R.length < 50000) :
    Calls Try.prog 50 #[.pointer (some ⟨q, 0, none⟩), .int .i64 i] w fun e w' => ∃ g, e = .returned (.slice (some ⟨g, 0, none⟩) (plen d i) (plen d i)) ∧ Hid (Got w w' q d mo (step (cap mo) l i) bad (R ++ [(i : Int)]) Y i g) := by
  have hsm := h.small
  have hN := h.nodup
  obtain ⟨c, ra, rc, S, X, h, rfl⟩ := h
  have hf := sfnd_none_iff.2 hi
  have hfi := fits_nat (i := i) (by omega)
  have L := bget_none h.C hfi hf
  have RO := read_ok d i ra rc R.length bad (lof R) w h.P hR him hb
  have hc := h.fk
  have hp := h.fp
  have hlen := h.len
  rw [ks_length] at hN
  have fin : ∀ w1 g, WasTold w w1 d ra bad R.length (lof R) i g (min d.sz (d.n - i * d.sz)) → w1.cell? ⟨q, 1, none⟩ = some (.pointer (some ⟨c, 0, none⟩)) ∧
      Calls Try.prog 52 #[.pointer (some ⟨c, 0, none⟩), .int .i64 i, .slice (some ⟨g, 0, none⟩) (min d.sz (d.n - i * d.sz)) (min d.sz (d.n - i * d.sz))] w1 fun e w2 => ∃ a b, e = .returned (.tuple #[.int .i64 a, .bool b]) ∧ Hid (Got w w2 q d mo (step (cap mo) (ks S) i) bad (R ++ [(i : Int)]) Y i g) := by
    rintro w1 g ⟨ra', rc', P, K, M, N, O⟩
    obtain ⟨F, MY⟩ := h.read P.out K.out M.out
    refine ⟨F.fk, ?_⟩
    refine (bput F.C hfi F.xw (by omega) F.len (some ⟨g, 0, none⟩) _ _).mono ?_
    rintro e w2 ⟨rfl, C⟩
    refine ⟨_, _, rfl, ?_⟩
    have hg := O.out.blk g rfl
    have hO : ∀ j, j < plen d i → w1.cell? ⟨g, j, none⟩ = some (.int .u8 (d.f (i * d.sz + j))) := fun j hj => (O.out.at hj).1
    have hYg : ¬ Y g := fun hy => by have := h.xw g (h.xy g hy); omega
    have hXg : X g ∨ (w.heap.size ≤ g ∧ g < w1.heap.size) := .inr hg
    have F2 := F.cache C.out.1 C.out.2 (pS_length F.C.nodup F.len _).1 (fun p hp => by
      rcases pS_mem hp with rfl | hp
      · exact ⟨i, g, rfl, him, rfl, by have := h.P.tp; omega, N.out, hXg, hYg, hO⟩
      · exact F.pg p hp)
    refine ⟨⟨c, ra', rc', _, _, F2, ?_⟩, MY.trans (F.away C.out.2) (fun _ _ h => h), fun j hj => C.out.2.cell (hO j hj) (fun e => e hXg), hYg, Nat.lt_of_lt_of_le hg.2 C.out.2.size⟩
    exact ks_pS F.C.nodup (cap_eq mo) (by have := cap_eq mo; omega) _ _
  have hpl : plen d i = min d.sz (d.n - i * d.sz) := rfl
  rw [hpl]
  clear h hsm hi him hb hR hf hfi hN hlen hpl
  generalize min d.sz (d.n - i * d.sz) = n at RO fin ⊢
  go_enter Try.func50, Try.ntmps50
  go_wp2_with fail
  refine L.mono ?_
  rintro e w1 ⟨rfl, hw⟩
  obtain rfl := hw.symm
  clear hw L
  go_wp2_with fail
  refine RO.mono ?_
  rintro e w2 ⟨g, rfl, H⟩
  clear RO
  obtain ⟨hk2, PP⟩ := fin w2 g H
  clear fin
  go_wp2_with fail
  refine PP.mono ?_
  rintro e w3 ⟨a, b, rfl, G⟩
  clear PP
  go_wp2_with fail
  go_ret
  exact ⟨g, rfl, G⟩
end
end Go.Proofs.Ytjlnmkoggobbgaa
