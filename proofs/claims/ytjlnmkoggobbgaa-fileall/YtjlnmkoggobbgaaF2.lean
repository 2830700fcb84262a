/- The small functions of a file. -/
import Derived.Test.YtjlnmkoggobbgaaF1
namespace Go.Proofs.Ytjlnmkoggobbgaa
open Go.RowKit

theorem size_any (b : Nat) (sz : Int) (w : World) (hc : w.cell? ⟨b, 0, none⟩ = some (.int .i64 sz)) :
    Calls Try.prog 49 #[.pointer (some ⟨b, 0, none⟩)] w fun e w' => e = .returned (.int .i64 sz) ∧ w' = w := by
  go_enter Try.func49, Try.ntmps49
  go_wp2
  go_ret
  exact ⟨rfl, rfl⟩
theorem flen_nil (w : World) : Calls Try.prog 31 #[.pointer none] w fun e w' => e = .returned (.int .i64 0) ∧ w' = w := by
  go_enter Try.func31, Try.ntmps31
  go_wp2
  go_ret
  exact ⟨rfl, rfl⟩
theorem flen_nop (q : Nat) (w : World) (hc : w.cell? ⟨q, 0, none⟩ = some (.pointer none)) : Calls Try.prog 31 #[.pointer (some ⟨q, 0, none⟩)] w fun e w' => e = .returned (.int .i64 0) ∧ w' = w := by
  go_enter Try.func31, Try.ntmps31
  go_wp2_with fail
  refine (len_nil w).mono ?_
  rintro e w1 ⟨rfl, hw⟩
  obtain rfl := hw.symm
  clear hw
  go_wp2_with fail
  go_ret
  exact ⟨rfl, rfl⟩
theorem has_none (w : World) : Calls Try.prog 42 #[.pointer none] w fun e w' => e = .returned (.bool false) ∧ w' = w := by
  go_enter Try.func42, Try.ntmps42
  go_wp2
  go_ret
  exact ⟨rfl, rfl⟩
theorem has_nop (q : Nat) (w : World) (hc : w.cell? ⟨q, 0, none⟩ = some (.pointer none)) : Calls Try.prog 42 #[.pointer (some ⟨q, 0, none⟩)] w fun e w' => e = .returned (.bool false) ∧ w' = w := by
  go_enter Try.func42, Try.ntmps42
  go_wp2
  go_ret
  exact ⟨rfl, rfl⟩
theorem has_some (q b : Nat) (w : World) (hc : w.cell? ⟨q, 0, none⟩ = some (.pointer (some ⟨b, 0, none⟩))) : Calls Try.prog 42 #[.pointer (some ⟨q, 0, none⟩)] w fun e w' => e = .returned (.bool true) ∧ w' = w := by
  go_enter Try.func42, Try.ntmps42
  go_wp2
  go_ret
  exact ⟨rfl, rfl⟩

section
variable {w : World} {q : Nat} {d : Pd} {mo : Int} {l : List Int} {bad : Nat → Bool} {R : List Int} {Y : Nat → Prop}
theorem flen_any (h : Fs w q d mo l bad R Y) : Calls Try.prog 31 #[.pointer (some ⟨q, 0, none⟩)] w fun e w' => e = .returned (.int .i64 d.n) ∧ w' = w := by
  obtain ⟨c, ra, rc, S, X, h, rfl⟩ := h
  have hp := h.fp
  have L := len_any d.bp _ d.n d.n w h.P.c0
  clear h
  go_enter Try.func31, Try.ntmps31
  go_wp2_with fail
  refine L.mono ?_
  rintro e w1 ⟨rfl, hw⟩
  obtain rfl := hw.symm
  clear hw
  go_wp2_with fail
  go_ret
  exact ⟨rfl, rfl⟩
theorem kept_len (h : Fs w q d mo l bad R Y) : Calls Try.prog 30 #[.pointer (some ⟨q, 0, none⟩)] w fun e w' => e = .returned (.int .i64 l.length) ∧ Hid (Below w.heap.size w w') := by
  have hl := h.nodup.2.1
  have hs := h.small
  obtain ⟨c, ra, rc, S, X, h, rfl⟩ := h
  have hp := h.fk
  rw [ks_length] at *
  have L := bkeys h.C (by omega)
  clear h hl hs
  go_enter Try.func30, Try.ntmps30
  go_wp2_with fail
  refine L.mono ?_
  rintro e w1 ⟨a, cap, rfl, H⟩
  clear L
  go_wp2_with fail
  go_ret
  exact ⟨rfl, H.out.2⟩
theorem kept_nil (w : World) : Calls Try.prog 30 #[.pointer none] w fun e w' => e = .returned (.int .i64 0) ∧ w' = w := by
  go_enter Try.func30, Try.ntmps30
  go_wp2
  go_ret
  exact ⟨rfl, rfl⟩
theorem evict_nil (w : World) : Calls Try.prog 26 #[.pointer none] w fun e w' => e = .returned (.tuple #[]) ∧ w' = w := by
  go_enter Try.func26, Try.ntmps26
  go_wp2
  (try simp only [Exit.inBlock, Exit.then]); refine bodyPost_ret (results_none rfl _ _ _) rfl ?_
  exact ⟨rfl, rfl⟩

/-- The cache has gone on by itself. -/
theorem Fi.cache {c : Nat} {ra : Option Addr} {rc : Nat} {S S' : List Kw} {X : Nat → Prop} {w' : World} (h : Fi w q d mo bad R Y c ra rc S X) (hC : Ch w' c 2 mo S' X) (hm : Mv (fun j => ¬ X j) w w') (hlen : (S'.length : Int) ≤ max mo 1) (hpg : ∀ p, p ∈ S' → Vp w d ra X Y p) : Fi w' q d mo bad R Y c ra rc S' X := by
  refine ⟨hm.cell h.fp (fun e => e h.xq), hm.cell h.fk (fun e => e h.xq), h.P.mv hm (fun j hj => ?_), hC, h.xy, h.xt, h.xq, h.xr, fun j hj => Nat.lt_of_lt_of_le (h.xw j hj) hm.size, h.yp, h.qn, hlen, ?_⟩
  · refine ⟨?_, fun e => hj (h.xr j e)⟩
    rcases Nat.lt_or_ge j d.top with e | e
    · exact (hj (h.xt j e)).elim
    · exact e
  · intro p hp
    obtain ⟨i, g, h1, h2, h3, h4, h5, h6, h7, h8⟩ := hpg p hp
    exact ⟨i, g, h1, h2, h3, h4, h5, h6, h7, fun j hj => hm.cell (h8 j hj) (fun e => e h6)⟩
theorem Fi.away {c : Nat} {ra : Option Addr} {rc : Nat} {S : List Kw} {X : Nat → Prop} {w' : World} (h : Fi w q d mo bad R Y c ra rc S X) (hm : Mv (fun j => ¬ X j) w w') : Mv (fun j => ¬ Y j) w w' := hm.mono (fun j _ e hy => e (h.xy j hy))

theorem evict_any (h : Fs w q d mo l bad R Y) : Calls Try.prog 26 #[.pointer (some ⟨q, 0, none⟩)] w fun e w' => e = .returned (.tuple #[]) ∧ Hid (Fs w' q d mo [] bad R Y ∧ Mv (fun j => ¬ Y j) w w') := by
  obtain ⟨c, ra, rc, S, X, h, rfl⟩ := h
  have hp := h.fk
  have L := bclear h.C
  have H : Hid _ := h
  clear h
  go_enter Try.func26, Try.ntmps26
  go_wp2_with fail
  refine L.mono ?_
  rintro e w1 ⟨rfl, C⟩
  clear L
  go_wp2_with fail
  go_end0
  exact ⟨rfl, ⟨c, ra, rc, [], X, H.out.cache C.out.1 C.out.2 (by simp; omega) (fun p hp => by cases hp), rfl⟩, H.out.away C.out.2⟩
end
end Go.Proofs.Ytjlnmkoggobbgaa
