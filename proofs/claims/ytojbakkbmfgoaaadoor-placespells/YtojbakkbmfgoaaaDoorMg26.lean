/- Of the closed text a(b|c)*. -/
import Derived.Test.YtojbakkbmfgoaaaDoorMg10
import Derived.Test.YtojbakkbmfgoaaaDoorMg01
import Derived.Test.YtojbakkbmfgoaaaDoorMsV1
import Derived.Test.YtojbakkbmfgoaaaDoorMg17
import Derived.Test.YtojbakkbmfgoaaaDoorMsH5
import Derived.Test.YtojbakkbmfgoaaaDoorMg16
import Derived.Test.YtojbakkbmfgoaaaDoorMg13
namespace Go.Proofs.YtojbakkbmfgoaaaDoor
open Go.RowKit
set_option linter.unusedVariables false

theorem one_run (a : Nat) (ha : a < 256) : Runs (btw a a) 0 [(a, a)] := by
  refine ⟨by omega, by omega, by omega, fun c _ h => ?_, fun c h1 h2 => ?_, fun _ => ?_, fun b h1 h2 => ?_⟩
  · unfold btw; simp; omega
  · unfold btw; simp; omega
  · unfold btw; simp
  · unfold btw; simp; omega
theorem Gd.one {g : (Nat → Bool) → List Nat} (h : Gd g) (a : Nat) (ha : a < 256) : g (btw a a) = shw [(a, a)] := by
  obtain ⟨R, h1, h2⟩ := h (btw a a)
  rw [h2, Runs.one h1 (one_run a ha)]
end Go.Proofs.YtojbakkbmfgoaaaDoor

namespace Go.Proofs.YtojbakkbmfgoaaaDoor
open Go.RowKit
set_option linter.unusedVariables false

/-- How many nodes such a tree has at most. -/
def Nd : Nat → Nat
  | 0 => 1
  | d + 1 => 1 + 3 * Nd d
theorem Nd_pos : ∀ d, 1 ≤ Nd d
  | 0 => Nat.le_refl 1
  | d + 1 => by unfold Nd; omega
/-- A tree that the play makes. -/
structure Pl (d : Nat) (x : RX) : Prop where
  formed : x.formed = true
  depth : x.depth ≤ d + 1
  nodes : x.nodes ≤ Nd d
  kind : 1 ≤ x.kind ∧ x.kind ≤ 4
  text : ∀ g, Gd g → (x.sh g).length + 4 ≤ 60 * x.nodes
/-- What the play's Rx tells. -/
def RxP (d : Nat) (w : World) (g : Nat) (a : Option Addr) (len cap : Nat) (f : Nat → Nat) (e : Ending) (w' : World) : Prop :=
  ∃ x pa pc n', e = .returned (.agg #[.int .i64 x.kind, .int .u64 (limb x.set 0), .int .u64 (limb x.set 1), .int .u64 (limb x.set 2), .int .u64 (limb x.set 3), .slice pa x.args.length pc]) ∧ Hid (Pl d x) ∧ Hid (Parts x.args (fun j => w.heap.size ≤ j) w' pa pc) ∧ Hid (Pk w' g a len cap f n') ∧ Hid (Mv (fun j => j = g) w w')
theorem sum_le60 {l : List RX} {f : RX → Nat} (h : ∀ x ∈ l, f x ≤ 60 * x.nodes) : (l.map f).sum ≤ 60 * (l.map RX.nodes).sum := by
  induction l with
  | nil => simp
  | cons x l ih =>
    have h1 := h x (by simp)
    have h2 := ih (fun y hy => h y (by simp [hy]))
    simp only [List.map_cons, List.sum_cons]
    omega
/-- A node's text, out of its parts'. -/
theorem sh_step {g : (Nat → Bool) → List Nat} {k : Int} {p : Nat → Bool} {l : List RX} (hk : k ≠ 1) (ih : ∀ x ∈ l, (x.sh g).length + 4 ≤ 60 * x.nodes) : (RX.sh g ⟨k, p, l⟩).length + 4 ≤ 60 * RX.nodes ⟨k, p, l⟩ := by
  rw [sh_eq, nodes_eq, if_neg hk]
  have h1 : ((l.map (fun a => (brk1 k a (a.sh g)).length + 1))).sum ≤ 60 * (l.map RX.nodes).sum := sum_le60 (fun x hx => by have := ih x hx; have := brk1_len k x (x.sh g); omega)
  unfold joinK
  split
  · unfold texts
    have h2 : ((l.map (fun a => brk1 k a (a.sh g))).flatten).length ≤ ((l.map (fun a => (brk1 k a (a.sh g)).length + 1))).sum := by
      clear h1 ih
      induction l with
      | nil => simp
      | cons x l ih => simp only [List.map_cons, List.flatten_cons, List.length_append, List.sum_cons]; omega
    omega
  · split
    · have h2 := inter_len (texts g k l)
      unfold texts at h2
      rw [List.map_map] at h2
      have h3 : (List.map ((fun t => t.length + 1) ∘ fun a => brk1 k a (RX.sh g a)) l).sum = ((l.map (fun a => (brk1 k a (a.sh g)).length + 1))).sum := rfl
      unfold texts
      omega
    · unfold texts
      cases l with
      | nil => simp
      | cons x l =>
        simp only [List.map_cons, List.sum_cons, List.length_append, List.length_singleton] at *
        have := nodes_pos x
        omega
theorem few_text {p : Nat → Bool} (h : Few p) {g : (Nat → Bool) → List Nat} (hg : Gd g) : (g p).length ≤ 50 := by
  obtain ⟨R, hR, e⟩ := hg p
  have h3 := h R hR
  have hgood := hR.good
  obtain ⟨_, f2⟩ := flat_lt hgood
  rw [e]
  match R, hgood with
  | [], _ => simp [shw]
  | [(a, b)], hgood =>
    show (if a = b then shn a else if a = 0 ∧ b = 255 then [46] else 91 :: (rtx (a, b) ++ [93])).length ≤ 50
    have hr := (rtx_lt (hgood (a, b) (List.mem_cons_self ..))).2
    split
    · next h1 =>
      have e : rtx (a, b) = shn a := by unfold rtx; simp [h1]
      rw [e] at hr; omega
    · split
      · simp
      · simp; omega
  | r :: s :: R, _ =>
    show (91 :: ((r :: s :: R).flatMap rtx ++ [93])).length ≤ 50
    rw [List.length_cons, List.length_append, List.length_singleton]
    omega
/-- A set. -/
theorem pl_set (d : Nat) {p : Nat → Bool} (h : any p = true ∧ Few p) : Pl d ⟨1, p, []⟩ := by
  refine ⟨?_, ?_, ?_, ⟨by show (1 : Int) ≤ 1; decide, by show (1 : Int) ≤ 4; decide⟩, fun g hg => by rw [sh_eq, nodes_eq, if_pos rfl]; have := few_text h.2 hg; simp; omega⟩
  · rw [formed_eq]; simp [node, h.1]
  · rw [depth_eq]; simp [maxl]
  · rw [nodes_eq]; simp; exact Nd_pos d
/-- A node of play's. -/
theorem pl_node {d : Nat} {k : Int} {l : List RX} (hk : 2 ≤ k ∧ k ≤ 4) (hl : if k = 4 then l.length = 1 else 2 ≤ l.length ∧ l.length ≤ 3) (h : ∀ x ∈ l, Pl d x ∧ x.kind ≠ k) : Pl (d + 1) ⟨k, fun _ => false, l⟩ := by
  have h3 : l.length ≤ 3 := by split at hl <;> omega
  refine ⟨?_, ?_, ?_, ⟨by show 1 ≤ k; omega, hk.2⟩, fun g hg => sh_step (by omega) (fun x hx => (h x hx).1.text g hg)⟩
  · rw [formed_eq]
    have hn : node k (fun _ => false) l.length = true := by
      unfold node
      rw [any_none]
      by_cases e : k = 4
      · rw [if_pos e] at hl; subst e; simp [hl]
      · rw [if_neg e] at hl
        rw [if_pos (by omega)]; simp; omega
    rw [hn, Bool.true_and, Bool.and_eq_true, List.all_eq_true, List.all_eq_true]
    refine ⟨fun x hx => ?_, fun x hx => (h x hx).1.formed⟩
    have h1 := (h x hx).1.kind
    have h2 := (h x hx).2
    rw [decide_eq_true_iff]
    unfold lvl
    obtain ⟨m, hm⟩ : ∃ m, m = x.kind := ⟨_, rfl⟩
    rw [← hm] at h1 h2 ⊢
    clear hm h hl hn h3
    rcases (show m = 1 ∨ m = 2 ∨ m = 3 ∨ m = 4 from by omega) with rfl | rfl | rfl | rfl <;> rcases (show k = 2 ∨ k = 3 ∨ k = 4 from by omega) with rfl | rfl | rfl <;> simp at h2 ⊢
  · rw [depth_eq]
    have : maxl (l.map RX.depth) ≤ d + 1 := by
      clear hl h3
      induction l with
      | nil => simp [maxl]
      | cons x l ih =>
        have := ih (fun y hy => h y (by simp [hy]))
        have := (h x (by simp)).1.depth
        simp only [List.map_cons, maxl]
        omega
    omega
  · rw [nodes_eq]
    have : (l.map RX.nodes).sum ≤ l.length * Nd d := by
      clear hl h3
      induction l with
      | nil => simp
      | cons x l ih =>
        have := ih (fun y hy => h y (by simp [hy]))
        have := (h x (by simp)).1.nodes
        simp only [List.map_cons, List.sum_cons, List.length_cons, Nat.add_mul, Nat.one_mul]
        omega
    have h4 : l.length * Nd d ≤ 3 * Nd d := Nat.mul_le_mul_right _ h3
    unfold Nd
    omega

/-- While a node's parts are made: gr its box, v its row. -/
def Kr (gr : Nat) (wr : World) (v : Value) : Nat → Prop := fun j => gr + 1 ≤ j ∧ j < wr.heap.size ∧ v.ownBlock ≠ some j
structure Plr (w : World) (g : Nat) (a : Option Addr) (len cap : Nat) (f : Nat → Nat) (gr : Nat) (k : Int) (d : Nat) (wr : World) (v : Value) (acc : List RX) : Prop where
  ro : Ro (gr + 1) (Kr gr wr v) wr v acc
  pk : ∃ n', Pk wr g a len cap f n'
  z : B6 w.heap.size (.int .i64 0) (.int .u64 0) (.int .u64 0) (.int .u64 0) (.int .u64 0) (.slice none 0 0) wr
  r : B6 gr (.int .i64 k) (.int .u64 0) (.int .u64 0) (.int .u64 0) (.int .u64 0) v wr
  mv : Mv (fun j => j = g) w wr
  ok : ∀ x ∈ acc, Pl d x ∧ x.kind ≠ k
  row : Sl w a len (Bn f)
  hg : g < w.heap.size
  hr : w.heap.size < gr
theorem Plr.blk {w : World} {g : Nat} {a : Option Addr} {len cap : Nat} {f : Nat → Nat} {gr : Nat} {k : Int} {d : Nat} {wr : World} {v : Value} {acc : List RX} (h : Plr w g a len cap f gr k d wr v acc) : ∀ j, v.ownBlock = some j → gr + 1 ≤ j ∧ j < wr.heap.size := by
  obtain ⟨ys, h1, _⟩ := h.ro.ow
  exact ow_blk h1
/-- What other calls leave. -/
theorem Plr.go {w : World} {g : Nat} {a : Option Addr} {len cap : Nat} {f : Nat → Nat} {gr : Nat} {k : Int} {d : Nat} {wr w3 : World} {v : Value} {acc : List RX} (h : Plr w g a len cap f gr k d wr v acc) (m : Mv (fun j => j = g) wr w3) {n' : Nat} (p : Pk w3 g a len cap f n') : Plr w g a len cap f gr k d w3 v acc := by
  have hg := h.hg
  have hr := h.hr
  have hz := h.mv.size
  have hb := h.blk
  have hz2 := m.size
  exact ⟨(h.ro.mv m (fun j hj e => by have := hj.1; omega) (fun j hj e => by have := hb j hj; omega)).mono (fun j hj => ⟨hj.1, by have := hj.2.1; omega, hj.2.2⟩) (fun j hj => hj.2.2), ⟨n', p⟩, (B6.mv h.z m (by omega)).out, (B6.mv h.r m (by omega)).out, h.mv.trans m (fun _ _ h => h), h.ok, h.row, hg, hr⟩
/-- One more is appended. -/
theorem Plr.step {w : World} {g : Nat} {a : Option Addr} {len cap : Nat} {f : Nat → Nat} {gr : Nat} {k : Int} {d : Nat} {wr w3 : World} {v : Value} {acc : List RX} {x : RX} {pa : Option Addr} {pc n' : Nat} {S : Nat → Prop} (h : Hid (Plr w g a len cap f gr k d wr v acc)) (hx : Hid (Parts x.args (fun j => wr.heap.size ≤ j ∧ ¬ S j) w3 pa pc)) (m : Mv (fun j => j = g) wr w3) (p : Hid (Pk w3 g a len cap f n')) (ho : Hid (Pl d x ∧ x.kind ≠ k)) (hl : acc.length < 90000) :
    ∃ v' W, (Builtin.append_ #[27, 27] 27 #[v, .slice (some ⟨w3.heap.size, 0, none⟩) 1 1]).run Tryd.prog (w3.alloc (.cells #[.int .i64 x.kind, .int .u64 (limb x.set 0), .int .u64 (limb x.set 1), .int .u64 (limb x.set 2), .int .u64 (limb x.set 3), .slice pa x.args.length pc] 29)) = .ok v' W ∧ Hid (B6 gr (.int .i64 k) (.int .u64 0) (.int .u64 0) (.int .u64 0) (.int .u64 0) v W) ∧ (∃ va vc, v' = .slice va (acc.length + 1) vc) ∧ Hid (Plr w g a len cap f gr k d (W.setCell ⟨gr, 5, none⟩ v') v' (acc ++ [x])) := by
  have h3 := h.out.go m p.out
  have hg := h3.hg
  have hr := h3.hr
  have hz := h3.mv.size
  have hb := h3.blk
  have hb0 := h.out.blk
  have hrl := h3.r.lt
  have hp2 : Parts x.args (Kr gr w3 v) w3 pa pc := hx.out.lt.mono (fun j hj => ⟨by have := hj.1.1; have := h.out.r.lt; omega, hj.2, fun e => by have := hb0 j e; have := hj.1.1; omega⟩)
  obtain ⟨v', W, hrun, ro', m2, nb⟩ := h3.ro.push (by omega) hl (fun j hj => hj.2.1) hp2
  have hW := m2.out.size
  have hR := B6.mv h3.r m2.out (fun e => by have := hb gr e; omega)
  have mg := Mv.setCell W ⟨gr, 5, none⟩ v'
  have hv' : ∀ j, v'.ownBlock = some j → gr + 1 ≤ j ∧ j < W.heap.size := by
    obtain ⟨ys, h1, _⟩ := ro'.out.ow
    exact ow_blk h1
  have hsz : (W.setCell ⟨gr, 5, none⟩ v').heap.size = W.heap.size := by simp
  have hW2 : Pk W g a len cap f n' := Pk.mv2 hg h3.row p.out m2.out (by omega) (fun j hj e => by have := hb j e; omega)
  refine ⟨v', W, hrun, hR, ?_, ⟨?_, ⟨n', Pk.mv2 hg h3.row hW2 mg (by omega) (fun j hj e => by simp at e; omega)⟩, ?_, ?_, ?_, ?_, h3.row, hg, hr⟩⟩
  · obtain ⟨ys, h1, _⟩ := ro'.out.ow
    obtain ⟨va, vc, e, _⟩ := ow_ls h1
    exact ⟨va, vc, by rw [e, List.length_append, List.length_singleton]⟩
  · exact (ro'.out.mv mg (fun j hj e => by have := hj.1; simp at e; omega) (fun j hj e => by have := hv' j hj; simp at e; omega)).mono (fun j hj => ⟨hj.1, by have := hj.2.1; rw [hsz]; omega, ro'.out.off j hj⟩) (fun j hj => hj.2.2)
  · exact (B6.mv (B6.mv h3.z m2.out (fun e => by have := hb _ e; omega)).out mg (by simp; omega)).out
  · exact heap_set hR.out
  · exact (h3.mv.trans m2.out (fun j hj e => by have := hb j e; omega)).trans mg (fun j hj e => by simp at e; omega)
  · intro y hy
    rcases List.mem_append.1 hy with e | e
    · exact h3.ok y e
    · rw [List.mem_singleton.1 e]; exact ho.out
/-- All were made. -/
theorem Plr.tell {w : World} {g : Nat} {a : Option Addr} {len cap : Nat} {f : Nat → Nat} {gr : Nat} {k : Int} {d : Nat} {wr : World} {va : Option Addr} {vn vc : Nat} {acc : List RX} (h : Hid (Plr w g a len cap f gr k d wr (.slice va vn vc) acc)) (hn : acc.length = vn) (hk : 2 ≤ k ∧ k ≤ 4) (hl : if k = 4 then vn = 1 else 2 ≤ vn ∧ vn ≤ 3) (v0 v1 v2 v3 v4 v5 : Value) :
    RxP (d + 1) w g a len cap f (.returned (.agg #[.int .i64 k, .int .u64 0, .int .u64 0, .int .u64 0, .int .u64 0, .slice va vn vc])) (put6 wr w.heap.size v0 v1 v2 v3 v4 v5) := by
  have hr := h.out.hr
  have hg := h.out.hg
  have hb := h.out.blk
  have mp := put6_mv wr w.heap.size v0 v1 v2 v3 v4 v5
  obtain ⟨n', hp⟩ := h.out.pk
  subst hn
  have hl3 : acc.length < 100000 := by split at hl <;> omega
  obtain ⟨a2, c2, hv, hparts, _⟩ := h.out.ro.sl hl3
  obtain ⟨rfl, _, rfl⟩ := Value.slice.inj hv
  refine ⟨⟨k, fun _ => false, acc⟩, va, vc, n', ?_, pl_node hk hl h.out.ok, (hparts.mv mp (fun j hj e => ?_)).mono (fun j hj => ?_), Pk.mv2 hg h.out.row hp mp h.out.mv.size (fun j hj e => by omega), h.out.mv.trans mp (fun j hj e => by omega)⟩
  · show _ = Ending.returned (.agg #[.int .i64 k, .int .u64 (limb (fun _ => false) 0), .int .u64 (limb (fun _ => false) 1), .int .u64 (limb (fun _ => false) 2), .int .u64 (limb (fun _ => false) 3), .slice va acc.length vc])
    rw [limb_none, limb_none, limb_none, limb_none]
    rfl
  · rcases hj with hj | hj
    · have := hj.1; omega
    · have := hb j hj; omega
  · rcases hj with hj | hj
    · have := hj.1; omega
    · have := hb j hj; omega

set_option maxRecDepth 20000 in
set_option maxHeartbeats 4000000 in
theorem rx_leaf (d : Nat) (D : Int) (g : Nat) (a : Option Addr) (len cap : Nat) (f : Nat → Nat) (n : Nat) (w : World) (h : Hid (Pk w g a len cap f n)) (hk : D ≤ 0 ∨ (0 < D ∧ numS f len n 9 < 4)) :
    Calls Tryd.prog 9 #[.pointer (some ⟨g, 0, none⟩), .int .i64 D] w fun e w' => RxP d w g a len cap f e w' := by
  have HQ : Hid (g < w.heap.size) := (Array.getElem?_eq_some_iff.1 h.out.at_).1
  have HS : Hid (Hid (Sl w a len (Bn f))) := h.out.row
  have h0 : Hid (Pk (w.alloc zeros6) g a len cap f n) := h.out.mv (Mv.alloc (fun _ => False) w zeros6)
  have h9 := num_any 9 (by decide) (by decide) g a len cap f n (w.alloc zeros6) h0
  have hset := fun n' W (P : Hid (Pk W g a len cap f n')) => pset_any g a len cap f n' W P
  have hk2 : D ≤ 0 ∨ (0 < D ∧ ((numS f len n 9 : Nat) : Int) < 4) := by omega
  generalize numS f len n 9 = m at h9 hk2
  generalize numN len n = n1 at h9
  clear hk h h0
  rcases hk2 with hk | ⟨hk, hk3⟩
  · go_enter Tryd.func9, Tryd.ntmps9
    go_wp2_with fail
    refine h9.mono ?_
    rintro e w1 ⟨rfl, p1, m1⟩
    go_wp2_with fail
    refine (hset _ _ p1).mono ?_
    intro e w2 h2
    obtain ⟨p, n2, rfl, hp, p2, m2⟩ := h2
    rw [sv_cells]
    have M : Hid (Mv (fun k => k = g) (w.alloc zeros6) w2) := Mv.trans m1.out m2.out (fun _ _ h => h)
    have Z := B6.mv (w := w.alloc zeros6) (show Hid (B6 w.heap.size (.int .i64 0) (.int .u64 0) (.int .u64 0) (.int .u64 0) (.int .u64 0) (.slice none 0 0) (w.alloc zeros6)) from heap_alloc_new w zeros6) M.out (fun h => Nat.ne_of_lt HQ.out h.symm)
    obtain ⟨b0, b1, b2, b3, b4, b5, _, _, _, _, _, _⟩ := B6.facts Z
    clear hset
    go_wp2_with fail
    refine bodyPost_ret (results_cell_row (p := 4) (ty := 29) rfl _ _ w.heap.size 29 _ (0, 0) _ rfl (put6_heap Z.out _ _ _ _ _ _) Tryd.underlying29 rfl (by kernel_rfl)) rfl ?_
    have M1 : Mv (fun j => j = g) w w2 := up1 M
    have MP := put6_mv w2 w.heap.size (.int .i64 1) (.int .u64 (limb p 0)) (.int .u64 (limb p 1)) (.int .u64 (limb p 2)) (.int .u64 (limb p 3)) (.slice none 0 0)
    exact ⟨⟨1, p, []⟩, none, 0, n2, rfl, pl_set d hp, (parts_none _).mono (fun _ h => h.elim), Pk.mv2 HQ.out HS.out.out p2.out MP M1.size (fun j hj e => by omega), Mv.trans M1 MP (fun j hj e => by omega)⟩
  · go_enter Tryd.func9, Tryd.ntmps9
    go_wp2_with fail
    refine h9.mono ?_
    rintro e w1 ⟨rfl, p1, m1⟩
    go_wp2_with fail
    refine (hset _ _ p1).mono ?_
    intro e w2 h2
    obtain ⟨p, n2, rfl, hp, p2, m2⟩ := h2
    rw [sv_cells]
    have M : Hid (Mv (fun k => k = g) (w.alloc zeros6) w2) := Mv.trans m1.out m2.out (fun _ _ h => h)
    have Z := B6.mv (w := w.alloc zeros6) (show Hid (B6 w.heap.size (.int .i64 0) (.int .u64 0) (.int .u64 0) (.int .u64 0) (.int .u64 0) (.slice none 0 0) (w.alloc zeros6)) from heap_alloc_new w zeros6) M.out (fun h => Nat.ne_of_lt HQ.out h.symm)
    obtain ⟨b0, b1, b2, b3, b4, b5, _, _, _, _, _, _⟩ := B6.facts Z
    clear hset
    go_wp2_with fail
    refine bodyPost_ret (results_cell_row (p := 4) (ty := 29) rfl _ _ w.heap.size 29 _ (0, 0) _ rfl (put6_heap Z.out _ _ _ _ _ _) Tryd.underlying29 rfl (by kernel_rfl)) rfl ?_
    have M1 : Mv (fun j => j = g) w w2 := up1 M
    have MP := put6_mv w2 w.heap.size (.int .i64 1) (.int .u64 (limb p 0)) (.int .u64 (limb p 1)) (.int .u64 (limb p 2)) (.int .u64 (limb p 3)) (.slice none 0 0)
    exact ⟨⟨1, p, []⟩, none, 0, n2, rfl, pl_set d hp, (parts_none _).mono (fun _ h => h.elim), Pk.mv2 HQ.out HS.out.out p2.out MP M1.size (fun j hj e => by omega), Mv.trans M1 MP (fun j hj e => by omega)⟩

end Go.Proofs.YtojbakkbmfgoaaaDoor

namespace Go.Proofs.YtojbakkbmfgoaaaDoor
open Go.RowKit
set_option linter.unusedVariables false

/-- What the play's Rx tells at one depth. -/
def RxC (d : Nat) : Prop := ∀ (g : Nat) (a : Option Addr) (len cap : Nat) (f : Nat → Nat) (n : Nat) (w : World), Hid (Pk w g a len cap f n) → Calls Tryd.prog 9 #[.pointer (some ⟨g, 0, none⟩), .int .i64 (d : Int)] w fun e w' => RxP d w g a len cap f e w'
theorem Plr.start {w w2 : World} {g : Nat} {a : Option Addr} {len cap : Nat} {f : Nat → Nat} {k : Int} {d : Nat} {n' : Nat} (hg : g < w.heap.size) (hs : Sl w a len (Bn f)) (m : Mv (fun j => j = g) (w.alloc zeros6) w2) (p : Pk w2 g a len cap f n') :
    Hid (Plr w g a len cap f w2.heap.size k d (w2.alloc (.cells #[.int .i64 k, .int .u64 0, .int .u64 0, .int .u64 0, .int .u64 0, .slice none 0 0] 29)) (.slice none 0 0) []) := by
  have qa := Mv.alloc (fun _ => False) w2 (.cells #[.int .i64 k, .int .u64 0, .int .u64 0, .int .u64 0, .int .u64 0, .slice none 0 0] 29)
  have hz := m.size
  have hz2 : (w.alloc zeros6).heap.size = w.heap.size + 1 := by simp
  have hZ : B6 w.heap.size (.int .i64 0) (.int .u64 0) (.int .u64 0) (.int .u64 0) (.int .u64 0) (.slice none 0 0) (w.alloc zeros6) := heap_alloc_new w zeros6
  have m1 : Mv (fun j => j = g) w w2 := Mv.trans (Mv.alloc _ w zeros6) m (fun _ _ h => h)
  exact ⟨⟨⟨[], ow_nil _ _ _ _, rfl⟩, (fun j hj e => nomatch e)⟩, ⟨n', p.mv qa⟩, (B6.mv (B6.mv hZ m (by omega)).out qa (fun h => h)).out, heap_alloc_new w2 _, m1.trans qa (fun _ _ h => h.elim), (fun x hx => nomatch hx), hs, hg, by omega⟩

set_option maxRecDepth 20000 in
set_option maxHeartbeats 8000000 in
theorem rx_node4 (d : Nat) (hd : d < 100) (ih : RxC d) (D : Int) (hD : D - 1 = (d : Int)) (hD0 : 0 < D) (g : Nat) (a : Option Addr) (len cap : Nat) (f : Nat → Nat) (n : Nat) (w : World) (h : Hid (Pk w g a len cap f n)) (hm : numS f len n 9 = 4) :
    Calls Tryd.prog 9 #[.pointer (some ⟨g, 0, none⟩), .int .i64 D] w fun e w' => RxP (d + 1) w g a len cap f e w' := by
  have HQ : Hid (g < w.heap.size) := (Array.getElem?_eq_some_iff.1 h.out.at_).1
  have HS : Hid (Hid (Sl w a len (Bn f))) := h.out.row
  have h0 : Hid (Pk (w.alloc zeros6) g a len cap f n) := h.out.mv (Mv.alloc (fun _ => False) w zeros6)
  have h9 := num_any 9 (by decide) (by decide) g a len cap f n (w.alloc zeros6) h0
  have hset := fun n' W (P : Hid (Pk W g a len cap f n')) => pset_any g a len cap f n' W P
  have h2 := fun n' W (P : Hid (Pk W g a len cap f n')) => num_any 2 (by decide) (by decide) g a len cap f n' W P
  have hl2 := fun n' => numS_lt f len n' 2 (by decide)
  have IH : Hid (RxC d) := ih
  have hdi : (d : Int) < 100 := by omega
  rw [hm] at h9
  generalize numN len n = n1 at h9
  clear h h0 hm ih
  go_enter Tryd.func9, Tryd.ntmps9
  go_wp2_with fail
  refine h9.mono ?_
  rintro e w1 ⟨rfl, p1, m1⟩
  go_wp2_with fail
  have hm2 := hl2 n1
  refine (h2 _ _ p1).mono ?_
  rintro e w2 ⟨rfl, p2, m2'⟩
  have M2 : Hid (Mv (fun k => k = g) (w.alloc zeros6) w2) := Mv.trans m1.out m2'.out (fun _ _ h => h)
  generalize numS f len n1 2 = m2 at *
  have hm2i : (m2 : Int) < 2 := by omega
  have B0 : Hid (Plr w g a len cap f w2.heap.size 2 d (w2.alloc (.cells #[.int .i64 2, .int .u64 0, .int .u64 0, .int .u64 0, .int .u64 0, .slice none 0 0] 29)) (.slice none 0 0) []) := Plr.start HQ.out HS.out.out M2.out p2.out
  clear h9 h2 hl2
  go_wp2_with fail
  generalize w2.alloc (.cells #[.int .i64 2, .int .u64 0, .int .u64 0, .int .u64 0, .int .u64 0, .slice none 0 0] 29) = W0 at *
  generalize w2.heap.size = gr at *
  go_loopw [9] (fun s9 wr => ∃ i va vc acc, i ≤ (2 + m2) ∧ s9 = .int .i64 (i : Nat) ∧ acc.length = i ∧ Hid (Plr w g a len cap f gr 2 d wr (.slice va i vc) acc)) (fun s9 _ => (2 + m2) - (intOf s9).toNat)
  case atStart => exact ⟨0, none, 0, [], by omega, rfl, rfl, B0⟩
  case round =>
    obtain ⟨i, va, vc, acc, hi, rfl, hacc, B⟩ := hrel
    have HA : Hid (acc.length = i) := hacc
    clear hacc B0
    by_cases hlt : i < (2 + m2)
    · have hli : (i : Int) < (2 + (m2 : Int)) := by omega
      obtain ⟨n5, p5⟩ := B.out.pk
      have hx := IH.out g a len cap f n5 wr p5
      go_wp2_with fail
      refine hx.mono ?_
      intro e3 w3 h3
      obtain ⟨x, pa, pc, n6, rfl, plx, px, p6, m6⟩ := h3
      have q7 := Mv.alloc (fun _ => False) w3 (.cells #[.int .i64 x.kind, .int .u64 (limb x.set 0), .int .u64 (limb x.set 1), .int .u64 (limb x.set 2), .int .u64 (limb x.set 3), .slice pa x.args.length pc] 29)
      have m7 : Mv (fun j => j = g) wr (w3.alloc (.cells #[.int .i64 x.kind, .int .u64 (limb x.set 0), .int .u64 (limb x.set 1), .int .u64 (limb x.set 2), .int .u64 (limb x.set 3), .slice pa x.args.length pc] 29)) := Mv.trans m6.out q7 (fun _ _ h => h.elim)
      have p7 : Hid (Pk (w3.alloc (.cells #[.int .i64 x.kind, .int .u64 (limb x.set 0), .int .u64 (limb x.set 1), .int .u64 (limb x.set 2), .int .u64 (limb x.set 3), .slice pa x.args.length pc] 29)) g a len cap f n6) := p6.out.mv q7
      have B7 := B.out.go m7 p7.out
      have BX : Hid (B6 w3.heap.size (.int .i64 x.kind) (.int .u64 (limb x.set 0)) (.int .u64 (limb x.set 1)) (.int .u64 (limb x.set 2)) (.int .u64 (limb x.set 3)) (.slice pa x.args.length pc) (w3.alloc (.cells #[.int .i64 x.kind, .int .u64 (limb x.set 0), .int .u64 (limb x.set 1), .int .u64 (limb x.set 2), .int .u64 (limb x.set 3), .slice pa x.args.length pc] 29))) := heap_alloc_new w3 _
      have px7 : Hid (Parts x.args (fun j => wr.heap.size ≤ j ∧ ¬ False) (w3.alloc (.cells #[.int .i64 x.kind, .int .u64 (limb x.set 0), .int .u64 (limb x.set 1), .int .u64 (limb x.set 2), .int .u64 (limb x.set 3), .slice pa x.args.length pc] 29)) pa pc) := (px.out.mv q7 (fun _ _ h => h)).mono (fun j hj => ⟨hj, id⟩)
      have HW3 : Hid (wr.heap.size ≤ w3.heap.size) := m6.out.size
      have hkind := plx.out.kind
      obtain ⟨xk, hxk⟩ : ∃ xk, xk = x.kind := ⟨_, rfl⟩
      obtain ⟨b0, b1, b2, b3, b4, b5, g0, g1, g2, g3, g4, g5⟩ := B6.facts BX
      obtain ⟨r0, r1, r2, r3, r4, r5, _, _, _, _, _, _⟩ := B6.facts (show Hid _ from B7.r)
      clear hx
      have HWw : Hid (w.heap.size ≤ wr.heap.size) := B.out.mv.size
      have hgi : (i : Int) < 1000 := by omega
      by_cases hk : x.kind = 2
      · have hkb : (x.kind == 2) = true := by rw [hk]; rfl
        clear hk hkind
        go_wp2_with fail
        refine (hset _ _ p7).mono ?_
        intro e4 w4 h4
        obtain ⟨p, n8, rfl, hp, p8, m8⟩ := h4
        rw [sv_cells]
        have BX4 := B6.mv BX.out m8.out (by have := HQ.out; have := HWw.out; have := HW3.out; omega)
        have mput := put6_mv w4 w3.heap.size (.int .i64 1) (.int .u64 (limb p 0)) (.int .u64 (limb p 1)) (.int .u64 (limb p 2)) (.int .u64 (limb p 3)) (.slice none 0 0)
        have M9 : Mv (fun j => j = g) wr (put6 w4 w3.heap.size (.int .i64 1) (.int .u64 (limb p 0)) (.int .u64 (limb p 1)) (.int .u64 (limb p 2)) (.int .u64 (limb p 3)) (.slice none 0 0)) := Mv.trans (Mv.trans m7 m8.out (fun _ _ h => h)) mput (fun j hj e => by have := HW3.out; omega)
        have P9 : Hid (Pk (put6 w4 w3.heap.size (.int .i64 1) (.int .u64 (limb p 0)) (.int .u64 (limb p 1)) (.int .u64 (limb p 2)) (.int .u64 (limb p 3)) (.slice none 0 0)) g a len cap f n8) := Pk.mv2 HQ.out HS.out.out p8.out mput (by have := HWw.out; have := HW3.out; have := q7.size; have := m8.out.size; omega) (fun j hj e => by have := HWw.out; have := HW3.out; omega)
        have B9 := B.out.go M9 P9.out
        have BX5 : Hid (B6 w3.heap.size (.int .i64 1) (.int .u64 (limb p 0)) (.int .u64 (limb p 1)) (.int .u64 (limb p 2)) (.int .u64 (limb p 3)) (.slice none 0 0) (put6 w4 w3.heap.size (.int .i64 1) (.int .u64 (limb p 0)) (.int .u64 (limb p 1)) (.int .u64 (limb p 2)) (.int .u64 (limb p 3)) (.slice none 0 0))) := put6_heap BX4.out _ _ _ _ _ _
        have px9 : Hid (Parts (⟨1, p, []⟩ : RX).args (fun j => wr.heap.size ≤ j ∧ ¬ False) (put6 w4 w3.heap.size (.int .i64 1) (.int .u64 (limb p 0)) (.int .u64 (limb p 1)) (.int .u64 (limb p 2)) (.int .u64 (limb p 3)) (.slice none 0 0)) none 0) := (parts_none _).mono (fun _ h => h.elim)
        obtain ⟨v', W, hr, hR, ⟨va', vc', hv'⟩, B'⟩ := Plr.step (x := ⟨1, p, []⟩) B px9 M9 P9 (show Hid _ from ⟨pl_set d hp, by show (1 : Int) ≠ 2; decide⟩) (by have := HA.out; omega)
        rw [HA.out] at hv'
        subst hv'
        rw [show (put6 w4 w3.heap.size (.int .i64 1) (.int .u64 (limb p 0)) (.int .u64 (limb p 1)) (.int .u64 (limb p 2)) (.int .u64 (limb p 3)) (.slice none 0 0)).heap.size = w4.heap.size from by simp [put6]] at hr
        clear b0 b1 b2 b3 b4 b5 g0 g1 g2 g3 g4 g5 r0 r1 r2 r3 r4 r5
        obtain ⟨b0, b1, b2, b3, b4, b5, g0, g1, g2, g3, g4, g5⟩ := B6.facts BX4
        obtain ⟨c0, c1, c2, c3, c4, c5, _, _, _, _, _, _⟩ := B6.facts BX5
        obtain ⟨_, _, _, _, _, r5, _, _, _, _, _, _⟩ := B6.facts (show Hid _ from B9.r)
        obtain ⟨_, _, _, _, _, y5, _, _, _, _, _, f5⟩ := B6.facts hR
        unfold put6 at c0 c1 c2 c3 c4 c5 r5 hr
        clear hset IH px9 B9 BX5 BX4 P9 B7 px7 px plx m7 q7 BX
        go_wp2_with (at_builtin; first | (refine wpList_append_given rfl _ _ 27 rfl _ _ _ W rfl rfl hr ?_))
        exact ⟨⟨i + 1, va', vc', acc ++ [⟨1, p, []⟩], by omega, by go_num, by rw [List.length_append, HA.out]; rfl, B'⟩, by simp [intOf]; omega⟩
      · have hkb : (x.kind == 2) = false := beq_false_of_ne hk
        have hk4 : x.kind < 4 ∨ x.kind = 4 := by omega
        have hkl : True := trivial
        obtain ⟨v', W, hr, hR, ⟨va', vc', hv'⟩, B'⟩ := Plr.step B px7 m7 p7 (show Hid _ from ⟨plx.out, hk⟩) (by have := HA.out; omega)
        rw [HA.out] at hv'
        subst hv'
        rw [show (w3.alloc (.cells #[.int .i64 x.kind, .int .u64 (limb x.set 0), .int .u64 (limb x.set 1), .int .u64 (limb x.set 2), .int .u64 (limb x.set 3), .slice pa x.args.length pc] 29)).heap.size = w3.heap.size + 1 from by simp] at hr
        obtain ⟨_, _, _, _, _, y5, _, _, _, _, _, f5⟩ := B6.facts hR
        clear hset IH hk hk4 B7 px7 px plx m7 q7 BX
        go_wp2_with (at_builtin; first | (refine wpList_append_given rfl _ _ 27 rfl _ _ _ W rfl rfl hr ?_))
        exact ⟨⟨i + 1, va', vc', acc ++ [x], by omega, by go_num, by rw [List.length_append, HA.out]; rfl, B'⟩, by simp [intOf]; omega⟩
    · have HN : Hid (i = (2 + m2)) := (by omega : i = (2 + m2))
      have hge : (2 + (m2 : Int)) ≤ (i : Int) := by omega
      obtain ⟨r0, r1, r2, r3, r4, r5, _, _, _, _, _, _⟩ := B6.facts (show Hid _ from B.out.r)
      obtain ⟨z0, z1, z2, z3, z4, z5, _, _, _, _, _, _⟩ := B6.facts (show Hid _ from B.out.z)
      go_wp2_with fail
      refine bodyPost_ret (results_cell_row (p := 4) (ty := 29) rfl _ _ w.heap.size 29 _ (0, 0) _ rfl (put6_heap B.out.z _ _ _ _ _ _) Tryd.underlying29 rfl (by kernel_rfl)) rfl ?_
      exact Plr.tell B HA.out (by decide) (by rw [if_neg (by decide)]; have := HN.out; omega) _ _ _ _ _ _

set_option maxRecDepth 20000 in
set_option maxHeartbeats 8000000 in
theorem rx_node5 (d : Nat) (hd : d < 100) (ih : RxC d) (D : Int) (hD : D - 1 = (d : Int)) (hD0 : 0 < D) (g : Nat) (a : Option Addr) (len cap : Nat) (f : Nat → Nat) (n : Nat) (w : World) (h : Hid (Pk w g a len cap f n)) (hm : numS f len n 9 = 5) :
    Calls Tryd.prog 9 #[.pointer (some ⟨g, 0, none⟩), .int .i64 D] w fun e w' => RxP (d + 1) w g a len cap f e w' := by
  have HQ : Hid (g < w.heap.size) := (Array.getElem?_eq_some_iff.1 h.out.at_).1
  have HS : Hid (Hid (Sl w a len (Bn f))) := h.out.row
  have h0 : Hid (Pk (w.alloc zeros6) g a len cap f n) := h.out.mv (Mv.alloc (fun _ => False) w zeros6)
  have h9 := num_any 9 (by decide) (by decide) g a len cap f n (w.alloc zeros6) h0
  have hset := fun n' W (P : Hid (Pk W g a len cap f n')) => pset_any g a len cap f n' W P
  have h2 := fun n' W (P : Hid (Pk W g a len cap f n')) => num_any 2 (by decide) (by decide) g a len cap f n' W P
  have hl2 := fun n' => numS_lt f len n' 2 (by decide)
  have IH : Hid (RxC d) := ih
  have hdi : (d : Int) < 100 := by omega
  rw [hm] at h9
  generalize numN len n = n1 at h9
  clear h h0 hm ih
  go_enter Tryd.func9, Tryd.ntmps9
  go_wp2_with fail
  refine h9.mono ?_
  rintro e w1 ⟨rfl, p1, m1⟩
  go_wp2_with fail
  have hm2 := hl2 n1
  refine (h2 _ _ p1).mono ?_
  rintro e w2 ⟨rfl, p2, m2'⟩
  have M2 : Hid (Mv (fun k => k = g) (w.alloc zeros6) w2) := Mv.trans m1.out m2'.out (fun _ _ h => h)
  generalize numS f len n1 2 = m2 at *
  have hm2i : (m2 : Int) < 2 := by omega
  have B0 : Hid (Plr w g a len cap f w2.heap.size 3 d (w2.alloc (.cells #[.int .i64 3, .int .u64 0, .int .u64 0, .int .u64 0, .int .u64 0, .slice none 0 0] 29)) (.slice none 0 0) []) := Plr.start HQ.out HS.out.out M2.out p2.out
  clear h9 h2 hl2
  go_wp2_with fail
  generalize w2.alloc (.cells #[.int .i64 3, .int .u64 0, .int .u64 0, .int .u64 0, .int .u64 0, .slice none 0 0] 29) = W0 at *
  generalize w2.heap.size = gr at *
  go_loopw [9] (fun s9 wr => ∃ i va vc acc, i ≤ (2 + m2) ∧ s9 = .int .i64 (i : Nat) ∧ acc.length = i ∧ Hid (Plr w g a len cap f gr 3 d wr (.slice va i vc) acc)) (fun s9 _ => (2 + m2) - (intOf s9).toNat)
  case atStart => exact ⟨0, none, 0, [], by omega, rfl, rfl, B0⟩
  case round =>
    obtain ⟨i, va, vc, acc, hi, rfl, hacc, B⟩ := hrel
    have HA : Hid (acc.length = i) := hacc
    clear hacc B0
    by_cases hlt : i < (2 + m2)
    · have hli : (i : Int) < (2 + (m2 : Int)) := by omega
      obtain ⟨n5, p5⟩ := B.out.pk
      have hx := IH.out g a len cap f n5 wr p5
      go_wp2_with fail
      refine hx.mono ?_
      intro e3 w3 h3
      obtain ⟨x, pa, pc, n6, rfl, plx, px, p6, m6⟩ := h3
      have q7 := Mv.alloc (fun _ => False) w3 (.cells #[.int .i64 x.kind, .int .u64 (limb x.set 0), .int .u64 (limb x.set 1), .int .u64 (limb x.set 2), .int .u64 (limb x.set 3), .slice pa x.args.length pc] 29)
      have m7 : Mv (fun j => j = g) wr (w3.alloc (.cells #[.int .i64 x.kind, .int .u64 (limb x.set 0), .int .u64 (limb x.set 1), .int .u64 (limb x.set 2), .int .u64 (limb x.set 3), .slice pa x.args.length pc] 29)) := Mv.trans m6.out q7 (fun _ _ h => h.elim)
      have p7 : Hid (Pk (w3.alloc (.cells #[.int .i64 x.kind, .int .u64 (limb x.set 0), .int .u64 (limb x.set 1), .int .u64 (limb x.set 2), .int .u64 (limb x.set 3), .slice pa x.args.length pc] 29)) g a len cap f n6) := p6.out.mv q7
      have B7 := B.out.go m7 p7.out
      have BX : Hid (B6 w3.heap.size (.int .i64 x.kind) (.int .u64 (limb x.set 0)) (.int .u64 (limb x.set 1)) (.int .u64 (limb x.set 2)) (.int .u64 (limb x.set 3)) (.slice pa x.args.length pc) (w3.alloc (.cells #[.int .i64 x.kind, .int .u64 (limb x.set 0), .int .u64 (limb x.set 1), .int .u64 (limb x.set 2), .int .u64 (limb x.set 3), .slice pa x.args.length pc] 29))) := heap_alloc_new w3 _
      have px7 : Hid (Parts x.args (fun j => wr.heap.size ≤ j ∧ ¬ False) (w3.alloc (.cells #[.int .i64 x.kind, .int .u64 (limb x.set 0), .int .u64 (limb x.set 1), .int .u64 (limb x.set 2), .int .u64 (limb x.set 3), .slice pa x.args.length pc] 29)) pa pc) := (px.out.mv q7 (fun _ _ h => h)).mono (fun j hj => ⟨hj, id⟩)
      have HW3 : Hid (wr.heap.size ≤ w3.heap.size) := m6.out.size
      have hkind := plx.out.kind
      obtain ⟨xk, hxk⟩ : ∃ xk, xk = x.kind := ⟨_, rfl⟩
      obtain ⟨b0, b1, b2, b3, b4, b5, g0, g1, g2, g3, g4, g5⟩ := B6.facts BX
      obtain ⟨r0, r1, r2, r3, r4, r5, _, _, _, _, _, _⟩ := B6.facts (show Hid _ from B7.r)
      clear hx
      have HWw : Hid (w.heap.size ≤ wr.heap.size) := B.out.mv.size
      have hgi : (i : Int) < 1000 := by omega
      by_cases hk : x.kind = 3
      · have hkb : (x.kind == 3) = true := by rw [hk]; rfl
        clear hk hkind
        go_wp2_with fail
        refine (hset _ _ p7).mono ?_
        intro e4 w4 h4
        obtain ⟨p, n8, rfl, hp, p8, m8⟩ := h4
        rw [sv_cells]
        have BX4 := B6.mv BX.out m8.out (by have := HQ.out; have := HWw.out; have := HW3.out; omega)
        have mput := put6_mv w4 w3.heap.size (.int .i64 1) (.int .u64 (limb p 0)) (.int .u64 (limb p 1)) (.int .u64 (limb p 2)) (.int .u64 (limb p 3)) (.slice none 0 0)
        have M9 : Mv (fun j => j = g) wr (put6 w4 w3.heap.size (.int .i64 1) (.int .u64 (limb p 0)) (.int .u64 (limb p 1)) (.int .u64 (limb p 2)) (.int .u64 (limb p 3)) (.slice none 0 0)) := Mv.trans (Mv.trans m7 m8.out (fun _ _ h => h)) mput (fun j hj e => by have := HW3.out; omega)
        have P9 : Hid (Pk (put6 w4 w3.heap.size (.int .i64 1) (.int .u64 (limb p 0)) (.int .u64 (limb p 1)) (.int .u64 (limb p 2)) (.int .u64 (limb p 3)) (.slice none 0 0)) g a len cap f n8) := Pk.mv2 HQ.out HS.out.out p8.out mput (by have := HWw.out; have := HW3.out; have := q7.size; have := m8.out.size; omega) (fun j hj e => by have := HWw.out; have := HW3.out; omega)
        have B9 := B.out.go M9 P9.out
        have BX5 : Hid (B6 w3.heap.size (.int .i64 1) (.int .u64 (limb p 0)) (.int .u64 (limb p 1)) (.int .u64 (limb p 2)) (.int .u64 (limb p 3)) (.slice none 0 0) (put6 w4 w3.heap.size (.int .i64 1) (.int .u64 (limb p 0)) (.int .u64 (limb p 1)) (.int .u64 (limb p 2)) (.int .u64 (limb p 3)) (.slice none 0 0))) := put6_heap BX4.out _ _ _ _ _ _
        have px9 : Hid (Parts (⟨1, p, []⟩ : RX).args (fun j => wr.heap.size ≤ j ∧ ¬ False) (put6 w4 w3.heap.size (.int .i64 1) (.int .u64 (limb p 0)) (.int .u64 (limb p 1)) (.int .u64 (limb p 2)) (.int .u64 (limb p 3)) (.slice none 0 0)) none 0) := (parts_none _).mono (fun _ h => h.elim)
        obtain ⟨v', W, hr, hR, ⟨va', vc', hv'⟩, B'⟩ := Plr.step (x := ⟨1, p, []⟩) B px9 M9 P9 (show Hid _ from ⟨pl_set d hp, by show (1 : Int) ≠ 3; decide⟩) (by have := HA.out; omega)
        rw [HA.out] at hv'
        subst hv'
        rw [show (put6 w4 w3.heap.size (.int .i64 1) (.int .u64 (limb p 0)) (.int .u64 (limb p 1)) (.int .u64 (limb p 2)) (.int .u64 (limb p 3)) (.slice none 0 0)).heap.size = w4.heap.size from by simp [put6]] at hr
        clear b0 b1 b2 b3 b4 b5 g0 g1 g2 g3 g4 g5 r0 r1 r2 r3 r4 r5
        obtain ⟨b0, b1, b2, b3, b4, b5, g0, g1, g2, g3, g4, g5⟩ := B6.facts BX4
        obtain ⟨c0, c1, c2, c3, c4, c5, _, _, _, _, _, _⟩ := B6.facts BX5
        obtain ⟨_, _, _, _, _, r5, _, _, _, _, _, _⟩ := B6.facts (show Hid _ from B9.r)
        obtain ⟨_, _, _, _, _, y5, _, _, _, _, _, f5⟩ := B6.facts hR
        unfold put6 at c0 c1 c2 c3 c4 c5 r5 hr
        clear hset IH px9 B9 BX5 BX4 P9 B7 px7 px plx m7 q7 BX
        go_wp2_with (at_builtin; first | (refine wpList_append_given rfl _ _ 27 rfl _ _ _ W rfl rfl hr ?_))
        exact ⟨⟨i + 1, va', vc', acc ++ [⟨1, p, []⟩], by omega, by go_num, by rw [List.length_append, HA.out]; rfl, B'⟩, by simp [intOf]; omega⟩
      · have hkb : (x.kind == 3) = false := beq_false_of_ne hk
        have hk4 : x.kind < 4 ∨ x.kind = 4 := by omega
        have hkl : True := trivial
        obtain ⟨v', W, hr, hR, ⟨va', vc', hv'⟩, B'⟩ := Plr.step B px7 m7 p7 (show Hid _ from ⟨plx.out, hk⟩) (by have := HA.out; omega)
        rw [HA.out] at hv'
        subst hv'
        rw [show (w3.alloc (.cells #[.int .i64 x.kind, .int .u64 (limb x.set 0), .int .u64 (limb x.set 1), .int .u64 (limb x.set 2), .int .u64 (limb x.set 3), .slice pa x.args.length pc] 29)).heap.size = w3.heap.size + 1 from by simp] at hr
        obtain ⟨_, _, _, _, _, y5, _, _, _, _, _, f5⟩ := B6.facts hR
        clear hset IH hk hk4 B7 px7 px plx m7 q7 BX
        go_wp2_with (at_builtin; first | (refine wpList_append_given rfl _ _ 27 rfl _ _ _ W rfl rfl hr ?_))
        exact ⟨⟨i + 1, va', vc', acc ++ [x], by omega, by go_num, by rw [List.length_append, HA.out]; rfl, B'⟩, by simp [intOf]; omega⟩
    · have HN : Hid (i = (2 + m2)) := (by omega : i = (2 + m2))
      have hge : (2 + (m2 : Int)) ≤ (i : Int) := by omega
      obtain ⟨r0, r1, r2, r3, r4, r5, _, _, _, _, _, _⟩ := B6.facts (show Hid _ from B.out.r)
      obtain ⟨z0, z1, z2, z3, z4, z5, _, _, _, _, _, _⟩ := B6.facts (show Hid _ from B.out.z)
      go_wp2_with fail
      refine bodyPost_ret (results_cell_row (p := 4) (ty := 29) rfl _ _ w.heap.size 29 _ (0, 0) _ rfl (put6_heap B.out.z _ _ _ _ _ _) Tryd.underlying29 rfl (by kernel_rfl)) rfl ?_
      exact Plr.tell B HA.out (by decide) (by rw [if_neg (by decide)]; have := HN.out; omega) _ _ _ _ _ _

set_option maxRecDepth 20000 in
set_option maxHeartbeats 8000000 in
theorem rx_node6 (d : Nat) (hd : d < 100) (ih : RxC d) (D : Int) (hD : D - 1 = (d : Int)) (hD0 : 0 < D) (g : Nat) (a : Option Addr) (len cap : Nat) (f : Nat → Nat) (n : Nat) (w : World) (h : Hid (Pk w g a len cap f n)) (hm : numS f len n 9 = 6) :
    Calls Tryd.prog 9 #[.pointer (some ⟨g, 0, none⟩), .int .i64 D] w fun e w' => RxP (d + 1) w g a len cap f e w' := by
  have HQ : Hid (g < w.heap.size) := (Array.getElem?_eq_some_iff.1 h.out.at_).1
  have HS : Hid (Hid (Sl w a len (Bn f))) := h.out.row
  have h0 : Hid (Pk (w.alloc zeros6) g a len cap f n) := h.out.mv (Mv.alloc (fun _ => False) w zeros6)
  have h9 := num_any 9 (by decide) (by decide) g a len cap f n (w.alloc zeros6) h0
  have hset := fun n' W (P : Hid (Pk W g a len cap f n')) => pset_any g a len cap f n' W P
  have h2 := fun n' W (P : Hid (Pk W g a len cap f n')) => num_any 2 (by decide) (by decide) g a len cap f n' W P
  have hl2 := fun n' => numS_lt f len n' 2 (by decide)
  have IH : Hid (RxC d) := ih
  have hdi : (d : Int) < 100 := by omega
  rw [hm] at h9
  generalize numN len n = n1 at h9
  clear h h0 hm ih
  go_enter Tryd.func9, Tryd.ntmps9
  go_wp2_with fail
  refine h9.mono ?_
  rintro e w1 ⟨rfl, p1, m1⟩
  go_wp2_with fail
  have B0 : Hid (Plr w g a len cap f w1.heap.size 4 d (w1.alloc (.cells #[.int .i64 4, .int .u64 0, .int .u64 0, .int .u64 0, .int .u64 0, .slice none 0 0] 29)) (.slice none 0 0) []) := Plr.start HQ.out HS.out.out m1.out p1.out
  clear h9 h2 hl2
  generalize w1.alloc (.cells #[.int .i64 4, .int .u64 0, .int .u64 0, .int .u64 0, .int .u64 0, .slice none 0 0] 29) = W0 at *
  generalize w1.heap.size = gr at *
  go_loopw [9] (fun s9 wr => ∃ i va vc acc, i ≤ 1 ∧ s9 = .int .i64 (i : Nat) ∧ acc.length = i ∧ Hid (Plr w g a len cap f gr 4 d wr (.slice va i vc) acc)) (fun s9 _ => 1 - (intOf s9).toNat)
  case atStart => exact ⟨0, none, 0, [], by omega, rfl, rfl, B0⟩
  case round =>
    obtain ⟨i, va, vc, acc, hi, rfl, hacc, B⟩ := hrel
    have HA : Hid (acc.length = i) := hacc
    clear hacc B0
    by_cases hlt : i < 1
    · have hli : (i : Int) < 1 := by omega
      obtain ⟨n5, p5⟩ := B.out.pk
      have hx := IH.out g a len cap f n5 wr p5
      go_wp2_with fail
      refine hx.mono ?_
      intro e3 w3 h3
      obtain ⟨x, pa, pc, n6, rfl, plx, px, p6, m6⟩ := h3
      have q7 := Mv.alloc (fun _ => False) w3 (.cells #[.int .i64 x.kind, .int .u64 (limb x.set 0), .int .u64 (limb x.set 1), .int .u64 (limb x.set 2), .int .u64 (limb x.set 3), .slice pa x.args.length pc] 29)
      have m7 : Mv (fun j => j = g) wr (w3.alloc (.cells #[.int .i64 x.kind, .int .u64 (limb x.set 0), .int .u64 (limb x.set 1), .int .u64 (limb x.set 2), .int .u64 (limb x.set 3), .slice pa x.args.length pc] 29)) := Mv.trans m6.out q7 (fun _ _ h => h.elim)
      have p7 : Hid (Pk (w3.alloc (.cells #[.int .i64 x.kind, .int .u64 (limb x.set 0), .int .u64 (limb x.set 1), .int .u64 (limb x.set 2), .int .u64 (limb x.set 3), .slice pa x.args.length pc] 29)) g a len cap f n6) := p6.out.mv q7
      have B7 := B.out.go m7 p7.out
      have BX : Hid (B6 w3.heap.size (.int .i64 x.kind) (.int .u64 (limb x.set 0)) (.int .u64 (limb x.set 1)) (.int .u64 (limb x.set 2)) (.int .u64 (limb x.set 3)) (.slice pa x.args.length pc) (w3.alloc (.cells #[.int .i64 x.kind, .int .u64 (limb x.set 0), .int .u64 (limb x.set 1), .int .u64 (limb x.set 2), .int .u64 (limb x.set 3), .slice pa x.args.length pc] 29))) := heap_alloc_new w3 _
      have px7 : Hid (Parts x.args (fun j => wr.heap.size ≤ j ∧ ¬ False) (w3.alloc (.cells #[.int .i64 x.kind, .int .u64 (limb x.set 0), .int .u64 (limb x.set 1), .int .u64 (limb x.set 2), .int .u64 (limb x.set 3), .slice pa x.args.length pc] 29)) pa pc) := (px.out.mv q7 (fun _ _ h => h)).mono (fun j hj => ⟨hj, id⟩)
      have HW3 : Hid (wr.heap.size ≤ w3.heap.size) := m6.out.size
      have hkind := plx.out.kind
      obtain ⟨xk, hxk⟩ : ∃ xk, xk = x.kind := ⟨_, rfl⟩
      obtain ⟨b0, b1, b2, b3, b4, b5, g0, g1, g2, g3, g4, g5⟩ := B6.facts BX
      obtain ⟨r0, r1, r2, r3, r4, r5, _, _, _, _, _, _⟩ := B6.facts (show Hid _ from B7.r)
      clear hx
      have HWw : Hid (w.heap.size ≤ wr.heap.size) := B.out.mv.size
      have hgi : (i : Int) < 1000 := by omega
      by_cases hk : x.kind = 4
      · have hkb : (x.kind == 4) = true := by rw [hk]; rfl
        clear hk hkind
        go_wp2_with fail
        refine (hset _ _ p7).mono ?_
        intro e4 w4 h4
        obtain ⟨p, n8, rfl, hp, p8, m8⟩ := h4
        rw [sv_cells]
        have BX4 := B6.mv BX.out m8.out (by have := HQ.out; have := HWw.out; have := HW3.out; omega)
        have mput := put6_mv w4 w3.heap.size (.int .i64 1) (.int .u64 (limb p 0)) (.int .u64 (limb p 1)) (.int .u64 (limb p 2)) (.int .u64 (limb p 3)) (.slice none 0 0)
        have M9 : Mv (fun j => j = g) wr (put6 w4 w3.heap.size (.int .i64 1) (.int .u64 (limb p 0)) (.int .u64 (limb p 1)) (.int .u64 (limb p 2)) (.int .u64 (limb p 3)) (.slice none 0 0)) := Mv.trans (Mv.trans m7 m8.out (fun _ _ h => h)) mput (fun j hj e => by have := HW3.out; omega)
        have P9 : Hid (Pk (put6 w4 w3.heap.size (.int .i64 1) (.int .u64 (limb p 0)) (.int .u64 (limb p 1)) (.int .u64 (limb p 2)) (.int .u64 (limb p 3)) (.slice none 0 0)) g a len cap f n8) := Pk.mv2 HQ.out HS.out.out p8.out mput (by have := HWw.out; have := HW3.out; have := q7.size; have := m8.out.size; omega) (fun j hj e => by have := HWw.out; have := HW3.out; omega)
        have B9 := B.out.go M9 P9.out
        have BX5 : Hid (B6 w3.heap.size (.int .i64 1) (.int .u64 (limb p 0)) (.int .u64 (limb p 1)) (.int .u64 (limb p 2)) (.int .u64 (limb p 3)) (.slice none 0 0) (put6 w4 w3.heap.size (.int .i64 1) (.int .u64 (limb p 0)) (.int .u64 (limb p 1)) (.int .u64 (limb p 2)) (.int .u64 (limb p 3)) (.slice none 0 0))) := put6_heap BX4.out _ _ _ _ _ _
        have px9 : Hid (Parts (⟨1, p, []⟩ : RX).args (fun j => wr.heap.size ≤ j ∧ ¬ False) (put6 w4 w3.heap.size (.int .i64 1) (.int .u64 (limb p 0)) (.int .u64 (limb p 1)) (.int .u64 (limb p 2)) (.int .u64 (limb p 3)) (.slice none 0 0)) none 0) := (parts_none _).mono (fun _ h => h.elim)
        obtain ⟨v', W, hr, hR, ⟨va', vc', hv'⟩, B'⟩ := Plr.step (x := ⟨1, p, []⟩) B px9 M9 P9 (show Hid _ from ⟨pl_set d hp, by show (1 : Int) ≠ 4; decide⟩) (by have := HA.out; omega)
        rw [HA.out] at hv'
        subst hv'
        rw [show (put6 w4 w3.heap.size (.int .i64 1) (.int .u64 (limb p 0)) (.int .u64 (limb p 1)) (.int .u64 (limb p 2)) (.int .u64 (limb p 3)) (.slice none 0 0)).heap.size = w4.heap.size from by simp [put6]] at hr
        clear b0 b1 b2 b3 b4 b5 g0 g1 g2 g3 g4 g5 r0 r1 r2 r3 r4 r5
        obtain ⟨b0, b1, b2, b3, b4, b5, g0, g1, g2, g3, g4, g5⟩ := B6.facts BX4
        obtain ⟨c0, c1, c2, c3, c4, c5, _, _, _, _, _, _⟩ := B6.facts BX5
        obtain ⟨_, _, _, _, _, r5, _, _, _, _, _, _⟩ := B6.facts (show Hid _ from B9.r)
        obtain ⟨_, _, _, _, _, y5, _, _, _, _, _, f5⟩ := B6.facts hR
        unfold put6 at c0 c1 c2 c3 c4 c5 r5 hr
        clear hset IH px9 B9 BX5 BX4 P9 B7 px7 px plx m7 q7 BX
        go_wp2_with (at_builtin; first | (refine wpList_append_given rfl _ _ 27 rfl _ _ _ W rfl rfl hr ?_))
        exact ⟨⟨i + 1, va', vc', acc ++ [⟨1, p, []⟩], by omega, by go_num, by rw [List.length_append, HA.out]; rfl, B'⟩, by simp [intOf]; omega⟩
      · have hkb : (x.kind == 4) = false := beq_false_of_ne hk
        have hk4 : x.kind < 4 ∨ x.kind = 4 := by omega
        have hkl : x.kind < 4 := by omega
        obtain ⟨v', W, hr, hR, ⟨va', vc', hv'⟩, B'⟩ := Plr.step B px7 m7 p7 (show Hid _ from ⟨plx.out, hk⟩) (by have := HA.out; omega)
        rw [HA.out] at hv'
        subst hv'
        rw [show (w3.alloc (.cells #[.int .i64 x.kind, .int .u64 (limb x.set 0), .int .u64 (limb x.set 1), .int .u64 (limb x.set 2), .int .u64 (limb x.set 3), .slice pa x.args.length pc] 29)).heap.size = w3.heap.size + 1 from by simp] at hr
        obtain ⟨_, _, _, _, _, y5, _, _, _, _, _, f5⟩ := B6.facts hR
        clear hset IH hk hk4 B7 px7 px plx m7 q7 BX
        go_wp2_with (at_builtin; first | (refine wpList_append_given rfl _ _ 27 rfl _ _ _ W rfl rfl hr ?_))
        exact ⟨⟨i + 1, va', vc', acc ++ [x], by omega, by go_num, by rw [List.length_append, HA.out]; rfl, B'⟩, by simp [intOf]; omega⟩
    · have HN : Hid (i = 1) := (by omega : i = 1)
      have hge : 1 ≤ (i : Int) := by omega
      obtain ⟨r0, r1, r2, r3, r4, r5, _, _, _, _, _, _⟩ := B6.facts (show Hid _ from B.out.r)
      obtain ⟨z0, z1, z2, z3, z4, z5, _, _, _, _, _, _⟩ := B6.facts (show Hid _ from B.out.z)
      go_wp2_with fail
      refine bodyPost_ret (results_cell_row (p := 4) (ty := 29) rfl _ _ w.heap.size 29 _ (0, 0) _ rfl (put6_heap B.out.z _ _ _ _ _ _) Tryd.underlying29 rfl (by kernel_rfl)) rfl ?_
      exact Plr.tell B HA.out (by decide) (by rw [if_pos rfl]; exact HN.out) _ _ _ _ _ _

set_option maxRecDepth 20000 in
set_option maxHeartbeats 8000000 in
theorem rx_node7 (d : Nat) (hd : d < 100) (ih : RxC d) (D : Int) (hD : D - 1 = (d : Int)) (hD0 : 0 < D) (g : Nat) (a : Option Addr) (len cap : Nat) (f : Nat → Nat) (n : Nat) (w : World) (h : Hid (Pk w g a len cap f n)) (hm : numS f len n 9 = 7) :
    Calls Tryd.prog 9 #[.pointer (some ⟨g, 0, none⟩), .int .i64 D] w fun e w' => RxP (d + 1) w g a len cap f e w' := by
  have HQ : Hid (g < w.heap.size) := (Array.getElem?_eq_some_iff.1 h.out.at_).1
  have HS : Hid (Hid (Sl w a len (Bn f))) := h.out.row
  have h0 : Hid (Pk (w.alloc zeros6) g a len cap f n) := h.out.mv (Mv.alloc (fun _ => False) w zeros6)
  have h9 := num_any 9 (by decide) (by decide) g a len cap f n (w.alloc zeros6) h0
  have hset := fun n' W (P : Hid (Pk W g a len cap f n')) => pset_any g a len cap f n' W P
  have h2 := fun n' W (P : Hid (Pk W g a len cap f n')) => num_any 2 (by decide) (by decide) g a len cap f n' W P
  have hl2 := fun n' => numS_lt f len n' 2 (by decide)
  have IH : Hid (RxC d) := ih
  have hdi : (d : Int) < 100 := by omega
  rw [hm] at h9
  generalize numN len n = n1 at h9
  clear h h0 hm ih
  go_enter Tryd.func9, Tryd.ntmps9
  go_wp2_with fail
  refine h9.mono ?_
  rintro e w1 ⟨rfl, p1, m1⟩
  go_wp2_with fail
  have hm2 := hl2 n1
  refine (h2 _ _ p1).mono ?_
  rintro e w2 ⟨rfl, p2, m2'⟩
  have M2 : Hid (Mv (fun k => k = g) (w.alloc zeros6) w2) := Mv.trans m1.out m2'.out (fun _ _ h => h)
  generalize numS f len n1 2 = m2 at *
  have hm2i : (m2 : Int) < 2 := by omega
  have B0 : Hid (Plr w g a len cap f w2.heap.size 2 d (w2.alloc (.cells #[.int .i64 2, .int .u64 0, .int .u64 0, .int .u64 0, .int .u64 0, .slice none 0 0] 29)) (.slice none 0 0) []) := Plr.start HQ.out HS.out.out M2.out p2.out
  clear h9 h2 hl2
  go_wp2_with fail
  generalize w2.alloc (.cells #[.int .i64 2, .int .u64 0, .int .u64 0, .int .u64 0, .int .u64 0, .slice none 0 0] 29) = W0 at *
  generalize w2.heap.size = gr at *
  go_loopw [9] (fun s9 wr => ∃ i va vc acc, i ≤ (2 + m2) ∧ s9 = .int .i64 (i : Nat) ∧ acc.length = i ∧ Hid (Plr w g a len cap f gr 2 d wr (.slice va i vc) acc)) (fun s9 _ => (2 + m2) - (intOf s9).toNat)
  case atStart => exact ⟨0, none, 0, [], by omega, rfl, rfl, B0⟩
  case round =>
    obtain ⟨i, va, vc, acc, hi, rfl, hacc, B⟩ := hrel
    have HA : Hid (acc.length = i) := hacc
    clear hacc B0
    by_cases hlt : i < (2 + m2)
    · have hli : (i : Int) < (2 + (m2 : Int)) := by omega
      obtain ⟨n5, p5⟩ := B.out.pk
      have hx := IH.out g a len cap f n5 wr p5
      go_wp2_with fail
      refine hx.mono ?_
      intro e3 w3 h3
      obtain ⟨x, pa, pc, n6, rfl, plx, px, p6, m6⟩ := h3
      have q7 := Mv.alloc (fun _ => False) w3 (.cells #[.int .i64 x.kind, .int .u64 (limb x.set 0), .int .u64 (limb x.set 1), .int .u64 (limb x.set 2), .int .u64 (limb x.set 3), .slice pa x.args.length pc] 29)
      have m7 : Mv (fun j => j = g) wr (w3.alloc (.cells #[.int .i64 x.kind, .int .u64 (limb x.set 0), .int .u64 (limb x.set 1), .int .u64 (limb x.set 2), .int .u64 (limb x.set 3), .slice pa x.args.length pc] 29)) := Mv.trans m6.out q7 (fun _ _ h => h.elim)
      have p7 : Hid (Pk (w3.alloc (.cells #[.int .i64 x.kind, .int .u64 (limb x.set 0), .int .u64 (limb x.set 1), .int .u64 (limb x.set 2), .int .u64 (limb x.set 3), .slice pa x.args.length pc] 29)) g a len cap f n6) := p6.out.mv q7
      have B7 := B.out.go m7 p7.out
      have BX : Hid (B6 w3.heap.size (.int .i64 x.kind) (.int .u64 (limb x.set 0)) (.int .u64 (limb x.set 1)) (.int .u64 (limb x.set 2)) (.int .u64 (limb x.set 3)) (.slice pa x.args.length pc) (w3.alloc (.cells #[.int .i64 x.kind, .int .u64 (limb x.set 0), .int .u64 (limb x.set 1), .int .u64 (limb x.set 2), .int .u64 (limb x.set 3), .slice pa x.args.length pc] 29))) := heap_alloc_new w3 _
      have px7 : Hid (Parts x.args (fun j => wr.heap.size ≤ j ∧ ¬ False) (w3.alloc (.cells #[.int .i64 x.kind, .int .u64 (limb x.set 0), .int .u64 (limb x.set 1), .int .u64 (limb x.set 2), .int .u64 (limb x.set 3), .slice pa x.args.length pc] 29)) pa pc) := (px.out.mv q7 (fun _ _ h => h)).mono (fun j hj => ⟨hj, id⟩)
      have HW3 : Hid (wr.heap.size ≤ w3.heap.size) := m6.out.size
      have hkind := plx.out.kind
      obtain ⟨xk, hxk⟩ : ∃ xk, xk = x.kind := ⟨_, rfl⟩
      obtain ⟨b0, b1, b2, b3, b4, b5, g0, g1, g2, g3, g4, g5⟩ := B6.facts BX
      obtain ⟨r0, r1, r2, r3, r4, r5, _, _, _, _, _, _⟩ := B6.facts (show Hid _ from B7.r)
      clear hx
      have HWw : Hid (w.heap.size ≤ wr.heap.size) := B.out.mv.size
      have hgi : (i : Int) < 1000 := by omega
      by_cases hk : x.kind = 2
      · have hkb : (x.kind == 2) = true := by rw [hk]; rfl
        clear hk hkind
        go_wp2_with fail
        refine (hset _ _ p7).mono ?_
        intro e4 w4 h4
        obtain ⟨p, n8, rfl, hp, p8, m8⟩ := h4
        rw [sv_cells]
        have BX4 := B6.mv BX.out m8.out (by have := HQ.out; have := HWw.out; have := HW3.out; omega)
        have mput := put6_mv w4 w3.heap.size (.int .i64 1) (.int .u64 (limb p 0)) (.int .u64 (limb p 1)) (.int .u64 (limb p 2)) (.int .u64 (limb p 3)) (.slice none 0 0)
        have M9 : Mv (fun j => j = g) wr (put6 w4 w3.heap.size (.int .i64 1) (.int .u64 (limb p 0)) (.int .u64 (limb p 1)) (.int .u64 (limb p 2)) (.int .u64 (limb p 3)) (.slice none 0 0)) := Mv.trans (Mv.trans m7 m8.out (fun _ _ h => h)) mput (fun j hj e => by have := HW3.out; omega)
        have P9 : Hid (Pk (put6 w4 w3.heap.size (.int .i64 1) (.int .u64 (limb p 0)) (.int .u64 (limb p 1)) (.int .u64 (limb p 2)) (.int .u64 (limb p 3)) (.slice none 0 0)) g a len cap f n8) := Pk.mv2 HQ.out HS.out.out p8.out mput (by have := HWw.out; have := HW3.out; have := q7.size; have := m8.out.size; omega) (fun j hj e => by have := HWw.out; have := HW3.out; omega)
        have B9 := B.out.go M9 P9.out
        have BX5 : Hid (B6 w3.heap.size (.int .i64 1) (.int .u64 (limb p 0)) (.int .u64 (limb p 1)) (.int .u64 (limb p 2)) (.int .u64 (limb p 3)) (.slice none 0 0) (put6 w4 w3.heap.size (.int .i64 1) (.int .u64 (limb p 0)) (.int .u64 (limb p 1)) (.int .u64 (limb p 2)) (.int .u64 (limb p 3)) (.slice none 0 0))) := put6_heap BX4.out _ _ _ _ _ _
        have px9 : Hid (Parts (⟨1, p, []⟩ : RX).args (fun j => wr.heap.size ≤ j ∧ ¬ False) (put6 w4 w3.heap.size (.int .i64 1) (.int .u64 (limb p 0)) (.int .u64 (limb p 1)) (.int .u64 (limb p 2)) (.int .u64 (limb p 3)) (.slice none 0 0)) none 0) := (parts_none _).mono (fun _ h => h.elim)
        obtain ⟨v', W, hr, hR, ⟨va', vc', hv'⟩, B'⟩ := Plr.step (x := ⟨1, p, []⟩) B px9 M9 P9 (show Hid _ from ⟨pl_set d hp, by show (1 : Int) ≠ 2; decide⟩) (by have := HA.out; omega)
        rw [HA.out] at hv'
        subst hv'
        rw [show (put6 w4 w3.heap.size (.int .i64 1) (.int .u64 (limb p 0)) (.int .u64 (limb p 1)) (.int .u64 (limb p 2)) (.int .u64 (limb p 3)) (.slice none 0 0)).heap.size = w4.heap.size from by simp [put6]] at hr
        clear b0 b1 b2 b3 b4 b5 g0 g1 g2 g3 g4 g5 r0 r1 r2 r3 r4 r5
        obtain ⟨b0, b1, b2, b3, b4, b5, g0, g1, g2, g3, g4, g5⟩ := B6.facts BX4
        obtain ⟨c0, c1, c2, c3, c4, c5, _, _, _, _, _, _⟩ := B6.facts BX5
        obtain ⟨_, _, _, _, _, r5, _, _, _, _, _, _⟩ := B6.facts (show Hid _ from B9.r)
        obtain ⟨_, _, _, _, _, y5, _, _, _, _, _, f5⟩ := B6.facts hR
        unfold put6 at c0 c1 c2 c3 c4 c5 r5 hr
        clear hset IH px9 B9 BX5 BX4 P9 B7 px7 px plx m7 q7 BX
        go_wp2_with (at_builtin; first | (refine wpList_append_given rfl _ _ 27 rfl _ _ _ W rfl rfl hr ?_))
        exact ⟨⟨i + 1, va', vc', acc ++ [⟨1, p, []⟩], by omega, by go_num, by rw [List.length_append, HA.out]; rfl, B'⟩, by simp [intOf]; omega⟩
      · have hkb : (x.kind == 2) = false := beq_false_of_ne hk
        have hk4 : x.kind < 4 ∨ x.kind = 4 := by omega
        have hkl : True := trivial
        obtain ⟨v', W, hr, hR, ⟨va', vc', hv'⟩, B'⟩ := Plr.step B px7 m7 p7 (show Hid _ from ⟨plx.out, hk⟩) (by have := HA.out; omega)
        rw [HA.out] at hv'
        subst hv'
        rw [show (w3.alloc (.cells #[.int .i64 x.kind, .int .u64 (limb x.set 0), .int .u64 (limb x.set 1), .int .u64 (limb x.set 2), .int .u64 (limb x.set 3), .slice pa x.args.length pc] 29)).heap.size = w3.heap.size + 1 from by simp] at hr
        obtain ⟨_, _, _, _, _, y5, _, _, _, _, _, f5⟩ := B6.facts hR
        clear hset IH hk hk4 B7 px7 px plx m7 q7 BX
        go_wp2_with (at_builtin; first | (refine wpList_append_given rfl _ _ 27 rfl _ _ _ W rfl rfl hr ?_))
        exact ⟨⟨i + 1, va', vc', acc ++ [x], by omega, by go_num, by rw [List.length_append, HA.out]; rfl, B'⟩, by simp [intOf]; omega⟩
    · have HN : Hid (i = (2 + m2)) := (by omega : i = (2 + m2))
      have hge : (2 + (m2 : Int)) ≤ (i : Int) := by omega
      obtain ⟨r0, r1, r2, r3, r4, r5, _, _, _, _, _, _⟩ := B6.facts (show Hid _ from B.out.r)
      obtain ⟨z0, z1, z2, z3, z4, z5, _, _, _, _, _, _⟩ := B6.facts (show Hid _ from B.out.z)
      go_wp2_with fail
      refine bodyPost_ret (results_cell_row (p := 4) (ty := 29) rfl _ _ w.heap.size 29 _ (0, 0) _ rfl (put6_heap B.out.z _ _ _ _ _ _) Tryd.underlying29 rfl (by kernel_rfl)) rfl ?_
      exact Plr.tell B HA.out (by decide) (by rw [if_neg (by decide)]; have := HN.out; omega) _ _ _ _ _ _

set_option maxRecDepth 20000 in
set_option maxHeartbeats 8000000 in
theorem rx_node8 (d : Nat) (hd : d < 100) (ih : RxC d) (D : Int) (hD : D - 1 = (d : Int)) (hD0 : 0 < D) (g : Nat) (a : Option Addr) (len cap : Nat) (f : Nat → Nat) (n : Nat) (w : World) (h : Hid (Pk w g a len cap f n)) (hm : numS f len n 9 = 8) :
    Calls Tryd.prog 9 #[.pointer (some ⟨g, 0, none⟩), .int .i64 D] w fun e w' => RxP (d + 1) w g a len cap f e w' := by
  have HQ : Hid (g < w.heap.size) := (Array.getElem?_eq_some_iff.1 h.out.at_).1
  have HS : Hid (Hid (Sl w a len (Bn f))) := h.out.row
  have h0 : Hid (Pk (w.alloc zeros6) g a len cap f n) := h.out.mv (Mv.alloc (fun _ => False) w zeros6)
  have h9 := num_any 9 (by decide) (by decide) g a len cap f n (w.alloc zeros6) h0
  have hset := fun n' W (P : Hid (Pk W g a len cap f n')) => pset_any g a len cap f n' W P
  have h2 := fun n' W (P : Hid (Pk W g a len cap f n')) => num_any 2 (by decide) (by decide) g a len cap f n' W P
  have hl2 := fun n' => numS_lt f len n' 2 (by decide)
  have IH : Hid (RxC d) := ih
  have hdi : (d : Int) < 100 := by omega
  rw [hm] at h9
  generalize numN len n = n1 at h9
  clear h h0 hm ih
  go_enter Tryd.func9, Tryd.ntmps9
  go_wp2_with fail
  refine h9.mono ?_
  rintro e w1 ⟨rfl, p1, m1⟩
  go_wp2_with fail
  have hm2 := hl2 n1
  refine (h2 _ _ p1).mono ?_
  rintro e w2 ⟨rfl, p2, m2'⟩
  have M2 : Hid (Mv (fun k => k = g) (w.alloc zeros6) w2) := Mv.trans m1.out m2'.out (fun _ _ h => h)
  generalize numS f len n1 2 = m2 at *
  have hm2i : (m2 : Int) < 2 := by omega
  have B0 : Hid (Plr w g a len cap f w2.heap.size 2 d (w2.alloc (.cells #[.int .i64 2, .int .u64 0, .int .u64 0, .int .u64 0, .int .u64 0, .slice none 0 0] 29)) (.slice none 0 0) []) := Plr.start HQ.out HS.out.out M2.out p2.out
  clear h9 h2 hl2
  go_wp2_with fail
  generalize w2.alloc (.cells #[.int .i64 2, .int .u64 0, .int .u64 0, .int .u64 0, .int .u64 0, .slice none 0 0] 29) = W0 at *
  generalize w2.heap.size = gr at *
  go_loopw [9] (fun s9 wr => ∃ i va vc acc, i ≤ (2 + m2) ∧ s9 = .int .i64 (i : Nat) ∧ acc.length = i ∧ Hid (Plr w g a len cap f gr 2 d wr (.slice va i vc) acc)) (fun s9 _ => (2 + m2) - (intOf s9).toNat)
  case atStart => exact ⟨0, none, 0, [], by omega, rfl, rfl, B0⟩
  case round =>
    obtain ⟨i, va, vc, acc, hi, rfl, hacc, B⟩ := hrel
    have HA : Hid (acc.length = i) := hacc
    clear hacc B0
    by_cases hlt : i < (2 + m2)
    · have hli : (i : Int) < (2 + (m2 : Int)) := by omega
      obtain ⟨n5, p5⟩ := B.out.pk
      have hx := IH.out g a len cap f n5 wr p5
      go_wp2_with fail
      refine hx.mono ?_
      intro e3 w3 h3
      obtain ⟨x, pa, pc, n6, rfl, plx, px, p6, m6⟩ := h3
      have q7 := Mv.alloc (fun _ => False) w3 (.cells #[.int .i64 x.kind, .int .u64 (limb x.set 0), .int .u64 (limb x.set 1), .int .u64 (limb x.set 2), .int .u64 (limb x.set 3), .slice pa x.args.length pc] 29)
      have m7 : Mv (fun j => j = g) wr (w3.alloc (.cells #[.int .i64 x.kind, .int .u64 (limb x.set 0), .int .u64 (limb x.set 1), .int .u64 (limb x.set 2), .int .u64 (limb x.set 3), .slice pa x.args.length pc] 29)) := Mv.trans m6.out q7 (fun _ _ h => h.elim)
      have p7 : Hid (Pk (w3.alloc (.cells #[.int .i64 x.kind, .int .u64 (limb x.set 0), .int .u64 (limb x.set 1), .int .u64 (limb x.set 2), .int .u64 (limb x.set 3), .slice pa x.args.length pc] 29)) g a len cap f n6) := p6.out.mv q7
      have B7 := B.out.go m7 p7.out
      have BX : Hid (B6 w3.heap.size (.int .i64 x.kind) (.int .u64 (limb x.set 0)) (.int .u64 (limb x.set 1)) (.int .u64 (limb x.set 2)) (.int .u64 (limb x.set 3)) (.slice pa x.args.length pc) (w3.alloc (.cells #[.int .i64 x.kind, .int .u64 (limb x.set 0), .int .u64 (limb x.set 1), .int .u64 (limb x.set 2), .int .u64 (limb x.set 3), .slice pa x.args.length pc] 29))) := heap_alloc_new w3 _
      have px7 : Hid (Parts x.args (fun j => wr.heap.size ≤ j ∧ ¬ False) (w3.alloc (.cells #[.int .i64 x.kind, .int .u64 (limb x.set 0), .int .u64 (limb x.set 1), .int .u64 (limb x.set 2), .int .u64 (limb x.set 3), .slice pa x.args.length pc] 29)) pa pc) := (px.out.mv q7 (fun _ _ h => h)).mono (fun j hj => ⟨hj, id⟩)
      have HW3 : Hid (wr.heap.size ≤ w3.heap.size) := m6.out.size
      have hkind := plx.out.kind
      obtain ⟨xk, hxk⟩ : ∃ xk, xk = x.kind := ⟨_, rfl⟩
      obtain ⟨b0, b1, b2, b3, b4, b5, g0, g1, g2, g3, g4, g5⟩ := B6.facts BX
      obtain ⟨r0, r1, r2, r3, r4, r5, _, _, _, _, _, _⟩ := B6.facts (show Hid _ from B7.r)
      clear hx
      have HWw : Hid (w.heap.size ≤ wr.heap.size) := B.out.mv.size
      have hgi : (i : Int) < 1000 := by omega
      by_cases hk : x.kind = 2
      · have hkb : (x.kind == 2) = true := by rw [hk]; rfl
        clear hk hkind
        go_wp2_with fail
        refine (hset _ _ p7).mono ?_
        intro e4 w4 h4
        obtain ⟨p, n8, rfl, hp, p8, m8⟩ := h4
        rw [sv_cells]
        have BX4 := B6.mv BX.out m8.out (by have := HQ.out; have := HWw.out; have := HW3.out; omega)
        have mput := put6_mv w4 w3.heap.size (.int .i64 1) (.int .u64 (limb p 0)) (.int .u64 (limb p 1)) (.int .u64 (limb p 2)) (.int .u64 (limb p 3)) (.slice none 0 0)
        have M9 : Mv (fun j => j = g) wr (put6 w4 w3.heap.size (.int .i64 1) (.int .u64 (limb p 0)) (.int .u64 (limb p 1)) (.int .u64 (limb p 2)) (.int .u64 (limb p 3)) (.slice none 0 0)) := Mv.trans (Mv.trans m7 m8.out (fun _ _ h => h)) mput (fun j hj e => by have := HW3.out; omega)
        have P9 : Hid (Pk (put6 w4 w3.heap.size (.int .i64 1) (.int .u64 (limb p 0)) (.int .u64 (limb p 1)) (.int .u64 (limb p 2)) (.int .u64 (limb p 3)) (.slice none 0 0)) g a len cap f n8) := Pk.mv2 HQ.out HS.out.out p8.out mput (by have := HWw.out; have := HW3.out; have := q7.size; have := m8.out.size; omega) (fun j hj e => by have := HWw.out; have := HW3.out; omega)
        have B9 := B.out.go M9 P9.out
        have BX5 : Hid (B6 w3.heap.size (.int .i64 1) (.int .u64 (limb p 0)) (.int .u64 (limb p 1)) (.int .u64 (limb p 2)) (.int .u64 (limb p 3)) (.slice none 0 0) (put6 w4 w3.heap.size (.int .i64 1) (.int .u64 (limb p 0)) (.int .u64 (limb p 1)) (.int .u64 (limb p 2)) (.int .u64 (limb p 3)) (.slice none 0 0))) := put6_heap BX4.out _ _ _ _ _ _
        have px9 : Hid (Parts (⟨1, p, []⟩ : RX).args (fun j => wr.heap.size ≤ j ∧ ¬ False) (put6 w4 w3.heap.size (.int .i64 1) (.int .u64 (limb p 0)) (.int .u64 (limb p 1)) (.int .u64 (limb p 2)) (.int .u64 (limb p 3)) (.slice none 0 0)) none 0) := (parts_none _).mono (fun _ h => h.elim)
        obtain ⟨v', W, hr, hR, ⟨va', vc', hv'⟩, B'⟩ := Plr.step (x := ⟨1, p, []⟩) B px9 M9 P9 (show Hid _ from ⟨pl_set d hp, by show (1 : Int) ≠ 2; decide⟩) (by have := HA.out; omega)
        rw [HA.out] at hv'
        subst hv'
        rw [show (put6 w4 w3.heap.size (.int .i64 1) (.int .u64 (limb p 0)) (.int .u64 (limb p 1)) (.int .u64 (limb p 2)) (.int .u64 (limb p 3)) (.slice none 0 0)).heap.size = w4.heap.size from by simp [put6]] at hr
        clear b0 b1 b2 b3 b4 b5 g0 g1 g2 g3 g4 g5 r0 r1 r2 r3 r4 r5
        obtain ⟨b0, b1, b2, b3, b4, b5, g0, g1, g2, g3, g4, g5⟩ := B6.facts BX4
        obtain ⟨c0, c1, c2, c3, c4, c5, _, _, _, _, _, _⟩ := B6.facts BX5
        obtain ⟨_, _, _, _, _, r5, _, _, _, _, _, _⟩ := B6.facts (show Hid _ from B9.r)
        obtain ⟨_, _, _, _, _, y5, _, _, _, _, _, f5⟩ := B6.facts hR
        unfold put6 at c0 c1 c2 c3 c4 c5 r5 hr
        clear hset IH px9 B9 BX5 BX4 P9 B7 px7 px plx m7 q7 BX
        go_wp2_with (at_builtin; first | (refine wpList_append_given rfl _ _ 27 rfl _ _ _ W rfl rfl hr ?_))
        exact ⟨⟨i + 1, va', vc', acc ++ [⟨1, p, []⟩], by omega, by go_num, by rw [List.length_append, HA.out]; rfl, B'⟩, by simp [intOf]; omega⟩
      · have hkb : (x.kind == 2) = false := beq_false_of_ne hk
        have hk4 : x.kind < 4 ∨ x.kind = 4 := by omega
        have hkl : True := trivial
        obtain ⟨v', W, hr, hR, ⟨va', vc', hv'⟩, B'⟩ := Plr.step B px7 m7 p7 (show Hid _ from ⟨plx.out, hk⟩) (by have := HA.out; omega)
        rw [HA.out] at hv'
        subst hv'
        rw [show (w3.alloc (.cells #[.int .i64 x.kind, .int .u64 (limb x.set 0), .int .u64 (limb x.set 1), .int .u64 (limb x.set 2), .int .u64 (limb x.set 3), .slice pa x.args.length pc] 29)).heap.size = w3.heap.size + 1 from by simp] at hr
        obtain ⟨_, _, _, _, _, y5, _, _, _, _, _, f5⟩ := B6.facts hR
        clear hset IH hk hk4 B7 px7 px plx m7 q7 BX
        go_wp2_with (at_builtin; first | (refine wpList_append_given rfl _ _ 27 rfl _ _ _ W rfl rfl hr ?_))
        exact ⟨⟨i + 1, va', vc', acc ++ [x], by omega, by go_num, by rw [List.length_append, HA.out]; rfl, B'⟩, by simp [intOf]; omega⟩
    · have HN : Hid (i = (2 + m2)) := (by omega : i = (2 + m2))
      have hge : (2 + (m2 : Int)) ≤ (i : Int) := by omega
      obtain ⟨r0, r1, r2, r3, r4, r5, _, _, _, _, _, _⟩ := B6.facts (show Hid _ from B.out.r)
      obtain ⟨z0, z1, z2, z3, z4, z5, _, _, _, _, _, _⟩ := B6.facts (show Hid _ from B.out.z)
      go_wp2_with fail
      refine bodyPost_ret (results_cell_row (p := 4) (ty := 29) rfl _ _ w.heap.size 29 _ (0, 0) _ rfl (put6_heap B.out.z _ _ _ _ _ _) Tryd.underlying29 rfl (by kernel_rfl)) rfl ?_
      exact Plr.tell B HA.out (by decide) (by rw [if_neg (by decide)]; have := HN.out; omega) _ _ _ _ _ _

theorem numS_small (f : Nat → Nat) (len n : Nat) : numS f len n 9 < 4 ∨ numS f len n 9 = 4 ∨ numS f len n 9 = 5 ∨ numS f len n 9 = 6 ∨ numS f len n 9 = 7 ∨ numS f len n 9 = 8 := by
  have := numS_lt f len n 9 (by decide)
  omega
theorem rx_any : ∀ d, d < 100 → RxC d
  | 0, _ => fun g a len cap f n w h => rx_leaf 0 _ g a len cap f n w h (.inl (by simp))
  | d + 1, hd => fun g a len cap f n w h => by
    have ih := rx_any d (by omega)
    have h1 : ((d + 1 : Nat) : Int) - 1 = (d : Int) := by omega
    have h2 : (0 : Int) < ((d + 1 : Nat) : Int) := by omega
    rcases numS_small f len n with hm | hm | hm | hm | hm | hm
    · exact rx_leaf (d + 1) _ g a len cap f n w h (.inr ⟨h2, hm⟩)
    · exact rx_node4 d (by omega) ih _ h1 h2 g a len cap f n w h hm
    · exact rx_node5 d (by omega) ih _ h1 h2 g a len cap f n w h hm
    · exact rx_node6 d (by omega) ih _ h1 h2 g a len cap f n w h hm
    · exact rx_node7 d (by omega) ih _ h1 h2 g a len cap f n w h hm
    · exact rx_node8 d (by omega) ih _ h1 h2 g a len cap f n w h hm

end Go.Proofs.YtojbakkbmfgoaaaDoor
