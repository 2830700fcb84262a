/- Edit, where it may be done. -/
import Derived.Test.YtjelclomigmlmaaD4
namespace Go.Proofs.Ytjelclomigmlmaa
open Go.RowKit

section
variable {w : World} {p n : Nat} {L : List Bt} {m : Nat} {A : Nat → Int} {Y : Nat → Prop}

theorem joined (w4 : World) (a1 : Option Addr) (c1 : Nat) (ps1 : List Pc) (a4 : Option Addr) (c4 : Nat) (ps4 : List Pc) (m k : Nat) (l1 : Li w4 a1 c1 ps1) (l4 : Li w4 a4 c4 ps4) (f1 : Fit ps1) (f4 : Fit ps4) (hm : m + k ≤ 20000) (h1 : ps1.length ≤ 30000) (h4 : ps4.length ≤ 30000) :
    Calls Try.prog 27 #[.slice (some ⟨w4.heap.size + 1, 0, none⟩) 3 3] ((w4.alloc (.cells #[.bool true, .int .i64 m, .int .i64 ((m : Int) + k)] 50)).alloc (.cells #[.slice a1 ps1.length c1, .slice (some ⟨w4.heap.size, 0, none⟩) 1 1, .slice a4 ps4.length c4] 41)) fun e w' => ∃ v, e = .returned v ∧
      Hid (∃ w5, Qt w4 w5 ∧ Qt w5 w' ∧ Op3 w' w5.heap.size v (nf (spl ps1 ++ sp1 ⟨true, m, m + k⟩ ++ spl ps4))) := by
  obtain ⟨W2, hW2⟩ : ∃ W2, W2 = (w4.alloc (.cells #[.bool true, .int .i64 m, .int .i64 ((m : Int) + k)] 50)).alloc (.cells #[.slice a1 ps1.length c1, .slice (some ⟨w4.heap.size, 0, none⟩) 1 1, .slice a4 ps4.length c4] 41) := ⟨_, rfl⟩
  have q2 : Qt w4 W2 := by rw [hW2]; exact Qt.two _ _ _
  have fit : Fit [⟨true, m, m + k⟩] := by
    intro p hp
    simp at hp
    subst hp
    exact ⟨by show m ≤ m + k; omega, by show m + k < _; omega⟩
  have J := join_any (some ⟨w4.heap.size + 1, 0, none⟩) 3 [(a1, c1, ps1), (some ⟨w4.heap.size, 0, none⟩, 1, [⟨true, m, m + k⟩]), (a4, c4, ps4)] W2 (by
    refine ⟨?_, ?_⟩
    · rw [hW2]
      have := Ls.new (w4.alloc (.cells #[.bool true, .int .i64 m, .int .i64 ((m : Int) + k)] 50)) #[.slice a1 ps1.length c1, .slice (some ⟨w4.heap.size, 0, none⟩) 1 1, .slice a4 ps4.length c4] 41
      simp only [World.size_alloc] at this
      exact this
    · intro s hs
      simp at hs
      rcases hs with rfl | rfl | rfl
      · exact ⟨l1.ls.qt q2, f1⟩
      · refine ⟨?_, fit⟩
        rw [hW2]
        exact (ls_one w4 true m ((m : Int) + k) m (m + k) _ rfl rfl (by simp)).qt (Mv.alloc _ _ _)
      · exact ⟨l4.ls.qt q2, f4⟩) (by simp [pre]; omega) (by simp)
  rw [← hW2]
  refine J.mono ?_
  rintro e W ⟨v, rfl, jh⟩
  have j : Jd W2 W v (ps1 ++ [⟨true, m, m + k⟩] ++ ps4) := by
    have := jh.out
    have e : pre [(a1, c1, ps1), (some ⟨w4.heap.size, 0, none⟩, 1, [⟨true, m, m + k⟩]), (a4, c4, ps4)] [((a1, c1, ps1) : Sg), (some ⟨w4.heap.size, 0, none⟩, 1, [⟨true, m, m + k⟩]), (a4, c4, ps4)].length = ps1 ++ [⟨true, m, m + k⟩] ++ ps4 := by simp [pre]
    rw [e] at this
    exact this
  refine ⟨v, rfl, W2, q2, j.2, ?_⟩
  have fa : Fit (ps1 ++ [⟨true, m, m + k⟩] ++ ps4) := by
    intro x hx
    rcases List.mem_append.1 hx with hx | hx
    · rcases List.mem_append.1 hx with hx | hx
      · exact f1 x hx
      · exact fit x hx
    · exact f4 x hx
  have := jd_nf j fa
  rw [spl_append, spl_append, spl_cons, spl_nil, List.append_nil] at this
  exact this

set_option maxHeartbeats 2000000 in
theorem edit_ok (h : Hid (Tx w p n L m A Y)) (a b : Nat) (sa : Option Addr) (k sc : Nat) (f : Nat → Int) (hab : a ≤ b) (hb : b ≤ L.length) (hk : k ≤ 300) (hs : Hid (Sl w sa k (By f))) (hn : Hid (sa = none → k = 0 ∧ sc = 0)) (hm : m + k ≤ 20000) (hl : L.length + k ≤ 20000) :
    Calls Try.prog 13 #[.pointer (some ⟨p, 0, none⟩), .int .i64 a, .int .i64 b, .slice sa k sc] w fun e w' => e = .returned (.int .i64 0) ∧ Hid (Tx w' p n (ins L a b m k) (m + k) (catI A m f) Y ∧ Mv (fun j => ¬ Y j) w w') := by
  have C := len_any h
  obtain ⟨vp, va, H0⟩ := h.out
  obtain ⟨pa, pc, rfl, li0⟩ := H0.li
  have H : Hid (TxAt w p n L m A (.slice pa (nf L).length pc) va Y) := H0
  have c0 := H0.c0
  have LI : Hid (Li w pa pc (nf L)) := li0
  have F : Hid (Fit (nf L)) := H0.fit
  have NL : Hid ((nf L).length ≤ 20000) := H0.len
  have hal : a < 1000000 := by omega
  have hbl : b - a < 1000000 := by omega
  have hbz : (b : Int) ≤ L.length := by omega
  have habz : (a : Int) ≤ b := by omega
  have hkz : (k : Int) ≤ 300 := by omega
  have hba : (b : Int) - a = ((b - a : Nat) : Int) := by omega
  have LW : Hid ((ins L a b m k).length ≤ 20000) := by
    show _ ≤ _
    rw [ins_length L a b m k hab hb]; omega
  have WF : Hid (Wf n (m + k) (ins L a b m k)) := ins_wf H0.wf a b k
  have BD : Hid (a ≤ b ∧ b ≤ L.length) := ⟨hab, hb⟩
  have HPA : Hid (∀ j, (∃ q0, pa = some q0 ∧ j = q0.block) ∨ w.heap.size ≤ j → ¬ (j = p ∨ va.ownBlock = some j)) := by
    have hp : p < w.heap.size := World.block_lt_of_cell? _ _ H0.c0
    obtain ⟨pa', pc', e', _, _, _, g⟩ := ow_ls H0.pl
    cases e'
    intro j hj e
    rcases hj with ⟨q0, e1, rfl⟩ | hj
    · have := g q0 e1
      rcases e with e | e
      · exact H0.sep.1 (by rw [← e]; exact this)
      · exact H0.sep.2.2 _ this e
    · rcases e with e | e
      · omega
      · have := (H0.ad.blk j e).2
        omega
  clear H0 li0 h
  obtain ⟨N, hN⟩ : ∃ N, N = (nf L).length := ⟨_, rfl⟩
  have HN : Hid (N = (nf L).length) := hN
  rw [← hN] at c0
  clear hN
  obtain ⟨K, hK⟩ : ∃ K, K = L.length := ⟨_, rfl⟩
  rw [← hK] at C hbz
  clear hK hb hl
  go_enter Try.func13, Try.ntmps13
  go_wp2_with fail
  refine C.mono ?_
  rintro e w1 ⟨rfl, q1⟩
  clear C
  have d0 := q1.out.cell c0 (fun h => h)
  clear c0
  have S1 := split_any pa pc (nf L) a w1 (LI.out.qt q1.out) F (by have := NL.out; omega) hal
  rw [← HN.out] at S1
  go_wp2_with fail
  refine S1.mono ?_
  rintro e w2 ⟨v, rfl, T⟩
  clear S1
  obtain ⟨a1, c1, ps1, a2, c2, ps2, rfl, l1, l2, f1, f2, e1, e2, n1, n2, q2, g1, g2⟩ := T.out
  have T2 : Hid (Li w2 a1 c1 ps1 ∧ Li w2 a2 c2 ps2 ∧ Fit ps1 ∧ Fit ps2 ∧ spl ps1 = (spl (nf L)).take a ∧ spl ps2 = (spl (nf L)).drop a ∧ ps1.length ≤ N + 1 ∧ ps2.length ≤ N + 1 ∧ Qt w1 w2 ∧ Nigh w1 pa a1 ∧ Nigh w1 pa a2) := ⟨l1, l2, f1, f2, e1, e2, n1, n2, q2, g1, g2⟩
  clear T l1 l2 f1 f2 e1 e2 n1 n2 q2 g1 g2 d0
  have S2 := split_any a2 c2 ps2 (b - a) w2 T2.out.2.1 T2.out.2.2.2.1 (by have h1 := T2.out.2.2.2.2.2.2.2.1; have h2 := NL.out; have h3 := HN.out; omega) hbl
  obtain ⟨n1, hn1⟩ : ∃ n1, n1 = ps1.length := ⟨_, rfl⟩
  obtain ⟨n2, hn2⟩ : ∃ n2, n2 = ps2.length := ⟨_, rfl⟩
  have HN1 : Hid (n1 = ps1.length) := hn1
  have HN2 : Hid (n2 = ps2.length) := hn2
  rw [← hn1]
  rw [← hn2] at S2 ⊢
  clear hn1 hn2
  go_wp2_with fail
  refine S2.mono ?_
  rintro e w3 ⟨v, rfl, T⟩
  clear S2
  obtain ⟨a3, c3, ps3, a4, c4, ps4, rfl, l3, l4, f3, f4, e3, e4, n3, n4, q3, g3, g4⟩ := T.out
  have T3 : Hid (Li w3 a4 c4 ps4 ∧ Fit ps4 ∧ spl ps4 = (spl ps2).drop (b - a) ∧ ps4.length ≤ n2 + 1 ∧ Qt w2 w3 ∧ Nigh w2 a2 a4) := ⟨l4, f4, e4, n4, q3, g4⟩
  clear T l3 l4 f3 f4 e3 e4 n3 n4 q3 g3 g4
  have Q3 : Hid (Qt w w3) := (q1.out.comp T2.out.2.2.2.2.2.2.2.2.1).comp T3.out.2.2.2.2.1
  have AD := add_any (H.out.qt Q3.out) sa k sc f (hs.out.mv Q3.out (fun _ _ h => h)) hn hm
  obtain ⟨n4, hn4⟩ : ∃ n4, n4 = ps4.length := ⟨_, rfl⟩
  have HN4 : Hid (n4 = ps4.length) := hn4
  rw [← hn4]
  clear hn4
  generalize ps3.length = n3
  go_wp2_with fail
  refine AD.mono ?_
  rintro e w4 ⟨rfl, va', AL⟩
  clear AD
  have Q2 : Hid (Qt w1 w2) := T2.out.2.2.2.2.2.2.2.2.1
  have Q23 : Hid (Qt w2 w3) := T3.out.2.2.2.2.1
  have b1 : ∀ q, a1 = some q → ¬ (q.block = p ∨ va.ownBlock = some q.block) := by
    intro q e
    refine HPA.out _ ?_
    rcases T2.out.2.2.2.2.2.2.2.2.2.1 q e with h1 | h1
    · exact .inl h1
    · exact .inr (Nat.le_trans q1.out.size h1)
  have b4 : ∀ q, a4 = some q → ¬ (q.block = p ∨ va.ownBlock = some q.block) := by
    intro q e
    refine HPA.out _ ?_
    rcases T3.out.2.2.2.2.2 q e with ⟨q0, e0, e1⟩ | h1
    · rw [e1]
      rcases T2.out.2.2.2.2.2.2.2.2.2.2 q0 e0 with h1 | h1
      · exact .inl h1
      · exact .inr (Nat.le_trans q1.out.size h1)
    · exact .inr (Nat.le_trans (q1.out.comp Q2.out).size h1)
  have l1 : Li w4 a1 c1 ps1 := by
    have := T2.out.1.qt Q23.out
    exact ⟨this.ls.mv AL.out.2 b1, this.cap, this.none⟩
  have l4 : Li w4 a4 c4 ps4 := ⟨T3.out.1.ls.mv AL.out.2 b4, T3.out.1.cap, T3.out.1.none⟩
  have JN := joined w4 a1 c1 ps1 a4 c4 ps4 m k l1 l4 T2.out.2.2.1 T3.out.2.1 hm (by
    have h1 := T2.out.2.2.2.2.2.2.1
    have h2 := NL.out
    have h3 := HN.out
    omega) (by
    have h1 := T2.out.2.2.2.2.2.2.2.1
    have h2 := NL.out
    have h3 := HN.out
    have h4 := T3.out.2.2.2.1
    have h5 := HN2.out
    omega)
  have SP : Hid (spl ps1 ++ sp1 ⟨true, m, m + k⟩ ++ spl ps4 = ins L a b m k) := by
    show _ = _
    rw [T3.out.2.2.1, T2.out.2.2.2.2.1, T2.out.2.2.2.2.2.1, spl_nf, List.drop_drop, show a + (b - a) = b by omega]
    rfl
  rw [SP.out, ← HN1.out, ← HN4.out] at JN
  have d0 : w4.cell? ⟨p, 0, none⟩ = some (.slice pa N pc) := by rw [HN.out]; exact AL.out.1.c0
  have z0 := AL.out.1.z0
  clear b1 b4 l1 l4
  go_wp2_with fail
  refine JN.mono ?_
  rintro e w6 ⟨v, rfl, J⟩
  obtain ⟨w5, x5, x6, x7⟩ := J.out
  have q46 : Qt w4 w6 := x5.comp x6
  have d6 := q46.cell d0 (fun h => h)
  have z6 := (q46.frozen (p := ⟨p, 0, none⟩) (World.block_lt_of_cell? _ _ d0) (fun h => h)).trans z0
  have FN := edit_fin AL.out.1 x5 x6 x7 WF.out LW.out
  have MV : Mv (fun j => ¬ Y j) w (w6.setCell ⟨p, 0, none⟩ v) := by
    refine ((Q3.out.mono (fun _ _ h => h.elim)).trans (AL.out.2.trans FN.2 (fun j _ e => .inl e)) (fun j hj e => ?_))
    intro y
    obtain ⟨_, y1, y2, y3⟩ := H.out.away j y
    rcases e with e | e
    · exact y1 e
    · exact y3 e
  have FIN : Hid (Tx (w6.setCell ⟨p, 0, none⟩ v) p n (ins L a b m k) (m + k) (catI A m f) Y ∧ Mv (fun j => ¬ Y j) w (w6.setCell ⟨p, 0, none⟩ v)) := ⟨⟨_, _, FN.1⟩, MV⟩
  obtain ⟨va6, vc6, rfl, -⟩ := ow_ls x7
  clear FN MV x5 x6 x7 J JN
  generalize (nf (ins L a b m k)).length = nn at *
  go_wp2_with fail
  go_ret
  exact ⟨rfl, FIN⟩
end
end Go.Proofs.Ytjelclomigmlmaa
