import Derived.Test.YtaahdfogpehkfaaThw
namespace Go.Proofs.Ytaahdfogpehkfaa
open Go.RowKit Go.Maps
set_option maxRecDepth 100000 in
theorem appS {ops : Array Oper} {rest : List Oper} {o : Oper} {a : Act} {Q : Exit → Act → World → Prop} {w0 : World} (hgd : o.guard = none) (s x : Operand)
    (ho : o.op = .call { callee := .builtin .append, args := #[s, x], argTypes := #[32, 32] }) (B1 : Nat) (v : Value) (T X : List ByteArray) (ad : Addr) (cap m : Nat) (hmX : X.length = m)
    (hs : a.eval s = v) (hx : a.eval x = .slice (some ad) m cap) (hX : SLie w0 (.slice (some ad) X.length cap) X) (hA : SRow B1 w0 v T) (hn : (T.length + X.length) * 16 ≤ 140737488355328) (hbase : B1 ≤ w0.heap.size)
    (h : ∀ v' w', SRow B1 w' v' (T ++ X) → Below B1 w0 w' → wpList Try.prog ops Q rest (a.put o.dst v') w') :
    wpList Try.prog ops Q (o :: rest) a w0 := by
  subst hmX
  obtain ⟨i0, hi, hz0, hz1, hz2⟩ := info_parts Try.infoR9
  have ho2 := hA.own
  refine wpList_append_own _ hgd s x 32 ho B1 9 i0 (.string ⟨#[]⟩) 1 16 Try.underlying32 hi hz0 hz1 hz2 rfl (by decide) v T.length (T.map Value.string) hs hA ad X.length cap (X.map Value.string) hx (by simp) (by
      intro j u hu
      rw [List.getElem?_map] at hu
      obtain ⟨y, hy, rfl⟩ := Option.map_eq_some_iff.1 hu
      obtain ⟨hj, e⟩ := List.getElem?_eq_some_iff.1 hy
      obtain ⟨ao', cap', e0, _, _, hc⟩ := hX
      obtain ⟨gb, off, e1, _, c⟩ := hc j hj
      injection e0 with e2 _ _
      rw [e1] at e2
      injection e2 with e2
      subst e2
      rw [← e]
      have hadd : (⟨gb, off, none⟩ : Addr).add j = ⟨gb, off + j, none⟩ := by unfold Addr.add; split <;> simp_all
      rw [hadd]
      exact c) (by intro u hu; obtain ⟨y, _, rfl⟩ := List.mem_map.1 hu; rfl) (by unfold maxLen; omega) (by omega) hbase ?_
  intro v' w' hown hg _
  refine h v' w' ?_ ?_
  · unfold SRow
    rw [List.map_append, List.length_append]
    exact hown
  · refine ⟨hg.os, hg.tape, hg.output, hg.size, fun k hk => hg.block k (by omega) ?_⟩
    intro e
    have := (ho2 k e.symm).1
    omega
theorem srow_some {B : Nat} {w : World} {v : Value} {l : List ByteArray} (h : SRow B w v l) (hl : 0 < l.length) : ∃ g cap, v = .slice (some ⟨g, 0, none⟩) l.length cap ∧ l.length ≤ cap ∧ cap ≤ maxLen := by
  rcases h.2 with ⟨rfl, hz⟩ | ⟨gb, cap, cur, rfl, _, _, r1, r2, _⟩
  · omega
  · exact ⟨gb, cap, rfl, r1, r2⟩
theorem run_app_none (w : World) (g n cap c : Nat) (h : n ≤ cap) : (Builtin.append_ #[32, 32] 32 #[.slice (some ⟨g, 0, none⟩) n cap, .slice none 0 c]).run Try.prog w = .ok (.slice (some ⟨g, 0, none⟩) n cap) w := by
  obtain ⟨i0, hi, hz0, hz1, hz2⟩ := info_parts Try.infoR9
  simp [Builtin.append_, run_underlying Try.underlying32, sizeOf, typeInfo, hi, Builtin.lenOf, h, Builtin.firstCells, storeCells]
theorem encL_len (seq : Nat) (l : List Chg) : (encL seq l).length = l.length + 1 := by rw [encL_eq]; simp
set_option maxRecDepth 100000 in
set_option maxHeartbeats 4000000 in
theorem back_walk (seq : Int) (vl vm : Value) (l : List Chg) (more : List ByteArray) (w : World) (hl : CLie w vl l) (hm : SLie w vm more) (hz : more.length * 16 ≤ 140737488351232) : Calls Try.prog 5 #[.int .i64 seq, vl, vm] w fun e w' => e = .returned (.bool true) ∧ Below w.heap.size w w' := by
  have HS := hid speaks_any
  have HL := hid hl
  have HM := hid hm
  by_cases hseq : 1 ≤ seq ∧ seq ≤ 1099511627776
  · cases hr : right l with
    | false =>
      have HE := hid (encode_txn seq vl l hseq w hl hr)
      clear hl hm hseq hr
      go_enter Try.func5, Try.ntmps5
      go_wp2_with (first
        | (go_at_call 15; refine (HE.out).mono ?_; rintro e w1 ⟨rfl, hb1⟩; have HB1 := hid hb1; clear hb1)
        | (go_at_call 14; refine (HS.out _).mono ?_; rintro e w8 ⟨rfl, hb8⟩))
      go_ret
      exact ⟨rfl, HB1.out.next hb8⟩
    | true =>
      obtain ⟨n, rfl⟩ : ∃ n : Nat, seq = n := ⟨seq.toNat, by omega⟩
      have h48 : l.length ≤ 48 := right_len hr
      have HE := hid (encode_ok n vl l (by omega) (by omega) w hl hr)
      have HD := hid (fun v w h => dec_enc v n l more w h (by omega) (by omega) hr)
      have HEL := hid (encL_len n l)
      rw [show 1 + (l.length : Int) = (l.length : Int) + 1 by omega] at HD
      obtain ⟨E, hE⟩ : ∃ E, E = encL n l := ⟨_, rfl⟩
      rw [← hE] at HE HD HEL
      clear hE
      have HCH := hid (fun v v' w h k => changes_any v v' l l w h k)
      simp only [sameC_self] at HCH
      obtain ⟨lo, lcap, rfl, hl1, hl2⟩ := hl.len
      obtain ⟨mo, mcap, rfl, hm1, hm2, _⟩ := hm
      unfold maxLen at hl2 hm2
      clear hl hseq hr
      go_enter Try.func5, Try.ntmps5
      go_wp2_with (first | (go_at_call 15; fail))
      refine (HE.out).mono ?_
      rintro e w1 ⟨bv, rfl, hS1, hb1⟩
      have HS1 := hid hS1
      have HW1 := hid hb1
      have HL1 := hid (HL.out.below hb1)
      have HM1 := hid (HM.out.below hb1)
      obtain ⟨bo, bcap, rfl, hb2, hb3, hbc⟩ := hS1
      obtain ⟨bg, boff, rfl, _, _⟩ := hbc 0 (by have := HEL.out; omega)
      unfold maxLen at hb3
      have hEl := HEL.out
      clear hbc hb1
      cases mo with
      | none =>
        have hm0 : more = [] := by
          cases more with
          | nil => rfl
          | cons y r =>
            obtain ⟨ao', cap', e0, _, _, hc⟩ := HM1.out
            obtain ⟨gb, off, e1, _, _⟩ := hc 0 (by simp)
            injection e0 with e2 _ _
            rw [e1] at e2
            cases e2
        subst hm0
        rw [List.append_nil] at HD
        simp only [List.length_nil] at hm1 ⊢
        go_wp2_with (first
          | (at_builtin; refine appS (w0 := w1) rfl (.tmp 28) (.tmp 29) rfl w1.heap.size _ [] E ⟨bg, boff, none⟩ bcap (l.length + 1) HEL.out rfl rfl HS1.out (SRow.nil _ _) (by simp; omega) (Nat.le_refl _) ?_
             intro v2 w2 hR2 hb2'
             have HR2 : Hid (SRow w1.heap.size w2 v2 E) := hR2
             have HB2 := hid hb2'
             obtain ⟨g2, c2, hv2, hc2, hc2'⟩ := srow_some HR2.out (by omega)
             subst hv2
             have hrn2 := run_app_none w2 g2 E.length c2 mcap hc2
             rw [hEl] at hrn2
             unfold maxLen at hc2'
             clear hR2 hb2')
          | (go_at_call 17; refine (HD.out _ _ (by rw [← hEl]; exact HR2.out.lie)).mono ?_; rintro e w4 ⟨⟨v4, rfl, hL4⟩, hb4⟩; have HL4 := hid hL4; have HB4 := hid (HB2.out.trans (hb4.mono HB2.out.size)); clear hL4 hb4)
          | (go_at_call 13; refine (HCH.out _ _ _ HL4.out (HL1.out.below HB4.out)).mono ?_; rintro e w5 ⟨rfl, hb5⟩; have HB5 := hid (HB4.out.next hb5); clear hb5)
          | (go_at_call 14; refine (HS.out _).mono ?_; rintro e w8 ⟨rfl, hb8⟩))
        go_ret
        exact ⟨rfl, (HW1.out.next HB5.out).next hb8⟩
      | some ma =>
        go_wp2_with (first
          | (at_builtin; have hk := HR2; clear hk; refine appS (w0 := w2) rfl (.tmp 31) (.tmp 32) rfl w1.heap.size _ E more ma mcap _ rfl rfl rfl (HM1.out.below HB2.out) HR2.out (by omega) HB2.out.size ?_
             intro v3 w3 hR3 hb3'
             have HR3 := hid hR3
             have HB3 := hid (HB2.out.trans hb3')
             clear hR3 hb3')
          | (at_builtin; refine appS (w0 := w1) rfl (.tmp 28) (.tmp 29) rfl w1.heap.size _ [] E ⟨bg, boff, none⟩ bcap (l.length + 1) HEL.out rfl rfl HS1.out (SRow.nil _ _) (by simp; omega) (Nat.le_refl _) ?_
             intro v2 w2 hR2 hb2'
             have HR2 : Hid (SRow w1.heap.size w2 v2 E) := hR2
             have HB2 := hid hb2'
             clear hR2 hb2')
          | (go_at_call 17; refine (HD.out _ _ HR3.out.lie).mono ?_; rintro e w4 ⟨⟨v4, rfl, hL4⟩, hb4⟩; have HL4 := hid hL4; have HB4 := hid (HB3.out.trans (hb4.mono HB3.out.size)); clear hL4 hb4)
          | (go_at_call 13; refine (HCH.out _ _ _ HL4.out (HL1.out.below HB4.out)).mono ?_; rintro e w5 ⟨rfl, hb5⟩; have HB5 := hid (HB4.out.next hb5); clear hb5)
          | (go_at_call 14; refine (HS.out _).mono ?_; rintro e w8 ⟨rfl, hb8⟩))
        go_ret
        exact ⟨rfl, (HW1.out.next HB5.out).next hb8⟩
  · have HE := hid (encode_arg seq vl hseq w)
    clear hl hm hseq
    go_enter Try.func5, Try.ntmps5
    go_wp2_with (first
      | (go_at_call 15; refine (HE.out).mono ?_; rintro e w1 ⟨rfl, hw⟩; have hw := hw.symm; subst hw)
      | (go_at_call 14; refine (HS.out _).mono ?_; rintro e w8 ⟨rfl, hb8⟩))
    go_ret
    exact ⟨rfl, hb8⟩
end Go.Proofs.Ytaahdfogpehkfaa
