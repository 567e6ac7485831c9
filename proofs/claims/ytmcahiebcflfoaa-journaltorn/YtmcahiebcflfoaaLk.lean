import Derived.Test.YtmcahiebcflfoaaLj
namespace Go.Proofs.Ytmcahiebcflfoaa
open Go.RowKit Go.Maps
set_option maxRecDepth 100000 in
theorem played_no (n : Int) (hn : ¬ (8 ≤ n ∧ n ≤ 256)) (v pv : Value) (w : World) : Calls Try.prog 29 #[.int .i64 n, v, pv] w fun e w' => e = .returned (.tuple #[.slice none 0 0, .pointer none, .slice none 0 0]) ∧ w' = w := by
  have HNew := hid (new_jno n w hn)
  clear hn
  go_enter Try.func29, Try.ntmps29
  go_wp2_with (first
    | (go_at_call 9; refine (HNew.out).mono ?_; rintro e w1 ⟨rfl, hw⟩; have hw := hw.symm; subst hw))
  refine bodyPost_ret (v := .tuple #[.slice none 0 0, .pointer none, .slice none 0 0]) (by simp [results, Try.results29, go_sem]) rfl ⟨rfl, rfl⟩
set_option maxRecDepth 100000 in
set_option maxHeartbeats 4000000 in
theorem whole_walk (n : Int) (v : Value) (l : List Stp) (W : World) (hl : TLie W v l) : Calls Try.prog 5 #[.int .i64 n, v] W fun e w' => e = .returned (.bool true) ∧ Below W.heap.size W w' := by
  have HSp := hid (fun w => speaks_any w)
  have HT := hid hl
  obtain ⟨ao, cap, rfl, hlc, hcm, _⟩ := hl
  unfold maxLen at hcm
  by_cases hl3 : 300 < l.length
  · go_enter Try.func5, Try.ntmps5
    go_wp2_with (first
      | (go_at_call 11; refine (HSp.out _).mono ?_; rintro e w2 ⟨rfl, hb2⟩))
    go_ret
    exact ⟨rfl, hb2⟩
  · by_cases hn : 8 ≤ n ∧ n ≤ 256
    · obtain ⟨p, rfl⟩ : ∃ p : Nat, n = (p : Int) + 1 := ⟨(n - 1).toNat, by omega⟩
      have hp : 7 ≤ p ∧ p ≤ 255 := by omega
      have HPl := hid (played_go p hp _ _ l [] (by omega) W HT.out (BLie.nil W))
      clear hn
      go_enter Try.func5, Try.ntmps5
      go_wp2_with (go_at_call 29; fail)
      refine (HPl.out).mono ?_
      rintro e w1 hPP
      obtain ⟨g, r, rb, T, F, S, Ls, A, hv, vs, ho, hcap, rfl, hP, hO, hR, hV, hB⟩ := hPP
      have HP := hid hP
      have HV := hid hV
      have HB := hid hB
      have hal := hP.al
      have o1 := hO.t
      have o2 := hO.f
      have o3 := hO.fm
      have o4 := hO.s
      have o5 := hO.len
      rw [List.length_map] at o3 o4 o5
      have o6 := hO.sum
      rw [sum_used] at o6
      have hTk : (Ls.take S).length = S := by rw [List.length_take]; omega
      have HD : Hid (decs F (A.drop T ++ A.take T) (Ls.take S)) := hid (decs_encs (fun L hL => hP.ri L (List.mem_of_mem_take hL)) o2 (by omega) hR.s)
      have HOp := hid (open_go (.slice (some ⟨rb, 0, none⟩) (p + 1) (p + 1)) (hdB T F (F + S)) A w1 (by have := hP.rg.lie (by simp [hal]; omega); rw [List.length_cons, hal] at this; exact this) (by
        intro b hb
        rcases List.mem_cons.1 hb with rfl | hb
        · rw [hdB_size]; decide
        · rw [hP.az b hb]; decide) (by omega) T F S (hdB_isHdr (by omega) (by omega) (by omega)) (by omega) o2 (by omega) (by
          have := sumI_len hO.pos
          rw [List.length_map, sum_used] at this
          omega))
      rw [hal] at HOp
      have HRg := hid hP.rg
      clear hP hO hR hV hB
      go_wp2_with (go_at_call 26; fail)
      refine (HOp.out).mono ?_
      rintro e w2 ⟨⟨hyes, _⟩, hb2⟩
      obtain ⟨g2, r2, tb, vs2, rfl, hOS⟩ := hyes _ hTk HD.out
      have hV2 := HV.out.below hb2
      have hR2 := HRg.out.same (hb2.block rb HRg.out.lt)
      have HB2 := hid (HB.out.next hb2)
      have HTr : Hid (VL w2 (.slice (some ⟨tb, 0, none⟩) S S) (Ls.take S)) := by
        have k := hOS.tr
        have k3 : (Ls.take S).length ≤ 300 := by rw [hTk]; omega
        have k4 : TR w2 tb (Ls.take S).length vs2 (Ls.take S) := by rw [hTk]; exact k
        have k5 := k4.vl k3
        rw [hTk] at k5
        exact hid k5
      have HJs := hid hOS.js
      have HV2 := hid hV2
      have HTS := hid (fun w h h' => told_same (.slice (some ⟨tb, 0, none⟩) S S) (.slice ho S hcap) (Ls.take S) w h h')
      have HHd := hid (fun w h => jheader g2 r2 p T F S ((Ls.take S).map szL) (by omega) (by omega) (by omega) w h)
      have c0 := hR2.cell 0 (by simp)
      rw [List.getElem_cons_zero] at c0
      have hl2 := hR2.lt
      obtain ⟨U, hU⟩ : ∃ U, U = hdB T F (F + S) := ⟨_, rfl⟩
      rw [← hU] at c0 HHd
      clear hU hyes hb2 hOS hV2 hR2 HOp HD
      go_wp2
      go_region_held3 (fun w' => w'.cell? ⟨rb, 0, none⟩ = some (.string U)) (first | exact c0 | exact d3 | exact d2 | exact d1 | go_keep) (first
        | (go_at_call 28; refine (HTS.out _ (by exact HTr.out.below ⟨rfl, rfl, rfl, Nat.le_refl _, fun _ _ => rfl⟩) (by exact HV2.out.below ⟨rfl, rfl, rfl, Nat.le_refl _, fun _ _ => rfl⟩)).mono ?_; rintro e w3 ⟨rfl, hb3⟩; have HB3 : Hid (Below w2.heap.size w2 w3) := hid ⟨hb3.os, hb3.tape, hb3.output, hb3.size, hb3.block⟩; have d1 := (HB3.out.cell (p := ⟨rb, 0, none⟩) hl2).trans c0; clear hb3)
        | (go_at_call 20; refine (HHd.out _ (by exact HJs.out.below HB3.out)).mono ?_; rintro e w4 ⟨rfl, hb4⟩; have HB4 : Hid (Below w2.heap.size w2 w4) := hid (HB3.out.next ⟨hb4.os, hb4.tape, hb4.output, hb4.size, hb4.block⟩); have d2 := (HB4.out.cell (p := ⟨rb, 0, none⟩) hl2).trans c0; clear hb4)
        | (go_at_call 11; refine (HSp.out _).mono ?_; rintro e w5 ⟨rfl, hb5⟩; have HB5 : Hid (Below w2.heap.size w2 w5) := hid (HB4.out.next ⟨hb5.os, hb5.tape, hb5.output, hb5.size, hb5.block⟩); have d3 := (HB5.out.cell (p := ⟨rb, 0, none⟩) hl2).trans c0; clear hb5))
      all_goals
        go_wp2
        go_ret
        have k := HB2.out.next HB5.out
        exact ⟨by simp, ⟨k.os, k.tape, k.output, k.size, k.block⟩⟩
    · have HPl := hid (fun w => played_no n hn (.slice ao l.length cap) (.slice none 0 0) w)
      by_cases hn8 : n < 8
      · clear hn
        go_enter Try.func5, Try.ntmps5
        go_wp2_with (first
          | (go_at_call 29; refine (HPl.out _).mono ?_; rintro e w1 ⟨rfl, hw⟩; have hw := hw.symm; subst hw)
          | (go_at_call 11; refine (HSp.out _).mono ?_; rintro e w2 ⟨rfl, hb2⟩))
        go_ret
        exact ⟨rfl, hb2⟩
      · have hn9 : 256 < n := by omega
        clear hn
        go_enter Try.func5, Try.ntmps5
        go_wp2_with (first
          | (go_at_call 29; refine (HPl.out _).mono ?_; rintro e w1 ⟨rfl, hw⟩; have hw := hw.symm; subst hw)
          | (go_at_call 11; refine (HSp.out _).mono ?_; rintro e w2 ⟨rfl, hb2⟩))
        go_ret
        exact ⟨rfl, hb2⟩
end Go.Proofs.Ytmcahiebcflfoaa
