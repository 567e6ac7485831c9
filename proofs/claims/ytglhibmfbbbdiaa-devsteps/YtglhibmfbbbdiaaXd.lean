import Derived.Test.YtglhibmfbbbdiaaXw
namespace Go.Proofs.Ytglhibmfbbbdiaa
open Go.RowKit Go.Maps

theorem row62_at {w : World} {base : Nat} {v : Value} {Q : List (Nat × ByteArray)} (h : w.ownsRow base 62 2 v Q.length (wc Q)) (j : Nat) (hj : j < Q.length) :
    ∃ b cap, v = .slice (some ⟨b, 0, none⟩) Q.length cap ∧ w.cell? ⟨b, j * 2, none⟩ = some (.int .i64 (Q[j].1 : Int)) ∧ w.cell? ⟨b, j * 2 + 1, none⟩ = some (.string Q[j].2) := by
  have hwc : ∀ (Q : List (Nat × ByteArray)) (j : Nat) (hj : j < Q.length), (wc Q)[j * 2]? = some (.int .i64 (Q[j].1 : Int)) ∧ (wc Q)[j * 2 + 1]? = some (.string Q[j].2) := by
    intro Q
    induction Q with
    | nil => intro j hj; simp at hj
    | cons q Q ih =>
      intro j hj
      have e : wc (q :: Q) = .int .i64 (q.1 : Int) :: .string q.2 :: wc Q := rfl
      rw [e]
      cases j with
      | zero => exact ⟨rfl, rfl⟩
      | succ j =>
        have := ih j (by simpa using hj)
        rw [show (j + 1) * 2 = j * 2 + 1 + 1 by omega, show j * 2 + 1 + 1 + 1 = (j * 2 + 1) + 1 + 1 by omega]
        simpa using this
  obtain ⟨h1, h2⟩ := hwc Q j hj
  obtain ⟨_, e | ⟨b, cap, cur, rfl, e3, e4, e5, e6, e7, e8⟩⟩ := h
  · omega
  · refine ⟨b, cap, rfl, ?_, ?_⟩
    · rw [← e8, List.getElem?_take_of_lt (by omega)] at h1
      simpa [World.cell?, e4] using h1
    · rw [← e8, List.getElem?_take_of_lt (by omega)] at h2
      simpa [World.cell?, e4] using h2
/-- a block as the reference sees it, behind some writes -/
def seesX (k : Nat) (s : ByteArray) (Q : List (Nat × ByteArray)) : ByteArray := Q.foldl (fun s q => if q.1 ≤ k ∧ k < q.1 + cnt q.2 then piece q.2 (k - q.1) else s) s
theorem seesX_take (k : Nat) (s : ByteArray) (Q : List (Nat × ByteArray)) (j : Nat) (hj : j < Q.length) : seesX k s (Q.take (j + 1)) = if Q[j].1 ≤ k ∧ k < Q[j].1 + cnt Q[j].2 then piece Q[j].2 (k - Q[j].1) else seesX k s (Q.take j) := by
  unfold seesX
  rw [List.take_add_one, List.getElem?_eq_getElem hj, List.foldl_append]
  rfl
theorem seen_sees (k : Nat) : ∀ (Q : List (Nat × ByteArray)) (f : Nat → Option ByteArray), (seen f Q k).getD Z = seesX k ((f k).getD Z) Q
  | [], f => rfl
  | q :: Q, f => by
    have := seen_sees k Q (over f q.1 q.2 (cnt q.2))
    have e : seen f (q :: Q) = seen (over f q.1 q.2 (cnt q.2)) Q := rfl
    rw [e, this]
    unfold seesX
    rw [List.foldl_cons]
    congr 1
    unfold over
    by_cases h : q.1 ≤ k ∧ k < q.1 + cnt q.2
    · rw [if_pos h, if_pos h]; rfl
    · rw [if_neg h, if_neg h]
set_option maxHeartbeats 1000000 in
set_option maxRecDepth 100000 in
theorem xread_any {base g : Nat} {L : List ByteArray} {Q : List (Nat × ByteArray)} {fp : List Nat} (k : Nat) (hk : k < L.length) (hQ : Q.length ≤ 100000) (w : World) (h : XIs base g w L Q fp) : Calls Try.prog 28 #[.pointer (some ⟨g, 0, none⟩), .int .i64 k] w fun e w' => e = .returned (.tuple #[.string (seesX k (xb L[k]) Q), .int .i64 0]) ∧ Below w.heap.size w w' := by
  have HL := hid (xlasts_any k hk w h)
  have hn := h.n2
  obtain ⟨⟨bl, qv, e1, e2, e3, m1, m2, m3⟩, _, _, hok, hlo⟩ := h
  obtain ⟨s0, hs0⟩ : ∃ s, s = xb L[k] := ⟨_, rfl⟩
  rw [← hs0] at HL ⊢
  clear hs0
  have HE := hid e1
  have HR := hid e3
  have HOK := hid hok
  have hlen : ∃ ao cap, qv = .slice ao Q.length cap := by
    obtain ⟨_, e | ⟨b, cap, cur, e, _⟩⟩ := e3
    · exact ⟨none, 0, by rw [e.2]; exact e.1⟩
    · exact ⟨_, cap, e⟩
  obtain ⟨ao, cap, rfl⟩ := hlen
  clear e1 e2 e3 m1 m2 m3 hok hlo
  go_enter Try.func28, Try.ntmps28
  go_wp2_with (first | (go_at_call 29; refine HL.out.mono ?_; rintro e w1 ⟨rfl, hb1⟩; have hg1 := (hb1.block g (lt_of_block HE.out)).trans HE.out; obtain ⟨c0, c1⟩ := two_cells hg1; clear hg1))
  clear c0 c1
  go_loopw [6, 22] (fun s i wr => ∃ j : Nat, s = .string (seesX k s0 (Q.take j)) ∧ i = .int .i64 j ∧ j ≤ Q.length ∧ Below w.heap.size w wr) (fun _ i _ => Q.length - (intOf i).toNat)
  case atStart => exact ⟨0, rfl, rfl, Nat.zero_le _, hb1⟩
  case round =>
    obtain ⟨j, rfl, rfl, hj, hb⟩ := hrel
    by_cases hlt : j < Q.length
    · have ht := seesX_take k s0 Q j hlt
      obtain ⟨b, cap', hv, r0, r1⟩ := row62_at HR.out j hlt
      obtain ⟨rfl, rfl⟩ : ao = some ⟨b, 0, none⟩ ∧ cap = cap' := by cases hv; exact ⟨rfl, rfl⟩
      have hbl := (HR.out.lt b rfl).2
      have q0 := (World.cell?_of_block (hb.block b hbl)).trans r0
      have q1 := (World.cell?_of_block (hb.block b hbl)).trans r1
      obtain ⟨hc1, hc2⟩ := HOK.out Q[j] (List.getElem_mem hlt)
      obtain ⟨A, hA⟩ : ∃ A, A = Q[j].1 := ⟨_, rfl⟩
      obtain ⟨d, hd⟩ : ∃ d, d = Q[j].2 := ⟨_, rfl⟩
      rw [← hA] at q0 ht hc1
      rw [← hd] at q1 ht hc1 hc2
      have hq : ((d.size : Int).tdiv 128) = cnt d := by unfold cnt; rw [Int.tdiv_eq_ediv_of_nonneg (by omega)]; omega
      clear hA hd r0 r1 hv
      have HT := hid ht
      clear ht
      by_cases hin : A ≤ k ∧ k < A + cnt d
      · have hlen2 : (k - A + 1) * 128 ≤ d.size := by unfold cnt at hin; omega
        have hT : seesX k s0 (Q.take (j + 1)) = d.extract ((k - A) * 128) ((k - A + 1) * 128) := by rw [HT.out, if_pos hin]; rfl
        have HT2 := hid hT
        clear hT HT
        obtain ⟨c, hc⟩ : ∃ c, c = cnt d := ⟨_, rfl⟩
        rw [← hc] at hq hin hc1
        clear hc
        go_wp2
        go_roundw
        case rel => exact ⟨j + 1, by rw [HT2.out], by go_num, by omega, hb.next (below_alloc _ _)⟩
        case measure => simp [intOf]; omega
      · have hT : seesX k s0 (Q.take (j + 1)) = seesX k s0 (Q.take j) := by rw [HT.out, if_neg hin]
        have HT2 := hid hT
        clear hT HT
        obtain ⟨c, hc⟩ : ∃ c, c = cnt d := ⟨_, rfl⟩
        rw [← hc] at hq hin hc1
        clear hc
        obtain ⟨s1, hs1⟩ : ∃ s1, s1 = seesX k s0 (Q.take j) := ⟨_, rfl⟩
        rw [← hs1] at HT2 ⊢
        clear hs1
        by_cases hlo : k < A
        · go_wp2
          go_roundw
          case rel => exact ⟨j + 1, by rw [HT2.out], by go_num, by omega, hb.next (below_alloc _ _)⟩
          case measure => simp [intOf]; omega
        · have hhi : A + c ≤ k := by omega
          go_wp2
          go_roundw
          case rel => exact ⟨j + 1, by rw [HT2.out], by go_num, by omega, hb.next (below_alloc _ _)⟩
          case measure => simp [intOf]; omega
    · have hjm : j = Q.length := by omega
      subst hjm
      go_wp2
      go_ret2
      rw [List.take_length]
      exact ⟨rfl, hb⟩
set_option maxHeartbeats 1000000 in
set_option maxRecDepth 100000 in
theorem xread_none {base g : Nat} {L : List ByteArray} {Q : List (Nat × ByteArray)} {fp : List Nat} (a : Int) (ha : ¬ (0 ≤ a ∧ a < L.length)) (hQ : Q.length ≤ 100000) (w : World) (h : XIs base g w L Q fp) : Calls Try.prog 28 #[.pointer (some ⟨g, 0, none⟩), .int .i64 a] w fun e w' => e = .returned (.tuple #[.string ByteArray.empty, .int .i64 6]) ∧ Below w.heap.size w w' := by
  have HL := hid (xlasts_none a ha w h)
  obtain ⟨⟨bl, qv, e1, e2, e3, m1, m2, m3⟩, _, _, hok, hlo⟩ := h
  have HE := hid e1
  have HR := hid e3
  have hlen : ∃ ao cap, qv = .slice ao Q.length cap := by
    obtain ⟨_, e | ⟨b, cap, cur, e, _⟩⟩ := e3
    · exact ⟨none, 0, by rw [e.2]; exact e.1⟩
    · exact ⟨_, cap, e⟩
  obtain ⟨ao, cap, rfl⟩ := hlen
  obtain ⟨c0, c1⟩ := two_cells e1
  clear e1 e2 e3 m1 m2 m3 hok hlo
  obtain ⟨s0, hs0⟩ : ∃ s, s = ByteArray.empty := ⟨_, rfl⟩
  rw [← hs0] at HL ⊢
  clear hs0 ha
  go_enter Try.func28, Try.ntmps28
  go_wp2_with (first | (go_at_call 29; refine HL.out.mono ?_; rintro e w1 ⟨rfl, hw1⟩; subst hw1))
  clear c0 c1
  go_loopw [6, 22] (fun s i wr => ∃ j : Nat, s = .string s0 ∧ i = .int .i64 j ∧ j ≤ Q.length ∧ Below w1.heap.size w1 wr) (fun _ i _ => Q.length - (intOf i).toNat)
  case atStart => exact ⟨0, rfl, rfl, Nat.zero_le _, Below.refl _ _⟩
  case round =>
    obtain ⟨j, rfl, rfl, hj, hb⟩ := hrel
    by_cases hlt : j < Q.length
    · obtain ⟨b, cap', hv, r0, r1⟩ := row62_at HR.out j hlt
      obtain ⟨rfl, rfl⟩ : ao = some ⟨b, 0, none⟩ ∧ cap = cap' := by cases hv; exact ⟨rfl, rfl⟩
      have hbl := (HR.out.lt b rfl).2
      have q0 := (World.cell?_of_block (hb.block b hbl)).trans r0
      have q1 := (World.cell?_of_block (hb.block b hbl)).trans r1
      obtain ⟨A, hA⟩ : ∃ A, A = Q[j].1 := ⟨_, rfl⟩
      obtain ⟨d, hd⟩ : ∃ d, d = Q[j].2 := ⟨_, rfl⟩
      rw [← hA] at q0
      rw [← hd] at q1
      clear hA hd r0 r1 hv
      go_wp2
      go_roundw
      case rel => exact ⟨j + 1, rfl, by go_num, by omega, hb.next (below_alloc _ _)⟩
      case measure => simp [intOf]; omega
    · have hjm : j = Q.length := by omega
      subst hjm
      go_wp2
      go_ret2
      exact ⟨rfl, hb⟩
end Go.Proofs.Ytglhibmfbbbdiaa
