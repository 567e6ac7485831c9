import Derived.Test.YtcaedajbkdploaaGf
namespace Go.Proofs.Ytcaedajbkdploaa
open Go.RowKit Go.Maps

theorem bgs_of {l m : List Ent} (h1 : m.length ≤ l.length) (h2 : l.take m.length = m) : bgs l m = true := by unfold bgs; simp [h1, h2]
theorem bgs_no1 {l m : List Ent} {j : Nat} (hj : j < m.length) (h : ¬ j < l.length) : bgs l m = false := by
  unfold bgs; rw [decide_eq_false (by omega)]; rfl
theorem bgs_no2 {l m : List Ent} {j : Nat} (hj : j < m.length) (hl : j < l.length) (h : ¬ l[j] = m[j]) : bgs l m = false := by
  unfold bgs
  rw [Bool.and_eq_false_iff]
  right
  refine decide_eq_false fun e => h ?_
  have : (l.take m.length)[j]? = m[j]? := by rw [e]
  rw [List.getElem?_take_of_lt hj, List.getElem?_eq_getElem hl, List.getElem?_eq_getElem hj] at this
  exact Option.some.inj this
set_option maxRecDepth 100000 in
set_option maxHeartbeats 1000000 in
theorem rbegins_any {w : World} {u v : Value} {l m : List Ent} (hu : ELie w u l) (hv : ELie w v m) : Calls Try.prog 29 #[u, v] w fun e w' => e = .returned (.bool (bgs l m)) ∧ Below w.heap.size w w' := by
  obtain ⟨ao, ca, rfl, hla, hma, hca⟩ := hu
  obtain ⟨bo, cb, rfl, hlb, hmb, hcb⟩ := hv
  unfold maxLen at hma hmb
  have HA := hid hca
  have HB := hid hcb
  clear hca hcb
  obtain ⟨b, hb⟩ : ∃ b, b = bgs l m := ⟨_, rfl⟩
  rw [← hb]
  have HQ := hid hb
  clear hb
  go_enter Try.func29, Try.ntmps29
  go_wp2
  go_loopw [9] (fun i wr => ∃ j : Nat, i = .int .i64 j ∧ j ≤ m.length ∧ Hid (j ≤ l.length ∧ l.take j = m.take j) ∧ Hid (Below w.heap.size w wr)) (fun i _ => m.length - (intOf i).toNat)
  case atStart => exact ⟨0, rfl, Nat.zero_le _, hid ⟨Nat.zero_le _, rfl⟩, hid (Below.refl _ _)⟩
  case round =>
    obtain ⟨j, rfl, hj, HT, HW⟩ := hrel
    rename World => wr
    by_cases hlt : j < m.length
    · obtain ⟨gb, ob, eb, hgb, hbt⟩ := HB.out j hlt
      subst eb
      have hbt' := hbt.same (HW.out.block gb hgb)
      have hgr : gb < wr.heap.size := Nat.lt_of_lt_of_le hgb HW.out.size
      clear hbt
      by_cases hll : j < l.length
      · obtain ⟨ga, oa, ea, hga, hat⟩ := HA.out j hll
        subst ea
        have hat' := hat.same (HW.out.block ga hga)
        have hgs : ga < wr.heap.size := Nat.lt_of_lt_of_le hga HW.out.size
        clear hat
        have hq := eqE (l[j]'hll) (m[j]'hlt)
        have HD : Hid ((l[j]'hll = m[j]'hlt) → l.take (j + 1) = m.take (j + 1)) := hid fun e => by
          rw [List.take_succ_eq_append_getElem hll, List.take_succ_eq_append_getElem hlt, HT.out.2, e]
        have HE : Hid (¬ (l[j]'hll = m[j]'hlt) → bgs l m = false) := hid fun e => bgs_no2 hlt hll e
        obtain ⟨x, hx⟩ : ∃ x, x = l[j]'hll := ⟨_, rfl⟩
        obtain ⟨y, hy⟩ : ∃ y, y = m[j]'hlt := ⟨_, rfl⟩
        rw [← hx] at hat' hq HD HE
        rw [← hy] at hbt' hq HD HE
        clear hx hy
        obtain ⟨c0, c1, c2, c3, c4, c5, c6, c7, c8⟩ := hat'
        obtain ⟨d0, d1, d2, d3, d4, d5, d6, d7, d8⟩ := hbt'
        have hge : decide ((l.length : Int) ≤ (j : Int)) = false := by simp; omega
        by_cases hxy : x = y
        · rw [decide_eq_true hxy] at hq
          have HD2 := hid (HD.out hxy)
          clear hxy HD HE
          obtain ⟨V, C, R, K, A, N, p, t, d⟩ := x
          obtain ⟨V1, C1, R1, K1, A1, N1, p1, t1, d'⟩ := y
          simp only [Ent.v] at hq c0 c1 c2 c3 c4 c5 c6 c7 c8 d0 d1 d2 d3 d4 d5 d6 d7 d8
          go_wp2
          go_quiet (fail)
          go_wp2
          go_roundw
          case rel => exact ⟨j + 1, by go_num, by omega, hid ⟨by omega, HD2.out⟩, hid ((HW.out.next (below_alloc wr _)).next (drewN_below _ _))⟩
          case measure => simp [intOf]; omega
        · rw [decide_eq_false hxy] at hq
          have HD2 := hid (HE.out hxy)
          clear hxy HD HE
          obtain ⟨V, C, R, K, A, N, p, t, d⟩ := x
          obtain ⟨V1, C1, R1, K1, A1, N1, p1, t1, d'⟩ := y
          simp only [Ent.v] at hq c0 c1 c2 c3 c4 c5 c6 c7 c8 d0 d1 d2 d3 d4 d5 d6 d7 d8
          go_wp2
          go_quiet (fail)
          go_wp2
          go_ret
          exact ⟨by rw [show b = false from HQ.out.trans HD2.out]; rfl, (HW.out.next (below_alloc wr _)).next (drewN_below _ _)⟩
      · have HD2 := hid (bgs_no1 (l := l) hlt hll)
        obtain ⟨y, hy⟩ : ∃ y, y = m[j]'hlt := ⟨_, rfl⟩
        rw [← hy] at hbt'
        clear hy
        obtain ⟨d0, d1, d2, d3, d4, d5, d6, d7, d8⟩ := hbt'
        have hge : decide ((l.length : Int) ≤ (j : Int)) = true := by simp; omega
        obtain ⟨V1, C1, R1, K1, A1, N1, p1, t1, d'⟩ := y
        simp only [] at d0 d1 d2 d3 d4 d5 d6 d7 d8
        go_wp2
        go_quiet (fail)
        go_wp2
        go_ret
        exact ⟨by rw [show b = false from HQ.out.trans HD2.out]; rfl, (HW.out.next (below_alloc wr _)).next (drewN_below _ _)⟩
    · have hjn : j = m.length := by omega
      have HD2 : Hid (bgs l m = true) := hid (by
        obtain ⟨e1, e2⟩ := HT.out
        rw [hjn] at e1 e2
        rw [List.take_of_length_le (Nat.le_refl m.length)] at e2
        exact bgs_of e1 e2)
      clear hjn
      go_wp2
      go_ret
      exact ⟨by rw [show b = true from HQ.out.trans HD2.out]; rfl, HW.out⟩
end Go.Proofs.Ytcaedajbkdploaa
