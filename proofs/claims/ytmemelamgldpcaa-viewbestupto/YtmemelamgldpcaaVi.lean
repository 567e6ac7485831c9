import Derived.Test.YtmemelamgldpcaaVm
import Derived.Test.YtmemelamgldpcaaVr
namespace Go.Proofs.Ytmemelamgldpcaa
open Go.RowKit

set_option maxRecDepth 100000 in
theorem rbetter_any (x y : Off) (w : World) : Calls Try.prog 31 #[x.v, y.v] w fun e w' => e = .returned (.bool (btr x y)) ∧ Below w.heap.size w w' := by
  obtain ⟨x1, x2, x3⟩ := x
  obtain ⟨y1, y2, y3⟩ := y
  simp only [Off.v, btr]
  by_cases h1 : y2 < x2
  · rw [decide_eq_true h1, Bool.true_or]
    go_enter Try.func31, Try.ntmps31
    go_wp2
    go_ret
    exact ⟨rfl, ((Below.refl _ _).alloc (by go_size) _).alloc (by go_size) _⟩
  · rw [decide_eq_false h1, Bool.false_or]
    have h1' : decide (y2 < x2) = false := decide_eq_false h1
    rcases h2 : x2 == y2 with _ | _
    · rw [Bool.false_and]
      clear h1
      go_enter Try.func31, Try.ntmps31
      go_wp2
      go_ret
      exact ⟨rfl, ((Below.refl _ _).alloc (by go_size) _).alloc (by go_size) _⟩
    · rw [Bool.true_and]
      clear h1
      obtain ⟨t, ht⟩ : ∃ t, t = decide (y3 < x3) := ⟨_, rfl⟩
      have ht' := ht.symm
      rw [ht']
      clear ht
      go_enter Try.func31, Try.ntmps31
      go_wp2
      all_goals
        go_ret
        exact ⟨rfl, ((Below.refl _ _).alloc (by go_size) _).alloc (by go_size) _⟩
/-- none of the first j is better than x -/
def okb (l : List Off) (x : Off) (j : Nat) : Bool := (l.take j).all fun y => !btr y x
theorem okb_succ {l : List Off} {x : Off} {j : Nat} (hj : j < l.length) : okb l x (j + 1) = (okb l x j && !btr l[j] x) := by
  unfold okb; rw [List.take_succ_eq_append_getElem hj, List.all_append]; simp
theorem getD_off {l : List Off} {i : Nat} (h : i < l.length) : l.getD i default = l[i] := by rw [List.getD_eq_getElem?_getD, List.getElem?_eq_getElem h]; rfl
theorem okb_best {l : List Off} (hl : 0 < l.length) : okb l (l[bst l l.length]'(bst_le l _ hl)) l.length = true := by
  unfold okb
  rw [List.take_length, List.all_eq_true]
  intro y hy
  obtain ⟨j, hj, rfl⟩ := List.getElem_of_mem hy
  have := (bst_best l l.length hl).1 j hj
  rw [getD_off hj, getD_off (bst_le l _ hl)] at this
  simpa using this
theorem okb_not {l : List Off} {k : Nat} (hk : k < l.length) (hb : k < bst l l.length) : okb l l[k] l.length = false := by
  unfold okb
  have hl : 0 < l.length := by omega
  rw [List.take_length, List.all_eq_false]
  refine ⟨l[bst l l.length]'(bst_le l _ hl), List.getElem_mem _, ?_⟩
  have := (bst_best l l.length hl).2 k hb
  rw [getD_off hk, getD_off (bst_le l _ hl)] at this
  simp [this]
set_option maxRecDepth 100000 in
set_option maxHeartbeats 2000000 in
theorem rbest_yes {v : Value} {l : List Off} {w : World} (h : OLie w v l) (hl : 0 < l.length) : Calls Try.prog 18 #[v] w fun e w' => e = .returned (.tuple #[.int .i64 (bst l l.length : Nat), .int .i64 0]) ∧ Below w.heap.size w w' := by
  obtain ⟨b, off, cap, rfl, hm, hb, hc⟩ := h.some hl
  have HC := hid hc
  obtain ⟨R, hR⟩ : ∃ R, R = bst l l.length := ⟨_, rfl⟩
  have hRn : R < l.length := by rw [hR]; exact bst_le l _ hl
  rw [← hR]
  have HY : Hid (∀ hk : R < l.length, okb l (l[R]'hk) l.length = true) := hid (fun hk => by have := okb_best hl; simp only [← hR] at this; exact this)
  have HZ : Hid (∀ k (hk : k < l.length), k < R → okb l l[k] l.length = false) := hid (fun k hk hb => okb_not hk (by rw [← hR]; exact hb))
  obtain ⟨n, hn⟩ : ∃ n, n = l.length := ⟨_, rfl⟩
  rw [← hn] at hl hm hRn ⊢
  replace hn := hid hn
  clear h hc hR
  unfold maxLen at hm
  go_enter Try.func18, Try.ntmps18
  go_wp2
  go_loopw [11] (fun i wr => ∃ k : Nat, k ≤ R ∧ i = .int .i64 k ∧ Hid (Below w.heap.size w wr)) (fun i _ => n - (intOf i).toNat)
  case atStart => exact ⟨0, Nat.zero_le _, rfl, hid (Below.refl _ _)⟩
  case round =>
    obtain ⟨k, hkR, rfl, HB⟩ := hrel
    have hlt : k < n := by omega
    have hk' : k < l.length := by rw [← hn.out]; exact hlt
    obtain ⟨x, hx⟩ : ∃ x, x = l[k]'hk' := ⟨_, rfl⟩
    have hs := HB.out.size
    obtain ⟨a0, a1, a2⟩ := HC.out k hk'
    rw [← hx] at a0 a1 a2
    rw [← HB.out.cell (p := ⟨b, off + k * 3, none⟩) hb] at a0
    rw [← HB.out.cell (p := ⟨b, off + k * 3 + 1, none⟩) hb] at a1
    rw [← HB.out.cell (p := ⟨b, off + k * 3 + 2, none⟩) hb] at a2
    have HO : Hid ((k < R → okb l x n = false) ∧ (k = R → okb l x n = true)) := hid (by
      rw [hn.out, hx]
      refine ⟨fun h => HZ.out k hk' h, fun h => ?_⟩
      subst h
      exact HY.out hk')
    have hbr : b < wr.heap.size := Nat.lt_of_lt_of_le hb hs
    clear hx hk'
    obtain ⟨x1, x2, x3⟩ := x
    simp only at a0 a1 a2
    have hb0 : okb l ⟨x1, x2, x3⟩ 0 = true := rfl
    replace hb0 := hid hb0
    go_upto_region 4 with fail
    obtain ⟨w1, hw1⟩ : ∃ w1, w1 = wr.alloc (.cells #[.int .i64 x1, .int .i64 x2, .int .i64 x3] 39) := ⟨_, rfl⟩
    have HB1 : Hid (Below w.heap.size w w1) := hid (by rw [hw1]; exact HB.out.alloc hs _)
    have q0 : w1.cell? ⟨wr.heap.size, 0, none⟩ = some (.int .i64 x1) := by rw [hw1, World.cell?_alloc_at _ _ _ _ rfl]; rfl
    have q1 : w1.cell? ⟨wr.heap.size, 1, none⟩ = some (.int .i64 x2) := by rw [hw1, World.cell?_alloc_at _ _ _ _ rfl]; rfl
    have q2 : w1.cell? ⟨wr.heap.size, 2, none⟩ = some (.int .i64 x3) := by rw [hw1, World.cell?_alloc_at _ _ _ _ rfl]; rfl
    have bl : Below wr.heap.size wr w1 := by rw [hw1]; exact (Below.refl _ _).alloc (Nat.le_refl _) _
    have hsz1 : w1.heap.size = wr.heap.size + 1 := by rw [hw1]; simp
    rw [← hw1]
    obtain ⟨g, hg⟩ : ∃ g, g = wr.heap.size := ⟨_, rfl⟩
    rw [← hg] at q0 q1 q2 ⊢
    have hg1 : g < w1.heap.size := by omega
    have hbw : b < w1.heap.size := by omega
    have Hq := hid (And.intro q0 (And.intro q1 q2))
    clear hw1 bl a0 a1 a2 hsz1 hg q0 q1 q2 hbr
    go_wp2
    go_loopw [18, 6] (fun i o wr => ∃ j : Nat, j ≤ n ∧ i = .int .i64 j ∧ o = .bool (okb l ⟨x1, x2, x3⟩ j) ∧ Hid (Below w1.heap.size w1 wr)) (fun i _ _ => n - (intOf i).toNat)
    case atStart => exact ⟨0, Nat.zero_le _, rfl, rfl, hid (Below.refl _ _)⟩
    case round =>
      obtain ⟨j, hj, rfl, rfl, HB2⟩ := hrel
      rename World => wr2
      by_cases hlt2 : j < n
      · have hj' : j < l.length := by rw [← hn.out]; exact hlt2
        obtain ⟨y, hy⟩ : ∃ y, y = l[j]'hj' := ⟨_, rfl⟩
        obtain ⟨b0, b1, b2⟩ := HC.out j hj'
        rw [← hy] at b0 b1 b2
        have HBw : Below w.heap.size w wr2 := HB1.out.trans (HB2.out.mono HB1.out.size)
        rw [← HBw.cell (p := ⟨b, off + j * 3, none⟩) hb] at b0
        rw [← HBw.cell (p := ⟨b, off + j * 3 + 1, none⟩) hb] at b1
        rw [← HBw.cell (p := ⟨b, off + j * 3 + 2, none⟩) hb] at b2
        have HN : Hid (okb l ⟨x1, x2, x3⟩ (j + 1) = (okb l ⟨x1, x2, x3⟩ j && !btr y ⟨x1, x2, x3⟩)) := hid (by rw [hy]; exact okb_succ hj')
        obtain ⟨O, hO⟩ : ∃ O, O = okb l ⟨x1, x2, x3⟩ j := ⟨_, rfl⟩
        obtain ⟨T, hT⟩ : ∃ T, T = btr y ⟨x1, x2, x3⟩ := ⟨_, rfl⟩
        have HC1 := hid (fun W => rbetter_any y ⟨x1, x2, x3⟩ W)
        rw [← hO, ← hT] at HN
        rw [← hT] at HC1
        rw [← hO]
        replace hO := hid hO
        clear hT hy hj' HBw
        obtain ⟨y1, y2, y3⟩ := y
        simp only [Off.v] at HC1 b0 b1 b2
        have q0 := (HB2.out.cell (p := ⟨g, 0, none⟩) hg1).trans Hq.out.1
        have q1 := (HB2.out.cell (p := ⟨g, 1, none⟩) hg1).trans Hq.out.2.1
        have q2 := (HB2.out.cell (p := ⟨g, 2, none⟩) hg1).trans Hq.out.2.2
        have hs2 := HB2.out.size
        have hgr : g < wr2.heap.size := by omega
        have hbr : b < wr2.heap.size := by omega
        rcases T with _ | _
        · go_wp2_with (first | (go_at_call 31; refine (HC1.out _).mono ?_; rintro e w2 ⟨rfl, hb2⟩; rw [World.size_alloc] at hb2))
          go_roundw
          case rel => exact ⟨j + 1, hlt2, by simp, by rw [HN.out]; simp, hid (HB2.out.trans ((((Below.refl _ _).alloc hs2 _)).trans (hb2.mono (by omega))))⟩
          case measure => simp [intOf]; omega
        · go_wp2_with (first | (go_at_call 31; refine (HC1.out _).mono ?_; rintro e w2 ⟨rfl, hb2⟩; rw [World.size_alloc] at hb2))
          go_roundw
          case rel => exact ⟨j + 1, hlt2, by simp, by rw [HN.out]; simp, hid (HB2.out.trans ((((Below.refl _ _).alloc hs2 _)).trans (hb2.mono (by omega))))⟩
          case measure => simp [intOf]; omega
      · have hjn : j = n := by omega
        have HB3 : Hid (Below w.heap.size w wr2) := hid (HB1.out.trans (HB2.out.mono HB1.out.size))
        by_cases hkk : k < R
        · have ho : okb l ⟨x1, x2, x3⟩ j = false := by rw [hjn]; exact HO.out.1 hkk
          rw [ho]
          replace hjn := hid hjn
          clear ho
          go_wp2
          go_roundw
          case rel => exact ⟨k + 1, by omega, by simp, HB3⟩
          case measure => simp [intOf]; omega
        · have hke : k = R := by omega
          have ho : okb l ⟨x1, x2, x3⟩ j = true := by rw [hjn]; exact HO.out.2 hke
          rw [ho]
          replace hjn := hid hjn
          clear ho hkk
          subst hke
          go_wp2
          go_ret2
          exact ⟨rfl, HB3.out⟩
set_option maxRecDepth 100000 in
theorem rbest_any {v : Value} {l : List Off} {w : World} (h : OLie w v l) : Calls Try.prog 18 #[v] w fun e w' => e = .returned (.tuple #[.int .i64 (besR l), .int .i64 (besE l)]) ∧ Below w.heap.size w w' := by
  by_cases hl : l = []
  · have e1 : besR l = 0 := if_pos hl
    have e2 : besE l = 6 := if_pos hl
    rw [e1, e2]
    subst hl
    obtain ⟨ao, cap, rfl, _, _, _⟩ := h
    clear e1 e2
    go_enter Try.func18, Try.ntmps18
    go_wp2
    go_loopw [11] (fun i wr => i = .int .i64 0 ∧ Hid (wr = w)) (fun _ _ => 0)
    case atStart => exact ⟨rfl, hid rfl⟩
    case round =>
      obtain ⟨rfl, HW⟩ := hrel
      go_wp2
      go_ret2
      exact ⟨rfl, by rw [HW.out]; exact Below.refl _ _⟩
  · have e1 : besR l = (bst l l.length : Nat) := if_neg hl
    have e2 : besE l = 0 := if_neg hl
    rw [e1, e2]
    exact rbest_yes h (List.length_pos_iff.2 hl)
end Go.Proofs.Ytmemelamgldpcaa
