import Derived.Test.YtmcahiebcflfoaaTk
import Derived.Test.YtmcahiebcflfoaaJo
import Derived.Lib.Join
namespace Go.Proofs.Ytmcahiebcflfoaa
open Go.RowKit Go.Maps

/-- a slice that reads as strings -/
def SLie (w : World) (v : Value) (l : List ByteArray) : Prop :=
  ∃ ao cap, v = .slice ao l.length cap ∧ l.length ≤ cap ∧ cap ≤ maxLen ∧ ∀ i (hi : i < l.length), ∃ gb off, ao = some ⟨gb, off, none⟩ ∧ gb < w.heap.size ∧ w.cell? ⟨gb, off + i, none⟩ = some (.string l[i])
theorem SLie.below {w w' : World} {v : Value} {l : List ByteArray} (h : SLie w v l) (k : Below w.heap.size w w') : SLie w' v l := by
  obtain ⟨ao, cap, e, h1, h2, h3⟩ := h
  refine ⟨ao, cap, e, h1, h2, fun i hi => ?_⟩
  obtain ⟨gb, off, e1, hg, c0⟩ := h3 i hi
  exact ⟨gb, off, e1, Nat.lt_of_lt_of_le hg k.size, (k.cell (p := ⟨gb, off + i, none⟩) hg).trans c0⟩
/-- a slice that reads as numbers -/
def ILie (w : World) (v : Value) (l : List Int) : Prop :=
  ∃ ao cap, v = .slice ao l.length cap ∧ l.length ≤ cap ∧ cap ≤ maxLen ∧ ∀ i (hi : i < l.length), ∃ gb off, ao = some ⟨gb, off, none⟩ ∧ gb < w.heap.size ∧ w.cell? ⟨gb, off + i, none⟩ = some (.int .i64 l[i])
theorem ILie.below {w w' : World} {v : Value} {l : List Int} (h : ILie w v l) (k : Below w.heap.size w w') : ILie w' v l := by
  obtain ⟨ao, cap, e, h1, h2, h3⟩ := h
  refine ⟨ao, cap, e, h1, h2, fun i hi => ?_⟩
  obtain ⟨gb, off, e1, hg, c0⟩ := h3 i hi
  exact ⟨gb, off, e1, Nat.lt_of_lt_of_le hg k.size, (k.cell (p := ⟨gb, off + i, none⟩) hg).trans c0⟩
/-- strings, one behind the other -/
def allD (l : List ByteArray) : List UInt8 := (l.map (·.data.toList)).flatten
theorem join_all (l : List ByteArray) : Lib.join (l.map (·.data.toList)) [] = allD l := by
  unfold allD
  cases l with
  | nil => rfl
  | cons x r => rw [List.map_cons, Lib.join_cons]; simp [Lib.joinTail, Function.comp_def]
theorem isSeq_any (n : Int) (w : World) : Calls Try.prog 54 #[.int .i64 n] w fun e w' => e = .returned (.bool (decide (1 ≤ n ∧ n ≤ 1099511627776))) ∧ w' = w := by
  by_cases h1 : 1 ≤ n
  · go_enter Try.func54, Try.ntmps54
    go_wp2
    go_ret
    exact ⟨by simp [h1], rfl⟩
  · go_enter Try.func54, Try.ntmps54
    go_wp2
    go_ret
    exact ⟨by have : ¬ (1 ≤ n) := by omega
              simp [this], rfl⟩
theorem dsum_any (v : Value) (l : List ByteArray) (w : World) (h : SLie w v l) (hb : (allD l).length ≤ 140737488355328) (hn : l.length ≤ 140737488355328) : Calls Try.prog 55 #[v] w fun e w' => e = .returned (.int .i64 (crc (allD l))) ∧ Below w.heap.size w w' := by
  have hJ : Calls Try.prog 74 #[v, .string ByteArray.empty] w fun e w' => e = .returned (.string (st (allD l))) ∧ Below w.heap.size w w' := by
    obtain ⟨ao, cap, rfl, hlc, hcm, hcell⟩ := h
    cases l with
    | nil => exact (Try.strings_Join_none ao cap ByteArray.empty w).mono fun e w' ⟨he, hw⟩ => ⟨he, hw ▸ Below.refl _ _⟩
    | cons x r =>
      obtain ⟨gb, off, rfl, hg, _⟩ := hcell 0 (by simp)
      have e0 : (ByteArray.empty).data.toList = [] := rfl
      have hc : ∀ (j : Nat) y, (x :: r)[j]? = some y → w.cell? ⟨gb, off + j, none⟩ = some (.string y) := by
        intro j y hy
        obtain ⟨hj, e⟩ := List.getElem?_eq_some_iff.1 hy
        obtain ⟨gb', off', e1, _, c⟩ := hcell j hj
        cases e1
        rw [← e]; exact c
      have := Try.strings_Join gb off cap (x :: r) ByteArray.empty w hc hg hn hlc (by rw [e0, join_all]; exact hb)
      rw [e0, join_all] at this
      exact this
  have HJ := hid hJ
  have HS := hid (fun w => sumOf (st (allD l)) (by rw [st_size]; unfold maxLen; omega) w)
  rw [st_list] at HS
  obtain ⟨s, hs⟩ : ∃ s, s = st (allD l) := ⟨_, rfl⟩
  obtain ⟨c, hc⟩ : ∃ c, c = crc (allD l) := ⟨_, rfl⟩
  rw [← hs] at HJ HS
  rw [← hc] at HS ⊢
  clear hs hc h hJ hb hn
  go_enter Try.func55, Try.ntmps55
  go_wp2_with (first
    | (go_at_call 74; refine (HJ.out).mono ?_; rintro e w1 ⟨rfl, hb1⟩; have HB1 := hid hb1; clear hb1)
    | (go_at_call 73; refine (HS.out _).mono ?_; rintro e w2 ⟨rfl, hw⟩; have hw := hw.symm; subst hw))
  go_ret
  exact ⟨rfl, HB1.out⟩
/-- each of a block's size? -/
def blocksB (l : List ByteArray) : Bool := l.all fun b => decide (b.size = 128)
theorem blocksB_cons (x : ByteArray) (l : List ByteArray) : blocksB (x :: l) = (decide (x.size = 128) && blocksB l) := rfl
set_option maxRecDepth 100000 in
set_option maxHeartbeats 2000000 in
theorem areBlocks_any (v : Value) (l : List ByteArray) (w : World) (h : SLie w v l) : Calls Try.prog 70 #[v] w fun e w' => e = .returned (.bool (blocksB l)) ∧ w' = w := by
  obtain ⟨ao, cap, rfl, hlc, hcm, hcell⟩ := h
  have HC := hid hcell
  clear hcell
  unfold maxLen at hcm
  obtain ⟨A, hA⟩ : ∃ A : Bool, A = blocksB l := ⟨_, rfl⟩
  rw [← hA]
  have HA := hid hA
  clear hA
  go_enter Try.func70, Try.ntmps70
  go_wp2
  go_loopw [7] (fun i wr => ∃ (q : Nat), i = .int .i64 q ∧ q ≤ l.length ∧ blocksB l = blocksB (l.drop q) ∧ wr = w) (fun i _ => l.length - (intOf i).toNat)
  case atStart => exact ⟨0, rfl, Nat.zero_le _, rfl, rfl⟩
  case round =>
    obtain ⟨q, rfl, hq, hr, hw⟩ := hrel
    subst hw
    have HRR := hid hr
    clear hr
    by_cases hqk : q < l.length
    · obtain ⟨gb, off, e, hgl, c0⟩ := HC.out q hqk
      subst e
      have HD := hid (drop_at l q hqk)
      obtain ⟨c, hc⟩ : ∃ c, c = l[q] := ⟨_, rfl⟩
      rw [← hc] at c0 HD
      clear hc
      have HN : Hid (blocksB l = (decide (c.size = 128) && blocksB (l.drop (q + 1)))) := by
        show _ = _
        rw [HRR.out, HD.out]; rfl
      by_cases hd : c.size = 128
      · go_wp2
        go_roundw
        case rel => exact ⟨q + 1, by go_num, by omega, by rw [HN.out]; simp [hd], trivial⟩
        case measure => simp [intOf]; omega
      · have hdb : (((c.size : Nat) : Int) != 128) = true := by simp; omega
        go_wp2
        go_ret
        exact ⟨by rw [HA.out, HN.out]; simp [hd], rfl⟩
    · have hqe : q = l.length := by omega
      subst hqe
      go_wp2
      go_ret
      exact ⟨by rw [HA.out, HRR.out, List.drop_length]; rfl, rfl⟩
/-- rising places -/
def risesI (last : Int) : List Int → Bool
  | [] => true
  | p :: l => decide (last < p) && (decide (p < 1024) && risesI p l)
def placesB (l : List Int) : Bool := risesI (-1) l && decide (l.length ≤ 48)
set_option maxRecDepth 100000 in
set_option maxHeartbeats 2000000 in
theorem arePlaces_any (v : Value) (l : List Int) (w : World) (h : ILie w v l) : Calls Try.prog 81 #[v] w fun e w' => e = .returned (.bool (placesB l)) ∧ Below w.heap.size w w' := by
  obtain ⟨ao, cap, rfl, hlc, hcm, hcell⟩ := h
  have HC := hid hcell
  clear hcell
  unfold maxLen at hcm
  obtain ⟨A, hA⟩ : ∃ A : Bool, A = placesB l := ⟨_, rfl⟩
  rw [← hA]
  have HA := hid hA
  clear hA
  go_enter Try.func81, Try.ntmps81
  go_wp2
  go_loopw [3, 8] (fun la i wr => ∃ (q : Nat) (last : Int), i = .int .i64 q ∧ q ≤ l.length ∧ la = .int .i64 last ∧ risesI (-1) l = risesI last (l.drop q) ∧ wr = w) (fun _ i _ => l.length - (intOf i).toNat)
  case atStart => exact ⟨0, -1, rfl, Nat.zero_le _, rfl, rfl, rfl⟩
  case round =>
    obtain ⟨q, last, rfl, hq, rfl, hr, hw⟩ := hrel
    subst hw
    have HRR := hid hr
    clear hr
    by_cases hqk : q < l.length
    · obtain ⟨gb, off, e, hgl, c0⟩ := HC.out q hqk
      subst e
      have HD := hid (drop_at l q hqk)
      obtain ⟨c, hc⟩ : ∃ c, c = l[q] := ⟨_, rfl⟩
      rw [← hc] at c0 HD
      clear hc
      have HN : Hid (risesI (-1) l = (decide (last < c) && (decide (c < 1024) && risesI c (l.drop (q + 1))))) := by
        show _ = _
        rw [HRR.out, HD.out]; rfl
      have HF := hid (follows_any last c)
      obtain ⟨f, hf⟩ : ∃ f, f = (decide (last < c) && decide (c < 1024)) := ⟨_, rfl⟩
      rw [← hf] at HF
      have HFF := hid hf
      clear hf
      cases f with
      | false =>
        go_wp2_with (first | (go_at_call 53; refine (HF.out _).mono ?_; rintro e w1 ⟨rfl, hw⟩; have hw := hw.symm; subst hw))
        go_ret
        refine ⟨?_, Below.refl _ _⟩
        have hz : risesI (-1) l = false := by
          rw [HN.out]
          have := HFF.out
          cases h1 : decide (last < c)
          · rfl
          · cases h2 : decide (c < 1024)
            · rfl
            · rw [h1, h2] at this; cases this
        rw [HA.out, placesB, hz]; rfl
      | true =>
        go_wp2_with (first | (go_at_call 53; refine (HF.out _).mono ?_; rintro e w1 ⟨rfl, hw⟩; have hw := hw.symm; subst hw))
        go_roundw
        case rel =>
          refine ⟨q + 1, c, by go_num, by omega, rfl, ?_, trivial⟩
          rw [HN.out]
          have := HFF.out
          cases h1 : decide (last < c)
          · rw [h1] at this; cases this
          · cases h2 : decide (c < 1024)
            · rw [h1, h2] at this; cases this
            · simp
        case measure => simp [intOf]; omega
    · have hqe : q = l.length := by omega
      subst hqe
      go_wp2
      go_ret
      refine ⟨?_, Below.refl _ _⟩
      rw [HA.out, placesB, HRR.out, List.drop_length]
      simp [risesI]
      omega
end Go.Proofs.Ytmcahiebcflfoaa
