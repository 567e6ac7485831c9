import Derived.Test.YtopebghandojbaaGreatTa
namespace Go.Proofs.YtopebghandojbaaGreat
open Go.RowKit Go.Maps
set_option maxRecDepth 100000 in
set_option maxHeartbeats 2000000 in
theorem right_any (v : Value) (l : List Chg) (w : World) (h : CLie w v l) : Calls Tryz.prog 33 #[v] w fun e w' => e = .returned (.bool (right l)) ∧ Below w.heap.size w w' := by
  obtain ⟨ao, cap, rfl, hlc, hcm, hcell⟩ := h
  have HC := hid hcell
  clear hcell
  unfold maxLen at hcm
  by_cases h48 : l.length ≤ 48
  · have HR : Hid (right l = rises (-1) l) := by show _ = _; unfold right; simp [h48]
    obtain ⟨A, hA⟩ : ∃ A : Bool, A = right l := ⟨_, rfl⟩
    rw [← hA]
    rw [HR.out] at hA
    have HA := hid hA
    clear hA
    go_enter Tryz.func33, Tryz.ntmps33
    go_wp2
    go_loopw [3, 11] (fun la i wr => ∃ (q : Nat) (last : Int), i = .int .i64 q ∧ q ≤ l.length ∧ la = .int .i64 last ∧ rises (-1) l = rises last (l.drop q) ∧ Below w.heap.size w wr) (fun _ i _ => l.length - (intOf i).toNat)
    case atStart => exact ⟨0, -1, rfl, Nat.zero_le _, rfl, rfl, Below.refl _ _⟩
    case round =>
      obtain ⟨q, last, rfl, hq, rfl, hr, hB⟩ := hrel
      have HB := hid hB
      have HRR := hid hr
      clear hr hB
      by_cases hqk : q < l.length
      · obtain ⟨gb, off, e, hgl, c0, c1⟩ := HC.out q hqk
        subst e
        have HD := hid (drop_at l q hqk)
        obtain ⟨c, hc⟩ : ∃ c, c = l[q] := ⟨_, rfl⟩
        rw [← hc] at c0 c1 HD
        clear hc
        replace c0 := (HB.out.cell (p := ⟨gb, off + q * 2, none⟩) hgl).trans c0
        replace c1 := (HB.out.cell (p := ⟨gb, off + q * 2 + 1, none⟩) hgl).trans c1
        have hgr : gb < wr.heap.size := Nat.lt_of_lt_of_le hgl HB.out.size
        have HN : Hid (rises (-1) l = (decide (last < c.b) && (decide (c.b < 1024) && (decide (c.d.size = 128) && rises c.b (l.drop (q + 1)))))) := by
          show _ = _
          rw [HRR.out, HD.out]; rfl
        by_cases h1 : last < c.b
        · by_cases h2 : c.b < 1024
          · by_cases hd : c.d.size = 128
            · go_wp2
              go_roundw
              case rel =>
                refine ⟨q + 1, c.b, by go_num, by omega, rfl, ?_, HB.out.next (below_alloc _ _)⟩
                rw [HN.out]
                simp [h1, h2, hd]
              case measure => simp [intOf]; omega
            · have hdb : (((c.d.size : Nat) : Int) != 128) = true := by simp; omega
              go_wp2
              go_ret
              exact ⟨by rw [HA.out, HN.out]; simp [hd], HB.out.next (below_alloc _ _)⟩
          · go_wp2
            go_ret
            exact ⟨by rw [HA.out, HN.out]; have : ¬ c.b < 1024 := by omega
                      simp [this], HB.out.next (below_alloc _ _)⟩
        · go_wp2
          go_ret
          exact ⟨by rw [HA.out, HN.out]; have : ¬ last < c.b := by omega
                    simp [this], HB.out.next (below_alloc _ _)⟩
      · have hqe : q = l.length := by omega
        subst hqe
        go_wp2
        go_ret
        refine ⟨?_, HB.out⟩
        rw [HA.out, HRR.out, List.drop_length]; rfl
  · have HR : Hid (right l = false) := by show _ = _; unfold right; simp [h48]
    rw [HR.out]
    go_enter Tryz.func33, Tryz.ntmps33
    go_wp2
    go_ret
    exact ⟨rfl, Below.refl _ _⟩
theorem _root_.Go.RowKit.Below.dN {B : Nat} {w w' : World} (h : Below B w w') (n : Nat) : Below B w (w'.drewN n) := ⟨h.os, h.tape, h.output, h.size, h.block⟩
/-- the same changes? -/
def sameC : List Chg → List Chg → Bool
  | [], [] => true
  | a :: x, b :: y => (a.b == b.b && (a.d.toList == b.d.toList)) && sameC x y
  | _, _ => false
theorem sameC_iff : ∀ x y : List Chg, sameC x y = true ↔ x = y
  | [], [] => by simp [sameC]
  | [], _ :: _ => by simp [sameC]
  | _ :: _, [] => by simp [sameC]
  | a :: x, b :: y => by
    have ih := sameC_iff x y
    obtain ⟨a1, a2⟩ := a
    obtain ⟨b1, b2⟩ := b
    have e : a2.toList = b2.toList ↔ a2 = b2 := by
      rw [Lib.toList_data, Lib.toList_data]
      exact ⟨fun h => ByteArray.ext (Array.toList_inj.1 h), fun h => by rw [h]⟩
    simp only [sameC, Bool.and_eq_true, beq_iff_eq, List.cons.injEq, Chg.mk.injEq, ih, e]
theorem sameC_len : ∀ {x y : List Chg}, x.length ≠ y.length → sameC x y = false := by
  intro x y h
  cases hs : sameC x y with
  | false => rfl
  | true => rw [(sameC_iff x y).1 hs] at h; exact absurd rfl h
end Go.Proofs.YtopebghandojbaaGreat
