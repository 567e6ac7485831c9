import Derived.Test.YtnoocgodnpjnoaaDoorPa
namespace Go.Proofs.YtnoocgodnpjnoaaDoor
open Go.RowKit

/-- a slice that reads as strings -/
def SLie (w : World) (v : Value) (l : List ByteArray) : Prop :=
  ∃ ao cap, v = .slice ao l.length cap ∧ l.length ≤ cap ∧ cap ≤ maxLen ∧ ∀ i (hi : i < l.length), ∃ gb off, ao = some ⟨gb, off, none⟩ ∧ gb < w.heap.size ∧ w.cell? ⟨gb, off + i, none⟩ = some (.string l[i])
theorem SLie.below {w w' : World} {v : Value} {l : List ByteArray} (h : SLie w v l) (k : Below w.heap.size w w') : SLie w' v l := by
  obtain ⟨ao, cap, e, h1, h2, h3⟩ := h
  refine ⟨ao, cap, e, h1, h2, fun i hi => ?_⟩
  obtain ⟨gb, off, e1, hg, c0⟩ := h3 i hi
  exact ⟨gb, off, e1, Nat.lt_of_lt_of_le hg k.size, (k.cell (p := ⟨gb, off + i, none⟩) hg).trans c0⟩
theorem SLie.nil (w : World) : SLie w (.slice none 0 0) [] := ⟨none, 0, rfl, Nat.le_refl _, by decide, fun i hi => by simp at hi⟩
theorem drop_at {α : Type} (l : List α) (q : Nat) (h : q < l.length) : l.drop q = l[q] :: l.drop (q + 1) := List.drop_eq_getElem_cons h

def sameS : List ByteArray → List ByteArray → Bool
  | [], [] => true
  | a :: x, b :: y => (a.toList == b.toList) && sameS x y
  | _, _ => false
theorem toL_inj {a b : ByteArray} (h : a.toList = b.toList) : a = b := by
  rw [Lib.toList_data, Lib.toList_data] at h; exact ba_ext h
theorem sameS_iff : ∀ x y : List ByteArray, sameS x y = true ↔ x = y
  | [], [] => by simp [sameS]
  | [], _ :: _ => by simp [sameS]
  | _ :: _, [] => by simp [sameS]
  | a :: x, b :: y => by
    rw [sameS, Bool.and_eq_true, sameS_iff x y]
    simp only [beq_iff_eq, List.cons.injEq]
    exact ⟨fun h => ⟨toL_inj h.1, h.2⟩, fun h => ⟨by rw [h.1], h.2⟩⟩
theorem sameS_len {x y : List ByteArray} (h : ¬ x.length = y.length) : sameS x y = false := by
  cases e : sameS x y with
  | false => rfl
  | true => exact absurd (by rw [(sameS_iff x y).1 e]) h
theorem sameS_self (l : List ByteArray) : sameS l l = true := (sameS_iff l l).2 rfl
set_option maxRecDepth 100000 in
set_option maxHeartbeats 2000000 in
theorem check_any (v : Value) (l : List ByteArray) (w : World) (h : SLie w v l) : Calls Tryd.prog 33 #[v] w fun e w' => e = .returned (.int .i64 (chkE l)) ∧ Below w.heap.size w w' := by
  obtain ⟨ao, cap, rfl, hlc, hcm, hcell⟩ := h
  have HC := hid hcell
  clear hcell
  unfold maxLen at hcm
  go_enter Tryd.func33, Tryd.ntmps33
  go_wp2
  go_loopw [8] (fun i wr => ∃ (q : Nat), i = .int .i64 q ∧ q ≤ l.length ∧ chkN l = chkN (l.drop q) ∧ Below w.heap.size w wr) (fun i _ => l.length - (intOf i).toNat)
  case atStart => exact ⟨0, rfl, Nat.zero_le _, rfl, Below.refl _ _⟩
  case round =>
    obtain ⟨q, rfl, hq, hr, hB⟩ := hrel
    have HB := hid hB
    have HRR := hid hr
    clear hr hB
    by_cases hqk : q < l.length
    · obtain ⟨gb, off, e, hgl, c0⟩ := HC.out q hqk
      subst e
      have HD := hid (drop_at l q hqk)
      obtain ⟨c, hc⟩ : ∃ c, c = l[q] := ⟨_, rfl⟩
      rw [← hc] at c0 HD
      clear hc
      replace c0 := (HB.out.cell (p := ⟨gb, off + q, none⟩) hgl).trans c0
      have hgr : gb < wr.heap.size := Nat.lt_of_lt_of_le hgl HB.out.size
      have HN : Hid (chkN l = if nmB c = 0 then chkN (l.drop (q + 1)) else nmB c) := by
        show _ = _
        rw [HRR.out, HD.out]; rfl
      have HA := hid (name_any c)
      obtain ⟨E, hE⟩ : ∃ E, E = nmB c := ⟨_, rfl⟩
      rw [← hE] at HN HA
      clear hE
      by_cases h0 : E = 0
      · subst h0
        go_wp2_with (first | (go_at_call 36; refine (HA.out _).mono ?_; rintro e w1 ⟨rfl, hb1⟩; have HB1 := hid hb1; clear hb1))
        go_roundw
        case rel => exact ⟨q + 1, by go_num, by omega, by rw [HN.out]; simp, below_next HB.out HB1.out⟩
        case measure => simp [intOf]; omega
      · have hne : (E != 0) = true := by simpa using h0
        go_wp2_with (first | (go_at_call 36; refine (HA.out _).mono ?_; rintro e w1 ⟨rfl, hb1⟩; have HB1 := hid hb1; clear hb1))
        go_ret
        exact ⟨ret_int (by rw [chkE_err] <;> rw [HN.out, if_neg h0]; exact h0), below_next HB.out HB1.out⟩
    · have E : Hid (chkN l = 0) := by
        show _ = _
        rw [HRR.out, List.drop_of_length_le (by omega)]; rfl
      by_cases h8 : 8 < l.length
      · go_wp2
        go_ret
        exact ⟨ret_int (by unfold chkE; rw [if_pos E.out, if_pos h8]), HB.out⟩
      · go_wp2
        go_ret
        exact ⟨ret_int (by unfold chkE; rw [if_pos E.out, if_neg h8]), HB.out⟩
end Go.Proofs.YtnoocgodnpjnoaaDoor
