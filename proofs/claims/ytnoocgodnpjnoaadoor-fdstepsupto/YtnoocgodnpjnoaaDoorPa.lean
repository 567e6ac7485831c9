import Derived.Test.YtnoocgodnpjnoaaDoorRows
import Derived.Test.YtnoocgodnpjnoaaDoorPm
import Derived.Lib.DecodeN
import Derived.RowKit
import Derived.OpenShut
import Derived.Lib.AppendStr
import Derived.Lib.Strings
import Derived.OneCell
import Derived.Below
import Derived.Deep.Draws
import Derived.WalkKit
import Derived.ProofKit
import Derived.WalkSpells
import Derived.WalkSmall
import Derived.Deep.QuietTactic
import Derived.BigQuiet
import Derived.Deep.RegionWith
import Derived.Deep.RegionLaw
import Derived.Deep.DeepCutAuto
import Derived.Deep.DeepFit
import Derived.Deep.CutBlock
import Derived.Lib.OthersKept
import Derived.Laws.RangeAny
namespace Go.Proofs.YtnoocgodnpjnoaaDoor
open Go.RowKit

theorem ret_int {k : IntKind} {a b : Int} (h : a = b) : Ending.returned (.int k a) = .returned (.int k b) := by rw [h]
theorem below_alloc (w : World) (o : Obj) : Below w.heap.size w (w.alloc o) := (Below.refl _ _).alloc (Nat.le_refl _) o
theorem hid {p : Prop} (h : p) : Hid p := h
theorem below_drewN {B : Nat} {w w' : World} (h : Below B w w') (n : Nat) : Below B w (w'.drewN n) := ⟨h.os, h.tape, h.output, h.size, h.block⟩
theorem below_next {w w1 w2 : World} (a : Below w.heap.size w w1) (b : Below w1.heap.size w1 w2) : Below w.heap.size w w2 := a.trans (b.mono a.size)
theorem str_ne {a b : ByteArray} (h : ¬ a = b) : (a.toList == b.toList) = false := by
  rw [Lib.toList_data, Lib.toList_data]
  simp only [beq_eq_false_iff_ne, ne_eq]
  intro hh
  exact h (ba_ext hh)
theorem str_eq {a b : ByteArray} (h : a = b) : (a.toList == b.toList) = true := by subst h; simp

/-- the bytes of a letter: none of them is / or 0 unless the letter is -/
theorem conts (n b0 b1 b2 b3 : Nat) :
    (2 ≤ (Lib.decodeN n b0 b1 b2 b3).2 → b1 / 64 = 2 ∧ 1 < n) ∧ (3 ≤ (Lib.decodeN n b0 b1 b2 b3).2 → b2 / 64 = 2 ∧ 2 < n) ∧ (4 ≤ (Lib.decodeN n b0 b1 b2 b3).2 → b3 / 64 = 2 ∧ 3 < n) ∧ (Lib.decodeN n b0 b1 b2 b3).2 ≤ 4 ∧ 1 ≤ (Lib.decodeN n b0 b1 b2 b3).2 := by
  unfold Lib.decodeN
  repeat' split
  all_goals (simp only; omega)
theorem get_list (s : ByteArray) (i : Nat) (h : i < s.size) : s.get! i = s.data.toList[i]'(by rw [len_list]; exact h) := by
  simp [ByteArray.get!, getElem!_pos s.data i (by exact h)]
theorem badB_cont {b : UInt8} (h : b.toNat / 64 = 2) : badB b = false := by
  unfold badB
  have h1 : b ≠ 47 := by intro e; subst e; simp at h
  have h2 : b ≠ 0 := by intro e; subst e; simp at h
  simp [h1, h2]
theorem badB_high {b : UInt8} (h : 128 ≤ b.toNat) : badB b = false := by
  unfold badB
  have h1 : b ≠ 47 := by intro e; subst e; simp at h
  have h2 : b ≠ 0 := by intro e; subst e; simp at h
  simp [h1, h2]
theorem next_bad (s : ByteArray) (pos : Nat) (h : pos < s.size) :
    pos + (Utf8.decode s pos).2 ≤ s.size ∧ 1 ≤ (Utf8.decode s pos).2 ∧
    (((Utf8.decode s pos).1 = 47 ∨ (Utf8.decode s pos).1 = 0) → ∃ b ∈ s.data.toList, badB b = true) ∧
    (((Utf8.decode s pos).1 ≠ 47 ∧ (Utf8.decode s pos).1 ≠ 0) → ∀ j, pos ≤ j → j < pos + (Utf8.decode s pos).2 → ∀ (hj : j < s.data.toList.length), badB (s.data.toList[j]) = false) := by
  have hl := len_list s
  by_cases ha : (s[pos]'h).toNat < 128
  · rw [decode_ascii s pos h ha]
    have e : s[pos]'h = s.data.toList[pos]'(by omega) := by simp; rfl
    refine ⟨by simp; omega, by simp, fun hb => ⟨s[pos]'h, ?_, ?_⟩, fun hb j h1 h2 hj => ?_⟩
    · rw [e]; exact List.getElem_mem _
    · unfold badB
      simp only at hb
      rcases hb with hb | hb
      · have : s[pos]'h = 47 := UInt8.toNat_inj.1 (by simpa using hb)
        simp [this]
      · have : s[pos]'h = 0 := UInt8.toNat_inj.1 (by simpa using hb)
        simp [this]
    · simp only at hb h2
      obtain rfl : j = pos := by omega
      rw [← e]
      unfold badB
      have h1 : s[j]'h ≠ 47 := by intro e; rw [e] at hb; simp at hb
      have h2 : s[j]'h ≠ 0 := by intro e; rw [e] at hb; simp at hb
      simp [h1, h2]
  · have hh := decode_high s pos h (by omega)
    have hc := conts (s.size - pos) (s.get! pos).toNat (s.get! (pos + 1)).toNat (s.get! (pos + 2)).toNat (s.get! (pos + 3)).toNat
    rw [← Lib.decode_at] at hc
    obtain ⟨c2, c3, c4, c5, c6⟩ := hc
    have e : s[pos]'h = s.data.toList[pos]'(by omega) := by simp; rfl
    obtain ⟨D, hD⟩ : ∃ D, D = Utf8.decode s pos := ⟨_, rfl⟩
    rw [← hD] at c2 c3 c4 c5 c6 hh ⊢
    refine ⟨?_, c6, fun hb => by omega, fun _ j h1 h2 hj => ?_⟩
    · by_cases k4 : 4 ≤ D.2
      · have := c4 k4; omega
      · by_cases k3 : 3 ≤ D.2
        · have := c3 k3; omega
        · by_cases k2 : 2 ≤ D.2
          · have := c2 k2; omega
          · omega
    · by_cases j0 : j = pos
      · subst j0; rw [← e]; exact badB_high (by omega)
      by_cases j1 : j = pos + 1
      · subst j1
        have := (c2 (by omega)).1
        rw [get_list s _ (by omega)] at this
        exact badB_cont this
      by_cases j2 : j = pos + 2
      · subst j2
        have := (c3 (by omega)).1
        rw [get_list s _ (by omega)] at this
        exact badB_cont this
      · obtain rfl : j = pos + 3 := by omega
        have := (c4 (by omega)).1
        rw [get_list s _ (by omega)] at this
        exact badB_cont this
theorem iterPos_of {w : World} {k : Nat} {s : ByteArray} {p : Nat} (h : w.heap[k]? = some (.stringIter s p)) : w.iterPos k = p := by simp [World.iterPos, h]
theorem nmB_bad {s : ByteArray} (h : ∃ b ∈ s.data.toList, badB b = true) : nmB s = 309 := by
  unfold nmB nmE
  rw [if_pos (.inr (.inr (.inr (List.any_eq_true.2 h))))]
theorem nmB_empty : nmB ⟨#[]⟩ = 309 := by unfold nmB nmE; simp
theorem nmB_one : nmB ⟨#[46]⟩ = 309 := by unfold nmB nmE; simp
theorem nmB_two : nmB ⟨#[46, 46]⟩ = 309 := by unfold nmB nmE; simp
theorem nmB_good {s : ByteArray} (h1 : s ≠ ⟨#[]⟩) (h2 : s ≠ ⟨#[46]⟩) (h3 : s ≠ ⟨#[46, 46]⟩) (h4 : ∀ j (hj : j < s.data.toList.length), badB (s.data.toList[j]) = false) : nmB s = if 24 < s.size then 308 else 0 := by
  unfold nmB nmE
  rw [if_neg, len_list]
  rintro (h | h | h | h)
  · exact h1 (ba_ext h)
  · exact h2 (ba_ext h)
  · exact h3 (ba_ext h)
  · obtain ⟨b, hb, hbad⟩ := List.any_eq_true.1 h
    obtain ⟨j, hj, rfl⟩ := List.mem_iff_getElem.1 hb
    rw [h4 j hj] at hbad; cases hbad
set_option maxRecDepth 100000 in
set_option maxHeartbeats 1000000 in
theorem name_any (s : ByteArray) (w : World) : Calls Tryd.prog 36 #[.string s] w fun e w' => e = .returned (.int .i64 (nmB s)) ∧ Below w.heap.size w w' := by
  by_cases h1 : s = ⟨#[]⟩
  · subst h1
    rw [nmB_empty]
    go_enter Tryd.func36, Tryd.ntmps36
    go_wp2
    go_ret
    exact ⟨rfl, Below.refl _ _⟩
  by_cases h2 : s = ⟨#[46]⟩
  · subst h2
    rw [nmB_one]
    go_enter Tryd.func36, Tryd.ntmps36
    go_wp2
    go_ret
    exact ⟨rfl, Below.refl _ _⟩
  by_cases h3 : s = ⟨#[46, 46]⟩
  · subst h3
    rw [nmB_two]
    go_enter Tryd.func36, Tryd.ntmps36
    go_wp2
    go_ret
    exact ⟨rfl, Below.refl _ _⟩
  have k1 : s.toList.isEmpty = false := by
    rw [Lib.toList_data]
    cases hl : s.data.toList with
    | nil => exact absurd (ba_ext hl) h1
    | cons _ _ => rfl
  have k2 : (s.toList == [46]) = false := by have := str_ne h2; rw [Lib.toList_data ⟨#[46]⟩] at this; exact this
  have k3 : (s.toList == [46, 46]) = false := by have := str_ne h3; rw [Lib.toList_data ⟨#[46, 46]⟩] at this; exact this
  have HG := hid (nmB_good h1 h2 h3)
  clear h1 h2 h3
  go_enter Tryd.func36, Tryd.ntmps36
  go_wp2
  go_loopw [4] (fun _ wr => ∃ pos : Nat, wr.heap[w.heap.size]? = some (.stringIter s pos) ∧ Below w.heap.size w wr ∧ pos ≤ s.size ∧ Hid (∀ j, j < pos → ∀ (hj : j < s.data.toList.length), badB (s.data.toList[j]) = false)) (fun _ wr => s.size - wr.iterPos w.heap.size)
  case atStart => exact ⟨0, World.iter_heap w s 0, (Below.refl _ _).alloc (Nat.le_refl _) _, Nat.zero_le _, fun j hj => absurd hj (by omega)⟩
  case round =>
    obtain ⟨pos, hit, hbw, hps, HB⟩ := hrel
    have hpos0 := iterPos_of hit
    by_cases hp : pos < s.size
    · have hnx : ∀ ty, (Instr.next (.pointer (some ⟨w.heap.size, 0, none⟩)) true ty).run Tryd.prog wr = _ := fun ty => Lib.run_next_any_at wr w.heap.size s pos ty hit hp
      have hit2 := Lib.iterAt_heap wr w.heap.size s pos (pos + (Utf8.decode s pos).2) hit
      have hbw2 := Lib.below_iterAt hbw (k := w.heap.size) (Nat.le_refl _) s (pos + (Utf8.decode s pos).2)
      obtain ⟨W1, hW1⟩ : ∃ W1, W1 = wr.iterAt w.heap.size s (pos + (Utf8.decode s pos).2) := ⟨_, rfl⟩
      rw [← hW1] at hnx hit2 hbw2
      obtain ⟨n1, n2, n3, n4⟩ := next_bad s pos hp
      have N3 := hid n3
      have N4 := hid n4
      obtain ⟨D, hD⟩ : ∃ D, D = Utf8.decode s pos := ⟨_, rfl⟩
      rw [← hD] at hnx hit2 n1 n2 N3 N4
      clear hW1 hit hD n3 n4 hbw
      by_cases hb : D.1 = 47 ∨ D.1 = 0
      · have E := hid (nmB_bad (N3.out hb))
        rcases hb with hb | hb
        · rw [hb] at hnx
          clear N3 N4 HB HG
          go_wp2
          go_ret
          exact ⟨ret_int E.out.symm, hbw2⟩
        · rw [hb] at hnx
          clear N3 N4 HB HG
          go_wp2
          go_ret
          exact ⟨ret_int E.out.symm, hbw2⟩
      · have q1 : ((D.1 : Int) == 47) = false := beq_eq_false_iff_ne.2 (by omega)
        have q2 : ((D.1 : Int) == 0) = false := beq_eq_false_iff_ne.2 (by omega)
        have HB2 : Hid (∀ j, j < pos + D.2 → ∀ (hj : j < s.data.toList.length), badB (s.data.toList[j]) = false) := by
          intro j hj hl
          by_cases hjp : j < pos
          · exact HB.out j hjp hl
          · exact N4.out ⟨by omega, by omega⟩ j (by omega) hj hl
        clear N3 N4 HB HG hb
        go_wp2
        go_roundw
        case rel => exact ⟨pos + D.2, hit2, hbw2, n1, HB2⟩
        case measure => rw [iterPos_of hit2, hpos0]; omega
    · have hnx : ∀ ty, (Instr.next (.pointer (some ⟨w.heap.size, 0, none⟩)) true ty).run Tryd.prog wr = _ := fun ty => Lib.run_next_end_at wr w.heap.size s pos ty hit hp
      have E := hid (HG.out (fun j hj => HB.out j (by rw [len_list] at hj; omega) hj))
      clear HG HB
      by_cases h24 : 24 < s.size
      · go_wp2
        go_ret
        exact ⟨ret_int (by rw [E.out, if_pos h24]), hbw⟩
      · go_wp2
        go_ret
        exact ⟨ret_int (by rw [E.out, if_neg h24]), hbw⟩
theorem u8_ne {b c : UInt8} (h : b ≠ c) : ((b.toNat : Int) == (c.toNat : Int)) = false := by
  rw [beq_eq_false_iff_ne]
  intro e
  exact h (UInt8.toNat_inj.1 (by omega))
set_option maxRecDepth 100000 in
set_option maxHeartbeats 1000000 in
theorem rname_any (s : ByteArray) (w : World) (hs : s.size ≤ maxLen) : Calls Tryd.prog 29 #[.string s] w fun e w' => e = .returned (.int .i64 (nmB s)) ∧ w' = w := by
  unfold maxLen at hs
  by_cases h1 : s = ⟨#[]⟩
  · subst h1
    rw [nmB_empty]
    go_enter Tryd.func29, Tryd.ntmps29
    go_wp2
    go_ret
    exact ⟨rfl, rfl⟩
  by_cases h2 : s = ⟨#[46]⟩
  · subst h2
    rw [nmB_one]
    go_enter Tryd.func29, Tryd.ntmps29
    go_wp2
    go_ret
    exact ⟨rfl, rfl⟩
  by_cases h3 : s = ⟨#[46, 46]⟩
  · subst h3
    rw [nmB_two]
    go_enter Tryd.func29, Tryd.ntmps29
    go_wp2
    go_ret
    exact ⟨rfl, rfl⟩
  have k1 : s.toList.isEmpty = false := by
    rw [Lib.toList_data]
    cases hl : s.data.toList with
    | nil => exact absurd (ba_ext hl) h1
    | cons _ _ => rfl
  have k2 : (s.toList == [46]) = false := by have := str_ne h2; rw [Lib.toList_data ⟨#[46]⟩] at this; exact this
  have k3 : (s.toList == [46, 46]) = false := by have := str_ne h3; rw [Lib.toList_data ⟨#[46, 46]⟩] at this; exact this
  have HG := hid (nmB_good h1 h2 h3)
  clear h1 h2 h3
  go_enter Tryd.func29, Tryd.ntmps29
  go_wp2
  go_loop [3] (fun i => ∃ k : Nat, k ≤ s.size ∧ i = .int .i64 k ∧ Hid (∀ j, j < k → ∀ (hj : j < s.data.toList.length), badB (s.data.toList[j]) = false)) (fun i => s.size - (intOf i).toNat)
  case atStart => exact ⟨0, Nat.zero_le _, rfl, fun j hj => absurd hj (by omega)⟩
  case round =>
    obtain ⟨k, hk, rfl, HB⟩ := hrel
    by_cases hp : k < s.size
    · have e : s[k]'hp = s.data.toList[k]'(by rw [len_list]; exact hp) := by simp; rfl
      by_cases h47 : s[k]'hp = 47
      · have E := hid (nmB_bad (s := s) ⟨s[k]'hp, by rw [e]; exact List.getElem_mem _, by rw [h47]; rfl⟩)
        have q1 : (((s[k]'hp).toNat : Int) == 47) = true := by rw [h47]; rfl
        clear HB HG e h47
        go_wp2
        go_ret
        exact ⟨ret_int E.out.symm, rfl⟩
      by_cases h0 : s[k]'hp = 0
      · have E := hid (nmB_bad (s := s) ⟨s[k]'hp, by rw [e]; exact List.getElem_mem _, by rw [h0]; rfl⟩)
        have q1 : (((s[k]'hp).toNat : Int) == 47) = false := by rw [h0]; rfl
        have q2 : (((s[k]'hp).toNat : Int) == 0) = true := by rw [h0]; rfl
        clear HB HG e h47 h0
        go_wp2
        go_ret
        exact ⟨ret_int E.out.symm, rfl⟩
      · have q1 : (((s[k]'hp).toNat : Int) == 47) = false := u8_ne h47
        have q2 : (((s[k]'hp).toNat : Int) == 0) = false := u8_ne h0
        have HB2 : Hid (∀ j, j < k + 1 → ∀ (hj : j < s.data.toList.length), badB (s.data.toList[j]) = false) := by
          intro j hj hl
          by_cases hjp : j < k
          · exact HB.out j hjp hl
          · obtain rfl : j = k := by omega
            rw [← e]
            simp [badB, h47, h0]
        clear HB HG e h47 h0
        go_wp2
        go_round
        case rel => exact ⟨k + 1, by omega, by go_num, HB2⟩
        case measure => simp [intOf]; omega
    · have E := hid (HG.out (fun j hj => HB.out j (by rw [len_list] at hj; omega) hj))
      clear HG HB
      by_cases h24 : 24 < s.size
      · go_wp2
        go_ret
        exact ⟨ret_int (by rw [E.out, if_pos h24]), rfl⟩
      · go_wp2
        go_ret
        exact ⟨ret_int (by rw [E.out, if_neg h24]), rfl⟩
end Go.Proofs.YtnoocgodnpjnoaaDoor
