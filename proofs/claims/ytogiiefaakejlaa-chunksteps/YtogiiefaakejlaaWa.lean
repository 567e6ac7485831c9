import Derived.Test.YtogiiefaakejlaaCu
namespace Go.Proofs.Ytogiiefaakejlaa
open Go.RowKit Go.Maps

/-- a snapshot -/
structure Snap (l : List ByteArray) : Prop where
  lo : 1 ≤ l.length
  hi : l.length ≤ 1024
  bl : blocksB l = true
theorem Snap.e {l : List ByteArray} (h : Snap l) : splE l = 0 := by unfold splE; rw [if_pos ⟨h.lo, h.hi⟩, h.bl]; rfl
theorem Snap.k {l : List ByteArray} (h : Snap l) : splK l = splitL l := by unfold splK; rw [if_pos ⟨h.lo, h.hi, h.bl⟩]
theorem snap_of {l : List ByteArray} (h : splE l = 0) : Snap l := by
  unfold splE at h
  split at h
  · rename_i h1
    split at h
    · rename_i h2; exact ⟨h1.1, h1.2, h2⟩
    · omega
  · omega
theorem rgt_chunk {l : List ByteArray} (h : Snap l) {i : Nat} (hi : i * 8 < l.length) : rgt (chunkL l i) = true := by
  have h1 := h.hi
  have h2 := h.lo
  unfold rgt chunkL
  rw [decide_eq_true_eq]
  simp only [st_size, st_list]
  refine ⟨by omega, by omega, by omega, ?_, ?_, trivial⟩
  · unfold cnt; omega
  · rw [allD_blocks (part_blocks h.bl i), part_len]
    unfold siz
    omega
theorem fit_crc (s : List UInt8) : inI ((crc s : Nat) : Int) := by
  have := crc_lt s
  unfold inI
  omega
/-- chunks of this snapshot -/
def Of (l : List ByteArray) (L : List Ck) : Prop := ∀ c ∈ L, ∃ i : Nat, i * 8 < l.length ∧ c = chunkL l i
theorem Of.nil (l : List ByteArray) : Of l [] := by intro c hc; cases hc
theorem Of.snoc {l : List ByteArray} {L : List Ck} (h : Of l L) {i : Nat} (hi : i * 8 < l.length) : Of l (L ++ [chunkL l i]) := by
  intro c hc
  rcases List.mem_append.1 hc with hc | hc
  · exact h c hc
  · exact ⟨i, hi, List.mem_singleton.1 hc⟩
theorem Of.okIn {l : List ByteArray} {L : List Ck} (h : Of l L) (i : Nat) : okIn L (chunkL l i) = true := by
  cases L with
  | nil => rfl
  | cons x r =>
    obtain ⟨j, _, rfl⟩ := h x (by simp)
    simp [Ytogiiefaakejlaa.okIn, chunkL]
theorem Of.add {l : List ByteArray} {L : List Ck} (hs : Snap l) (h : Of l L) {i : Nat} (hi : i * 8 < l.length) : addB L (chunkL l i) = !hasN L (i : Int) ∧ addE L (chunkL l i) = 0 ∧ addL L (chunkL l i) = (if hasN L (i : Int) then L else L ++ [chunkL l i]) := by
  have h1 := rgt_chunk hs hi
  have h2 := h.okIn i
  have h3 : (chunkL l i).num = (i : Int) := rfl
  refine ⟨?_, ?_, ?_⟩
  · unfold addB; rw [h1, h2, h3]; rfl
  · unfold addE; rw [h1, h2]; rfl
  · unfold addL addB; rw [h1, h2, h3]
    cases hasN L (i : Int) <;> rfl
theorem Of.addL {l : List ByteArray} {L : List Ck} (hs : Snap l) (h : Of l L) {i : Nat} (hi : i * 8 < l.length) : Of l (addL L (chunkL l i)) := by
  rw [(h.add hs hi).2.2]
  split
  · exact h
  · exact h.snoc hi
theorem Of.tot {l : List ByteArray} {L : List Ck} (h : Of l L) (hne : L ≠ []) : totOf L = (l.length : Int) ∧ dgOf L = ((crc (allD l) : Nat) : Int) ∧ cntN L = (l.length + 7) / 8 := by
  cases L with
  | nil => exact absurd rfl hne
  | cons x r =>
    obtain ⟨j, _, rfl⟩ := h x (by simp)
    refine ⟨rfl, rfl, ?_⟩
    show (cnt (l.length : Int)).toNat = _
    unfold cnt
    omega
theorem take_part (l : List ByteArray) (k : Nat) : l.take ((k + 1) * 8) = l.take (k * 8) ++ part l k := by
  unfold part
  rw [show (k + 1) * 8 = k * 8 + 8 by omega, List.take_add]
theorem allD_append (a b : List ByteArray) : allD (a ++ b) = allD a ++ allD b := by simp [allD]
theorem Of.dat {l : List ByteArray} {L : List Ck} (h : Of l L) {k : Nat} (hh : hasN L (k : Int) = true) : (datOf L (k : Int)).data.toList = allD (part l k) := by
  obtain ⟨c, hc, e1, e2⟩ := datOf_mem hh
  obtain ⟨i, _, rfl⟩ := h c hc
  have e3 : i = k := by
    have e4 : (i : Int) = k := e1
    omega
  subst e3
  rw [e2]
  simp [chunkL, st_list]
theorem Of.join {l : List ByteArray} {L : List Ck} (h : Of l L) : ∀ k, (∀ n : Nat, n < k → hasN L (n : Int) = true) → joinTo L k = allD (l.take (k * 8))
  | 0, _ => by simp [joinTo, allD]
  | k + 1, hk => by
    rw [joinTo_succ, h.join k (fun n hn => hk n (by omega)), h.dat (hk k (by omega)), take_part, allD_append]
theorem allD_at : ∀ (l : List ByteArray), blocksB l = true → ∀ i (hi : i < l.length), ((allD l).take ((i + 1) * 128)).drop (i * 128) = l[i].data.toList
  | x :: r, hb, 0, _ => by
    have h1 : x.size = 128 := blocksB_iff.1 hb 0 (by simp)
    have h2 : x.data.toList.length = 128 := by rw [Array.length_toList]; exact h1
    simp only [allD, List.map_cons, List.flatten_cons, List.getElem_cons_zero, Nat.zero_mul, List.drop_zero, Nat.zero_add, Nat.one_mul]
    rw [List.take_append_of_le_length (by omega), List.take_of_length_le (by omega)]
  | x :: r, hb, i + 1, hi => by
    have h1 : x.size = 128 := blocksB_iff.1 hb 0 (by simp)
    have h2 : x.data.toList.length = 128 := by rw [Array.length_toList]; exact h1
    have hr : blocksB r = true := by
      simp only [blocksB, List.all_cons, Bool.and_eq_true] at hb
      exact hb.2
    have ih := allD_at r hr i (by simpa using hi)
    rw [List.getElem_cons_succ, ← ih]
    show List.drop _ (List.take _ (x.data.toList ++ allD r)) = _
    rw [show (i + 1 + 1) * 128 = 128 + (i + 1) * 128 by omega, show (i + 1) * 128 = 128 + i * 128 by omega, List.take_append, List.drop_append, List.length_take, h2]
    rw [List.drop_of_length_le (by rw [List.length_take]; omega), List.nil_append]
    rw [show 128 + (128 + i * 128) - 128 = 128 + i * 128 by omega, show 128 + i * 128 - min (128 + (128 + i * 128)) 128 = i * 128 by omega]
theorem chop_all {l : List ByteArray} (h : blocksB l = true) : chop (st (allD l)) l.length = l := by
  apply List.ext_getElem
  · rw [chop_len]
  · intro i h1 h2
    simp only [chop, List.getElem_map, List.getElem_range]
    apply data_eq
    rw [← allD_at l h i h2, ByteArray.data_extract, Array.toList_extract, List.extract_eq_take_drop, List.drop_take, st_list]
/-- all of a snapshot's chunks are there: its blocks -/
theorem Of.whole {l : List ByteArray} {L : List Ck} (hs : Snap l) (hk : LOk L) (h : Of l L) (hl : L.length = (l.length + 7) / 8) : blkE L = 0 ∧ blkL L = l := by
  have hne : L ≠ [] := by
    intro e
    have := hs.lo
    rw [e] at hl
    simp at hl
    omega
  obtain ⟨h1, h2, h3⟩ := h.tot hne
  have hj : joinL L = allD l := by
    unfold joinL
    rw [h.join (cntN L) (fun n hn => hk.full (by omega) n hn), h3, List.take_of_length_le (by omega)]
  have he : blkE L = 0 := by
    unfold blkE
    rw [if_neg (by intro q; rcases q with q | q; exact hne q; omega), hj, h2, if_pos rfl]
  refine ⟨he, ?_⟩
  unfold blkL
  rw [if_pos he, hj, h1, show ((l.length : Int)).toNat = l.length by omega, chop_all hs.bl]
theorem Of.part {l : List ByteArray} {L : List Ck} (h : Of l L) (hl : L.length < (l.length + 7) / 8) : blkE L = 7 := by
  unfold blkE
  by_cases hne : L = []
  · rw [if_pos (.inl hne)]
  · rw [if_pos (.inr (by rw [(h.tot hne).2.2]; exact hl))]
theorem perm_len {a b : List Int} (ha : a.Nodup) (hb : b.Nodup) (h : ∀ x, x ∈ a ↔ x ∈ b) : a.length = b.length := ((List.perm_ext_iff_of_nodup ha hb).2 h).length_eq
theorem range_nodup (n : Nat) : ((List.range n).map (fun i : Nat => (i : Int))).Nodup := by
  refine (List.pairwise_map.2 ?_)
  exact (List.nodup_range).imp (fun h e => h (by omega))
theorem hasN_iff (L : List Ck) (n : Int) : hasN L n = true ↔ n ∈ L.map (·.num) := by
  unfold hasN
  rw [List.any_eq_true, List.mem_map]
  simp
/-- how many are missing -/
theorem miss_len {L : List Ck} (h : LOk L) (hne : L ≠ []) : (missL L).length = cntN L - L.length := by
  unfold missL
  rw [if_neg hne]
  unfold missTo
  have h1 : (((List.range (cntN L)).map (fun i : Nat => (i : Int))).filter (fun n => hasN L n)).length = (L.map (·.num)).length := by
    refine perm_len ((range_nodup _).filter _) h.nd (fun x => ?_)
    rw [List.mem_filter, hasN_iff]
    constructor
    · exact fun q => q.2
    · intro q
      refine ⟨?_, q⟩
      have := h.nums x q
      exact List.mem_map.2 ⟨x.toNat, by simp; omega, by omega⟩
  have h2 : ∀ (q : List Int), (q.filter (fun n => hasN L n)).length + (q.filter (fun n => !hasN L n)).length = q.length := by
    intro q
    induction q with
    | nil => rfl
    | cons x r ih =>
      cases hx : hasN L x <;> simp [hx] <;> omega
  have h3 := h2 ((List.range (cntN L)).map (fun i : Nat => (i : Int)))
  rw [h1] at h3
  simp at h3 ⊢
  omega
end Go.Proofs.Ytogiiefaakejlaa
