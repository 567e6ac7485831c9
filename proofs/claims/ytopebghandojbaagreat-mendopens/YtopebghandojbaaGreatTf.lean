import Derived.Test.YtopebghandojbaaGreatTk
import Derived.Test.YtopebghandojbaaGreatJo
import Derived.Lib.Join
import Derived.Test.YtopebghandojbaaGreatUb
namespace Go.Proofs.YtopebghandojbaaGreat
open Go.RowKit Go.Maps

/-- a slice that reads as strings -/
def SLie (w : World) (v : Value) (l : List ByteArray) : Prop :=
  ∃ ao cap, v = .slice ao l.length cap ∧ l.length ≤ cap ∧ cap ≤ maxLen ∧ ∀ i (hi : i < l.length), ∃ gb off, ao = some ⟨gb, off, none⟩ ∧ gb < w.heap.size ∧ w.cell? ⟨gb, off + i, none⟩ = some (.string l[i])
theorem SLie.below {w w' : World} {v : Value} {l : List ByteArray} (h : SLie w v l) (k : Below w.heap.size w w') : SLie w' v l := by
  obtain ⟨ao, cap, e, h1, h2, h3⟩ := h
  refine ⟨ao, cap, e, h1, h2, fun i hi => ?_⟩
  obtain ⟨gb, off, e1, hg, c0⟩ := h3 i hi
  exact ⟨gb, off, e1, Nat.lt_of_lt_of_le hg k.size, (k.cell (p := ⟨gb, off + i, none⟩) hg).trans c0⟩
/-- a slice that reads as numbers -/
def ILie (w : World) (v : Value) (l : List Int) : Prop :=
  ∃ ao cap, v = .slice ao l.length cap ∧ l.length ≤ cap ∧ cap ≤ maxLen ∧ ∀ i (hi : i < l.length), ∃ gb off, ao = some ⟨gb, off, none⟩ ∧ gb < w.heap.size ∧ w.cell? ⟨gb, off + i, none⟩ = some (.int .i64 l[i])
theorem ILie.below {w w' : World} {v : Value} {l : List Int} (h : ILie w v l) (k : Below w.heap.size w w') : ILie w' v l := by
  obtain ⟨ao, cap, e, h1, h2, h3⟩ := h
  refine ⟨ao, cap, e, h1, h2, fun i hi => ?_⟩
  obtain ⟨gb, off, e1, hg, c0⟩ := h3 i hi
  exact ⟨gb, off, e1, Nat.lt_of_lt_of_le hg k.size, (k.cell (p := ⟨gb, off + i, none⟩) hg).trans c0⟩
/-- strings, one behind the other -/
def allD (l : List ByteArray) : List UInt8 := (l.map (·.data.toList)).flatten
theorem join_all (l : List ByteArray) : Lib.join (l.map (·.data.toList)) [] = allD l := by
  unfold allD
  cases l with
  | nil => rfl
  | cons x r => rw [List.map_cons, Lib.join_cons]; simp [Lib.joinTail, Function.comp_def]
theorem isSeq_any (n : Int) (w : World) : Calls Tryz.prog 138 #[.int .i64 n] w fun e w' => e = .returned (.bool (decide (1 ≤ n ∧ n ≤ 1099511627776))) ∧ w' = w := by
  by_cases h1 : 1 ≤ n
  · go_enter Tryz.func138, Tryz.ntmps138
    go_wp2
    go_ret
    exact ⟨by simp [h1], rfl⟩
  · go_enter Tryz.func138, Tryz.ntmps138
    go_wp2
    go_ret
    exact ⟨by have : ¬ (1 ≤ n) := by omega
              simp [this], rfl⟩
theorem dsum_any (v : Value) (l : List ByteArray) (w : World) (h : SLie w v l) (hb : (allD l).length ≤ 140737488355328) (hn : l.length ≤ 140737488355328) : Calls Tryz.prog 132 #[v] w fun e w' => e = .returned (.int .i64 (crc (allD l))) ∧ Below w.heap.size w w' := by
  have hJ : Calls Tryz.prog 145 #[v, .string ByteArray.empty] w fun e w' => e = .returned (.string (st (allD l))) ∧ Below w.heap.size w w' := by
    obtain ⟨ao, cap, rfl, hlc, hcm, hcell⟩ := h
    cases l with
    | nil => exact (Tryz.strings_Join_none ao cap ByteArray.empty w).mono fun e w' ⟨he, hw⟩ => ⟨he, hw ▸ Below.refl _ _⟩
    | cons x r =>
      obtain ⟨gb, off, rfl, hg, _⟩ := hcell 0 (by simp)
      have e0 : (ByteArray.empty).data.toList = [] := rfl
      have hc : ∀ (j : Nat) y, (x :: r)[j]? = some y → w.cell? ⟨gb, off + j, none⟩ = some (.string y) := by
        intro j y hy
        obtain ⟨hj, e⟩ := List.getElem?_eq_some_iff.1 hy
        obtain ⟨gb', off', e1, _, c⟩ := hcell j hj
        cases e1
        rw [← e]; exact c
      have := Tryz.strings_Join gb off cap (x :: r) ByteArray.empty w hc hg hn hlc (by rw [e0, join_all]; exact hb)
      rw [e0, join_all] at this
      exact this
  have HJ := hid hJ
  have HS := hid (fun w => sumOf (st (allD l)) (by rw [st_size]; unfold maxLen; omega) w)
  rw [st_list] at HS
  obtain ⟨s, hs⟩ : ∃ s, s = st (allD l) := ⟨_, rfl⟩
  obtain ⟨c, hc⟩ : ∃ c, c = crc (allD l) := ⟨_, rfl⟩
  rw [← hs] at HJ HS
  rw [← hc] at HS ⊢
  clear hs hc h hJ hb hn
  go_enter Tryz.func132, Tryz.ntmps132
  go_wp2_with (first
    | (go_at_call 145; refine (HJ.out).mono ?_; rintro e w1 ⟨rfl, hb1⟩; have HB1 := hid hb1; clear hb1)
    | (go_at_call 141; refine (HS.out _).mono ?_; rintro e w2 ⟨rfl, hw⟩; have hw := hw.symm; subst hw))
  go_ret
  exact ⟨rfl, HB1.out⟩
/-- each of a block's size? -/
def blocksB (l : List ByteArray) : Bool := l.all fun b => decide (b.size = 128)
theorem blocksB_cons (x : ByteArray) (l : List ByteArray) : blocksB (x :: l) = (decide (x.size = 128) && blocksB l) := rfl
set_option maxRecDepth 100000 in
set_option maxHeartbeats 2000000 in
theorem areBlocks_any (v : Value) (l : List ByteArray) (w : World) (h : SLie w v l) : Calls Tryz.prog 131 #[v] w fun e w' => e = .returned (.bool (blocksB l)) ∧ w' = w := by
  obtain ⟨ao, cap, rfl, hlc, hcm, hcell⟩ := h
  have HC := hid hcell
  clear hcell
  unfold maxLen at hcm
  obtain ⟨A, hA⟩ : ∃ A : Bool, A = blocksB l := ⟨_, rfl⟩
  rw [← hA]
  have HA := hid hA
  clear hA
  go_enter Tryz.func131, Tryz.ntmps131
  go_wp2
  go_loopw [7] (fun i wr => ∃ (q : Nat), i = .int .i64 q ∧ q ≤ l.length ∧ blocksB l = blocksB (l.drop q) ∧ wr = w) (fun i _ => l.length - (intOf i).toNat)
  case atStart => exact ⟨0, rfl, Nat.zero_le _, rfl, rfl⟩
  case round =>
    obtain ⟨q, rfl, hq, hr, hw⟩ := hrel
    subst hw
    have HRR := hid hr
    clear hr
    by_cases hqk : q < l.length
    · obtain ⟨gb, off, e, hgl, c0⟩ := HC.out q hqk
      subst e
      have HD := hid (drop_at l q hqk)
      obtain ⟨c, hc⟩ : ∃ c, c = l[q] := ⟨_, rfl⟩
      rw [← hc] at c0 HD
      clear hc
      have HN : Hid (blocksB l = (decide (c.size = 128) && blocksB (l.drop (q + 1)))) := by
        show _ = _
        rw [HRR.out, HD.out]; rfl
      by_cases hd : c.size = 128
      · go_wp2
        go_roundw
        case rel => exact ⟨q + 1, by go_num, by omega, by rw [HN.out]; simp [hd], trivial⟩
        case measure => simp [intOf]; omega
      · have hdb : (((c.size : Nat) : Int) != 128) = true := by simp; omega
        go_wp2
        go_ret
        exact ⟨by rw [HA.out, HN.out]; simp [hd], rfl⟩
    · have hqe : q = l.length := by omega
      subst hqe
      go_wp2
      go_ret
      exact ⟨by rw [HA.out, HRR.out, List.drop_length]; rfl, rfl⟩
/-- rising places -/
def risesI (last : Int) : List Int → Bool
  | [] => true
  | p :: l => decide (last < p) && (decide (p < 1024) && risesI p l)
def placesB (l : List Int) : Bool := risesI (-1) l && decide (l.length ≤ 48)
end Go.Proofs.YtopebghandojbaaGreat
namespace Go.Proofs.YtopebghandojbaaGreat
open Go.RowKit Go.Maps

/-- places, as they are written -/
def plE (ps : List Int) : List UInt8 := ps.flatMap fun p => fEnc p.toNat 2
theorem plE_snoc (ps : List Int) (p : Int) : plE (ps ++ [p]) = plE ps ++ fEnc p.toNat 2 := by simp [plE]
theorem plE_len : ∀ ps : List Int, (plE ps).length = 2 * ps.length
  | [] => rfl
  | p :: ps => by
    have := plE_len ps
    unfold plE at *
    rw [List.flatMap_cons, List.length_append, this, fEnc_len]
    simp; omega
/-- a head's text -/
def headL (seq : Nat) (ps : List Int) (sm : Nat) : List UInt8 := [84] ++ (fEnc seq 8 ++ fEnc ps.length 1 ++ plE ps ++ fEnc sm 4)
theorem headL_len (seq : Nat) (ps : List Int) (sm : Nat) : (headL seq ps sm).length = 14 + 2 * ps.length := by
  unfold headL
  simp only [List.length_append, fEnc_len, plE_len, List.length_cons, List.length_nil]
  omega
theorem fits_1 (n : Nat) (h : n < 256) : fitsB n 1 = true := by
  unfold fitsB sized; simp; omega
theorem fits_2 (n : Nat) (h : n < 65536) : fitsB n 2 = true := by
  unfold fitsB sized; simp; omega
theorem fits_4 (n : Nat) (h : n < 4294967296) : fitsB n 4 = true := by
  unfold fitsB sized; simp; omega
theorem fits_8 (n : Nat) : fitsB n 8 = true := by
  unfold fitsB sized; simp
theorem kept3 {base g k : Nat} {w w' : World} {o : Obj} (h : Kept base g w w') (hk : w.heap[k]? = some o) (h1 : k < base) (h2 : k ≠ g) : w'.heap[k]? = some o := (h.block k h1 h2).trans hk
set_option maxRecDepth 100000 in
set_option maxHeartbeats 2000000 in
theorem text_any (seq : Nat) (v : Value) (ps : List Int) (sm : Nat) (hseq : seq ≤ 9223372036854775807) (hps : ∀ p ∈ ps, 0 ≤ p ∧ p < 65536) (hpl : ps.length < 256) (hsm : sm < 4294967296) (w : World) (h : ILie w v ps) :
    Calls Tryz.prog 139 #[.agg #[.int .i64 seq, v, .int .i64 sm]] w fun e w' => e = .returned (.string (st (headL seq ps sm))) ∧ Below w.heap.size w w' := by
  obtain ⟨ao, cap, rfl, hlc, hcm, hcell⟩ := h
  have HC := hid hcell
  have HP := hid hps
  clear hcell hps
  unfold maxLen at hcm
  obtain ⟨l1, hl1⟩ : ∃ l, l = fEnc seq 8 := ⟨_, rfl⟩
  obtain ⟨l2, hl2⟩ : ∃ l, l = l1 ++ fEnc ps.length 1 := ⟨_, rfl⟩
  have n1 : l1.length ≤ 100 := by rw [hl1, fEnc_len]; omega
  have n2 : l2.length ≤ 200 := by rw [hl2, List.length_append, fEnc_len]; omega
  have HF1 := hid (fun (base g : Nat) w h1 h2 => fixed_w base g seq 8 [] (by omega) (by decide) (fits_8 _) (by decide) w h1 h2)
  have HF2 := hid (fun (base g : Nat) w h1 h2 => fixed_w base g ps.length 1 l1 (by omega) (by decide) (fits_1 _ hpl) (by omega) w h1 h2)
  rw [List.nil_append, ← hl1] at HF1
  rw [← hl2] at HF2
  have HL1 := hid hl1
  have HL2 := hid hl2
  clear hl1 hl2
  go_enter Tryz.func139, Tryz.ntmps139
  have HV0 := hid (box_at w (.cells #[.int .i64 seq, .slice ao ps.length cap, .int .i64 sm] 209))
  have HB0 := hid (below_alloc w (.cells #[.int .i64 seq, .slice ao ps.length cap, .int .i64 sm] 209))
  obtain ⟨q0, q1, q2⟩ := three_cells HV0.out
  go_wp2_with (go_at_call 86; fail)
  obtain ⟨w0, hw0⟩ : ∃ w0, w0 = w.alloc (.cells #[.int .i64 seq, .slice ao ps.length cap, .int .i64 sm] 209) := ⟨_, rfl⟩
  rw [← hw0] at HV0 HB0 q0 q1 q2 ⊢
  clear hw0
  have hlt := lt_of_block HV0.out
  refine (new_any _).mono ?_
  rintro e w1 ⟨rfl, rfl⟩
  have HW0 := hid (WIs.new w0 w0.heap.size)
  go_wp2_with (first
    | (go_at_call 87; have hk := HW1; clear hk; refine (HF2.out _ _ _ HW1.out (by omega)).mono ?_; rintro e w4 ⟨rfl, hw4, hk4⟩; have HV4 := hid (kept3 hk4 HV3.out hlt (by omega)); have HW2 := hid hw4; have HK4 := hid hk4; have hz4 := hk4.size; clear hw4 hk4 q0 q1 q2; obtain ⟨q0, q1, q2⟩ := three_cells HV4.out)
    | (go_at_call 87; refine (HF1.out _ _ _ HW0.out (by simp)).mono ?_; rintro e w3 ⟨rfl, hw3, hk3⟩; have HV3 := hid (kept3 hk3 ((Below.heap_alloc _ _ _ hlt).trans HV0.out) hlt (by omega)); have HW1 := hid hw3; have HK3 := hid hk3; have hz3 := hk3.size; simp at hz3; clear hw3 hk3 q0 q1 q2; obtain ⟨q0, q1, q2⟩ := three_cells HV3.out))
  clear q0 q1 q2
  go_loopw [19] (fun i wr => ∃ (q : Nat), i = .int .i64 q ∧ q ≤ ps.length ∧ WIs w0.heap.size w0.heap.size wr (l2 ++ plE (ps.take q)) ∧ Kept w0.heap.size w0.heap.size w4 wr) (fun i _ => ps.length - (intOf i).toNat)
  case atStart => exact ⟨0, rfl, Nat.zero_le _, by simpa [plE] using HW2.out, Kept.refl _ _ _⟩
  case round =>
    obtain ⟨q, rfl, hq, hWq, hKq⟩ := hrel
    have HWq := hid hWq
    have HKq := hid hKq
    have hzq := hKq.size
    clear hWq hKq
    have hpq : (plE (ps.take q)).length ≤ 512 := by rw [plE_len, List.length_take]; omega
    by_cases hqk : q < ps.length
    · obtain ⟨gb, off, e, hgl, c0⟩ := HC.out q hqk
      subst e
      have hp := HP.out _ (List.getElem_mem hqk)
      obtain ⟨n, hn⟩ : ∃ n : Nat, ps[q] = (n : Int) := ⟨ps[q].toNat, by omega⟩
      have HT : Hid (plE (ps.take (q + 1)) = plE (ps.take q) ++ fEnc n 2) := by
        show _ = _
        rw [List.take_succ_eq_append_getElem hqk, plE_snoc, hn]; rfl
      rw [hn] at c0 hp
      clear hn
      have hkb : ∀ k, k < w.heap.size → wr.heap[k]? = w.heap[k]? := fun k hk => by
        have h1 := HKq.out.block k (by omega) (by omega)
        have h2 := HK4.out.block k (by omega) (by omega)
        have h3 := HK3.out.block k (by omega) (by omega)
        have h4 := Below.heap_alloc w0 (.cells #[.slice none 0 0] 201) k (by omega)
        exact (h1.trans (h2.trans (h3.trans (h4.trans (HB0.out.block k hk)))))
      have hc : wr.cell? ⟨gb, off + q, none⟩ = some (.int .i64 (n : Int)) := by
        rw [← c0]; unfold World.cell?; rw [hkb gb hgl]
      have hgr : gb < wr.heap.size := by omega
      clear c0 hkb
      have HF := hid (fixed_w w0.heap.size w0.heap.size n 2 (l2 ++ plE (ps.take q)) (by omega) (by decide) (fits_2 _ (by omega)) (by rw [List.length_append]; omega) wr HWq.out (by omega))
      go_wp2_with (first
        | (go_at_call 87; refine (HF.out).mono ?_; rintro e w5 ⟨rfl, hw5, hk5⟩))
      go_roundw
      case rel => exact ⟨q + 1, by go_num, by omega, by rw [HT.out, ← List.append_assoc]; exact hw5, HKq.out.trans hk5⟩
      case measure => simp [intOf]; omega
    · have hqe : q = ps.length := by omega
      subst hqe
      rw [List.take_length] at HWq hpq
      have HVq := hid (kept3 HKq.out HV4.out hlt (by omega))
      obtain ⟨q0, q1, q2⟩ := three_cells HVq.out
      obtain ⟨l3, hl3⟩ : ∃ l, l = l2 ++ plE ps := ⟨_, rfl⟩
      obtain ⟨l4, hl4⟩ : ∃ l, l = l3 ++ fEnc sm 4 := ⟨_, rfl⟩
      rw [← hl3] at HWq
      have n3 : l3.length ≤ 1000 := by rw [hl3, List.length_append]; omega
      have n4 : l4.length ≤ 1004 := by rw [hl4, List.length_append, fEnc_len]; omega
      have HF := hid (fixed_w w0.heap.size w0.heap.size sm 4 l3 (by omega) (by decide) (fits_4 _ hsm) (by omega) wr HWq.out (by omega))
      rw [← hl4] at HF
      obtain ⟨o, ho⟩ : ∃ o, o = st l4 := ⟨_, rfl⟩
      have HO := hid (fun base g w h => out_w base g l4 w h)
      rw [← ho] at HO
      have hos : o.size ≤ 1004 := by rw [ho, st_size]; exact n4
      have HE : Hid ({ data := #[84] } ++ o = st (headL seq ps sm)) := by
        show _ = _
        rw [ho, hl4, hl3, HL2.out, HL1.out, headL]; apply ByteArray.ext; simp [st]
      clear hl3 hl4 ho
      go_wp2_with (first
        | (go_at_call 87; refine (HF.out).mono ?_; rintro e w5 ⟨rfl, hw5, hk5⟩; have HW5 := hid hw5; have HK5 := hid hk5; clear hw5 hk5)
        | (go_at_call 89; refine (HO.out _ _ _ HW5.out).mono ?_; rintro e w6 ⟨rfl, hw6⟩; have hw6 := hw6.symm; subst hw6))
      go_ret
      refine ⟨by rw [← HE.out]; rfl, ?_⟩
      have k1 : Below w0.heap.size w0 w5 := ((((below_alloc w0 _).trans (HK3.out.below (Nat.le_refl _) (Nat.le_refl _))).trans (HK4.out.below (Nat.le_refl _) (Nat.le_refl _))).trans (HKq.out.below (Nat.le_refl _) (Nat.le_refl _))).trans (HK5.out.below (Nat.le_refl _) (Nat.le_refl _))
      exact HB0.out.next k1
end Go.Proofs.YtopebghandojbaaGreat
namespace Go.Proofs.YtopebghandojbaaGreat
open Go.RowKit Go.Maps

/-- a row of the call's own: S -/
def SRow (base : Nat) (w : World) (v : Value) (l : List ByteArray) : Prop := w.ownsRow base 9 1 v l.length (l.map Value.string)
theorem Tryz.infoR9 : (Tryz.prog.info? 9).map (fun i => (i.zero, i.size, i.bytes)) = some (some (.string ⟨#[]⟩), 1, 16) := by kernel_rfl
theorem SRow.nil (base : Nat) (w : World) : SRow base w (.slice none 0 0) [] := ⟨rfl, .inl ⟨rfl, rfl⟩⟩
theorem SRow.below {base : Nat} {w w' : World} {v : Value} {l : List ByteArray} (h : SRow base w v l) (k : Below w.heap.size w w') : SRow base w' v l := by
  obtain ⟨e1, e2 | ⟨x, cap, cur, e3, e4, e5, e6⟩⟩ := h
  · exact ⟨e1, .inl e2⟩
  · exact ⟨e1, .inr ⟨x, cap, cur, e3, e4, (k.block x (lt_of_block e5)).trans e5, e6⟩⟩
theorem SRow.same {base : Nat} {w w' : World} {v : Value} {l : List ByteArray} (h : SRow base w v l) (k : ∀ x, v.ownBlock = some x → w'.heap[x]? = w.heap[x]?) : SRow base w' v l := by
  obtain ⟨e1, e2 | ⟨x, cap, cur, rfl, e4, e5, e6⟩⟩ := h
  · exact ⟨e1, .inl e2⟩
  · exact ⟨e1, .inr ⟨x, cap, cur, rfl, e4, (k x rfl).trans e5, e6⟩⟩
theorem SRow.own {base : Nat} {w : World} {v : Value} {l : List ByteArray} (h : SRow base w v l) : ∀ x, v.ownBlock = some x → base ≤ x ∧ ∃ cur, w.heap[x]? = some (.cells cur 9 (0, 0)) := by
  obtain ⟨e1, ⟨rfl, _⟩ | ⟨x, cap, cur, rfl, e4, e5, e6⟩⟩ := h
  · intro x hx; cases hx
  · intro y hy; cases hy; exact ⟨e4, _, e5⟩
theorem SRow.len {base : Nat} {w : World} {v : Value} {l : List ByteArray} (h : SRow base w v l) : ∃ ao cap, v = .slice ao l.length cap ∧ l.length ≤ cap ∧ cap ≤ maxLen := by
  rcases h.2 with ⟨rfl, hz⟩ | ⟨gb, cap, cur, rfl, _, _, r1, r2, _⟩
  · exact ⟨none, 0, by rw [hz], by omega, by decide⟩
  · exact ⟨_, cap, rfl, r1, r2⟩
theorem SRow.lie {base : Nat} {w : World} {v : Value} {l : List ByteArray} (h : SRow base w v l) : SLie w v l := by
  rcases h.2 with ⟨rfl, hz⟩ | ⟨gb, cap, cur, rfl, hbase, hgb, r1, r2, r3, r4⟩
  · have : l = [] := List.eq_nil_of_length_eq_zero hz
    subst this
    exact ⟨none, 0, rfl, Nat.le_refl _, by decide, fun i hi => by simp at hi⟩
  · refine ⟨_, cap, rfl, r1, r2, fun i hi => ⟨gb, 0, rfl, lt_of_block hgb, ?_⟩⟩
    have e1 : cur.toList[i]? = (l.map Value.string)[i]? := by rw [← r4, List.getElem?_take_of_lt (by omega)]
    rw [Array.getElem?_toList, List.getElem?_map, List.getElem?_eq_getElem hi] at e1
    simp [World.cell?, hgb, e1]
theorem pushS {ops : Array Oper} {rest : List Oper} {o : Oper} {a : Act} {Q : Exit → Act → World → Prop} {w0 : World} (hgd : o.guard = none) (s x : Operand)
    (ho : o.op = .call { callee := .builtin .append, args := #[s, x], argTypes := #[55, 55] }) (B1 bb : Nat) (v : Value) (T : List ByteArray) (y : ByteArray)
    (hs : a.eval s = v) (hx : a.eval x = .slice (some ⟨bb, 0, none⟩) 1 1) (hbb : bb = w0.heap.size) (hA : SRow B1 w0 v T) (hn : T.length ≤ 2000) (hbase : B1 ≤ w0.heap.size)
    (h : ∀ v' w', SRow B1 w' v' (T ++ [y]) → Below B1 w0 w' → (∀ k, k < w0.heap.size → some k ≠ v.ownBlock → w'.heap[k]? = w0.heap[k]?) → wpList Tryz.prog ops Q rest (a.put o.dst v') w') :
    wpList Tryz.prog ops Q (o :: rest) a (w0.alloc (.cells #[.string y] 9)) := by
  subst hbb
  obtain ⟨i0, hi, hz0, hz1, hz2⟩ := info_parts Tryz.infoR9
  have ho2 := hA.own
  refine wpList_append_own _ hgd s x 55 ho B1 9 i0 (.string ⟨#[]⟩) 1 16 Tryz.underlying55 hi hz0 hz1 hz2 rfl (by decide) v T.length (T.map Value.string) hs (World.ownsRow.alloc hA _) ⟨w0.heap.size, 0, none⟩ 1 1 [.string y] hx rfl (by
      intro j u hu
      match j, hu with
      | 0, hu => simp at hu; subst hu; simp [Addr.add]
      | j + 1, hu => simp at hu) (by intro u hu; simp at hu; subst hu; rfl) (by unfold maxLen; omega) (by omega) (by simp; omega) ?_
  intro v' w' hown hg _
  refine h v' w' ?_ ?_ (fun k hk hne => (hg.block k (by simp; omega) hne).trans (Below.heap_alloc _ _ k hk))
  · unfold SRow
    rw [List.map_append, List.length_append]
    exact hown
  · refine (below_alloc w0 (.cells #[.string y] 9)).mono hbase |>.trans ⟨hg.os, hg.tape, hg.output, hg.size, fun k hk => hg.block k ?_ ?_⟩
    · simp; omega
    · intro e
      have := (ho2 k e.symm).1
      omega

/-- a row of the call's own: I -/
def IRow (base : Nat) (w : World) (v : Value) (l : List Int) : Prop := w.ownsRow base 3 1 v l.length (l.map (Value.int .i64))
theorem Tryz.infoR3 : (Tryz.prog.info? 3).map (fun i => (i.zero, i.size, i.bytes)) = some (some (.int .i64 0), 1, 8) := by kernel_rfl
theorem IRow.nil (base : Nat) (w : World) : IRow base w (.slice none 0 0) [] := ⟨rfl, .inl ⟨rfl, rfl⟩⟩
theorem IRow.below {base : Nat} {w w' : World} {v : Value} {l : List Int} (h : IRow base w v l) (k : Below w.heap.size w w') : IRow base w' v l := by
  obtain ⟨e1, e2 | ⟨x, cap, cur, e3, e4, e5, e6⟩⟩ := h
  · exact ⟨e1, .inl e2⟩
  · exact ⟨e1, .inr ⟨x, cap, cur, e3, e4, (k.block x (lt_of_block e5)).trans e5, e6⟩⟩
theorem IRow.same {base : Nat} {w w' : World} {v : Value} {l : List Int} (h : IRow base w v l) (k : ∀ x, v.ownBlock = some x → w'.heap[x]? = w.heap[x]?) : IRow base w' v l := by
  obtain ⟨e1, e2 | ⟨x, cap, cur, rfl, e4, e5, e6⟩⟩ := h
  · exact ⟨e1, .inl e2⟩
  · exact ⟨e1, .inr ⟨x, cap, cur, rfl, e4, (k x rfl).trans e5, e6⟩⟩
theorem IRow.own {base : Nat} {w : World} {v : Value} {l : List Int} (h : IRow base w v l) : ∀ x, v.ownBlock = some x → base ≤ x ∧ ∃ cur, w.heap[x]? = some (.cells cur 3 (0, 0)) := by
  obtain ⟨e1, ⟨rfl, _⟩ | ⟨x, cap, cur, rfl, e4, e5, e6⟩⟩ := h
  · intro x hx; cases hx
  · intro y hy; cases hy; exact ⟨e4, _, e5⟩
theorem IRow.len {base : Nat} {w : World} {v : Value} {l : List Int} (h : IRow base w v l) : ∃ ao cap, v = .slice ao l.length cap ∧ l.length ≤ cap ∧ cap ≤ maxLen := by
  rcases h.2 with ⟨rfl, hz⟩ | ⟨gb, cap, cur, rfl, _, _, r1, r2, _⟩
  · exact ⟨none, 0, by rw [hz], by omega, by decide⟩
  · exact ⟨_, cap, rfl, r1, r2⟩
theorem IRow.lie {base : Nat} {w : World} {v : Value} {l : List Int} (h : IRow base w v l) : ILie w v l := by
  rcases h.2 with ⟨rfl, hz⟩ | ⟨gb, cap, cur, rfl, hbase, hgb, r1, r2, r3, r4⟩
  · have : l = [] := List.eq_nil_of_length_eq_zero hz
    subst this
    exact ⟨none, 0, rfl, Nat.le_refl _, by decide, fun i hi => by simp at hi⟩
  · refine ⟨_, cap, rfl, r1, r2, fun i hi => ⟨gb, 0, rfl, lt_of_block hgb, ?_⟩⟩
    have e1 : cur.toList[i]? = (l.map (Value.int .i64))[i]? := by rw [← r4, List.getElem?_take_of_lt (by omega)]
    rw [Array.getElem?_toList, List.getElem?_map, List.getElem?_eq_getElem hi] at e1
    simp [World.cell?, hgb, e1]
theorem pushI {ops : Array Oper} {rest : List Oper} {o : Oper} {a : Act} {Q : Exit → Act → World → Prop} {w0 : World} (hgd : o.guard = none) (s x : Operand)
    (ho : o.op = .call { callee := .builtin .append, args := #[s, x], argTypes := #[154, 154] }) (B1 bb : Nat) (v : Value) (T : List Int) (y : Int)
    (hs : a.eval s = v) (hx : a.eval x = .slice (some ⟨bb, 0, none⟩) 1 1) (hbb : bb = w0.heap.size) (hA : IRow B1 w0 v T) (hn : T.length ≤ 2000) (hbase : B1 ≤ w0.heap.size)
    (h : ∀ v' w', IRow B1 w' v' (T ++ [y]) → Below B1 w0 w' → (∀ k, k < w0.heap.size → some k ≠ v.ownBlock → w'.heap[k]? = w0.heap[k]?) → wpList Tryz.prog ops Q rest (a.put o.dst v') w') :
    wpList Tryz.prog ops Q (o :: rest) a (w0.alloc (.cells #[.int .i64 y] 3)) := by
  subst hbb
  obtain ⟨i0, hi, hz0, hz1, hz2⟩ := info_parts Tryz.infoR3
  have ho2 := hA.own
  refine wpList_append_own _ hgd s x 154 ho B1 3 i0 (.int .i64 0) 1 8 Tryz.underlying154 hi hz0 hz1 hz2 rfl (by decide) v T.length (T.map (Value.int .i64)) hs (World.ownsRow.alloc hA _) ⟨w0.heap.size, 0, none⟩ 1 1 [.int .i64 y] hx rfl (by
      intro j u hu
      match j, hu with
      | 0, hu => simp at hu; subst hu; simp [Addr.add]
      | j + 1, hu => simp at hu) (by intro u hu; simp at hu; subst hu; rfl) (by unfold maxLen; omega) (by omega) (by simp; omega) ?_
  intro v' w' hown hg _
  refine h v' w' ?_ ?_ (fun k hk hne => (hg.block k (by simp; omega) hne).trans (Below.heap_alloc _ _ k hk))
  · unfold IRow
    rw [List.map_append, List.length_append]
    exact hown
  · refine (below_alloc w0 (.cells #[.int .i64 y] 3)).mono hbase |>.trans ⟨hg.os, hg.tape, hg.output, hg.size, fun k hk => hg.block k ?_ ?_⟩
    · simp; omega
    · intro e
      have := (ho2 k e.symm).1
      omega

theorem mkS (n : Nat) (hn : n ≤ 100) : ∃ cs, (∀ w : World, (Instr.makeSlice 55 (.int .i64 1) (.int .i64 (1 + (n : Int)))).run Tryz.prog w = .ok (.slice (some ⟨w.heap.size, 0, none⟩) 1 (1 + n)) (w.alloc (.cells cs 9))) ∧ ∀ w : World, SRow w.heap.size (w.alloc (.cells cs 9)) (.slice (some ⟨w.heap.size, 0, none⟩) 1 (1 + n)) [ByteArray.empty] := by
  obtain ⟨i0, hi, hz0, hz1, hz2⟩ := info_parts Tryz.infoR9
  refine ⟨madeCells (Value.string ⟨#[]⟩).cells (1 + n), fun w => ?_, fun w => ?_⟩
  · have := run_makeSlice (P := Tryz.prog) w 55 9 i0 (.string ⟨#[]⟩) Tryz.underlying55 hi hz0 .i64 .i64 1 (1 + (n : Int)) (by decide) (by omega) (by rw [hz1]; omega) (by rw [hz2]; omega) (by omega)
    have e1 : (1 + (n : Int)).toNat = 1 + n := by omega
    have e2 : (1 : Int).toNat = 1 := rfl
    rw [e1, e2, hz1, Nat.mul_one] at this
    exact this
  · refine ⟨rfl, .inr ⟨w.heap.size, 1 + n, _, rfl, Nat.le_refl _, box_at _ _, by simp, by unfold maxLen; omega, by simp [size_madeCells], ?_⟩⟩
    rw [show 1 + n = n + 1 by omega]
    simp [madeCells, Value.cells, Array.toList_range, List.range_succ_eq_map]
    rfl
theorem encode_arg (seq : Int) (v : Value) (h : ¬ (1 ≤ seq ∧ seq ≤ 1099511627776)) (w : World) : Calls Tryz.prog 112 #[.int .i64 seq, v] w fun e w' => e = .returned (.tuple #[.slice none 0 0, .int .i64 1]) ∧ w' = w := by
  have HI := hid (isSeq_any seq)
  rw [decide_eq_false h] at HI
  clear h
  go_enter Tryz.func112, Tryz.ntmps112
  go_wp2_with (first | (go_at_call 138; refine (HI.out _).mono ?_; rintro e w1 ⟨rfl, hw⟩; have hw := hw.symm; subst hw))
  go_ret2
  exact ⟨rfl, rfl⟩
end Go.Proofs.YtopebghandojbaaGreat
namespace Go.Proofs.YtopebghandojbaaGreat
open Go.RowKit Go.Maps
/-- a transaction's blocks -/
def encL (seq : Nat) (l : List Chg) : List ByteArray := st (sealL (bodyL (headL seq (l.map (·.b)) (crc (allD (l.map (·.d))))))) :: l.map (·.d)
theorem three_set1 {w : World} {g : Nat} {a b c v : Value} {t : TypeId} (h : w.heap[g]? = some (.cells #[a, b, c] t (0, 0))) : (w.setCell ⟨g, 1, none⟩ v).heap[g]? = some (.cells #[a, v, c] t (0, 0)) := by
  simp [World.setCell, Array.getElem?_modify, h]
theorem three_set2 {w : World} {g : Nat} {a b c v : Value} {t : TypeId} (h : w.heap[g]? = some (.cells #[a, b, c] t (0, 0))) : (w.setCell ⟨g, 2, none⟩ v).heap[g]? = some (.cells #[a, b, v] t (0, 0)) := by
  simp [World.setCell, Array.getElem?_modify, h]
theorem set_other {w : World} {g k o : Nat} (v : Value) (h : k ≠ g) : (w.setCell ⟨g, o, none⟩ v).heap[k]? = w.heap[k]? := Below.heap_setCell _ _ _ _ h
/-- two rows lie apart -/
theorem apartSI {B : Nat} {w : World} {v u : Value} {S : List ByteArray} {I : List Int} (h : SRow B w v S) (k : IRow B w u I) : ∀ x, v.ownBlock = some x → some x ≠ u.ownBlock := by
  intro x hx e
  obtain ⟨_, c1, h1⟩ := h.own x hx
  obtain ⟨_, c2, h2⟩ := k.own x e.symm
  rw [h1] at h2
  cases h2
theorem apartIS {B : Nat} {w : World} {v u : Value} {S : List ByteArray} {I : List Int} (h : SRow B w v S) (k : IRow B w u I) : ∀ x, u.ownBlock = some x → some x ≠ v.ownBlock := by
  intro x hx e
  exact apartSI h k x e.symm hx.symm
theorem IRow.lt {B : Nat} {w : World} {v : Value} {l : List Int} (h : IRow B w v l) : ∀ x, v.ownBlock = some x → x < w.heap.size := fun x hx => by
  obtain ⟨_, c, hc⟩ := h.own x hx
  exact lt_of_block hc
theorem SRow.lt {B : Nat} {w : World} {v : Value} {l : List ByteArray} (h : SRow B w v l) : ∀ x, v.ownBlock = some x → x < w.heap.size := fun x hx => by
  obtain ⟨_, c, hc⟩ := h.own x hx
  exact lt_of_block hc
theorem below_set {B g o : Nat} {w w' : World} (v : Value) (h : Below B w w') (hg : B ≤ g) : Below B w (w'.setCell ⟨g, o, none⟩ v) := h.setCell hg _
theorem two_cells {w : World} {g : Nat} {a b : Value} {t : TypeId} (hh : w.heap[g]? = some (.cells #[a, b] t (0, 0))) : w.cell? ⟨g, 0, none⟩ = some a ∧ w.cell? ⟨g, 1, none⟩ = some b := by
  refine ⟨?_, ?_⟩ <;> simp [World.cell?, hh]
theorem lie_head {w : World} {gs cap n : Nat} {cur : Array Value} {r : ByteArray} {D : List ByteArray} (hg : w.heap[gs]? = some (.cells cur 9 (0, 0))) (hn : D.length = n) (h0 : 0 < cur.size) (hc : ∀ i (hi : i < D.length), cur[1 + i]? = some (.string D[i])) (hcap : n + 1 ≤ cap) (hm : cap ≤ maxLen) :
    SLie (w.setCell ⟨gs, 0, none⟩ (.string r)) (.slice (some ⟨gs, 0, none⟩) (n + 1) cap) (r :: D) := by
  refine ⟨_, _, by rw [List.length_cons, hn], by rw [List.length_cons, hn]; exact hcap, hm, fun i hi => ⟨gs, 0, rfl, by simpa [World.setCell] using lt_of_block hg, ?_⟩⟩
  match i, hi with
  | 0, _ => simp [World.cell?, World.setCell, Array.getElem?_modify, hg, h0]
  | i + 1, hi =>
    have := hc i (by simpa using hi)
    rw [Nat.add_comm] at this
    simp [World.cell?, World.setCell, Array.getElem?_modify, hg, this]
theorem rises_data : ∀ {last : Int} {l : List Chg}, rises last l = true → (allD (l.map (·.d))).length = 128 * l.length
  | _, [], _ => rfl
  | last, c :: l, h => by
    unfold rises at h
    simp only [Bool.and_eq_true, decide_eq_true_eq] at h
    have ih := rises_data h.2.2.2
    have hs : c.d.data.toList.length = 128 := by rw [Array.length_toList]; exact h.2.2.1
    unfold allD at *
    rw [List.map_cons, List.map_cons, List.flatten_cons, List.length_append, ih, hs, List.length_cons]
    omega
theorem rises_places : ∀ {last : Int} {l : List Chg}, -1 ≤ last → rises last l = true → ∀ p ∈ l.map (·.b), 0 ≤ p ∧ p < 1024
  | _, [], _, _, p, hp => by simp at hp
  | last, c :: l, hl, h, p, hp => by
    unfold rises at h
    simp only [Bool.and_eq_true, decide_eq_true_eq] at h
    rw [List.map_cons, List.mem_cons] at hp
    rcases hp with rfl | hp
    · omega
    · exact rises_places (by omega) h.2.2.2 p hp
theorem right_rises {l : List Chg} (h : right l = true) : rises (-1) l = true := by unfold right at h; simp at h; exact h.2
theorem allD_len {l : List Chg} (h : right l = true) : (allD (l.map (·.d))).length = 128 * l.length := rises_data (right_rises h)
theorem right_places {l : List Chg} (h : right l = true) : ∀ p ∈ l.map (·.b), 0 ≤ p ∧ p < 65536 := fun p hp => by
  have := rises_places (Int.le_refl _) (right_rises h) p hp
  omega
theorem right_len {l : List Chg} (h : right l = true) : l.length ≤ 48 := by unfold right at h; simp at h; exact h.1
set_option maxRecDepth 100000 in
set_option maxHeartbeats 4000000 in
theorem encode_ok (seq : Nat) (v : Value) (l : List Chg) (h1 : 1 ≤ seq) (h2 : seq ≤ 1099511627776) (w : World) (hC : CLie w v l) (hr : right l = true) : Calls Tryz.prog 112 #[.int .i64 seq, v] w fun e w' => ∃ v', e = .returned (.tuple #[v', .int .i64 0]) ∧ SLie w' v' (encL seq l) ∧ Below w.heap.size w w' := by
  have HI := hid (isSeq_any seq)
  rw [decide_eq_true (show (1:Int) ≤ seq ∧ (seq:Int) ≤ 1099511627776 by omega)] at HI
  have HC := hid (check_any v l w hC)
  rw [hr] at HC
  simp only [if_true] at HC
  have h48 : l.length ≤ 48 := right_len hr
  have HR := hid hr
  obtain ⟨ao, cap, rfl, hlc, hcm, hcell⟩ := hC
  have HCE := hid hcell
  unfold maxLen at hcm
  clear hcell hr
  obtain ⟨cs, hmk, hmS⟩ := mkS l.length (by omega)
  have HMS := hid hmS
  clear hmS
  go_enter Tryz.func112, Tryz.ntmps112
  go_wp2_with (first
    | (go_at_call 138; refine (HI.out _).mono ?_; rintro e w1 ⟨rfl, hw⟩; have hw := hw.symm; subst hw)
    | (go_at_call 63; refine (HC.out).mono ?_; rintro e w2 ⟨rfl, hb2⟩; have HB2 := hid hb2; clear hb2))
  clear HI HC hmk
  have HV3 := hid (box_at w2 (.cells #[.int .i64 seq, .slice none 0 0, .int .i64 0] 209))
  have HB3 := hid (below_alloc w2 (.cells #[.int .i64 seq, .slice none 0 0, .int .i64 0] 209))
  have hs3 : (w2.alloc (.cells #[.int .i64 seq, .slice none 0 0, .int .i64 0] 209)).heap.size = w2.heap.size + 1 := by simp
  have HS4 := hid (HMS.out (w2.alloc (.cells #[.int .i64 seq, .slice none 0 0, .int .i64 0] 209)))
  have HB4 := hid (below_alloc (w2.alloc (.cells #[.int .i64 seq, .slice none 0 0, .int .i64 0] 209)) (.cells cs 9))
  obtain ⟨w3, hw3⟩ : ∃ w3, w3 = w2.alloc (.cells #[.int .i64 seq, .slice none 0 0, .int .i64 0] 209) := ⟨_, rfl⟩
  rw [← hw3] at HV3 HB3 HS4 HB4 hs3 ⊢
  clear hw3
  obtain ⟨w4, hw4⟩ : ∃ w4, w4 = w3.alloc (.cells cs 9) := ⟨_, rfl⟩
  rw [← hw4] at HS4 HB4 ⊢
  clear hw4
  have hlt3 := lt_of_block HV3.out
  go_loopw [8, 27] (fun bv i wr => ∃ (q : Nat) (pv : Value), i = .int .i64 q ∧ q ≤ l.length ∧ SRow w3.heap.size wr bv (ByteArray.empty :: (l.take q).map (·.d)) ∧ IRow w3.heap.size wr pv ((l.take q).map (·.b)) ∧ wr.heap[w2.heap.size]? = some (.cells #[.int .i64 seq, pv, .int .i64 0] 209 (0, 0)) ∧ Below w2.heap.size w2 wr ∧ w3.heap.size ≤ wr.heap.size) (fun _ i _ => l.length - (intOf i).toNat)
  case atStart => exact ⟨0, _, rfl, Nat.zero_le _, by rw [← hs3]; exact HS4.out, IRow.nil _ _, (HB4.out.block _ hlt3).trans HV3.out, HB3.out.next HB4.out, HB4.out.size⟩
  case round =>
    obtain ⟨q, pv, rfl, hq, hSq, hIq, hVq, hBq, hzq⟩ := hrel
    obtain ⟨P, hP⟩ : ∃ P, P = (l.take q).map (·.b) := ⟨_, rfl⟩
    obtain ⟨S, hS⟩ : ∃ S, S = ByteArray.empty :: (l.take q).map (·.d) := ⟨_, rfl⟩
    have hln : P.length ≤ 48 := by rw [hP]; simp; omega
    have hln2 : S.length ≤ 49 := by rw [hS]; simp; omega
    rw [← hP] at hIq
    rw [← hS] at hSq
    have HP := hid hP
    have HS := hid hS
    clear hP hS
    have HSq := hid hSq
    have HIq := hid hIq
    have HVq := hid hVq
    have HBq := hid hBq
    clear hSq hIq hVq hBq
    obtain ⟨pao, pcap, hpv, hpl, hpm⟩ := HIq.out.len
    obtain ⟨sao, scap, hsv, hsl, hsm⟩ := HSq.out.len
    by_cases hqk : q < l.length
    · obtain ⟨gb, off, e, hgl, c0, c1⟩ := HCE.out q hqk
      subst e
      have HT := hid (List.take_succ_eq_append_getElem hqk)
      obtain ⟨c, hc⟩ : ∃ c, c = l[q] := ⟨_, rfl⟩
      rw [← hc] at c0 c1 HT
      clear hc
      have HBw : Hid (Below w.heap.size w wr) := HB2.out.next HBq.out
      replace c0 := (HBw.out.cell (p := ⟨gb, off + q * 2, none⟩) hgl).trans c0
      replace c1 := (HBw.out.cell (p := ⟨gb, off + q * 2 + 1, none⟩) hgl).trans c1
      have hgr : gb < wr.heap.size := Nat.lt_of_lt_of_le hgl HBw.out.size
      obtain ⟨q0, q1, q2⟩ := three_cells HVq.out
      have hfr := frees HVq.out
      have hgv := lt_of_block HVq.out
      have HCb := hid (box_at wr (.cells #[.int .i64 c.b, .string c.d] 94))
      have HB5 := hid (below_alloc wr (.cells #[.int .i64 c.b, .string c.d] 94))
      have HI5 := hid (HIq.out.below HB5.out)
      have HS5 := hid (HSq.out.below HB5.out)
      have HAP := hid (apartSI HS5.out HI5.out)
      have HPL := hid HIq.out.lt
      subst hpv
      subst hsv
      go_wp2_with (first
        | (at_builtin; refine pushI (w0 := wr.alloc (.cells #[.int .i64 c.b, .string c.d] 94)) rfl (.tmp 32) (.tmp 35) rfl w3.heap.size (wr.heap.size + 1) _ P c.b rfl rfl (by simp) HI5.out (by omega) (by have := HB5.out.size; omega) ?_
           intro v6 w6 hI6 hb6 hk6
           obtain ⟨pao6, pcap6, hv6, _, _⟩ := hI6.len
           subst hv6
           have HI6 := hid hI6
           have HB6 := hid hb6
           have HK6 := hid hk6
           have HS6 := hid (HS5.out.same (fun x hx => hk6 x (HS5.out.lt x hx) (HAP.out x hx)))
           have HC6 := hid ((hk6 _ (lt_of_block HCb.out) (fun e => by have := HPL.out _ e.symm; omega)).trans HCb.out)
           have HV6 := hid ((hb6.block _ hlt3).trans ((HB5.out.block _ hgv).trans HVq.out))
           clear hI6 hb6 hk6 q0 q1 q2 hfr
           obtain ⟨q0, q1, q2⟩ := three_cells HV6.out
           have hfr := frees HV6.out
           have hg6 := lt_of_block HV6.out
           have hc6 := lt_of_block HC6.out
           obtain ⟨z0, z1⟩ := two_cells HC6.out
           have hne : wr.heap.size ≠ w2.heap.size := by omega
           have HV7 := hid (three_set1 (v := .slice pao6 (P ++ [c.b]).length pcap6) HV6.out)
           have HI7 := hid (HI6.out.same (w' := w6.setCell ⟨w2.heap.size, 1, none⟩ (.slice pao6 (P ++ [c.b]).length pcap6)) (fun x hx => set_other _ (fun e => by have := (HI6.out.own x hx).1; omega)))
           have HS7 := hid (HS6.out.same (w' := w6.setCell ⟨w2.heap.size, 1, none⟩ (.slice pao6 (P ++ [c.b]).length pcap6)) (fun x hx => set_other _ (fun e => by have := (HS6.out.own x hx).1; omega)))
           have hz7 : (w6.setCell ⟨w2.heap.size, 1, none⟩ (.slice pao6 (P ++ [c.b]).length pcap6)).heap.size = w6.heap.size := by simp [World.setCell]
           have HPe : Hid ((P ++ [c.b]).length = P.length + 1) := by show _ = _; simp
           rw [HPe.out] at HV7 HI7 HS7 hz7 ⊢
           have hb6s := HB6.out.size)
        | (at_builtin; refine pushS (w0 := w6.setCell ⟨w2.heap.size, 1, none⟩ (.slice pao6 (P.length + 1) pcap6)) rfl (.tmp 38) (.tmp 41) rfl w3.heap.size w6.heap.size _ S c.d rfl rfl (by rw [hz7]) HS7.out (by omega) (by rw [hz7]; have := HB5.out.size; omega) ?_; intro v8 w8 hS8 hb8 hk8))
      go_roundw
      case rel =>
        refine ⟨q + 1, .slice pao6 (P.length + 1) pcap6, by go_num, by omega, ?_, ?_, ?_, ?_, ?_⟩
        · rw [HT.out, List.map_append, ← List.cons_append, ← HS.out]; exact hS8
        · rw [HT.out, List.map_append, ← HP.out]
          exact HI7.out.same (fun x hx => hk8 x (HI7.out.lt x hx) (apartIS HS7.out HI7.out x hx))
        · exact (hb8.block _ hlt3).trans HV7.out
        · have k1 : Below w2.heap.size w2 w6 := (HBq.out.next HB5.out).trans (HB6.out.mono (by omega))
          exact (below_set _ k1 (Nat.le_refl _)).trans (hb8.mono (by omega))
        · have := hb8.size; have := HB5.out.size; omega
      case measure => simp [intOf]; omega
    · have hqe : q = l.length := by omega
      subst hqe
      rw [List.take_length] at HP HS
      have hSl : S.length = l.length + 1 := by rw [HS.out]; simp
      obtain ⟨gs, scap', cur, he, hbs, hgs, r1, r2, r3, r4⟩ : ∃ g cap cur, Value.slice sao S.length scap = .slice (some ⟨g, 0, none⟩) S.length cap ∧ w3.heap.size ≤ g ∧ wr.heap[g]? = some (.cells cur 9 (0, 0)) ∧ S.length ≤ cap ∧ cap ≤ maxLen ∧ cur.size = cap * 1 ∧ cur.toList.take (S.length * 1) = S.map Value.string := by
        rcases (hsv ▸ HSq.out).2 with ⟨_, h0⟩ | ⟨g, cap, cur, k⟩
        · omega
        · exact ⟨g, cap, cur, k⟩
      rw [hsv, he]
      rw [hSl]
      clear he hsv
      obtain ⟨q0, q1, q2⟩ := three_cells HVq.out
      have hfr := frees HVq.out
      have hgv := lt_of_block HVq.out
      subst hpv
      have hgsl := lt_of_block hgs
      unfold maxLen at r2
      obtain ⟨D, hD⟩ : ∃ D, D = l.map (·.d) := ⟨_, rfl⟩
      rw [← hD] at HS
      have hDl : D.length = l.length := by rw [hD]; simp
      have hPl : P.length = l.length := by rw [HP.out]; simp
      have HD := hid hD
      clear hD
      have hcell0 : ∀ i (hi : i < D.length), cur[1 + i]? = some (.string D[i]) := by
        intro i hi
        have e1 : cur.toList[1 + i]? = (S.map Value.string)[1 + i]? := by rw [← r4, List.getElem?_take_of_lt (by omega)]
        rw [Array.getElem?_toList, List.getElem?_map, HS.out, Nat.add_comm 1 i, List.getElem?_cons_succ, List.getElem?_eq_getElem hi] at e1
        rw [Nat.add_comm 1 i]
        exact e1
      have HC0 := hid hcell0
      have hcell : ∀ i (hi : i < D.length), wr.cell? ⟨gs, 1 + i, none⟩ = some (.string D[i]) := by
        intro i hi
        simp [World.cell?, hgs, hcell0 i hi]
      clear hcell0
      have HCL := hid hcell
      clear hcell
      have HCU : Hid (cur[0]? = some (.string ByteArray.empty)) := by
        show _ = _
        have e1 : cur.toList[0]? = (S.map Value.string)[0]? := by rw [← r4, List.getElem?_take_of_lt (by omega)]
        rw [Array.getElem?_toList, List.getElem?_map, HS.out] at e1
        simpa using e1
      have HA : Hid (SLie wr (.slice (some ⟨gs, 1, none⟩) l.length (scap' - 1)) D) := by
        refine ⟨_, _, by rw [hDl], by omega, by unfold maxLen; omega, fun i hi => ⟨gs, 1, rfl, hgsl, HCL.out i hi⟩⟩
      have HBB : Hid (scap' = 1 → SLie wr (.slice (some ⟨gs, 0, none⟩) l.length 0) D) := by
        intro h1
        refine ⟨_, _, by rw [hDl], by omega, by decide, fun i hi => by omega⟩
      have hall : (allD D).length ≤ 140737488355328 := by
        rw [HD.out, allD_len HR.out]; omega
      obtain ⟨sm, hsm⟩ : ∃ sm, sm = crc (allD D) := ⟨_, rfl⟩
      have HSUM := hid (fun V w h => dsum_any V D w h hall (by omega))
      rw [← hsm] at HSUM
      have hsml : sm < 4294967296 := by rw [hsm]; exact crc_lt _
      have HSM := hid hsm
      clear hsm hall
      have HPL := hid hPl
      have HDL := hid hDl
      have hPl2 : P.length < 256 := by omega
      clear hPl hDl
      have HT := hid (fun V w h => text_any seq V P sm (by omega) (by rw [HP.out]; exact right_places HR.out) hPl2 hsml w h)
      obtain ⟨t, ht⟩ : ∃ t, t = st (headL seq P sm) := ⟨_, rfl⟩
      rw [← ht] at HT
      have HK := hid (fun w => block_any t (by rw [ht, st_size, headL_len, HPL.out]; omega) w)
      obtain ⟨r, hr⟩ : ∃ r, r = st (sealL (bodyL t.data.toList)) := ⟨_, rfl⟩
      rw [← hr] at HK
      have HRR : Hid (r = st (sealL (bodyL (headL seq P sm)))) := by show _ = _; rw [hr, ht, st_list]
      clear hr ht
      go_wp2_with (first
        | (go_at_call 132; refine (HSUM.out _ _ (by first | exact HA.out | exact HBB.out (by assumption))).mono ?_; rintro e w5 ⟨rfl, hb5⟩
           have HV5 := hid ((hb5.block _ hgv).trans HVq.out)
           have HB5 := hid hb5
           have HG5 := hid ((hb5.block _ hgsl).trans hgs)
           have hz5 := hb5.size
           have HI5 := hid (HIq.out.below hb5)
           clear q0 q1 q2 hfr hb5
           obtain ⟨q0, q1, q2⟩ := three_cells HV5.out
           have hfr := frees HV5.out
           have hg5 := lt_of_block HV5.out
           have HV6 := hid (three_set2 (v := .int .i64 sm) HV5.out)
           have HG6 := hid ((set_other (w := w5) (g := w2.heap.size) (o := 2) (.int .i64 (sm : Int)) (show gs ≠ w2.heap.size by omega)).trans HG5.out)
           have HI6 := hid ((HI5.out.same (w' := w5.setCell ⟨w2.heap.size, 2, none⟩ (.int .i64 sm)) (fun x hx => set_other _ (fun e => by have := (HI5.out.own x hx).1; omega))).lie)
           have hz6 : (w5.setCell ⟨w2.heap.size, 2, none⟩ (.int .i64 sm)).heap.size = w5.heap.size := by simp [World.setCell])
        | (go_at_call 139; refine (HT.out _ _ HI6.out).mono ?_; rintro e w7 ⟨rfl, hb7⟩
           have HG7 := hid ((hb7.block _ (lt_of_block HG6.out)).trans HG6.out)
           have HB7 := hid hb7
           have hz7 := hb7.size
           rw [hz6] at hz7
           clear hb7)
        | (go_at_call 88; refine (HK.out _).mono ?_; rintro e w8 ⟨rfl, hb8⟩
           have HG8 := hid ((hb8.block _ (lt_of_block HG7.out)).trans HG7.out)
           have HB8 := hid hb8
           have hz8 := hb8.size
           have hg8 := lt_of_block HG8.out
           have hfr8 := frees HG8.out
           have hx8 : w8.cell? ⟨gs, 0, none⟩ = some (.string ByteArray.empty) := by simp [World.cell?, HG8.out, HCU.out]
           clear hb8))
      all_goals go_ret2
      all_goals refine ⟨_, rfl, ?_, ?_⟩
      all_goals first
        | (show Below _ _ _
           have k1 : Below w2.heap.size w2 w5 := HBq.out.next HB5.out
           have k2 := below_set (o := 2) (.int .i64 (sm : Int)) k1 (Nat.le_refl _)
           have k3 : Below w2.heap.size w2 w8 := (k2.next HB7.out).next HB8.out
           exact HB2.out.next (below_set _ k3 (by omega)))
        | skip
      all_goals
        have hEE : encL seq l = r :: D := by rw [HRR.out, HSM.out, HD.out, HP.out]; rfl
        rw [hEE]
        exact lie_head HG8.out HDL.out (by omega) HC0.out (by omega) (by unfold maxLen; omega)
end Go.Proofs.YtopebghandojbaaGreat
