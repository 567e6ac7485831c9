import Derived.Test.YtmcahiebcflfoaaTc
import Derived.Test.YtmcahiebcflfoaaUb
namespace Go.Proofs.Ytmcahiebcflfoaa
open Go.RowKit Go.Maps

/-- places, as they are written -/
def plE (ps : List Int) : List UInt8 := ps.flatMap fun p => fEnc p.toNat 2
theorem plE_snoc (ps : List Int) (p : Int) : plE (ps ++ [p]) = plE ps ++ fEnc p.toNat 2 := by simp [plE]
theorem plE_len : ∀ ps : List Int, (plE ps).length = 2 * ps.length
  | [] => rfl
  | p :: ps => by
    have := plE_len ps
    unfold plE at *
    rw [List.flatMap_cons, List.length_append, this, fEnc_len]
    simp; omega
/-- a head's text -/
def headL (seq : Nat) (ps : List Int) (sm : Nat) : List UInt8 := [84] ++ (fEnc seq 8 ++ fEnc ps.length 1 ++ plE ps ++ fEnc sm 4)
theorem headL_len (seq : Nat) (ps : List Int) (sm : Nat) : (headL seq ps sm).length = 14 + 2 * ps.length := by
  unfold headL
  simp only [List.length_append, fEnc_len, plE_len, List.length_cons, List.length_nil]
  omega
theorem fits_1 (n : Nat) (h : n < 256) : fitsB n 1 = true := by
  unfold fitsB sized; simp; omega
theorem fits_2 (n : Nat) (h : n < 65536) : fitsB n 2 = true := by
  unfold fitsB sized; simp; omega
theorem fits_4 (n : Nat) (h : n < 4294967296) : fitsB n 4 = true := by
  unfold fitsB sized; simp; omega
theorem fits_8 (n : Nat) : fitsB n 8 = true := by
  unfold fitsB sized; simp
theorem kept3 {base g k : Nat} {w w' : World} {o : Obj} (h : Kept base g w w') (hk : w.heap[k]? = some o) (h1 : k < base) (h2 : k ≠ g) : w'.heap[k]? = some o := (h.block k h1 h2).trans hk
set_option maxRecDepth 100000 in
set_option maxHeartbeats 2000000 in
theorem text_any (seq : Nat) (v : Value) (ps : List Int) (sm : Nat) (hseq : seq ≤ 9223372036854775807) (hps : ∀ p ∈ ps, 0 ≤ p ∧ p < 65536) (hpl : ps.length < 256) (hsm : sm < 4294967296) (w : World) (h : ILie w v ps) :
    Calls Try.prog 56 #[.agg #[.int .i64 seq, v, .int .i64 sm]] w fun e w' => e = .returned (.string (st (headL seq ps sm))) ∧ Below w.heap.size w w' := by
  obtain ⟨ao, cap, rfl, hlc, hcm, hcell⟩ := h
  have HC := hid hcell
  have HP := hid hps
  clear hcell hps
  unfold maxLen at hcm
  obtain ⟨l1, hl1⟩ : ∃ l, l = fEnc seq 8 := ⟨_, rfl⟩
  obtain ⟨l2, hl2⟩ : ∃ l, l = l1 ++ fEnc ps.length 1 := ⟨_, rfl⟩
  have n1 : l1.length ≤ 100 := by rw [hl1, fEnc_len]; omega
  have n2 : l2.length ≤ 200 := by rw [hl2, List.length_append, fEnc_len]; omega
  have HF1 := hid (fun (base g : Nat) w h1 h2 => fixed_w base g seq 8 [] (by omega) (by decide) (fits_8 _) (by decide) w h1 h2)
  have HF2 := hid (fun (base g : Nat) w h1 h2 => fixed_w base g ps.length 1 l1 (by omega) (by decide) (fits_1 _ hpl) (by omega) w h1 h2)
  rw [List.nil_append, ← hl1] at HF1
  rw [← hl2] at HF2
  have HL1 := hid hl1
  have HL2 := hid hl2
  clear hl1 hl2
  go_enter Try.func56, Try.ntmps56
  have HV0 := hid (box_at w (.cells #[.int .i64 seq, .slice ao ps.length cap, .int .i64 sm] 107))
  have HB0 := hid (below_alloc w (.cells #[.int .i64 seq, .slice ao ps.length cap, .int .i64 sm] 107))
  obtain ⟨q0, q1, q2⟩ := three_cells HV0.out
  go_wp2_with (go_at_call 40; fail)
  obtain ⟨w0, hw0⟩ : ∃ w0, w0 = w.alloc (.cells #[.int .i64 seq, .slice ao ps.length cap, .int .i64 sm] 107) := ⟨_, rfl⟩
  rw [← hw0] at HV0 HB0 q0 q1 q2 ⊢
  clear hw0
  have hlt := lt_of_block HV0.out
  refine (new_any _).mono ?_
  rintro e w1 ⟨rfl, rfl⟩
  have HW0 := hid (WIs.new w0 w0.heap.size)
  go_wp2_with (first
    | (go_at_call 41; have hk := HW1; clear hk; refine (HF2.out _ _ _ HW1.out (by omega)).mono ?_; rintro e w4 ⟨rfl, hw4, hk4⟩; have HV4 := hid (kept3 hk4 HV3.out hlt (by omega)); have HW2 := hid hw4; have HK4 := hid hk4; have hz4 := hk4.size; clear hw4 hk4 q0 q1 q2; obtain ⟨q0, q1, q2⟩ := three_cells HV4.out)
    | (go_at_call 41; refine (HF1.out _ _ _ HW0.out (by simp)).mono ?_; rintro e w3 ⟨rfl, hw3, hk3⟩; have HV3 := hid (kept3 hk3 ((Below.heap_alloc _ _ _ hlt).trans HV0.out) hlt (by omega)); have HW1 := hid hw3; have HK3 := hid hk3; have hz3 := hk3.size; simp at hz3; clear hw3 hk3 q0 q1 q2; obtain ⟨q0, q1, q2⟩ := three_cells HV3.out))
  clear q0 q1 q2
  go_loopw [19] (fun i wr => ∃ (q : Nat), i = .int .i64 q ∧ q ≤ ps.length ∧ WIs w0.heap.size w0.heap.size wr (l2 ++ plE (ps.take q)) ∧ Kept w0.heap.size w0.heap.size w4 wr) (fun i _ => ps.length - (intOf i).toNat)
  case atStart => exact ⟨0, rfl, Nat.zero_le _, by simpa [plE] using HW2.out, Kept.refl _ _ _⟩
  case round =>
    obtain ⟨q, rfl, hq, hWq, hKq⟩ := hrel
    have HWq := hid hWq
    have HKq := hid hKq
    have hzq := hKq.size
    clear hWq hKq
    have hpq : (plE (ps.take q)).length ≤ 512 := by rw [plE_len, List.length_take]; omega
    by_cases hqk : q < ps.length
    · obtain ⟨gb, off, e, hgl, c0⟩ := HC.out q hqk
      subst e
      have hp := HP.out _ (List.getElem_mem hqk)
      obtain ⟨n, hn⟩ : ∃ n : Nat, ps[q] = (n : Int) := ⟨ps[q].toNat, by omega⟩
      have HT : Hid (plE (ps.take (q + 1)) = plE (ps.take q) ++ fEnc n 2) := by
        show _ = _
        rw [List.take_succ_eq_append_getElem hqk, plE_snoc, hn]; rfl
      rw [hn] at c0 hp
      clear hn
      have hkb : ∀ k, k < w.heap.size → wr.heap[k]? = w.heap[k]? := fun k hk => by
        have h1 := HKq.out.block k (by omega) (by omega)
        have h2 := HK4.out.block k (by omega) (by omega)
        have h3 := HK3.out.block k (by omega) (by omega)
        have h4 := Below.heap_alloc w0 (.cells #[.slice none 0 0] 111) k (by omega)
        exact (h1.trans (h2.trans (h3.trans (h4.trans (HB0.out.block k hk)))))
      have hc : wr.cell? ⟨gb, off + q, none⟩ = some (.int .i64 (n : Int)) := by
        rw [← c0]; unfold World.cell?; rw [hkb gb hgl]
      have hgr : gb < wr.heap.size := by omega
      clear c0 hkb
      have HF := hid (fixed_w w0.heap.size w0.heap.size n 2 (l2 ++ plE (ps.take q)) (by omega) (by decide) (fits_2 _ (by omega)) (by rw [List.length_append]; omega) wr HWq.out (by omega))
      go_wp2_with (first
        | (go_at_call 41; refine (HF.out).mono ?_; rintro e w5 ⟨rfl, hw5, hk5⟩))
      go_roundw
      case rel => exact ⟨q + 1, by go_num, by omega, by rw [HT.out, ← List.append_assoc]; exact hw5, HKq.out.trans hk5⟩
      case measure => simp [intOf]; omega
    · have hqe : q = ps.length := by omega
      subst hqe
      rw [List.take_length] at HWq hpq
      have HVq := hid (kept3 HKq.out HV4.out hlt (by omega))
      obtain ⟨q0, q1, q2⟩ := three_cells HVq.out
      obtain ⟨l3, hl3⟩ : ∃ l, l = l2 ++ plE ps := ⟨_, rfl⟩
      obtain ⟨l4, hl4⟩ : ∃ l, l = l3 ++ fEnc sm 4 := ⟨_, rfl⟩
      rw [← hl3] at HWq
      have n3 : l3.length ≤ 1000 := by rw [hl3, List.length_append]; omega
      have n4 : l4.length ≤ 1004 := by rw [hl4, List.length_append, fEnc_len]; omega
      have HF := hid (fixed_w w0.heap.size w0.heap.size sm 4 l3 (by omega) (by decide) (fits_4 _ hsm) (by omega) wr HWq.out (by omega))
      rw [← hl4] at HF
      obtain ⟨o, ho⟩ : ∃ o, o = st l4 := ⟨_, rfl⟩
      have HO := hid (fun base g w h => out_w base g l4 w h)
      rw [← ho] at HO
      have hos : o.size ≤ 1004 := by rw [ho, st_size]; exact n4
      have HE : Hid ({ data := #[84] } ++ o = st (headL seq ps sm)) := by
        show _ = _
        rw [ho, hl4, hl3, HL2.out, HL1.out, headL]; apply ByteArray.ext; simp [st]
      clear hl3 hl4 ho
      go_wp2_with (first
        | (go_at_call 41; refine (HF.out).mono ?_; rintro e w5 ⟨rfl, hw5, hk5⟩; have HW5 := hid hw5; have HK5 := hid hk5; clear hw5 hk5)
        | (go_at_call 43; refine (HO.out _ _ _ HW5.out).mono ?_; rintro e w6 ⟨rfl, hw6⟩; have hw6 := hw6.symm; subst hw6))
      go_ret
      refine ⟨by rw [← HE.out]; rfl, ?_⟩
      have k1 : Below w0.heap.size w0 w5 := ((((below_alloc w0 _).trans (HK3.out.below (Nat.le_refl _) (Nat.le_refl _))).trans (HK4.out.below (Nat.le_refl _) (Nat.le_refl _))).trans (HKq.out.below (Nat.le_refl _) (Nat.le_refl _))).trans (HK5.out.below (Nat.le_refl _) (Nat.le_refl _))
      exact HB0.out.next k1
end Go.Proofs.Ytmcahiebcflfoaa
