import Derived.Test.YtopebghandojbaaGreatTf
namespace Go.Proofs.YtopebghandojbaaGreat
open Go.RowKit

def endV (s : ByteArray) (e : Int) : Int := if e ≠ 0 then e else if s.size = 0 then 0 else 4
theorem end_r (g : Nat) (s : ByteArray) (e : Int) (w : World) (h : RIs g w s e) : Calls Tryz.prog 98 #[.pointer (some ⟨g, 0, none⟩)] w fun x w' => x = .returned (.int .i64 (endV s e)) ∧ w' = w := by
  have h0 := h.c0
  have h1 := h.c1
  by_cases he : e = 0
  · subst he
    by_cases hs : s.size = 0
    · have hl : s = ByteArray.empty := by
        apply ByteArray.ext; exact Array.eq_empty_of_size_eq_zero hs
      subst hl
      go_enter Tryz.func98, Tryz.ntmps98
      go_wp2
      go_ret
      exact ⟨rfl, rfl⟩
    · have hl : s.toList.isEmpty = false := by
        rw [Lib.toList_data]
        cases hq : s.data.toList with
        | nil => exact absurd (by have := congrArg List.length hq; simpa using this) hs
        | cons a t => rfl
      have hv : endV s 0 = 4 := by unfold endV; rw [if_neg (by decide), if_neg hs]
      rw [hv]
      go_enter Tryz.func98, Tryz.ntmps98
      go_wp2
      go_ret
      exact ⟨rfl, rfl⟩
  · have he' : (e != 0) = true := by simp [he]
    have hv : endV s e = e := by unfold endV; rw [if_pos he]
    rw [hv]
    clear he hv
    go_enter Tryz.func98, Tryz.ntmps98
    go_wp2
    go_ret
    exact ⟨rfl, rfl⟩
/-- a number of k bytes, read: the number, what is left, what is wrong -/
def fxN (k : Nat) (s : ByteArray) (e : Int) : Nat := if e ≠ 0 then 0 else if s.size < k then 0 else if fval (s.data.toList.take k) < 9223372036854775808 then fval (s.data.toList.take k) else 0
def fxS (k : Nat) (s : ByteArray) (e : Int) : ByteArray := if e ≠ 0 then s else if s.size < k then s else if fval (s.data.toList.take k) < 9223372036854775808 then s.extract k s.size else s
def fxE (k : Nat) (s : ByteArray) (e : Int) : Int := if e ≠ 0 then e else if s.size < k then 20 else if fval (s.data.toList.take k) < 9223372036854775808 then 0 else 4
theorem fix_r (k : Nat) (hk : sized k = true) (hk8 : k ≤ 8) (g : Nat) (s : ByteArray) (e : Int) (hs : s.size ≤ maxLen) (w : World) (h : RIs g w s e) :
    Calls Tryz.prog 97 #[.pointer (some ⟨g, 0, none⟩), .int .i64 k] w fun x w' => (∃ y, x = .returned (.tuple #[.int .i64 (fxN k s e), .int .i64 y])) ∧ RIs g w' (fxS k s e) (fxE k s e) ∧ Kept w.heap.size g w w' := by
  unfold fxN fxS fxE
  by_cases he : e ≠ 0
  · rw [if_pos he, if_pos he, if_pos he]
    exact (fixedr_err g s e k hk w h he).mono fun x w' k => ⟨⟨_, k.1⟩, by rw [k.2]; exact h, by rw [k.2]; exact Kept.refl _ _ _⟩
  · rw [if_neg he, if_neg he, if_neg he]
    have he : e = 0 := by omega
    subst he
    by_cases h2 : s.size < k
    · rw [if_pos h2, if_pos h2, if_pos h2]
      exact (fixedr_cut g s k hk h2 hk8 w h).mono fun x w' k => ⟨⟨_, k.1⟩, k.2⟩
    · rw [if_neg h2, if_neg h2, if_neg h2]
      by_cases h3 : fval (s.data.toList.take k) < 9223372036854775808
      · rw [if_pos h3, if_pos h3, if_pos h3]
        exact (fixedr_ok g s k hk (by omega) hk8 hs h3 w h).mono fun x w' k => ⟨⟨_, k.1⟩, k.2⟩
      · rw [if_neg h3, if_neg h3, if_neg h3]
        exact (fixedr_form g s k hk (by omega) hk8 hs h3 w h).mono fun x w' k => ⟨⟨_, k.1⟩, k.2⟩
theorem fxS_size (k : Nat) (s : ByteArray) (e : Int) : (fxS k s e).size ≤ s.size := by
  unfold fxS
  split
  · exact Nat.le_refl _
  · split
    · exact Nat.le_refl _
    · split
      · rw [ByteArray.size_extract]; omega
      · exact Nat.le_refl _
/-- a reading that went well -/
theorem fx_back (k : Nat) {s : ByteArray} {e : Int} (h : fxE k s e = 0) : e = 0 ∧ s.data.toList = fEnc (fxN k s e) k ++ (fxS k s e).data.toList ∧ fxN k s e < 256 ^ k ∧ fxN k s e < 9223372036854775808 := by
  unfold fxE at h
  by_cases he : e ≠ 0
  · rw [if_pos he] at h; exact absurd h he
  · rw [if_neg he] at h
    have he : e = 0 := by omega
    subst he
    by_cases h2 : s.size < k
    · rw [if_pos h2] at h; exact absurd h (by decide)
    · rw [if_neg h2] at h
      by_cases h3 : fval (s.data.toList.take k) < 9223372036854775808
      · have e2 : fxS k s 0 = s.extract k s.size := by unfold fxS; rw [if_neg (by decide), if_neg h2, if_pos h3]
        have e3 : fxN k s 0 = fval (s.data.toList.take k) := by unfold fxN; rw [if_neg (by decide), if_neg h2, if_pos h3]
        have hl := len_list s
        have htl : (s.data.toList.take k).length = k := by rw [List.length_take]; omega
        have e4 := fEnc_big (s.data.toList.take k)
        rw [htl, ← fval_big, ← e3] at e4
        have e5 : s.data.toList.take s.size = s.data.toList := List.take_of_length_le (by omega)
        refine ⟨rfl, by rw [e4, e2, ext_list, e5, List.take_append_drop], ?_, by rw [e3]; exact h3⟩
        have := fval_lt (s.data.toList.take k)
        rw [htl] at this
        rw [e3]; exact this
      · rw [if_neg h3] at h; exact absurd h (by decide)
theorem fx_of (k : Nat) {s : ByteArray} {n : Nat} {r : List UInt8} (hn : n < 256 ^ k) (hn2 : n < 9223372036854775808) (hs : s.data.toList = fEnc n k ++ r) : fxE k s 0 = 0 ∧ (fxS k s 0).data.toList = r ∧ fxN k s 0 = n := by
  have hl := len_list s
  have hf := fEnc_len k n
  have hsz : ¬ s.size < k := by rw [← hl, hs, List.length_append, hf]; omega
  have ht : s.data.toList.take k = fEnc n k := by
    have := List.take_left (l₁ := fEnc n k) (l₂ := r)
    rw [hf] at this
    rw [hs, this]
  have hd : s.data.toList.drop k = r := by
    have := List.drop_left (l₁ := fEnc n k) (l₂ := r)
    rw [hf] at this
    rw [hs, this]
  have hv : fval (s.data.toList.take k) = n := by rw [ht, fval_big, big_fEnc k _ hn]
  have h3 : fval (s.data.toList.take k) < 9223372036854775808 := by omega
  refine ⟨by unfold fxE; rw [if_neg (by decide), if_neg hsz, if_pos h3], ?_, ?_⟩
  · unfold fxS; rw [if_neg (by decide), if_neg hsz, if_pos h3, ext_list, List.take_of_length_le (l := s.data.toList) (by omega), hd]
  · unfold fxN; rw [if_neg (by decide), if_neg hsz, if_pos h3, hv]
def tS : ByteArray := { data := #[84] }
def isT (t : ByteArray) : Prop := t.data.toList.take 1 = [84]
theorem isT_len {t : ByteArray} (h : isT t) : 1 ≤ t.size := by
  have := congrArg List.length h
  rw [List.length_take, len_list] at this
  simp at this
  omega
theorem isT_ext {t : ByteArray} : isT t ↔ t.extract 0 1 = tS := by
  unfold isT
  constructor
  · intro h
    apply ByteArray.ext
    apply Array.toList_inj.1
    rw [ext_head, h]; rfl
  · intro h
    rw [← ext_head, h]; rfl
theorem ret_bool {a b : Bool} (h : a = b) : Ending.returned (.bool a) = .returned (.bool b) := by rw [h]
theorem has_yes (t : ByteArray) (hs : t.size ≤ maxLen) (h : isT t) (w : World) : Calls Tryz.prog 143 #[.string t, .string tS] w fun e w' => e = .returned (.bool true) ∧ w' = w := by
  have h4 := isT_len h
  unfold maxLen at hs
  have HX := hid (isT_ext.1 h)
  clear h
  have hcs : tS.size = 1 := rfl
  go_enter Tryz.func143, Tryz.ntmps143
  go_wp2
  go_ret
  exact ⟨ret_bool (by rw [HX.out]; simp), rfl⟩
theorem has_no (t : ByteArray) (hs : t.size ≤ maxLen) (h : ¬ isT t) (w : World) : Calls Tryz.prog 143 #[.string t, .string tS] w fun e w' => e = .returned (.bool false) ∧ w' = w := by
  unfold maxLen at hs
  have hcs : tS.size = 1 := rfl
  by_cases h4 : 1 ≤ t.size
  · have HX := hid (str_ne (fun hh => h (isT_ext.2 hh)))
    clear h
    go_enter Tryz.func143, Tryz.ntmps143
    go_wp2
    go_ret
    exact ⟨ret_bool HX.out, rfl⟩
  · clear h
    go_enter Tryz.func143, Tryz.ntmps143
    go_wp2
    go_ret
    exact ⟨rfl, rfl⟩
theorem cut69_yes (t : ByteArray) (hs : t.size ≤ maxLen) (h : isT t) (w : World) : Calls Tryz.prog 126 #[.string t, .string tS] w fun e w' => e = .returned (.tuple #[.string (t.extract 1 t.size), .bool true]) ∧ w' = w := by
  have HH := hid (fun w => has_yes t hs h w)
  have h4 := isT_len h
  unfold maxLen at hs
  have hcs : tS.size = 1 := rfl
  clear h
  go_enter Tryz.func126, Tryz.ntmps126
  go_wp2_with (first | (go_at_call 143; refine (HH.out _).mono ?_; rintro e w1 ⟨rfl, hw⟩; have hw := hw.symm; subst hw))
  go_ret2
  exact ⟨rfl, rfl⟩
theorem cut69_no (t : ByteArray) (hs : t.size ≤ maxLen) (h : ¬ isT t) (w : World) : Calls Tryz.prog 126 #[.string t, .string tS] w fun e w' => e = .returned (.tuple #[.string t, .bool false]) ∧ w' = w := by
  have HH := hid (fun w => has_no t hs h w)
  clear h
  go_enter Tryz.func126, Tryz.ntmps126
  go_wp2_with (first | (go_at_call 143; refine (HH.out _).mono ?_; rintro e w1 ⟨rfl, hw⟩; have hw := hw.symm; subst hw))
  go_ret2
  exact ⟨rfl, rfl⟩
theorem cut_yes (t : ByteArray) (hs : t.size ≤ maxLen) (h : isT t) (w : World) : Calls Tryz.prog 95 #[.string t, .string tS] w fun e w' => e = .returned (.tuple #[.string (t.extract 1 t.size), .bool true]) ∧ w' = w := by
  have HH := hid (fun w => cut69_yes t hs h w)
  clear h
  go_enter Tryz.func95, Tryz.ntmps95
  go_wp2_with (first | (go_at_call 126; refine (HH.out _).mono ?_; rintro e w1 ⟨rfl, hw⟩; have hw := hw.symm; subst hw))
  go_ret2
  exact ⟨rfl, rfl⟩
theorem cut_no (t : ByteArray) (hs : t.size ≤ maxLen) (h : ¬ isT t) (w : World) : Calls Tryz.prog 95 #[.string t, .string tS] w fun e w' => e = .returned (.tuple #[.string t, .bool false]) ∧ w' = w := by
  have HH := hid (fun w => cut69_no t hs h w)
  clear h
  go_enter Tryz.func95, Tryz.ntmps95
  go_wp2_with (first | (go_at_call 126; refine (HH.out _).mono ?_; rintro e w1 ⟨rfl, hw⟩; have hw := hw.symm; subst hw))
  go_ret2
  exact ⟨rfl, rfl⟩
end Go.Proofs.YtopebghandojbaaGreat
namespace Go.Proofs.YtopebghandojbaaGreat
open Go.RowKit

/-- so many places, read one behind the other -/
def rdP (s : ByteArray) (e : Int) : Nat → List Int × ByteArray × Int
  | 0 => ([], s, e)
  | q + 1 => ((rdP s e q).1 ++ [(fxN 2 (rdP s e q).2.1 (rdP s e q).2.2 : Int)], fxS 2 (rdP s e q).2.1 (rdP s e q).2.2, fxE 2 (rdP s e q).2.1 (rdP s e q).2.2)
theorem rdP_len (s : ByteArray) (e : Int) : ∀ q, (rdP s e q).1.length = q
  | 0 => rfl
  | q + 1 => by simp [rdP, rdP_len s e q]
theorem rdP_size (s : ByteArray) (e : Int) : ∀ q, (rdP s e q).2.1.size ≤ s.size
  | 0 => Nat.le_refl _
  | q + 1 => Nat.le_trans (fxS_size _ _ _) (rdP_size s e q)
theorem rdP_back (s : ByteArray) (e : Int) : ∀ q, (rdP s e q).2.2 = 0 → e = 0 ∧ s.data.toList = plE (rdP s e q).1 ++ (rdP s e q).2.1.data.toList ∧ ∀ p ∈ (rdP s e q).1, 0 ≤ p ∧ p < 65536
  | 0, h => ⟨h, by simp [rdP, plE], by simp [rdP]⟩
  | q + 1, h => by
    obtain ⟨h1, h2, h3, _⟩ := fx_back 2 (s := (rdP s e q).2.1) (e := (rdP s e q).2.2) h
    obtain ⟨k1, k2, k3⟩ := rdP_back s e q h1
    refine ⟨k1, ?_, fun p hp => ?_⟩
    · show _ = plE ((rdP s e q).1 ++ [_]) ++ (fxS 2 _ _).data.toList
      rw [plE_snoc, k2, List.append_assoc]
      congr 1
    · have hp' : p ∈ (rdP s e q).1 ++ [(fxN 2 (rdP s e q).2.1 (rdP s e q).2.2 : Int)] := hp
      rcases List.mem_append.1 hp' with hp | hp
      · exact k3 p hp
      · simp at hp
        subst hp
        omega
theorem rdP_of : ∀ (ps : List Int) (s : ByteArray) (r : List UInt8), (∀ p ∈ ps, 0 ≤ p ∧ p < 65536) → s.data.toList = plE ps ++ r → ∀ q, q ≤ ps.length → (rdP s 0 q).1 = ps.take q ∧ (rdP s 0 q).2.1.data.toList = plE (ps.drop q) ++ r ∧ (rdP s 0 q).2.2 = 0
  | ps, s, r, _, hs, 0, _ => ⟨rfl, hs, rfl⟩
  | ps, s, r, hp, hs, q + 1, hq => by
    obtain ⟨k1, k2, k3⟩ := rdP_of ps s r hp hs q (by omega)
    have hd := drop_at ps q (by omega)
    have hpq := hp ps[q] (List.getElem_mem _)
    have e1 : plE (ps.drop q) = fEnc ps[q].toNat 2 ++ plE (ps.drop (q + 1)) := by rw [hd]; unfold plE; rw [List.flatMap_cons]
    rw [e1, List.append_assoc] at k2
    obtain ⟨f1, f2, f3⟩ := fx_of 2 (by omega) (by omega) k2
    have e2 : rdP s 0 (q + 1) = ((rdP s 0 q).1 ++ [(fxN 2 (rdP s 0 q).2.1 0 : Int)], fxS 2 (rdP s 0 q).2.1 0, fxE 2 (rdP s 0 q).2.1 0) := by
      show ((rdP s 0 q).1 ++ [(fxN 2 (rdP s 0 q).2.1 (rdP s 0 q).2.2 : Int)], _, _) = _
      rw [k3]
    rw [e2, f1, f3, k1]
    refine ⟨?_, f2, rfl⟩
    rw [List.take_succ_eq_append_getElem (by omega)]
    have e3 : ((ps[q].toNat : Nat) : Int) = ps[q] := by omega
    rw [e3]
/-- what is read of a head's numbers -/
def hN1 (n : ByteArray) : Nat := fxN 8 n 0
def hN2 (n : ByteArray) : Nat := fxN 1 (fxS 8 n 0) (fxE 8 n 0)
def hP (n : ByteArray) : List Int × ByteArray × Int := rdP (fxS 1 (fxS 8 n 0) (fxE 8 n 0)) (fxE 1 (fxS 8 n 0) (fxE 8 n 0)) (hN2 n)
def hN4 (n : ByteArray) : Nat := fxN 4 (hP n).2.1 (hP n).2.2
def hEnd (n : ByteArray) : Int := endV (fxS 4 (hP n).2.1 (hP n).2.2) (fxE 4 (hP n).2.1 (hP n).2.2)
/-- is it a head? -/
def hOk (n : ByteArray) : Bool := decide (hEnd n = 0) && (decide (1 ≤ (hN1 n : Int) ∧ (hN1 n : Int) ≤ 1099511627776) && placesB (hP n).1)
theorem hN2_lt (n : ByteArray) : hN2 n < 256 := by
  unfold hN2 fxN
  split
  · decide
  · split
    · decide
    · split
      · rename_i h2 _
        have := fval_lt ((fxS 8 n 0).data.toList.take 1)
        have hl : ((fxS 8 n 0).data.toList.take 1).length ≤ 1 := by rw [List.length_take]; omega
        have h3 : 256 ^ ((fxS 8 n 0).data.toList.take 1).length ≤ 256 ^ 1 := Nat.pow_le_pow_right (by decide) hl
        omega
      · decide
theorem end_zero {s : ByteArray} {e : Int} (h : endV s e = 0) : e = 0 ∧ s.data.toList = [] := by
  unfold endV at h
  by_cases he : e ≠ 0
  · rw [if_pos he] at h; exact absurd h he
  · rw [if_neg he] at h
    by_cases hz : s.size = 0
    · exact ⟨by omega, List.eq_nil_of_length_eq_zero (by rw [len_list]; exact hz)⟩
    · rw [if_neg hz] at h; exact absurd h (by decide)
/-- what went well to its end is a head's text -/
theorem head_back (n : ByteArray) (h : hEnd n = 0) : n.data.toList = fEnc (hN1 n) 8 ++ fEnc (hP n).1.length 1 ++ plE (hP n).1 ++ fEnc (hN4 n) 4 ∧ hN4 n < 4294967296 ∧ (∀ p ∈ (hP n).1, 0 ≤ p ∧ p < 65536) ∧ (hP n).1.length < 256 ∧ hN1 n < 9223372036854775808 := by
  obtain ⟨h1, h2⟩ := end_zero h
  obtain ⟨a1, a2, a3, _⟩ := fx_back 4 h1
  obtain ⟨b1, b2, b3⟩ := rdP_back _ _ _ a1
  obtain ⟨c1, c2, c3, _⟩ := fx_back 1 b1
  obtain ⟨_, d2, _, d4⟩ := fx_back 8 c1
  have hl : (hP n).1.length = hN2 n := rdP_len _ _ _
  rw [h2, List.append_nil] at a2
  refine ⟨?_, by have : (256:Nat)^4 = 4294967296 := by decide
                 rw [← this]; exact a3, b3, by rw [hl]; exact hN2_lt n, d4⟩
  rw [hl]
  have b2' : (fxS 1 (fxS 8 n 0) (fxE 8 n 0)).data.toList = plE (hP n).1 ++ (hP n).2.1.data.toList := b2
  rw [d2, c2, b2', a2]
  simp only [List.append_assoc]
  rfl
theorem head_of (n : ByteArray) (seq : Nat) (ps : List Int) (sm : Nat) (hseq : seq < 9223372036854775808) (hps : ∀ p ∈ ps, 0 ≤ p ∧ p < 65536) (hpl : ps.length < 256) (hsm : sm < 4294967296) (h : n.data.toList = fEnc seq 8 ++ fEnc ps.length 1 ++ plE ps ++ fEnc sm 4) :
    hEnd n = 0 ∧ hN1 n = seq ∧ (hP n).1 = ps ∧ hN4 n = sm := by
  have e8 : (256:Nat)^8 = 18446744073709551616 := by decide
  have e4 : (256:Nat)^4 = 4294967296 := by decide
  obtain ⟨a1, a2, a3⟩ := fx_of 8 (s := n) (n := seq) (r := fEnc ps.length 1 ++ (plE ps ++ fEnc sm 4)) (by omega) hseq (by rw [h]; simp only [List.append_assoc])
  obtain ⟨b1, b2, b3⟩ := fx_of 1 (s := fxS 8 n 0) (n := ps.length) (r := plE ps ++ fEnc sm 4) (by omega) (by omega) a2
  have hn2 : hN2 n = ps.length := by unfold hN2; rw [a1, b3]
  obtain ⟨c1, c2, c3⟩ := rdP_of ps (fxS 1 (fxS 8 n 0) 0) (fEnc sm 4) hps b2 ps.length (Nat.le_refl _)
  have hp : hP n = rdP (fxS 1 (fxS 8 n 0) 0) 0 ps.length := by unfold hP; rw [hn2, a1, b1]
  rw [List.take_length] at c1
  rw [List.drop_length] at c2
  obtain ⟨d1, d2, d3⟩ := fx_of 4 (s := (hP n).2.1) (n := sm) (r := []) (by omega) (by omega) (by rw [hp, c2]; simp [plE])
  have hz : (hP n).2.2 = 0 := by rw [hp]; exact c3
  refine ⟨?_, a3, by rw [hp]; exact c1, by unfold hN4; rw [hz]; exact d3⟩
  unfold hEnd
  rw [hz, d1]
  unfold endV
  rw [if_neg (by decide), if_pos]
  rw [← len_list, d2]; rfl
end Go.Proofs.YtopebghandojbaaGreat
