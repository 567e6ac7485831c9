import Derived.Test.YtjphfpfagnhelaaMg
namespace Go.Proofs.Ytjphfpfagnhelaa
open Go.RowKit Go.Maps Go.Shelf

theorem scan_enc (most last : Nat) (hl : last ≤ 127) : ∀ (l : List UInt8) (i k : Nat), i < most → scan most last l i = (0, k) → (0 < i → val (l.take (k - i)) ≠ 0) ∧ uEnc (val (l.take (k - i))) = l.take (k - i)
  | [], i, k, _, h => by simp [scan] at h
  | c :: t, i, k, hi, h => by
    rw [scan] at h
    by_cases h1 : (c.toNat = 0 ∧ 0 < i) ∨ (last < c.toNat ∧ i + 1 = most)
    · rw [if_pos h1] at h; simp at h
    · rw [if_neg h1] at h
      by_cases h2 : c.toNat < 128
      · rw [if_pos h2] at h
        have : k = i + 1 := by simpa using h.symm
        subst this
        rw [show i + 1 - i = 1 by omega]
        simp only [List.take_succ_cons, List.take_zero, val]
        rw [show c.toNat % 128 + 128 * 0 = c.toNat by omega]
        exact ⟨fun h0 => by omega, by rw [uEnc_lo h2, UInt8.ofNat_toNat]⟩
      · rw [if_neg h2] at h
        have h3 : i + 1 < most := by omega
        obtain ⟨a, b⟩ := scan_enc most last hl t (i + 1) k h3 h
        have hk := (scan_k most last hl t (i + 1) k h3 h).1
        have hv := a (by omega)
        have hc := c.toNat_lt
        rw [show k - i = (k - (i + 1)) + 1 by omega]
        simp only [List.take_succ_cons, val]
        generalize val (t.take (k - (i + 1))) = v at *
        refine ⟨fun _ => by omega, ?_⟩
        rw [uEnc_hi (by omega), show (c.toNat % 128 + 128 * v) % 128 + 128 = c.toNat by omega, show (c.toNat % 128 + 128 * v) / 128 = v by omega, UInt8.ofNat_toNat, b]
theorem zig_zag (u : Nat) : zig (zag u) = u := by
  unfold zag zig
  by_cases h : u % 2 = 0
  · rw [if_pos h, if_pos (by omega)]; omega
  · rw [if_neg h, if_neg (by omega)]; omega
theorem zag_range (u : Nat) (h : u < 18446744073709551616) : -9223372036854775808 ≤ zag u ∧ zag u ≤ 9223372036854775807 := by unfold zag; split <;> omega
theorem ext_rest (s : ByteArray) (k : Nat) : (s.extract k s.size).data.toList = s.data.toList.drop k := by
  rw [Cd.ext_list, List.take_of_length_le (by rw [Array.length_toList]; exact Nat.le_refl _)]
theorem bytes_split (s : ByteArray) (k : Nat) : s.data.toList = s.data.toList.take k ++ (s.extract k s.size).data.toList := by rw [ext_rest, List.take_append_drop]
theorem scan_u (s : ByteArray) (k : Nat) (h : scan 9 127 s.data.toList 0 = (0, k)) : val (s.data.toList.take k) < 9223372036854775808 ∧ s.data.toList = uEnc (val (s.data.toList.take k)) ++ (s.extract k s.size).data.toList := by
  have a := scan_k 9 127 (by decide) s.data.toList 0 k (by decide) h
  have b := (scan_enc 9 127 (by decide) s.data.toList 0 k (by decide) h).2
  rw [Nat.sub_zero] at a b
  refine ⟨by have := a.2.2.2; simpa using this, ?_⟩
  rw [b]
  exact bytes_split s k
theorem scan_i (s : ByteArray) (k : Nat) (h : scan 10 1 s.data.toList 0 = (0, k)) : val (s.data.toList.take k) < 18446744073709551616 ∧ s.data.toList = uEnc (val (s.data.toList.take k)) ++ (s.extract k s.size).data.toList := by
  have a := scan_k 10 1 (by decide) s.data.toList 0 k (by decide) h
  have b := (scan_enc 10 1 (by decide) s.data.toList 0 k (by decide) h).2
  rw [Nat.sub_zero] at a b
  refine ⟨by have := a.2.2.2; simpa using this, ?_⟩
  rw [b]
  exact bytes_split s k
theorem two_uint (s : ByteArray) (e : Int) (hs : s.size ≤ maxLen) : ∃ (n er : Int) (s' : ByteArray), s'.size ≤ s.size ∧
    (∀ g w, RIs g w s e → Calls Try.prog 61 #[.pointer (some ⟨g, 0, none⟩)] w fun x w' => x = .returned (.tuple #[.int .i64 n, .int .i64 er]) ∧ RIs g w' s' er ∧ Kept w.heap.size g w w') ∧
    (∀ g w, QIs g w s e → Calls Try.prog 26 #[.pointer (some ⟨g, 0, none⟩)] w fun x w' => x = .returned (.tuple #[.int .i64 n, .int .i64 er]) ∧ QIs g w' s' er ∧ Kept w.heap.size g w w') ∧
    (er = 0 → e = 0 ∧ ∃ k : Nat, n = k ∧ k < 9223372036854775808 ∧ s.data.toList = uEnc k ++ s'.data.toList) := by
  by_cases he : e = 0
  · subst he
    obtain ⟨er, k, hsc⟩ : ∃ er k, scan 9 127 s.data.toList 0 = (er, k) := ⟨_, _, rfl⟩
    by_cases h : er = 0
    · subst h
      exact ⟨_, _, _, ext_le s k, fun g w hr => uint_ok g s k hs hsc w hr, fun g w hq => quint_ok g s k hs hsc w hq, fun _ => ⟨rfl, _, rfl, scan_u s k hsc⟩⟩
    · exact ⟨_, _, s, Nat.le_refl _, fun g w hr => uint_bad g s er k hs hsc h w hr, fun g w hq => quint_bad g s er k hs hsc h w hq, fun e => absurd e h⟩
  · exact ⟨0, e, s, Nat.le_refl _, fun g w hr => (uint_err g s e w hr he).mono fun x w' ⟨a, b⟩ => ⟨a, by rw [b]; exact hr, by rw [b]; exact Kept.refl _ _ _⟩,
      fun g w hq => (quint_err g s e w hq he).mono fun x w' ⟨a, q, b⟩ => ⟨a, by rw [b]; exact hq, by rw [b]; exact (Kept.refl _ _ _).drewN _⟩, fun k => absurd k he⟩
theorem two_int (s : ByteArray) (e : Int) (hs : s.size ≤ maxLen) : ∃ (n er : Int) (s' : ByteArray), s'.size ≤ s.size ∧
    (∀ g w, RIs g w s e → Calls Try.prog 72 #[.pointer (some ⟨g, 0, none⟩)] w fun x w' => x = .returned (.tuple #[.int .i64 n, .int .i64 er]) ∧ RIs g w' s' er ∧ Kept w.heap.size g w w') ∧
    (∀ g w, QIs g w s e → Calls Try.prog 50 #[.pointer (some ⟨g, 0, none⟩)] w fun x w' => x = .returned (.tuple #[.int .i64 n, .int .i64 er]) ∧ QIs g w' s' er ∧ Kept w.heap.size g w w') ∧
    (er = 0 → e = 0 ∧ i64B n ∧ s.data.toList = uEnc (zig n) ++ s'.data.toList) := by
  by_cases he : e = 0
  · subst he
    obtain ⟨er, k, hsc⟩ : ∃ er k, scan 10 1 s.data.toList 0 = (er, k) := ⟨_, _, rfl⟩
    by_cases h : er = 0
    · subst h
      refine ⟨_, _, _, ext_le s k, fun g w hr => int_ok g s k hs hsc w hr, fun g w hq => qint_ok g s k hs hsc w hq, fun _ => ⟨rfl, zag_range _ (scan_i s k hsc).1, ?_⟩⟩
      rw [zig_zag]
      exact (scan_i s k hsc).2
    · exact ⟨_, _, s, Nat.le_refl _, fun g w hr => int_bad g s er k hs hsc h w hr, fun g w hq => qint_bad g s er k hs hsc h w hq, fun e => absurd e h⟩
  · exact ⟨0, e, s, Nat.le_refl _, fun g w hr => (int_err g s e w hr he).mono fun x w' ⟨a, b⟩ => ⟨a, by rw [b]; exact hr, by rw [b]; exact Kept.refl _ _ _⟩,
      fun g w hq => (qint_err g s e w hq he).mono fun x w' ⟨a, q, b⟩ => ⟨a, by rw [b]; exact hq, by rw [b]; exact (Kept.refl _ _ _).drewN _⟩, fun k => absurd k he⟩
theorem text_bytes (s : ByteArray) (k : Nat) (h : scan 9 127 s.data.toList 0 = (0, k)) (hv : val (s.data.toList.take k) ≤ s.size - k) :
    s.data.toList = txE (s.extract k (k + val (s.data.toList.take k))) ++ (s.extract (k + val (s.data.toList.take k)) s.size).data.toList := by
  have a := scan_u s k h
  obtain ⟨n, hn⟩ : ∃ n, n = val (s.data.toList.take k) := ⟨_, rfl⟩
  rw [← hn] at a hv ⊢
  have hk := (scan_k 9 127 (by decide) s.data.toList 0 k (by decide) h).2.1
  have hl : s.data.toList.length = s.size := by rw [Array.length_toList]; rfl
  have hsz : (s.extract k (k + n)).size = n := by rw [ByteArray.size_extract]; omega
  unfold txE
  rw [hsz, ext_rest, Cd.ext_list, List.append_assoc, List.drop_take, Nat.add_sub_cancel_left]
  rw [show s.data.toList.drop (k + n) = (s.data.toList.drop k).drop n by rw [List.drop_drop], List.take_append_drop, ← ext_rest]
  exact a.2
theorem two_text (s : ByteArray) (e : Int) (hs : s.size ≤ maxLen) : ∃ (t : ByteArray) (er : Int) (s' : ByteArray), s'.size ≤ s.size ∧
    (∀ g w, RIs g w s e → Calls Try.prog 73 #[.pointer (some ⟨g, 0, none⟩), .int .i64 4096] w fun x w' => x = .returned (.tuple #[.string t, .int .i64 er]) ∧ RIs g w' s' er ∧ Kept w.heap.size g w w') ∧
    (∀ g w, QIs g w s e → Calls Try.prog 51 #[.pointer (some ⟨g, 0, none⟩), .int .i64 4096] w fun x w' => x = .returned (.tuple #[.string t, .int .i64 er]) ∧ QIs g w' s' er ∧ Kept w.heap.size g w w') ∧
    (er = 0 → e = 0 ∧ t.size ≤ 4096 ∧ s.data.toList = txE t ++ s'.data.toList) := by
  by_cases he : e = 0
  · subst he
    obtain ⟨er, k, hsc⟩ : ∃ er k, scan 9 127 s.data.toList 0 = (er, k) := ⟨_, _, rfl⟩
    by_cases h : er = 0
    · subst h
      by_cases hv : val (s.data.toList.take k) ≤ 4096 ∧ val (s.data.toList.take k) ≤ s.size - k
      · refine ⟨_, _, _, ext_le s _, fun g w hr => text_ok g s 4096 (by omega) k hs hsc hv.1 hv.2 w hr, fun g w hq => qtext_ok g s 4096 (by omega) k hs hsc hv.1 hv.2 w hq, fun _ => ⟨rfl, ?_, text_bytes s k hsc hv.2⟩⟩
        rw [ByteArray.size_extract]; omega
      · by_cases hl : 4096 < val (s.data.toList.take k)
        · refine ⟨_, 2, s, Nat.le_refl _, fun g w hr => text_toolong g s 4096 (by omega) k hs hsc hl w hr, fun g w hq => ?_, fun e => by omega⟩
          have := qtext_no g s 4096 (by omega) k hs hsc hv w hq
          rw [if_pos hl] at this
          exact this
        · refine ⟨_, _, s, Nat.le_refl _, fun g w hr => text_cut g s 4096 (by omega) k hs hsc (by omega) (by omega) w hr, fun g w hq => ?_, fun e => by omega⟩
          have := qtext_no g s 4096 (by omega) k hs hsc hv w hq
          rw [if_neg hl] at this
          exact this
    · exact ⟨_, _, s, Nat.le_refl _, fun g w hr => text_bad g s 4096 er (by decide) k hs hsc h w hr, fun g w hq => qtext_bad g s 4096 er (by decide) k hs hsc h w hq, fun e => absurd e h⟩
  · exact ⟨_, e, s, Nat.le_refl _, fun g w hr => (text_err g s e 4096 (by decide) w hr he).mono fun x w' ⟨a, b⟩ => ⟨a, by rw [b]; exact hr, by rw [b]; exact Kept.refl _ _ _⟩,
      fun g w hq => (qtext_err g s e 4096 (by decide) w hq he).mono fun x w' ⟨a, q, b⟩ => ⟨a, by rw [b]; exact hq, by rw [b]; exact (Kept.refl _ _ _).drewN _⟩, fun k => absurd k he⟩
/-- what both Decodes tell of bytes -/
structure Dec (s : ByteArray) (x : Ent) (n e : Int) : Prop where
  our : ∀ w, Calls Try.prog 48 #[.string s] w fun y w' => y = .returned (.tuple #[x.v, .int .i64 n, .int .i64 e]) ∧ Below w.heap.size w w'
  ref : ∀ w, Calls Try.prog 27 #[.string s] w fun y w' => y = .returned (.tuple #[x.v, .int .i64 n, .int .i64 e]) ∧ Below w.heap.size w w'
  yes : e = 0 → rgt x = true ∧ x.Ok ∧ ∃ more, s.data.toList = encE x ++ more ∧ n = ((encE x).length : Nat)
theorem rgt_num {n : Nat} (h : n < 9223372036854775808) : i64B (n : Int) := by unfold i64B; omega
theorem dec_all (s : ByteArray) (hs : s.size ≤ maxLen) : ∃ x n e, Dec s x n e := by
  obtain ⟨n1, r1, s1, l1, P1, Q1, T1⟩ := two_uint s 0 hs
  have z1 := Nat.le_trans l1 hs
  obtain ⟨n2, r2, s2, l2, P2, Q2, T2⟩ := two_uint s1 r1 z1
  have z2 := Nat.le_trans l2 z1
  obtain ⟨n3, r3, s3, l3, P3, Q3, T3⟩ := two_uint s2 r2 z2
  have z3 := Nat.le_trans l3 z2
  obtain ⟨n4, r4, s4, l4, P4, Q4, T4⟩ := two_int s3 r3 z3
  have z4 := Nat.le_trans l4 z3
  obtain ⟨n5, r5, s5, l5, P5, Q5, T5⟩ := two_int s4 r4 z4
  have z5 := Nat.le_trans l5 z4
  obtain ⟨n6, r6, s6, l6, P6, Q6, T6⟩ := two_int s5 r5 z5
  have z6 := Nat.le_trans l6 z5
  obtain ⟨n7, r7, s7, l7, P7, Q7, T7⟩ := two_text s6 r6 z6
  have z7 := Nat.le_trans l7 z6
  obtain ⟨n8, r8, s8, l8, P8, Q8, T8⟩ := two_text s7 r7 z7
  have z8 := Nat.le_trans l8 z7
  obtain ⟨n9, r9, s9, l9, P9, Q9, T9⟩ := two_text s8 r8 z8
  have hl : s9.size ≤ s.size := by omega
  have HP := decode_go s s9 ⟨n1, n2, n3, n4, n5, n6, n7, n8, n9⟩ r9 hs hl (read_go s s1 s2 s3 s4 s5 s6 s7 s8 s9 0 r1 r2 r3 r4 r5 r6 r7 r8 r9 n1 n2 n3 n4 n5 n6 n7 n8 n9 r1 r2 r3 r4 r5 r6 r7 r8 r9 rfl P1 P2 P3 P4 P5 P6 P7 P8 P9)
  have HQ := rdecode_go s s1 s2 s3 s4 s5 s6 s7 s8 s9 0 r1 r2 r3 r4 r5 r6 r7 r8 r9 n1 n2 n3 n4 n5 n6 n7 n8 n9 r1 r2 r3 r4 r5 r6 r7 r8 r9 rfl hs hl Q1 Q2 Q3 Q4 Q5 Q6 Q7 Q8 Q9
  refine ⟨_, _, _, HP, HQ, fun e0 => ?_⟩
  have h9 : r9 = 0 ∧ rgt ⟨n1, n2, n3, n4, n5, n6, n7, n8, n9⟩ = true := by
    unfold decE at e0
    split at e0
    · rename_i h
      split at e0
      · rename_i h2; exact ⟨h, h2⟩
      · omega
    · rename_i h; exact absurd e0 h
  obtain ⟨h0, hr⟩ := h9
  obtain ⟨a8, b9, c9⟩ := T9 h0
  obtain ⟨a7, b8, c8⟩ := T8 a8
  obtain ⟨a6, b7, c7⟩ := T7 a7
  obtain ⟨a5, b6, c6⟩ := T6 a6
  obtain ⟨a4, b5, c5⟩ := T5 a5
  obtain ⟨a3, b4, c4⟩ := T4 a4
  obtain ⟨a2, k3, rfl, b3, c3⟩ := T3 a3
  obtain ⟨a1, k2, rfl, b2, c2⟩ := T2 a2
  obtain ⟨_, k1, rfl, b1, c1⟩ := T1 a1
  have ed := dec_yes hr ((s.size : Int) - (s9.size : Int))
  subst h0
  rw [ed.1, ed.2.1]
  have hb : s.data.toList = encE ⟨k1, k2, k3, n4, n5, n6, n7, n8, n9⟩ ++ s9.data.toList := by
    rw [c1, c2, c3, c4, c5, c6, c7, c8, c9]
    simp [encE, List.append_assoc]
  refine ⟨hr, ⟨rgt_num b1, rgt_num b2, rgt_num b3, b4, b5, b6⟩, _, hb, ?_⟩
  have hlen := congrArg List.length hb
  rw [List.length_append] at hlen
  have e1 : s.data.toList.length = s.size := by rw [Array.length_toList]; rfl
  have e2 : s9.data.toList.length = s9.size := by rw [Array.length_toList]; rfl
  omega
end Go.Proofs.Ytjphfpfagnhelaa
