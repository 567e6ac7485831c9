import Derived.Test.YtjphfpfagnhelaaMs
import Derived.Test.YtjphfpfagnhelaaMv
namespace Go.Proofs.Ytjphfpfagnhelaa
open Go.RowKit Go.Maps Go.Shelf

theorem ropen_seal (L : List UInt8) (hL : L.length ≤ 100000) (w : World) : Calls Try.prog 25 #[.string (st (Cd.sealL L))] w fun e w' => e = .returned (.tuple #[.string (st L), .int .i64 0]) ∧ Below w.heap.size w w' := by
  have hsz : (st (Cd.sealL L)).size = L.length + 4 := by rw [st_size, Cd.sealL_len]
  have htk : (st (Cd.sealL L)).data.toList.take L.length = L := by rw [st_list]; unfold Cd.sealL; rw [List.take_left]
  have hex : (st (Cd.sealL L)).extract 0 L.length = st L := by
    rw [← st_toList ((st (Cd.sealL L)).extract 0 L.length), Cd.ext_head, htk]
  have hcr := (Cd.seal_back (st (Cd.sealL L)) L.length hsz).1 (by rw [htk]; rfl)
  refine (Cd.refOpen (st (Cd.sealL L)) L.length hsz (by omega) w).mono ?_
  rintro e w' ⟨k1, _, b⟩
  rw [k1 hcr, hex]
  exact ⟨rfl, b⟩
theorem ropen_shut (s : ByteArray) (hs : s.size ≤ 100000) (h : Shut s) : ∃ er, er ≠ 0 ∧ ∀ w, Calls Try.prog 25 #[.string s] w fun e w' => e = .returned (.tuple #[.string ByteArray.empty, .int .i64 er]) ∧ Below w.heap.size w w' := by
  rcases h with h | ⟨n, hn, hc⟩
  · refine ⟨20, by decide, fun w => (Cd.ref_cut s h w).mono ?_⟩
    rintro e w' ⟨rfl, rfl⟩
    exact ⟨rfl, Below.refl _ _⟩
  · refine ⟨30, by decide, fun w => (Cd.refOpen s n hn (by omega) w).mono ?_⟩
    rintro e w' ⟨_, k1, b⟩
    exact ⟨k1 hc, b⟩
/-- what both Encodes tell -/
theorem renc_any {w : World} (m : Mg) (h : MOk w m) : Calls Try.prog 8 #[m.v] w fun e w' => e = .returned (.tuple #[.string (st (mS m)), .int .i64 (mE m)]) ∧ Below w.heap.size w w' := by
  have hrr : rrB m.K m.V m.N m.A m.C m.es = ((hdB m.K m.V m.N m.A m.C && !fallsB m.es) && m.es.all rgt) := by
    unfold rrB
    cases hdB m.K m.V m.N m.A m.C <;> cases fallsB m.es <;> cases m.es.all rgt <;> rfl
  cases hr : rrB m.K m.V m.N m.A m.C m.es with
  | false =>
    have e4 : mE m = 4 := by
      rw [hrr] at hr
      unfold mE
      cases h1 : (hdB m.K m.V m.N m.A m.C && !fallsB m.es) with
      | false => simp
      | true =>
        rw [h1, Bool.true_and] at hr
        rw [hr]
        simp
    have es : mS m = [] := by unfold mS; rw [if_neg (by omega)]
    refine (renc_bad m.K m.V m.N m.A m.C m.sl m.es h.lie hr).mono ?_
    rintro e w' ⟨rfl, b⟩
    rw [e4, es]
    exact ⟨rfl, b⟩
  | true =>
    have hr2 := hr
    rw [hrr, Bool.and_eq_true] at hr2
    obtain ⟨hh, ha⟩ := hr2
    obtain ⟨⟨k1, k2⟩, ⟨v1, v2⟩, ⟨n1, n2⟩, ⟨a1, a2⟩, ⟨c1, c2⟩⟩ := hdB_parts (by rw [Bool.and_eq_true] at hh; exact hh.1)
    have eK : ((m.K.toNat : Nat) : Int) = m.K := by omega
    have eV : ((m.V.toNat : Nat) : Int) = m.V := by omega
    have eN : ((m.N.toNat : Nat) : Int) = m.N := by omega
    have eA : ((m.A.toNat : Nat) : Int) = m.A := by omega
    have eC : ((m.C.toNat : Nat) : Int) = m.C := by omega
    have hw := renc_go m.K.toNat m.V.toNat m.N.toNat m.A.toNat m.C.toNat m.es.length m.sl m.es h.lie h.ok h.few rfl (by omega) (by omega) (by omega) (by omega) (by omega) ha (by rw [eK, eV, eN, eA, eC]; exact hr)
    rw [eK, eV, eN, eA, eC] at hw
    have hlen : (mL m).length = (numL [m.K.toNat, m.V.toNat, m.N.toNat, m.A.toNat, m.C.toNat, m.es.length]).length + (encs m.es).length := by unfold mL mNums; rw [List.length_append]
    refine hw.mono ?_
    rintro e w' ⟨p1, p2, b⟩
    rcases mE_cases m with h1 | h1 | ⟨_, _, h3, e1⟩ | ⟨_, _, h3, e1⟩
    · rw [hh] at h1; cases h1.1
    · rw [ha] at h1; cases h1.2.1
    · have es : mS m = [] := by unfold mS; rw [if_neg (by omega)]
      rw [p1 (by omega), e1, es]
      exact ⟨rfl, b⟩
    · have es : mS m = Cd.sealL (mL m) := by unfold mS; rw [if_pos e1]
      rw [p2 (by omega), e1, es]
      exact ⟨rfl, b⟩
/-- what both Decodes tell of any bytes -/
theorem decode_two (s : ByteArray) :
    (∃ (K V N A C : Int) (es : List Ent),
      (∀ w, Calls Try.prog 10 #[.string s] w fun e w' => (∃ sl, e = .returned (.tuple #[.agg #[.int .i64 K, .int .i64 V, .int .i64 N, .int .i64 A, .int .i64 C, sl], .int .i64 0]) ∧ ELie w' sl es) ∧ Below w.heap.size w w') ∧
      (∀ w, Calls Try.prog 11 #[.string s] w fun e w' => (∃ sl, e = .returned (.tuple #[.agg #[.int .i64 K, .int .i64 V, .int .i64 N, .int .i64 A, .int .i64 C, sl], .int .i64 0]) ∧ ELie w' sl es) ∧ Below w.heap.size w w')) ∨
    (∃ er : Int,
      (∀ w, Calls Try.prog 10 #[.string s] w fun e w' => e = .returned (.tuple #[zeroV, .int .i64 er]) ∧ Below w.heap.size w w') ∧
      (∀ w, Calls Try.prog 11 #[.string s] w fun e w' => e = .returned (.tuple #[zeroV, .int .i64 er]) ∧ Below w.heap.size w w')) := by
  by_cases h1 : 60000 < s.size
  · exact .inr ⟨2, decode_long s h1, rdec_long s h1⟩
  have h1' : s.size ≤ 60000 := by omega
  by_cases h2 : Shut s
  · obtain ⟨er, he, ho⟩ := ropen_shut s (by omega) h2
    exact .inr ⟨4, decode_shut s h1' h2, rdec_sum s _ er h1' he ho⟩
  obtain ⟨n, hn⟩ : ∃ n, s.size = n + 4 := ⟨s.size - 4, by
    have : ¬ s.size < 4 := fun h => h2 (.inl h)
    omega⟩
  have hc : Cd.crc (s.data.toList.take n) = Cd.big (s.data.toList.drop n) := Classical.byContradiction fun h => h2 (.inr ⟨n, hn, h⟩)
  have hse : st (Cd.sealL (s.data.toList.take n)) = s := (Cd.seal_back s n hn).2 hc
  have hlt : (s.data.toList.take n).length = n := by rw [List.length_take, bytes_len]; omega
  obtain ⟨T, hT⟩ : ∃ T, T = s.data.toList.take n := ⟨_, rfl⟩
  rw [← hT] at hse hlt
  have hO : ∀ w, Calls Try.prog 44 #[.string s] w fun e w' => e = .returned (.tuple #[.string (st T), .int .i64 0]) ∧ Below w.heap.size w w' := fun w => by
    have := open_seal T (by omega) w
    rw [show st (Cd.sealL T) = s from hse] at this
    exact this
  have hP : ∀ w, Calls Try.prog 25 #[.string s] w fun e w' => e = .returned (.tuple #[.string (st T), .int .i64 0]) ∧ Below w.heap.size w w' := fun w => by
    have := ropen_seal T (by omega) w
    rw [show st (Cd.sealL T) = s from hse] at this
    exact this
  have hmx : ∀ l : List UInt8, l.length ≤ 60000 → (st l).size ≤ maxLen := fun l hl => by rw [st_size]; unfold maxLen; omega
  obtain ⟨L, tail, e1, e2, e3⟩ := nums_chain 6 T
  have hle := congrArg List.length e1
  rcases e3 with e3 | ⟨e3, er, kk, he, hsc⟩
  · match L, e3 with
    | [k, v, nn, a, c, q], _ =>
      have h0 := e2 k (by simp)
      have h1 := e2 v (by simp)
      have h2 := e2 nn (by simp)
      have h3 := e2 a (by simp)
      have h4 := e2 c (by simp)
      have h5 := e2 q (by simp)
      have hle6 := hle
      simp only [numL_cons, List.length_append] at hle6
      have e1' : T = uEnc k ++ (numL [v, nn, a, c, q] ++ tail) := by rw [e1, numL_cons, List.append_assoc]
      have q1 : QC (st T) 0 k 0 (st (numL [v, nn, a, c, q] ++ tail)) := by rw [e1']; exact qc_ok k h0 _ (hmx _ (by rw [← e1']; omega))
      have q2 : QC (st (numL [v, nn, a, c, q] ++ tail)) 0 v 0 (st (numL [nn, a, c, q] ++ tail)) := by
        rw [numL_cons v, List.append_assoc]; exact qc_ok v h1 _ (hmx _ (by simp only [numL_cons, List.length_append]; omega))
      have q3 : QC (st (numL [nn, a, c, q] ++ tail)) 0 nn 0 (st (numL [a, c, q] ++ tail)) := by
        rw [numL_cons nn, List.append_assoc]; exact qc_ok nn h2 _ (hmx _ (by simp only [numL_cons, List.length_append]; omega))
      have q4 : QC (st (numL [a, c, q] ++ tail)) 0 a 0 (st (numL [c, q] ++ tail)) := by
        rw [numL_cons a, List.append_assoc]; exact qc_ok a h3 _ (hmx _ (by simp only [numL_cons, List.length_append]; omega))
      have q5 : QC (st (numL [c, q] ++ tail)) 0 c 0 (st (numL [q] ++ tail)) := by
        rw [numL_cons c, List.append_assoc]; exact qc_ok c h4 _ (hmx _ (by simp only [numL_cons, List.length_append]; omega))
      have q6 : QC (st (numL [q] ++ tail)) 0 q 0 (st tail) := by
        rw [show numL [q] ++ tail = uEnc q ++ tail by simp [numL]]
        exact qc_ok q h5 _ (hmx _ (by rw [List.length_append]; omega))
      obtain ⟨es, tl, f1, f2, f3, f4, f5⟩ := ents_chain q tail (by unfold maxLen; omega)
      subst f1
      have hm := encs_many es f2 f3
      have hO2 := hO
      rw [e1] at hO2
      have hr := read_loop s k v nn a c q es tl h1' (by rw [← e1]; omega) h0 h1 h2 h3 h4 h5 f2 f3 (fun j hj => (f4 j hj).our) (f5.imp id fun ⟨x1, x, m, e, x2, x3⟩ => ⟨x1, x, m, e, x2.our, x3⟩) hO2
      by_cases hqs : q ≤ s.size
      · have hr2 := rdec_loop s (st T) _ _ _ _ _ _ k v nn a c q h1' hqs q1 q2 q3 q4 q5 q6 es tl rfl f2 (fun j hj => (f4 j hj).ref) (f5.imp id fun ⟨x1, x, m, e, x2, x3⟩ => ⟨x1, x, m, e, x2.ref, x3⟩) hP
        by_cases hg : es.length = q ∧ tl = [] ∧ (hdB k v nn a c && !fallsB es) = true
        · exact .inl ⟨k, v, nn, a, c, es, decode_ok s fun w => (hr w).mono fun e w' ⟨_, p2, b⟩ => ⟨p2 hg, b⟩, fun w => (hr2 w).mono fun e w' ⟨_, p2, b⟩ => ⟨p2 hg, b⟩⟩
        · exact .inr ⟨4, decode_no s fun w => (hr w).mono fun e w' ⟨p1, _, b⟩ => ⟨p1 hg, b⟩, fun w => (hr2 w).mono fun e w' ⟨p1, _, b⟩ => ⟨p1 hg, b⟩⟩
      · have hg : ¬ (es.length = q ∧ tl = [] ∧ (hdB k v nn a c && !fallsB es) = true) := fun h => by
          have := h.1
          rw [List.length_append] at hle6
          omega
        exact .inr ⟨4, decode_no s fun w => (hr w).mono fun e w' ⟨p1, _, b⟩ => ⟨p1 hg, b⟩, rdec_many s (st T) _ _ _ _ _ _ k v nn a c q 0 0 0 0 0 0 h1' q1 q2 q3 q4 q5 q6 hP rfl (by omega)⟩
  · have hO2 := hO
    rw [e1] at hO2
    have hb : QC (st tail) 0 0 er (st tail) := qc_bad (st tail) er kk (hmx _ (by rw [List.length_append] at hle; omega)) (by rw [st_list]; exact hsc) he
    have hs := qc_err (st tail) er he
    have hmy : ∀ l : List UInt8, l.length ≤ T.length → (st l).size ≤ maxLen := fun l hl => hmx l (by omega)
    refine .inr ⟨4, decode_no s ?_, ?_⟩
    · match L, e3 with
      | [], _ => exact read_num0 s tail er kk h1' (by rw [← hle]; omega) he hsc hO2
      | [n0], _ => exact read_num1 s n0 tail er kk h1' (by rw [← hle]; omega) (e2 _ (by simp)) he hsc hO2
      | [n0, n1], _ => exact read_num2 s n0 n1 tail er kk h1' (by rw [← hle]; omega) (e2 _ (by simp)) (e2 _ (by simp)) he hsc hO2
      | [n0, n1, n2], _ => exact read_num3 s n0 n1 n2 tail er kk h1' (by rw [← hle]; omega) (e2 _ (by simp)) (e2 _ (by simp)) (e2 _ (by simp)) he hsc hO2
      | [n0, n1, n2, n3], _ => exact read_num4 s n0 n1 n2 n3 tail er kk h1' (by rw [← hle]; omega) (e2 _ (by simp)) (e2 _ (by simp)) (e2 _ (by simp)) (e2 _ (by simp)) he hsc hO2
      | [n0, n1, n2, n3, n4], _ => exact read_num5 s n0 n1 n2 n3 n4 tail er kk h1' (by rw [← hle]; omega) (e2 _ (by simp)) (e2 _ (by simp)) (e2 _ (by simp)) (e2 _ (by simp)) (e2 _ (by simp)) he hsc hO2
      | _ :: _ :: _ :: _ :: _ :: _ :: _, h => simp at h; omega
    · have step : ∀ (x : Nat) (M : List Nat), x < 9223372036854775808 → (numL (x :: M) ++ tail).length ≤ T.length → QC (st (numL (x :: M) ++ tail)) 0 x 0 (st (numL M ++ tail)) := fun x M hx hl => by
        rw [numL_cons, List.append_assoc]
        exact qc_ok x hx _ (hmy _ (by rw [numL_cons, List.append_assoc] at hl; exact hl))
      have nil : numL [] ++ tail = tail := by simp [numL]
      match L, e3 with
      | [], _ =>
        rw [e1, nil] at hP
        exact rdec_bad6 s _ _ _ _ _ _ _ _ _ _ _ _ _ _ _ _ _ _ _ h1' hb hs hs hs hs hs hP he
      | [n0], _ =>
        have s0 := step n0 [] (e2 _ (by simp)) (by rw [← e1]; omega)
        rw [e1] at hP
        rw [nil] at s0
        exact rdec_bad6 s _ _ _ _ _ _ _ _ _ _ _ _ _ _ _ _ _ _ _ h1' s0 hb hs hs hs hs hP he
      | [n0, n1], _ =>
        have s0 := step n0 [n1] (e2 _ (by simp)) (by rw [← e1]; omega)
        have s1 := step n1 [] (e2 _ (by simp)) (by rw [e1, numL_cons n0]; simp only [List.length_append]; omega)
        rw [e1] at hP
        rw [nil] at s1
        exact rdec_bad6 s _ _ _ _ _ _ _ _ _ _ _ _ _ _ _ _ _ _ _ h1' s0 s1 hb hs hs hs hP he
      | [n0, n1, n2], _ =>
        have s0 := step n0 [n1, n2] (e2 _ (by simp)) (by rw [← e1]; omega)
        have s1 := step n1 [n2] (e2 _ (by simp)) (by rw [e1, numL_cons n0]; simp only [List.length_append]; omega)
        have s2 := step n2 [] (e2 _ (by simp)) (by rw [e1, numL_cons n0, numL_cons n1]; simp only [List.length_append]; omega)
        rw [e1] at hP
        rw [nil] at s2
        exact rdec_bad6 s _ _ _ _ _ _ _ _ _ _ _ _ _ _ _ _ _ _ _ h1' s0 s1 s2 hb hs hs hP he
      | [n0, n1, n2, n3], _ =>
        have s0 := step n0 [n1, n2, n3] (e2 _ (by simp)) (by rw [← e1]; omega)
        have s1 := step n1 [n2, n3] (e2 _ (by simp)) (by rw [e1, numL_cons n0]; simp only [List.length_append]; omega)
        have s2 := step n2 [n3] (e2 _ (by simp)) (by rw [e1, numL_cons n0, numL_cons n1]; simp only [List.length_append]; omega)
        have s3 := step n3 [] (e2 _ (by simp)) (by rw [e1, numL_cons n0, numL_cons n1, numL_cons n2]; simp only [List.length_append]; omega)
        rw [e1] at hP
        rw [nil] at s3
        exact rdec_bad6 s _ _ _ _ _ _ _ _ _ _ _ _ _ _ _ _ _ _ _ h1' s0 s1 s2 s3 hb hs hP he
      | [n0, n1, n2, n3, n4], _ =>
        have s0 := step n0 [n1, n2, n3, n4] (e2 _ (by simp)) (by rw [← e1]; omega)
        have s1 := step n1 [n2, n3, n4] (e2 _ (by simp)) (by rw [e1, numL_cons n0]; simp only [List.length_append]; omega)
        have s2 := step n2 [n3, n4] (e2 _ (by simp)) (by rw [e1, numL_cons n0, numL_cons n1]; simp only [List.length_append]; omega)
        have s3 := step n3 [n4] (e2 _ (by simp)) (by rw [e1, numL_cons n0, numL_cons n1, numL_cons n2]; simp only [List.length_append]; omega)
        have s4 := step n4 [] (e2 _ (by simp)) (by rw [e1, numL_cons n0, numL_cons n1, numL_cons n2, numL_cons n3]; simp only [List.length_append]; omega)
        rw [e1] at hP
        rw [nil] at s4
        exact rdec_bad6 s _ _ _ _ _ _ _ _ _ _ _ _ _ _ _ _ _ _ _ h1' s0 s1 s2 s3 s4 hb hP he
      | _ :: _ :: _ :: _ :: _ :: _ :: _, h => simp at h; omega
end Go.Proofs.Ytjphfpfagnhelaa
