import Derived.Test.YtjphfpfagnhelaaMl
namespace Go.Proofs.Ytjphfpfagnhelaa
open Go.RowKit Go.Maps Go.Shelf

theorem bytes_len (s : ByteArray) : s.data.toList.length = s.size := by rw [Array.length_toList]; rfl
/-- what Open tells of sealed bytes -/
theorem open_seal (L : List UInt8) (hL : L.length ≤ 100000) (w : World) : Calls Try.prog 44 #[.string (st (Cd.sealL L))] w fun e w' => e = .returned (.tuple #[.string (st L), .int .i64 0]) ∧ Below w.heap.size w w' := by
  have hsz : (st (Cd.sealL L)).size = L.length + 4 := by rw [st_size, Cd.sealL_len]
  have htk : (st (Cd.sealL L)).data.toList.take L.length = L := by rw [st_list]; unfold Cd.sealL; rw [List.take_left]
  have hex : (st (Cd.sealL L)).extract 0 L.length = st L := by
    rw [← st_toList ((st (Cd.sealL L)).extract 0 L.length), Cd.ext_head, htk]
  have hcr := (Cd.seal_back (st (Cd.sealL L)) L.length hsz).1 (by rw [htk]; rfl)
  refine (Cd.open_any (st (Cd.sealL L)) L.length hsz (by omega) w).mono ?_
  rintro e w' ⟨k1, _, b⟩
  rw [k1 hcr, hex]
  exact ⟨rfl, b⟩
/-- bytes that no sum opens -/
def Shut (s : ByteArray) : Prop := s.size < 4 ∨ ∃ n, s.size = n + 4 ∧ ¬ Cd.crc (s.data.toList.take n) = Cd.big (s.data.toList.drop n)
theorem open_shut (s : ByteArray) (hs : s.size ≤ 100000) (h : Shut s) : ∃ er, er ≠ 0 ∧ ∀ w, Calls Try.prog 44 #[.string s] w fun e w' => e = .returned (.tuple #[.string ByteArray.empty, .int .i64 er]) ∧ Below w.heap.size w w' := by
  rcases h with h | ⟨n, hn, hc⟩
  · refine ⟨20, by decide, fun w => (Cd.open_cut s h w).mono ?_⟩
    rintro e w' ⟨rfl, rfl⟩
    exact ⟨rfl, Below.refl _ _⟩
  · refine ⟨30, by decide, fun w => (Cd.open_any s n hn (by omega) w).mono ?_⟩
    rintro e w' ⟨_, k1, b⟩
    exact ⟨k1 hc, b⟩
def zeroV : Value := .agg #[.int .i64 0, .int .i64 0, .int .i64 0, .int .i64 0, .int .i64 0, .slice none 0 0]
/-- Decode of bytes that are too many, or that no sum opens -/
theorem decode_long (s : ByteArray) (hs : 60000 < s.size) (w : World) : Calls Try.prog 10 #[.string s] w fun e w' => e = .returned (.tuple #[zeroV, .int .i64 2]) ∧ Below w.heap.size w w' := decode_no s (read_long s hs) w
theorem decode_shut (s : ByteArray) (hs : s.size ≤ 60000) (h : Shut s) (w : World) : Calls Try.prog 10 #[.string s] w fun e w' => e = .returned (.tuple #[zeroV, .int .i64 4]) ∧ Below w.heap.size w w' := by
  obtain ⟨er, he, ho⟩ := open_shut s (by omega) h
  exact decode_no s (read_sum s _ er hs he ho) w
theorem mL_nums (m : Mg) : mL m = numL [m.K.toNat, m.V.toNat, m.N.toNat, m.A.toNat, m.C.toNat, m.es.length] ++ (encs m.es ++ []) := by unfold mL mNums; rw [List.append_nil]
/-- what was encoded is decoded -/
theorem decode_back (m : Mg) (hok : ∀ y ∈ m.es, y.Ok) (he : mE m = 0) (w : World) :
    Calls Try.prog 10 #[.string (st (mS m))] w fun e w' => (∃ sl, e = .returned (.tuple #[.agg #[.int .i64 m.K, .int .i64 m.V, .int .i64 m.N, .int .i64 m.A, .int .i64 m.C, sl], .int .i64 0]) ∧ ELie w' sl m.es) ∧ Below w.heap.size w w' := by
  obtain ⟨hh, ha, hl⟩ : (hdB m.K m.V m.N m.A m.C && !fallsB m.es) = true ∧ m.es.all rgt = true ∧ (mL m).length + 4 ≤ 60000 := by
    rcases mE_cases m with h | h | h | h
    · omega
    · omega
    · omega
    · exact ⟨h.1, h.2.1, h.2.2.1⟩
  have hS : mS m = Cd.sealL (mL m) := by unfold mS; rw [if_pos he]
  obtain ⟨⟨k1, k2⟩, ⟨v1, v2⟩, ⟨n1, n2⟩, ⟨a1, a2⟩, ⟨c1, c2⟩⟩ := hdB_parts (by rw [Bool.and_eq_true] at hh; exact hh.1)
  have eK : ((m.K.toNat : Nat) : Int) = m.K := by omega
  have eV : ((m.V.toNat : Nat) : Int) = m.V := by omega
  have eN : ((m.N.toNat : Nat) : Int) = m.N := by omega
  have eA : ((m.A.toNat : Nat) : Int) = m.A := by omega
  have eC : ((m.C.toNat : Nat) : Int) = m.C := by omega
  have hm := encs_many m.es ha hok
  have hlm : (encs m.es).length ≤ (mL m).length := by unfold mL; rw [List.length_append]; omega
  have hO : ∀ w, Calls Try.prog 44 #[.string (st (mS m))] w fun e w' => e = .returned (.tuple #[.string (st (numL [m.K.toNat, m.V.toNat, m.N.toNat, m.A.toNat, m.C.toNat, m.es.length] ++ (encs m.es ++ []))), .int .i64 0]) ∧ Below w.heap.size w w' := fun w => by
    rw [hS, ← mL_nums]
    exact open_seal (mL m) (by omega) w
  have hd : ∀ j (hj : j < m.es.length), DecO (st (encs (m.es.drop j) ++ [])) m.es[j] ((encE m.es[j]).length : Nat) 0 := fun j hj w => by
    rw [List.drop_eq_getElem_cons hj, encs_cons, List.append_assoc]
    have hr : rgt m.es[j] = true := List.all_eq_true.1 ha _ (List.getElem_mem hj)
    refine dec_back _ hr (hok _ (List.getElem_mem hj)) _ ?_ w
    have e2 : encs m.es = encs (m.es.take j) ++ encs (m.es.drop j) := by rw [← encs_append, List.take_append_drop]
    rw [List.drop_eq_getElem_cons hj, encs_cons] at e2
    have := congrArg List.length e2
    rw [st_size]
    simp only [List.length_append, List.length_nil] at this ⊢
    unfold maxLen
    omega
  have hr := fun w => read_loop (st (mS m)) m.K.toNat m.V.toNat m.N.toNat m.A.toNat m.C.toNat m.es.length m.es [] (by rw [hS, st_size, Cd.sealL_len]; exact hl) (by rw [← mL_nums]; omega) (by omega) (by omega) (by omega) (by omega) (by omega) (by omega) ha hok hd (.inl rfl) hO w
  rw [eK, eV, eN, eA, eC] at hr
  refine decode_ok _ (fun w => (hr w).mono ?_) w
  rintro e w' ⟨_, p2, b⟩
  exact ⟨p2 ⟨rfl, rfl, hh⟩, b⟩
/-- what Decode tells of any bytes -/
theorem decode_all (s : ByteArray) :
    (∃ m : Mg, mE m = 0 ∧ s = st (mS m) ∧ (∀ y ∈ m.es, y.Ok) ∧ m.es.length ≤ 2000000) ∨
    (∃ er, er ≠ 0 ∧ ∀ w, Calls Try.prog 10 #[.string s] w fun e w' => e = .returned (.tuple #[zeroV, .int .i64 er]) ∧ Below w.heap.size w w') := by
  by_cases h1 : 60000 < s.size
  · exact .inr ⟨2, by decide, decode_long s h1⟩
  have h1' : s.size ≤ 60000 := by omega
  by_cases h2 : Shut s
  · exact .inr ⟨4, by decide, decode_shut s h1' h2⟩
  obtain ⟨n, hn⟩ : ∃ n, s.size = n + 4 := ⟨s.size - 4, by
    have : ¬ s.size < 4 := fun h => h2 (.inl h)
    omega⟩
  have hc : Cd.crc (s.data.toList.take n) = Cd.big (s.data.toList.drop n) := Classical.byContradiction fun h => h2 (.inr ⟨n, hn, h⟩)
  have hse : st (Cd.sealL (s.data.toList.take n)) = s := (Cd.seal_back s n hn).2 hc
  have hlt : (s.data.toList.take n).length = n := by rw [List.length_take, bytes_len]; omega
  obtain ⟨T, hT⟩ : ∃ T, T = s.data.toList.take n := ⟨_, rfl⟩
  rw [← hT] at hse hlt
  have hO : ∀ w, Calls Try.prog 44 #[.string s] w fun e w' => e = .returned (.tuple #[.string (st T), .int .i64 0]) ∧ Below w.heap.size w w' := fun w => by
    have := open_seal T (by omega) w
    rw [show st (Cd.sealL T) = s from hse] at this
    exact this
  obtain ⟨L, tail, e1, e2, e3⟩ := nums_chain 6 T
  rcases e3 with e3 | ⟨e3, er, kk, he, hsc⟩
  · match L, e3 with
    | [k, v, nn, a, c, q], _ =>
      have h0 := e2 k (by simp)
      have h1 := e2 v (by simp)
      have h2 := e2 nn (by simp)
      have h3 := e2 a (by simp)
      have h4 := e2 c (by simp)
      have h5 := e2 q (by simp)
      have hle := congrArg List.length e1
      rw [List.length_append] at hle
      obtain ⟨es, tl, f1, f2, f3, f4, f5⟩ := ents_chain q tail (by unfold maxLen; omega)
      subst f1
      rw [e1] at hO
      have hr := read_loop s k v nn a c q es tl h1' (by rw [← e1]; omega) h0 h1 h2 h3 h4 h5 f2 f3 (fun j hj => (f4 j hj).our) (f5.imp id fun ⟨x1, x, m, e, x2, x3⟩ => ⟨x1, x, m, e, x2.our, x3⟩) hO
      by_cases hg : es.length = q ∧ tl = [] ∧ (hdB k v nn a c && !fallsB es) = true
      · obtain ⟨g1, g2, g3⟩ := hg
        subst g1
        subst g2
        have hm := encs_many es f2 f3
        rw [List.append_nil] at hle e1
        refine .inl ⟨⟨k, v, nn, a, c, .slice none 0 0, es⟩, ?_, ?_, f3, by simp only; omega⟩
        · have hL : mL ⟨k, v, nn, a, c, .slice none 0 0, es⟩ = T := by unfold mL mNums; simp only [Int.toNat_natCast]; exact e1.symm
          unfold mE
          simp only [g3, f2, if_true]
          rw [hL, if_pos (by omega)]
        · have hL : mL ⟨k, v, nn, a, c, .slice none 0 0, es⟩ = T := by unfold mL mNums; simp only [Int.toNat_natCast]; exact e1.symm
          have hE : mE ⟨k, v, nn, a, c, .slice none 0 0, es⟩ = 0 := by
            unfold mE
            simp only [g3, f2, if_true]
            rw [hL, if_pos (by omega)]
          unfold mS
          rw [if_pos hE, hL]
          exact hse.symm
      · exact .inr ⟨4, by decide, decode_no s fun w => (hr w).mono fun e w' ⟨p1, _, b⟩ => ⟨p1 hg, b⟩⟩
  · refine .inr ⟨4, by decide, decode_no s ?_⟩
    rw [e1] at hO
    have hle := congrArg List.length e1
    match L, e3 with
    | [], _ => exact read_num0 s tail er kk h1' (by rw [← hle]; omega) he hsc hO
    | [n0], _ => exact read_num1 s n0 tail er kk h1' (by rw [← hle]; omega) (e2 _ (by simp)) he hsc hO
    | [n0, n1], _ => exact read_num2 s n0 n1 tail er kk h1' (by rw [← hle]; omega) (e2 _ (by simp)) (e2 _ (by simp)) he hsc hO
    | [n0, n1, n2], _ => exact read_num3 s n0 n1 n2 tail er kk h1' (by rw [← hle]; omega) (e2 _ (by simp)) (e2 _ (by simp)) (e2 _ (by simp)) he hsc hO
    | [n0, n1, n2, n3], _ => exact read_num4 s n0 n1 n2 n3 tail er kk h1' (by rw [← hle]; omega) (e2 _ (by simp)) (e2 _ (by simp)) (e2 _ (by simp)) (e2 _ (by simp)) he hsc hO
    | [n0, n1, n2, n3, n4], _ => exact read_num5 s n0 n1 n2 n3 n4 tail er kk h1' (by rw [← hle]; omega) (e2 _ (by simp)) (e2 _ (by simp)) (e2 _ (by simp)) (e2 _ (by simp)) (e2 _ (by simp)) he hsc hO
    | _ :: _ :: _ :: _ :: _ :: _ :: _, h => simp at h; omega
end Go.Proofs.Ytjphfpfagnhelaa
