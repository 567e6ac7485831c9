import Derived.Test.YtopebghandojbaaGreatKe
namespace Go.Proofs.YtopebghandojbaaGreat
open Go.RowKit
/-- the reference's reader -/
def QIs (g : Nat) (w : World) (s : ByteArray) (e : Int) : Prop := w.heap[g]? = some (.cells #[.string s, .int .i64 e] 187 (0, 0))
set_option maxRecDepth 100000 in
theorem QIs.kept {g base g' : Nat} {w w' : World} {s : ByteArray} {e : Int} (h : QIs g w s e) (k : Kept base g' w w') (hb : g < base) (hg : g ≠ g') : QIs g w' s e := (k.block g hb hg).trans h
set_option maxRecDepth 100000 in
theorem QIs.c0 {g : Nat} {w : World} {s : ByteArray} {e : Int} (h : QIs g w s e) : w.cell? ⟨g, 0, none⟩ = some (.string s) := by unfold QIs at h; simp [World.cell?, h]
set_option maxRecDepth 100000 in
theorem QIs.c1 {g : Nat} {w : World} {s : ByteArray} {e : Int} (h : QIs g w s e) : w.cell? ⟨g, 1, none⟩ = some (.int .i64 e) := by unfold QIs at h; simp [World.cell?, h]
set_option maxRecDepth 100000 in
theorem QIs.fr {g : Nat} {w : World} {s : ByteArray} {e : Int} (h : QIs g w s e) (i : Nat) : w.frozen? ⟨g, i, none⟩ = false := by unfold QIs at h; simp [World.frozen?, h]
set_option maxRecDepth 100000 in
theorem QIs.lt {g : Nat} {w : World} {s : ByteArray} {e : Int} (h : QIs g w s e) : g < w.heap.size := lt_of_block h
set_option maxRecDepth 100000 in
theorem QIs.set0 {g : Nat} {w : World} {s s' : ByteArray} {e : Int} (h : QIs g w s e) : QIs g (w.setCell ⟨g, 0, none⟩ (.string s')) s' e := by
  unfold QIs at *; simp [World.setCell, Array.getElem?_modify, h]
set_option maxRecDepth 100000 in
theorem QIs.set1 {g : Nat} {w : World} {s : ByteArray} {e e' : Int} (h : QIs g w s e) : QIs g (w.setCell ⟨g, 1, none⟩ (.int .i64 e')) s e' := by
  unfold QIs at *; simp [World.setCell, Array.getElem?_modify, h]
set_option maxRecDepth 100000 in
theorem QIs.drew {g : Nat} {w : World} {s : ByteArray} {e : Int} (h : QIs g w s e) (n : Nat) : QIs g (w.drewN n) s e := h
set_option maxRecDepth 100000 in
theorem QIs.new (s : ByteArray) (w : World) : QIs w.heap.size (w.alloc (.cells #[.string s, .int .i64 0] 187)) s 0 := by
  unfold QIs; show (w.heap.push _)[w.heap.size]? = _; simp
set_option maxRecDepth 100000 in
theorem QIs.below {g : Nat} {w w' : World} {s : ByteArray} {e : Int} (h : QIs g w s e) (k : Below w.heap.size w w') : QIs g w' s e := (k.block g h.lt).trans h
set_option maxRecDepth 100000 in
theorem fval_drop_le : ∀ (l : List UInt8) (j : Nat), fval (l.drop j) ≤ fval l
  | [], j => by simp [fval]
  | c :: t, 0 => by simp
  | c :: t, j + 1 => by
    have := fval_drop_le t j
    simp only [List.drop_succ_cons, fval]; omega
set_option maxRecDepth 100000 in
theorem fval_step (s : ByteArray) (k j : Nat) (hk : k ≤ s.size) (hj : j < k) : fval ((s.data.toList.take k).drop j) = (s[j]'(by omega)).toNat + 256 * fval ((s.data.toList.take k).drop (j + 1)) := by
  have hl : s.data.toList.length = s.size := by rw [Array.length_toList]; rfl
  rw [List.drop_eq_getElem_cons (by rw [List.length_take, hl]; omega), fval, List.getElem_take]
  rfl
set_option maxRecDepth 100000 in
theorem QIs.c1' {g : Nat} {w : World} {s : ByteArray} {e e' : Int} (h : QIs g w s e) : (w.setCell ⟨g, 1, none⟩ (.int .i64 e')).cell? ⟨g, 1, none⟩ = some (.int .i64 e') := h.set1.c1
set_option maxRecDepth 100000 in
theorem top_byte (s : ByteArray) (h8 : 8 ≤ s.size) : fval (s.data.toList.take 8) < 9223372036854775808 ↔ s[7].toNat ≤ 127 := by
  have ⟨a, b⟩ := ftake s 7 _ (show 7 < s.size by omega) rfl
  rw [b]
  have := s[7].toNat_lt
  omega
set_option maxRecDepth 100000 in
theorem sized8 (w : World) : Calls Tryz.prog 137 #[.int .i64 8] w fun e w' => e = .returned (.bool true) ∧ w' = w := by
  go_enter Tryz.func137, Tryz.ntmps137
  go_wp2
  go_ret
  exact ⟨rfl, rfl⟩
set_option maxRecDepth 100000 in
theorem q8_form (g : Nat) (s : ByteArray) (hks : 8 ≤ s.size) (hb : ¬ fval (s.data.toList.take 8) < 9223372036854775808) (w : World) (h : QIs g w s 0) : Calls Tryz.prog 108 #[.pointer (some ⟨g, 0, none⟩), .int .i64 8] w fun x w' => x = .returned (.tuple #[.int .i64 0, .int .i64 4]) ∧ Kept w.heap.size g w w' := by
  have ht : ¬ s[7].toNat ≤ 127 := fun hh => hb ((top_byte s hks).2 hh)
  have h0 := h.c0
  have h1 := h.c1
  have hf := h.fr 1
  have h2 := h.c1' (e' := 4)
  clear hb
  go_enter Tryz.func108, Tryz.ntmps108
  go_wp2_with (first | (go_at_call 137; refine (sized8 _).mono ?_; rintro x w' ⟨rfl, hw⟩; have hw := hw.symm; subst hw))
  go_quiet (fail)
  go_wp2
  go_ret2
  exact ⟨rfl, ((Kept.refl _ _ _).setCell 1 _).drewN _⟩
set_option maxRecDepth 100000 in
set_option maxHeartbeats 2000000 in
theorem q8_ok (g : Nat) (s : ByteArray) (hks : 8 ≤ s.size) (hs : s.size ≤ maxLen) (hb : fval (s.data.toList.take 8) < 9223372036854775808) (w : World) (h : QIs g w s 0) : Calls Tryz.prog 108 #[.pointer (some ⟨g, 0, none⟩), .int .i64 8] w fun x w' => x = .returned (.tuple #[.int .i64 (fval (s.data.toList.take 8)), .int .i64 0]) ∧ Kept w.heap.size g w w' := by
  have h0 := h.c0
  have h1 := h.c1
  have hf := h.fr 0
  unfold maxLen at hs
  have HB : Hid (fval (s.data.toList.take 8) < 9223372036854775808) := hb
  have hh : 7 < s.size := by omega
  have h127 : s[7].toNat ≤ 127 := (top_byte s hks).1 hb
  clear hb
  go_enter Tryz.func108, Tryz.ntmps108
  go_wp2_with (first | (go_at_call 137; refine (sized8 _).mono ?_; rintro x w' ⟨rfl, hw⟩; have hw := hw.symm; subst hw))
  go_loop [6, 7] (fun u i => ∃ (j x : Nat), j ≤ 8 ∧ i = .int .i64 ((j : Int) - 1) ∧ u = .int .i64 x ∧ x = fval ((s.data.toList.take 8).drop j)) (fun _ i => (intOf i + 1).toNat)
  case atStart => exact ⟨8, 0, Nat.le_refl _, rfl, rfl, by rw [List.drop_of_length_le (by rw [List.length_take]; exact Nat.min_le_left _ _)]; rfl⟩
  case round =>
    obtain ⟨j, x, hj, rfl, rfl, hx⟩ := hrel
    have HX : Hid (x = fval ((s.data.toList.take 8).drop j)) := hx
    clear hx
    by_cases hj0 : j = 0
    · subst hj0
      have HX2 : Hid (fval (s.data.toList.take 8) = x) := HX.out.symm
      go_wp2
      go_ret2
      exact ⟨by rw [HX2.out]; rfl, (Kept.refl _ _ _).setCell 0 _⟩
    · obtain ⟨i, rfl⟩ : ∃ i, j = i + 1 := ⟨j - 1, by omega⟩
      have his : i < s.size := by omega
      have hc : s[i].toNat < 256 := s[i].toNat_lt
      have hst := fval_step s 8 i hks (by omega)
      rw [← HX.out] at hst
      have hle := fval_drop_le (s.data.toList.take 8) i
      rw [hst] at hle
      have hb2 : s[i].toNat + 256 * x < 9223372036854775808 := by have := HB.out; omega
      have HN : Hid (fval ((s.data.toList.take 8).drop i) = s[i].toNat + 256 * x) := hst
      clear hst hle hj0
      go_wp2
      go_round
      case rel => exact ⟨i, s[i].toNat + 256 * x, by omega, rfl, by congr 1; omega, HN.out.symm⟩
      case measure => simp [intOf]

set_option maxRecDepth 100000 in
theorem plE_cons (p : Int) (ps : List Int) : plE (p :: ps) = fEnc p.toNat 2 ++ plE ps := by unfold plE; rw [List.flatMap_cons]
set_option maxRecDepth 100000 in
theorem fEnc2 (p : Nat) : fEnc p 2 = [UInt8.ofNat (p % 256), UInt8.ofNat (p / 256 % 256)] := rfl
set_option maxRecDepth 100000 in
theorem u8_of (x : UInt8) : UInt8.ofNat x.toNat = x := by simp
set_option maxRecDepth 100000 in
theorem fEnc_two (x y : UInt8) : fEnc (x.toNat + 256 * y.toNat) 2 = [x, y] := by
  have hx := x.toNat_lt
  have hy := y.toNat_lt
  rw [fEnc2, show (x.toNat + 256 * y.toNat) / 256 % 256 = y.toNat by omega, show (x.toNat + 256 * y.toNat) % 256 = x.toNat by omega, u8_of, u8_of]
set_option maxRecDepth 100000 in
/-- any bytes, two by two, are places -/
theorem plE_of : ∀ (m : Nat) (X : List UInt8), X.length = 2 * m → ∃ ps : List Int, plE ps = X ∧ ps.length = m ∧ ∀ p ∈ ps, 0 ≤ p ∧ p < 65536
  | 0, X, h => ⟨[], by rw [List.eq_nil_of_length_eq_zero h]; rfl, rfl, by simp⟩
  | m + 1, [], h => by simp at h
  | m + 1, [x], h => by simp at h; omega
  | m + 1, x :: y :: X, h => by
    obtain ⟨ps, h1, h2, h3⟩ := plE_of m X (by simp at h; omega)
    refine ⟨((x.toNat + 256 * y.toNat : Nat) : Int) :: ps, ?_, by simp [h2], fun p hp => ?_⟩
    · rw [plE_cons, h1, Int.toNat_natCast, fEnc_two]; rfl
    · rcases List.mem_cons.1 hp with rfl | hp
      · have := x.toNat_lt; have := y.toNat_lt; omega
      · exact h3 p hp
end Go.Proofs.YtopebghandojbaaGreat
namespace Go.Proofs.YtopebghandojbaaGreat
open Go.RowKit
set_option maxRecDepth 100000 in
theorem fEnc_bigN {X : List UInt8} {k : Nat} (h : X.length = k) : fEnc (big X) k = X := by rw [← h]; exact fEnc_big X
set_option maxRecDepth 100000 in
/-- whatever has a head's length, mark and count is a head's text -/
theorem parse {L : List UInt8} {m : Nat} (hl : L.length = 14 + 2 * m) (h0 : L.take 1 = [84]) (h9 : (L.drop 9).take 1 = fEnc m 1) :
    ∃ ps : List Int, ps.length = m ∧ (∀ p ∈ ps, 0 ≤ p ∧ p < 65536) ∧ L = headL (big ((L.drop 1).take 8)) ps (big (L.drop (10 + 2 * m))) ∧ big (L.drop (10 + 2 * m)) < 4294967296 := by
  obtain ⟨ps, h1, h2, h3⟩ := plE_of m ((L.drop 10).take (2 * m)) (by rw [List.length_take, List.length_drop]; omega)
  have l4 : (L.drop (10 + 2 * m)).length = 4 := by rw [List.length_drop]; omega
  have l8 : ((L.drop 1).take 8).length = 8 := by rw [List.length_take, List.length_drop]; omega
  refine ⟨ps, h2, h3, ?_, ?_⟩
  · unfold headL
    rw [fEnc_bigN l8, fEnc_bigN l4, h2, ← h9, h1, ← h0]
    have e1 := List.take_append_drop 1 L
    have e2 := List.take_append_drop 8 (L.drop 1)
    have e3 := List.take_append_drop 1 (L.drop 9)
    have e4 := List.take_append_drop (2 * m) (L.drop 10)
    rw [List.drop_drop] at e2 e3 e4
    rw [List.append_assoc, List.append_assoc, e4, e3, e2, e1]
  · have := big_lt (L.drop (10 + 2 * m))
    rw [l4] at this
    have e : (256 : Nat) ^ 4 = 4294967296 := by decide
    omega
set_option maxRecDepth 100000 in
theorem plE_inj {ps ps' : List Int} (hl : ps.length = ps'.length) (h1 : ∀ p ∈ ps, 0 ≤ p ∧ p < 65536) (h2 : ∀ p ∈ ps', 0 ≤ p ∧ p < 65536) (h : plE ps = plE ps') : ps = ps' := by
  have a := (rdP_of ps (st (plE ps)) [] h1 (by rw [st_list, List.append_nil]) ps.length (Nat.le_refl _)).1
  have b := (rdP_of ps' (st (plE ps)) [] h2 (by rw [st_list, List.append_nil, h]) ps.length (by omega)).1
  rw [List.take_length] at a
  rw [hl, List.take_length] at b
  rw [← a, hl, b]
set_option maxRecDepth 100000 in
theorem fEnc_inj {k a b : Nat} (ha : a < 256 ^ k) (hb : b < 256 ^ k) (h : fEnc a k = fEnc b k) : a = b := by
  have := congrArg big h
  rwa [big_fEnc k a ha, big_fEnc k b hb] at this
set_option maxRecDepth 100000 in
theorem headL_inj {s s' : Nat} {ps ps' : List Int} {sm sm' : Nat} (hs : s < 18446744073709551616) (hs' : s' < 18446744073709551616) (h1 : ∀ p ∈ ps, 0 ≤ p ∧ p < 65536) (h2 : ∀ p ∈ ps', 0 ≤ p ∧ p < 65536) (hm : sm < 4294967296) (hm' : sm' < 4294967296)
    (h : headL s ps sm = headL s' ps' sm') : s = s' ∧ ps = ps' ∧ sm = sm' := by
  have hlen : ps.length = ps'.length := by
    have := congrArg List.length h
    rw [headL_len, headL_len] at this
    omega
  unfold headL at h
  simp only [List.append_assoc] at h
  have e1 := List.append_cancel_left h
  obtain ⟨e2, e3⟩ := List.append_inj e1 (by rw [fEnc_len, fEnc_len])
  obtain ⟨_, e5⟩ := List.append_inj e3 (by rw [fEnc_len, fEnc_len])
  obtain ⟨e6, e7⟩ := List.append_inj e5 (by rw [plE_len, plE_len, hlen])
  have p8 : (256 : Nat) ^ 8 = 18446744073709551616 := by decide
  have p4 : (256 : Nat) ^ 4 = 4294967296 := by decide
  exact ⟨fEnc_inj (by omega) (by omega) e2, plE_inj hlen h1 h2 e6, fEnc_inj (by omega) (by omega) e7⟩
set_option maxRecDepth 100000 in
theorem st_inj {a b : List UInt8} (h : st a = st b) : a = b := by
  have := congrArg (fun x : ByteArray => x.data.toList) h
  simpa [st_list] using this
set_option maxRecDepth 100000 in
/-- which heads a block can be -/
theorem isHead_only {b : ByteArray} {s : Nat} {ps : List Int} {sm : Nat} (hu : unV b = (st (headL s ps sm), 0)) (hs : s < 18446744073709551616) (hp : ∀ p ∈ ps, 0 ≤ p ∧ p < 65536) (hm : sm < 4294967296) {s' : Nat} {ps' : List Int} {sm' : Nat} (h : isHead b s' ps' sm') :
    s' = s ∧ ps' = ps ∧ sm' = sm := by
  obtain ⟨h1, h2, h3, h4, h5⟩ := h
  have hin := places_in (Int.le_refl _) (placesB_iff.1 h4).1
  rw [hu] at h1
  injection h1 with h1 _
  have := headL_inj hs (by omega) hp (fun p hp => by have := hin p hp; omega) hm h5 (st_inj h1)
  exact ⟨this.1.symm, this.2.1.symm, this.2.2.symm⟩
/-- what Decode answers of blocks that begin with b -/
def RP (b : ByteArray) (bl : List ByteArray) (e : Ending) (w' : World) : Prop :=
  ((¬ ∃ s ps sm, isHead b s ps sm) → e = .returned (.tuple #[.int .i64 0, .slice none 0 0, .int .i64 0, .int .i64 4])) ∧
  ∀ s ps sm, isHead b s ps sm → (bl.length < ps.length → e = .returned (.tuple #[.int .i64 0, .slice none 0 0, .int .i64 0, .int .i64 20])) ∧ (ps.length ≤ bl.length → DP s ps (bl.take ps.length) sm e w')
set_option maxRecDepth 100000 in
/-- a head's places, byte by byte -/
theorem head_place (s : Nat) (ps : List Int) (sm i : Nat) (hi : i < ps.length) (hp : ∀ p ∈ ps, 0 ≤ p ∧ p < 65536) (t : ByteArray) (ht : t.data.toList = headL s ps sm) (h0 : 10 + 2 * i < t.size) (h1 : 11 + 2 * i < t.size) :
    ((t[10 + 2 * i].toNat : Nat) : Int) + 256 * ((t[11 + 2 * i].toNat : Nat) : Int) = ps[i] := by
  have hpi := hp ps[i] (List.getElem_mem _)
  have hsp : plE ps = plE (ps.take i) ++ (fEnc ps[i].toNat 2 ++ plE (ps.drop (i + 1))) := by
    conv => lhs; rw [← List.take_append_drop i ps, drop_at ps i hi]
    unfold plE
    rw [List.flatMap_append, List.flatMap_cons]
  have hl : (plE (ps.take i)).length = 2 * i := by rw [plE_len, List.length_take]; omega
  have hA : ([84] ++ (fEnc s 8 ++ fEnc ps.length 1)).length = 10 := by simp [fEnc_len]
  have hL : t.data.toList = ([84] ++ (fEnc s 8 ++ fEnc ps.length 1) ++ plE (ps.take i)) ++ (fEnc ps[i].toNat 2 ++ (plE (ps.drop (i + 1)) ++ fEnc sm 4)) := by
    rw [ht]
    unfold headL
    rw [hsp]
    simp only [List.append_assoc]
  have hAl : ([84] ++ (fEnc s 8 ++ fEnc ps.length 1) ++ plE (ps.take i)).length = 10 + 2 * i := by rw [List.length_append, hA, hl]
  have g0 : t.data.toList[10 + 2 * i]? = some (UInt8.ofNat (ps[i].toNat % 256)) := by
    rw [hL, List.getElem?_append_right (by omega), hAl, Nat.sub_self, fEnc2]; rfl
  have g1 : t.data.toList[11 + 2 * i]? = some (UInt8.ofNat (ps[i].toNat / 256 % 256)) := by
    rw [hL, List.getElem?_append_right (by omega), hAl, show 11 + 2 * i - (10 + 2 * i) = 1 by omega, fEnc2]; rfl
  rw [Array.getElem?_toList] at g0 g1
  have k0 : t[10 + 2 * i] = UInt8.ofNat (ps[i].toNat % 256) := by
    have := Array.getElem?_eq_some_iff.1 g0
    exact this.2
  have k1 : t[11 + 2 * i] = UInt8.ofNat (ps[i].toNat / 256 % 256) := by
    have := Array.getElem?_eq_some_iff.1 g1
    exact this.2
  rw [k0, k1, UInt8.toNat_ofNat', UInt8.toNat_ofNat']
  omega
set_option maxRecDepth 100000 in
/-- the changes of places and blocks are right if the blocks are -/
theorem right_zip : ∀ {ps : List Int} {D : List ByteArray} {last : Int}, D.length = ps.length → risesI last ps = true → rises last (zipC ps D) = blocksB D
  | [], [], _, _, _ => rfl
  | [], _ :: _, _, h, _ => by simp at h
  | _ :: _, [], _, h, _ => by simp at h
  | p :: ps, d :: D, last, h, hr => by
    unfold risesI at hr
    simp only [Bool.and_eq_true, decide_eq_true_eq] at hr
    have ih := right_zip (ps := ps) (D := D) (last := p) (by simpa using h) hr.2.2
    show rises last (⟨p, d⟩ :: zipC ps D) = _
    unfold rises
    rw [blocksB_cons, ← ih]
    simp [hr.1, hr.2.1]
set_option maxRecDepth 100000 in
theorem zip_b : ∀ {ps : List Int} {D : List ByteArray}, D.length = ps.length → (zipC ps D).map (·.b) = ps ∧ (zipC ps D).map (·.d) = D
  | [], [], _ => ⟨rfl, rfl⟩
  | [], _ :: _, h => by simp at h
  | _ :: _, [], h => by simp at h
  | p :: ps, d :: D, h => by
    obtain ⟨h1, h2⟩ := zip_b (ps := ps) (D := D) (by simpa using h)
    show (p :: (zipC ps D).map (·.b)) = _ ∧ (d :: (zipC ps D).map (·.d)) = _
    rw [h1, h2]; exact ⟨rfl, rfl⟩
set_option maxRecDepth 100000 in
/-- encoded again it is the same head just if the sum is right -/
theorem again {b : ByteArray} {s : Nat} {ps : List Int} {sm : Nat} {D : List ByteArray} (hh : isHead b s ps sm) (hD : D.length = ps.length) : headB s (zipC ps D) = b ↔ crc (allD D) = sm := by
  obtain ⟨hu, h1, h2, h3, h4⟩ := hh
  have hin := places_in (Int.le_refl _) (placesB_iff.1 h3).1
  have hin' : ∀ p ∈ ps, 0 ≤ p ∧ p < 65536 := fun p hp => by have := hin p hp; omega
  have hb := (un_back b (by rw [hu])).1
  rw [hu] at hb
  simp only [st_list] at hb
  obtain ⟨z1, z2⟩ := zip_b hD
  unfold headB
  rw [z1, z2]
  constructor
  · intro h
    have hl48 := (placesB_iff.1 h3).2
    have hl : (headL s ps (crc (allD D))).length ≤ 122 := by rw [headL_len]; omega
    have h5 := un_block _ hl
    rw [h, hu] at h5
    injection h5 with h5 _
    exact (headL_inj (by omega) (by omega) hin' hin' h4 (crc_lt _) (st_inj h5)).2.2.symm
  · rintro rfl
    exact hb
end Go.Proofs.YtopebghandojbaaGreat
