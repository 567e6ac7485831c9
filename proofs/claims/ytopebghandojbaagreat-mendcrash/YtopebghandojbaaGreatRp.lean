import Derived.Test.YtopebghandojbaaGreatQf
namespace Go.Proofs.YtopebghandojbaaGreat
open Go.RowKit
set_option maxRecDepth 100000 in
theorem fEnc_bigN {X : List UInt8} {k : Nat} (h : X.length = k) : fEnc (big X) k = X := by rw [← h]; exact fEnc_big X
set_option maxRecDepth 100000 in
/-- whatever has a head's length, mark and count is a head's text -/
theorem parse {L : List UInt8} {m : Nat} (hl : L.length = 14 + 2 * m) (h0 : L.take 1 = [84]) (h9 : (L.drop 9).take 1 = fEnc m 1) :
    ∃ ps : List Int, ps.length = m ∧ (∀ p ∈ ps, 0 ≤ p ∧ p < 65536) ∧ L = headL (big ((L.drop 1).take 8)) ps (big (L.drop (10 + 2 * m))) ∧ big (L.drop (10 + 2 * m)) < 4294967296 := by
  obtain ⟨ps, h1, h2, h3⟩ := plE_of m ((L.drop 10).take (2 * m)) (by rw [List.length_take, List.length_drop]; omega)
  have l4 : (L.drop (10 + 2 * m)).length = 4 := by rw [List.length_drop]; omega
  have l8 : ((L.drop 1).take 8).length = 8 := by rw [List.length_take, List.length_drop]; omega
  refine ⟨ps, h2, h3, ?_, ?_⟩
  · unfold headL
    rw [fEnc_bigN l8, fEnc_bigN l4, h2, ← h9, h1, ← h0]
    have e1 := List.take_append_drop 1 L
    have e2 := List.take_append_drop 8 (L.drop 1)
    have e3 := List.take_append_drop 1 (L.drop 9)
    have e4 := List.take_append_drop (2 * m) (L.drop 10)
    rw [List.drop_drop] at e2 e3 e4
    rw [List.append_assoc, List.append_assoc, e4, e3, e2, e1]
  · have := big_lt (L.drop (10 + 2 * m))
    rw [l4] at this
    have e : (256 : Nat) ^ 4 = 4294967296 := by decide
    omega
set_option maxRecDepth 100000 in
theorem plE_inj {ps ps' : List Int} (hl : ps.length = ps'.length) (h1 : ∀ p ∈ ps, 0 ≤ p ∧ p < 65536) (h2 : ∀ p ∈ ps', 0 ≤ p ∧ p < 65536) (h : plE ps = plE ps') : ps = ps' := by
  have a := (rdP_of ps (st (plE ps)) [] h1 (by rw [st_list, List.append_nil]) ps.length (Nat.le_refl _)).1
  have b := (rdP_of ps' (st (plE ps)) [] h2 (by rw [st_list, List.append_nil, h]) ps.length (by omega)).1
  rw [List.take_length] at a
  rw [hl, List.take_length] at b
  rw [← a, hl, b]
set_option maxRecDepth 100000 in
theorem fEnc_inj {k a b : Nat} (ha : a < 256 ^ k) (hb : b < 256 ^ k) (h : fEnc a k = fEnc b k) : a = b := by
  have := congrArg big h
  rwa [big_fEnc k a ha, big_fEnc k b hb] at this
set_option maxRecDepth 100000 in
theorem headL_inj {s s' : Nat} {ps ps' : List Int} {sm sm' : Nat} (hs : s < 18446744073709551616) (hs' : s' < 18446744073709551616) (h1 : ∀ p ∈ ps, 0 ≤ p ∧ p < 65536) (h2 : ∀ p ∈ ps', 0 ≤ p ∧ p < 65536) (hm : sm < 4294967296) (hm' : sm' < 4294967296)
    (h : headL s ps sm = headL s' ps' sm') : s = s' ∧ ps = ps' ∧ sm = sm' := by
  have hlen : ps.length = ps'.length := by
    have := congrArg List.length h
    rw [headL_len, headL_len] at this
    omega
  unfold headL at h
  simp only [List.append_assoc] at h
  have e1 := List.append_cancel_left h
  obtain ⟨e2, e3⟩ := List.append_inj e1 (by rw [fEnc_len, fEnc_len])
  obtain ⟨_, e5⟩ := List.append_inj e3 (by rw [fEnc_len, fEnc_len])
  obtain ⟨e6, e7⟩ := List.append_inj e5 (by rw [plE_len, plE_len, hlen])
  have p8 : (256 : Nat) ^ 8 = 18446744073709551616 := by decide
  have p4 : (256 : Nat) ^ 4 = 4294967296 := by decide
  exact ⟨fEnc_inj (by omega) (by omega) e2, plE_inj hlen h1 h2 e6, fEnc_inj (by omega) (by omega) e7⟩
set_option maxRecDepth 100000 in
theorem st_inj {a b : List UInt8} (h : st a = st b) : a = b := by
  have := congrArg (fun x : ByteArray => x.data.toList) h
  simpa [st_list] using this
set_option maxRecDepth 100000 in
/-- which heads a block can be -/
theorem isHead_only {b : ByteArray} {s : Nat} {ps : List Int} {sm : Nat} (hu : unV b = (st (headL s ps sm), 0)) (hs : s < 18446744073709551616) (hp : ∀ p ∈ ps, 0 ≤ p ∧ p < 65536) (hm : sm < 4294967296) {s' : Nat} {ps' : List Int} {sm' : Nat} (h : isHead b s' ps' sm') :
    s' = s ∧ ps' = ps ∧ sm' = sm := by
  obtain ⟨h1, h2, h3, h4, h5⟩ := h
  have hin := places_in (Int.le_refl _) (placesB_iff.1 h4).1
  rw [hu] at h1
  injection h1 with h1 _
  have := headL_inj hs (by omega) hp (fun p hp => by have := hin p hp; omega) hm h5 (st_inj h1)
  exact ⟨this.1.symm, this.2.1.symm, this.2.2.symm⟩
/-- what Decode answers of blocks that begin with b -/
def RP (b : ByteArray) (bl : List ByteArray) (e : Ending) (w' : World) : Prop :=
  ((¬ ∃ s ps sm, isHead b s ps sm) → e = .returned (.tuple #[.int .i64 0, .slice none 0 0, .int .i64 0, .int .i64 4])) ∧
  ∀ s ps sm, isHead b s ps sm → (bl.length < ps.length → e = .returned (.tuple #[.int .i64 0, .slice none 0 0, .int .i64 0, .int .i64 20])) ∧ (ps.length ≤ bl.length → DP s ps (bl.take ps.length) sm e w')
set_option maxRecDepth 100000 in
theorem decode_all (v : Value) (b : ByteArray) (bl : List ByteArray) (w : World) (h : SLie w v (b :: bl)) (hb : b.size ≤ 150000000000000) : Calls Tryz.prog 101 #[v] w fun e w' => RP b bl e w' ∧ Below w.heap.size w w' := by
  by_cases hh : ∃ s ps sm, isHead b s ps sm
  · obtain ⟨s, ps, sm, hd⟩ := hh
    have hin := places_in (Int.le_refl _) (placesB_iff.1 hd.2.2.2.1).1
    have only : ∀ s' ps' sm', isHead b s' ps' sm' → s' = s ∧ ps' = ps ∧ sm' = sm := fun s' ps' sm' h' =>
      isHead_only hd.1 (by have := hd.2.2.1; omega) (fun p hp => by have := hin p hp; omega) hd.2.2.2.2 h'
    by_cases hs : bl.length < ps.length
    · refine (decode_cut v b bl w h hb s ps sm hd hs).mono fun e w' ⟨he, hb⟩ => ⟨⟨fun hn => absurd ⟨s, ps, sm, hd⟩ hn, fun s' ps' sm' h' => ?_⟩, hb⟩
      obtain ⟨rfl, rfl, rfl⟩ := only s' ps' sm' h'
      exact ⟨fun _ => he, fun hx => by omega⟩
    · refine (decode_data v b bl w h hb s ps sm hd (by omega)).mono fun e w' ⟨he, hb⟩ => ⟨⟨fun hn => absurd ⟨s, ps, sm, hd⟩ hn, fun s' ps' sm' h' => ?_⟩, hb⟩
      obtain ⟨rfl, rfl, rfl⟩ := only s' ps' sm' h'
      exact ⟨fun hx => by omega, fun _ => he⟩
  · exact (decode_form v b bl w h hb hh).mono fun e w' ⟨he, hb⟩ => ⟨⟨fun _ => he, fun s ps sm hd => absurd ⟨s, ps, sm, hd⟩ hh⟩, hb⟩
set_option maxRecDepth 100000 in
/-- a head's places, byte by byte -/
theorem head_place (s : Nat) (ps : List Int) (sm i : Nat) (hi : i < ps.length) (hp : ∀ p ∈ ps, 0 ≤ p ∧ p < 65536) (t : ByteArray) (ht : t.data.toList = headL s ps sm) (h0 : 10 + 2 * i < t.size) (h1 : 11 + 2 * i < t.size) :
    ((t[10 + 2 * i].toNat : Nat) : Int) + 256 * ((t[11 + 2 * i].toNat : Nat) : Int) = ps[i] := by
  have hpi := hp ps[i] (List.getElem_mem _)
  have hsp : plE ps = plE (ps.take i) ++ (fEnc ps[i].toNat 2 ++ plE (ps.drop (i + 1))) := by
    conv => lhs; rw [← List.take_append_drop i ps, drop_at ps i hi]
    unfold plE
    rw [List.flatMap_append, List.flatMap_cons]
  have hl : (plE (ps.take i)).length = 2 * i := by rw [plE_len, List.length_take]; omega
  have hA : ([84] ++ (fEnc s 8 ++ fEnc ps.length 1)).length = 10 := by simp [fEnc_len]
  have hL : t.data.toList = ([84] ++ (fEnc s 8 ++ fEnc ps.length 1) ++ plE (ps.take i)) ++ (fEnc ps[i].toNat 2 ++ (plE (ps.drop (i + 1)) ++ fEnc sm 4)) := by
    rw [ht]
    unfold headL
    rw [hsp]
    simp only [List.append_assoc]
  have hAl : ([84] ++ (fEnc s 8 ++ fEnc ps.length 1) ++ plE (ps.take i)).length = 10 + 2 * i := by rw [List.length_append, hA, hl]
  have g0 : t.data.toList[10 + 2 * i]? = some (UInt8.ofNat (ps[i].toNat % 256)) := by
    rw [hL, List.getElem?_append_right (by omega), hAl, Nat.sub_self, fEnc2]; rfl
  have g1 : t.data.toList[11 + 2 * i]? = some (UInt8.ofNat (ps[i].toNat / 256 % 256)) := by
    rw [hL, List.getElem?_append_right (by omega), hAl, show 11 + 2 * i - (10 + 2 * i) = 1 by omega, fEnc2]; rfl
  rw [Array.getElem?_toList] at g0 g1
  have k0 : t[10 + 2 * i] = UInt8.ofNat (ps[i].toNat % 256) := by
    have := Array.getElem?_eq_some_iff.1 g0
    exact this.2
  have k1 : t[11 + 2 * i] = UInt8.ofNat (ps[i].toNat / 256 % 256) := by
    have := Array.getElem?_eq_some_iff.1 g1
    exact this.2
  rw [k0, k1, UInt8.toNat_ofNat', UInt8.toNat_ofNat']
  omega
set_option maxRecDepth 100000 in
/-- the changes of places and blocks are right if the blocks are -/
theorem right_zip : ∀ {ps : List Int} {D : List ByteArray} {last : Int}, D.length = ps.length → risesI last ps = true → rises last (zipC ps D) = blocksB D
  | [], [], _, _, _ => rfl
  | [], _ :: _, _, h, _ => by simp at h
  | _ :: _, [], _, h, _ => by simp at h
  | p :: ps, d :: D, last, h, hr => by
    unfold risesI at hr
    simp only [Bool.and_eq_true, decide_eq_true_eq] at hr
    have ih := right_zip (ps := ps) (D := D) (last := p) (by simpa using h) hr.2.2
    show rises last (⟨p, d⟩ :: zipC ps D) = _
    unfold rises
    rw [blocksB_cons, ← ih]
    simp [hr.1, hr.2.1]
set_option maxRecDepth 100000 in
theorem zip_b : ∀ {ps : List Int} {D : List ByteArray}, D.length = ps.length → (zipC ps D).map (·.b) = ps ∧ (zipC ps D).map (·.d) = D
  | [], [], _ => ⟨rfl, rfl⟩
  | [], _ :: _, h => by simp at h
  | _ :: _, [], h => by simp at h
  | p :: ps, d :: D, h => by
    obtain ⟨h1, h2⟩ := zip_b (ps := ps) (D := D) (by simpa using h)
    show (p :: (zipC ps D).map (·.b)) = _ ∧ (d :: (zipC ps D).map (·.d)) = _
    rw [h1, h2]; exact ⟨rfl, rfl⟩
set_option maxRecDepth 100000 in
/-- encoded again it is the same head just if the sum is right -/
theorem again {b : ByteArray} {s : Nat} {ps : List Int} {sm : Nat} {D : List ByteArray} (hh : isHead b s ps sm) (hD : D.length = ps.length) : headB s (zipC ps D) = b ↔ crc (allD D) = sm := by
  obtain ⟨hu, h1, h2, h3, h4⟩ := hh
  have hin := places_in (Int.le_refl _) (placesB_iff.1 h3).1
  have hin' : ∀ p ∈ ps, 0 ≤ p ∧ p < 65536 := fun p hp => by have := hin p hp; omega
  have hb := (un_back b (by rw [hu])).1
  rw [hu] at hb
  simp only [st_list] at hb
  obtain ⟨z1, z2⟩ := zip_b hD
  unfold headB
  rw [z1, z2]
  constructor
  · intro h
    have hl48 := (placesB_iff.1 h3).2
    have hl : (headL s ps (crc (allD D))).length ≤ 122 := by rw [headL_len]; omega
    have h5 := un_block _ hl
    rw [h, hu] at h5
    injection h5 with h5 _
    exact (headL_inj (by omega) (by omega) hin' hin' h4 (crc_lt _) (st_inj h5)).2.2.symm
  · rintro rfl
    exact hb
end Go.Proofs.YtopebghandojbaaGreat
