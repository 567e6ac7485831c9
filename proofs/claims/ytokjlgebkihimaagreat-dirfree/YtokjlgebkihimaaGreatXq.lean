import Derived.Test.YtokjlgebkihimaaGreatXo
namespace Go.Proofs.YtokjlgebkihimaaGreat
open Go.RowKit Go.Maps

theorem fst1_cases (p : List UInt8 → Bool) (S : List (List UInt8)) : (fst1 p S = -1 ∧ (∀ s ∈ S, p s = false) ∧ S.findIdx p = S.length) ∨ ∃ (j : Nat) (hj : j < S.length), fst1 p S = (j : Int) ∧ p (S[j]'hj) = true ∧ (∀ k (_ : k < j) (hk : k < S.length), p (S[k]'hk) = false) ∧ S.findIdx p = j := by
  cases h : S.findIdx? p with
  | none =>
    have h1 := List.findIdx?_eq_none_iff.1 h
    refine .inl ⟨by unfold fst1; rw [h], h1, ?_⟩
    rw [List.findIdx_eq_length]
    exact h1
  | some j =>
    obtain ⟨hj, h1, h2⟩ := List.findIdx?_eq_some_iff_getElem.1 h
    have h3 : ∀ k (_ : k < j) (hk : k < S.length), p (S[k]'hk) = false := fun k hk hk' => by
      have := h2 k hk
      cases hp : p S[k]
      · rfl
      · exact absurd hp this
    refine .inr ⟨j, hj, by unfold fst1; rw [h], h1, h3, ?_⟩
    rw [List.findIdx_eq hj]
    exact ⟨h1, fun k hk => h3 k hk (by omega)⟩
theorem lov_get : ∀ (bs l : List UInt8) (o k : Nat), o + bs.length ≤ l.length → (lov l o bs).getD k 0 = if o ≤ k ∧ k < o + bs.length then bs.getD (k - o) 0 else l.getD k 0
  | [], l, o, k, _ => by rw [lov, if_neg (by simp)]
  | b :: bs, l, o, k, h => by
    simp only [List.length_cons] at h
    rw [lov, lov_get bs (l.set o b) (o + 1) k (by simp; omega)]
    simp only [List.length_cons]
    by_cases e : k = o
    · subst e
      rw [if_neg (by omega), if_pos (by omega), Nat.sub_self]
      simp only [List.getD_eq_getElem?_getD, List.getElem?_cons_zero]
      rw [List.getElem?_set_self (by omega)]
    · have hs : (l.set o b).getD k 0 = l.getD k 0 := by
        simp only [List.getD_eq_getElem?_getD]
        rw [List.getElem?_set_ne (fun h => e h.symm)]
      rw [hs]
      by_cases c : o + 1 ≤ k ∧ k < o + 1 + bs.length
      · rw [if_pos c, if_pos (by omega)]
        simp only [List.getD_eq_getElem?_getD]
        rw [show k - o = (k - (o + 1)) + 1 by omega, List.getElem?_cons_succ]
      · rw [if_neg c, if_neg (by omega)]
theorem newS_get (t : ByteArray) (n k : Nat) (ht : t.size ≤ 24) : (newS t n).getD k 0 = if 3 ≤ k ∧ k < 3 + t.size then t.data.toList.getD (k - 3) 0 else (beg n t.size).getD k 0 := by
  have hl : t.data.toList.length = t.size := len_list t
  unfold newS
  rw [Nat.min_eq_left (by omega), List.take_of_length_le (by omega), lov_get _ _ _ _ (by rw [hl]; show 3 + t.size ≤ 32; omega), hl]
theorem newS_0 (t : ByteArray) (n : Nat) (ht : t.size ≤ 24) (hn : n < 256) : b0 (newS t n) 0 = n ∧ b0 (newS t n) 1 = 0 ∧ b0 (newS t n) 2 = t.size := by
  unfold b0
  rw [newS_get t n 0 ht, newS_get t n 1 ht, newS_get t n 2 ht, if_neg (by omega), if_neg (by omega), if_neg (by omega)]
  refine ⟨?_, rfl, ?_⟩
  · exact UInt8.toNat_ofNat_of_lt' hn
  · exact UInt8.toNat_ofNat_of_lt' (by show t.size < 256; omega)
theorem newS_ino (t : ByteArray) (n : Nat) (ht : t.size ≤ 24) (hn : n < 256) : ino (newS t n) = n := by
  obtain ⟨h0, h1, _⟩ := newS_0 t n ht hn
  unfold ino
  rw [h0, h1]; omega
theorem newS_first (t : ByteArray) (n : Nat) (ht : t.size ≤ 24) (h1 : 1 ≤ n) (hn : n < 256) : (newS t n).getD 0 0 ≠ 0 := by
  intro h
  have := (newS_0 t n ht hn).1
  unfold b0 at this
  rw [h] at this
  exact absurd this (by show ¬ 0 = n; omega)
theorem newS_nam (t : ByteArray) (n : Nat) (ht : t.size ≤ 24) (hn : n < 256) : st (nam (newS t n)) = t := by
  have hl : t.data.toList.length = t.size := len_list t
  have h2 := (newS_0 t n ht hn).2.2
  unfold nam
  rw [h2]
  apply ba_ext
  rw [st_list]
  apply List.ext_getElem
  · rw [List.length_take, List.length_drop, newS_len, hl]; omega
  · intro j h3 h4
    rw [List.getElem_take, List.getElem_drop]
    have := newS_get t n (3 + j) ht
    rw [if_pos (by omega), Nat.add_sub_cancel_left, List.getD_eq_getElem?_getD, List.getElem?_eq_getElem (by rw [newS_len]; omega), List.getD_eq_getElem?_getD, List.getElem?_eq_getElem h4] at this
    exact this
theorem newS_free (t : ByteArray) (n : Nat) (ht : t.size ≤ 24) (h1 : 1 ≤ n) (hn : n < 256) : freeB (newS t n) = false := by
  unfold freeB
  rw [newS_ino t n ht hn]
  exact decide_eq_false (by omega)
theorem newS_hs (t u : ByteArray) (n : Nat) (ht : t.size ≤ 24) (h1 : 1 ≤ n) (hn : n < 256) : hsN (newS t n) u = (t.toList == u.toList) := by
  have hh : hasN (newS t n) = true := by
    unfold hasN
    rw [newS_ino t n ht hn, (newS_0 t n ht hn).2.2, decide_eq_false (by omega), decide_eq_true ht]; rfl
  unfold hsN
  rw [hh, newS_nam t n ht hn]; rfl
theorem Z32_free : freeB Z32 = true := rfl
theorem Z32_has : hasN Z32 = false := rfl
theorem Z32_hs (u : ByteArray) : hsN Z32 u = false := rfl
theorem st_of (s : List UInt8) : (st s).data.toList = s := st_list s
/-- what a write of a slot does to the memory -/
def VPd (p q cap m : Nat) (B' : List ByteArray) (w w' : World) : Prop := ∃ m', VI sG p q cap m' w' sF B' ∧ Only [p, m] w w' ∧ (m' = m ∨ w.heap.size ≤ m')
theorem VPd.next {p q cap m : Nat} {B' : List ByteArray} {w w1 w2 : World} (h : VPd p q cap m B' w w1) (k : Below w1.heap.size w1 w2) : VPd p q cap m B' w w2 := by
  obtain ⟨m', h1, h2, h3⟩ := h
  exact ⟨m', h1.below k, h2.next k, h3⟩
theorem VPd.same {p q cap m : Nat} {B : List ByteArray} {w w' : World} (h : VI sG p q cap m w sF B) (k : Below w.heap.size w w') : VPd p q cap m B w w' := ⟨m, h.below k, Only.of_below k, .inl rfl⟩
set_option maxRecDepth 100000 in
theorem wr_slot {p q cap m : Nat} {w : World} {B : List ByteArray} {i k : Nat} {S : List (List UInt8)} {d : ByteArray} (H : TI sG B) (f : FD B i S) (hi : i < 8) (hk : k ≤ S.length) (hd : d.size = 32) (hv : VI sG p q cap m w sF B) :
    ∃ r B', ((layR sG B (usdI sG B (i : Int)) (k * 32) d).1 = 0 ∧ r = 0 ∨ (layR sG B (usdI sG B (i : Int)) (k * 32) d).1 ≠ 0 ∧ r = 306) ∧ WrR sG B (i : Int) ((k * 32 : Nat) : Int) d r B' ∧ ∀ W, Below w.heap.size w W → Calls Tryz.prog 71 #[.pointer (some ⟨p, 0, none⟩), .int .i64 (i : Int), .int .i64 ((k * 32 : Nat) : Int), .string d] W fun e w' => e = .returned (.int .i64 r) ∧ KeptS w.heap.size W w' ∧ VPd p q cap m B' w w' := by
  have hl := f.len
  have hu := (f.usd H hi).1
  have hpl := hv.pl
  have hml := hv.ml
  rcases layS_01 sG d.size B { usdI sG B (i : Int) with z := max (usdI sG B (i : Int)).z (((k * 32 : Nat) : Int) + d.size) } (k * 32) d.data.toList with h0 | h1
  · refine ⟨0, _, .inl ⟨h0, rfl⟩, .inr ⟨rfl, i, k * 32, rfl, rfl, hi, by omega, by omega, hu, h0, rfl⟩, fun W hW => ?_⟩
    refine (write_ok i (k * 32) d (by omega) (by omega) (by omega) hu h0 (hv.below hW)).mono ?_
    rintro e w' ⟨he, hv', ho⟩
    refine ⟨he, fun x h1 h2 => ho.block x h2 (by simp; omega), m, hv', (Only.of_below hW).trans (ho.wide (by simp)), .inl rfl⟩
  · refine ⟨306, B, .inr ⟨fun h => absurd (h1.symm.trans h) (by decide), rfl⟩, .inl ⟨rfl, .inl (by decide)⟩, fun W hW => ?_⟩
    refine (write_fail i (k * 32) d (by omega) (by omega) (by omega) hu h1 (hv.below hW)).mono ?_
    rintro e w' ⟨he, m', hv', ho, hm'⟩
    have hs := hW.size
    refine ⟨he, fun x h1 h2 => ho.block x h2 (by simp; omega), m', hv', (Only.of_below hW).trans ho, by omega⟩
theorem slots_fd {p q cap m : Nat} {w : World} {B : List ByteArray} {i : Nat} {S : List (List UInt8)} (H : TI sG B) (f : FD B i S) (hi : i < 8) (hv : VI sG p q cap m w sF B) : SlotsAt (.pointer (some ⟨p, 0, none⟩)) (.int .i64 (i : Int)) w S := by
  obtain ⟨hu, hn⟩ := f.usd H hi
  have h := slots_vi (i : Int) (S.length * 32) hv hu (by rw [hn]; exact f.k) (by rw [hn]; exact f.z) (by have := f.len; omega)
  rw [hn, f.bys] at h
  exact h
theorem name_at (t : ByteArray) : NameAt t (nmB t) := fun W => pname_any t W
/-- what is wrong with a put, ahead of its write -/
def pdE (S : List (List UInt8)) (t : ByteArray) (tn : Int) : Int := if nmB t ≠ 0 then nmB t else if tn < 1 ∨ 63 < tn then 1 else if S.any (hsN · t) then 302 else 0
def frk (S : List (List UInt8)) : Nat := S.findIdx freeB
theorem frk_le (S : List (List UInt8)) : frk S ≤ S.length := List.findIdx_le_length
/-- Put: what it tells and what it makes -/
structure PutR (B : List ByteArray) (i : Nat) (S : List (List UInt8)) (t : ByteArray) (tn r : Int) (B' : List ByteArray) (S' : List (List UInt8)) : Prop where
  ti : TI sG B'
  fd : FD B' i S'
  oth : ∀ j, j < 8 → j ≠ i → ∀ T, FD B j T → FD B' j T
  res : (r ≠ 0 ∧ S' = S ∧ B' = B ∧ (pdE S t tn ≠ 0 → r = pdE S t tn) ∧ (pdE S t tn = 0 → r = 306 ∧ (layR sG B (usdI sG B (i : Int)) (frk S * 32) (st (newS t tn.toNat))).1 ≠ 0)) ∨ (r = 0 ∧ pdE S t tn = 0 ∧ S' = putS S (frk S) (newS t tn.toNat) ∧ (layR sG B (usdI sG B (i : Int)) (frk S * 32) (st (newS t tn.toNat))).1 = 0 ∧ WrR sG B (i : Int) ((frk S * 32 : Nat) : Int) (st (newS t tn.toNat)) r B')
theorem nmB_302 (t : ByteArray) : nmB t ≠ 302 := by
  rcases nmE_cases t.data.toList with h | h | h <;> (unfold nmB; rw [h]; decide)
set_option maxRecDepth 100000 in
theorem wrr_306 {B B' : List ByteArray} {i x : Int} {d : ByteArray} {r : Int} (h : WrR sG B i x d r B') (hr : r ≠ 0) : B' = B := by
  rcases h with ⟨h, _⟩ | ⟨h, _⟩
  · exact h
  · exact absurd h hr
set_option maxRecDepth 100000 in
theorem put_dir {p q cap m : Nat} {w : World} {B : List ByteArray} {i : Nat} {S : List (List UInt8)} (t : ByteArray) (tn : Int) (H : TI sG B) (f : FD B i S) (hi : i < 8) (hl : S.length < 400) (hv : VI sG p q cap m w sF B) :
    ∃ r B' S', PutR B i S t tn r B' S' ∧ Calls Tryz.prog 11 #[.pointer (some ⟨p, 0, none⟩), .int .i64 (i : Int), .string t, .int .i64 tn] w fun e w' => e = .returned (.int .i64 r) ∧ VPd p q cap m B' w w' := by
  have HS := slots_fd H f hi hv
  have HN := name_at t
  have bad : ∀ r, r ≠ 0 → pdE S t tn = r → (Calls Tryz.prog 11 #[.pointer (some ⟨p, 0, none⟩), .int .i64 (i : Int), .string t, .int .i64 tn] w fun e w' => e = .returned (.int .i64 r) ∧ Below w.heap.size w w') → ∃ r B' S', PutR B i S t tn r B' S' ∧ Calls Tryz.prog 11 #[.pointer (some ⟨p, 0, none⟩), .int .i64 (i : Int), .string t, .int .i64 tn] w fun e w' => e = .returned (.int .i64 r) ∧ VPd p q cap m B' w w' :=
    fun r hr hp hc => ⟨r, B, S, ⟨H, f, fun _ _ _ _ h => h, .inl ⟨hr, rfl, rfl, fun _ => hp.symm, fun h0 => absurd (hp.symm.trans h0) hr⟩⟩, hc.mono fun e w' ⟨h1, h2⟩ => ⟨h1, VPd.same hv h2⟩⟩
  by_cases hn : nmB t ≠ 0
  · exact bad (nmB t) hn (by unfold pdE; rw [if_pos hn]) (putn_bad hn HS HN)
  · have hn0 : nmB t = 0 := by omega
    have h24 := nmB_24 hn0
    rw [hn0] at HN
    by_cases h1 : tn < 1
    · exact bad 1 (by decide) (by unfold pdE; rw [if_neg hn, if_pos (.inl h1)]) (putn_low h1 HS HN)
    · by_cases h2 : 63 < tn
      · exact bad 1 (by decide) (by unfold pdE; rw [if_neg hn, if_pos (.inr h2)]) (putn_high h2 HS HN)
      · have e1 : ¬ (tn < 1 ∨ 63 < tn) := by omega
        rcases fst1_cases (hsN · t) S with ⟨hf, hno, _⟩ | ⟨j, hj, hf, hyes, _⟩
        · have hany : S.any (hsN · t) = false := by rw [List.any_eq_false]; intro s hs; rw [hno s hs]; decide
          have hp0 : pdE S t tn = 0 := by unfold pdE; rw [if_neg hn, if_neg e1, hany]; rfl
          obtain ⟨n, rfl⟩ : ∃ n : Nat, tn = n := ⟨tn.toNat, by omega⟩
          have hsz : (st (newS t n)).size = 32 := by rw [st_size, newS_len]
          have hnf := newS_first t n h24 (by omega) (by omega)
          obtain ⟨r, B', hd, hw, hc⟩ := wr_slot (i := i) (k := frk S) (d := st (newS t n)) H f hi (frk_le S) hsz hv
          have hcall : Calls Tryz.prog 11 #[.pointer (some ⟨p, 0, none⟩), .int .i64 (i : Int), .string t, .int .i64 (n : Int)] w fun e w' => e = .returned (.int .i64 r) ∧ VPd p q cap m B' w w' := by
            rcases fst1_cases freeB S with ⟨g, _, g2⟩ | ⟨k, hk, g, _, _, g2⟩
            · have hfk : frk S = S.length := g2
              rw [hfk] at hc
              exact putn_end g (by omega) (by omega) (by omega) h24 hf HS HN (fun W hW => (hc W hW).mono fun e w' ⟨k1, _, k3⟩ => ⟨k1, k3⟩)
            · have hfk : frk S = k := g2
              rw [hfk] at hc
              exact putn_free g (by omega) (by omega) (by omega) h24 hf HS HN (fun W hW => (hc W hW).mono fun e w' ⟨k1, _, k3⟩ => ⟨k1, k3⟩)
          rcases f.write H hi (frk_le S) hl hsz (fun _ => by rw [st_of]; exact hnf) hw with ⟨hB, hr⟩ | ⟨hr, hT, hF, hO⟩
          · refine ⟨r, B', S, ⟨by rw [hB]; exact H, by rw [hB]; exact f, fun _ _ _ _ h => by rw [hB]; exact h, .inl ⟨hr, rfl, hB, fun h => absurd hp0 h, fun _ => ?_⟩⟩, hcall⟩
            rcases hd with ⟨_, h⟩ | ⟨h1, h2⟩
            · exact absurd h hr
            · exact ⟨h2, h1⟩
          · refine ⟨r, B', _, ⟨hT, by rw [st_of] at hF; exact hF, hO, .inr ⟨hr, hp0, rfl, ?_, hw⟩⟩, hcall⟩
            rcases hd with ⟨h, _⟩ | ⟨_, h2⟩
            · exact h
            · exact absurd (hr.symm.trans h2) (by decide)
        · have hany : S.any (hsN · t) = true := List.any_eq_true.2 ⟨S[j], List.getElem_mem hj, hyes⟩
          exact bad 302 (by decide) (by unfold pdE; rw [if_neg hn, if_neg e1, hany]; rfl) (putn_there (by omega) (by omega) hf HS HN)
/-- what is wrong with a take or a find -/
def tkE (S : List (List UInt8)) (t : ByteArray) : Int := if nmB t ≠ 0 then nmB t else if S.any (hsN · t) then 0 else 301
def tkJ (S : List (List UInt8)) (t : ByteArray) : Nat := S.findIdx (hsN · t)
/-- the number that is told -/
def tkN (S : List (List UInt8)) (t : ByteArray) : Nat := if tkE S t = 0 then ino (S.getD (tkJ S t) []) else 0
/-- Take: what it makes -/
structure TakR (B : List ByteArray) (i : Nat) (S : List (List UInt8)) (t : ByteArray) (B' : List ByteArray) (S' : List (List UInt8)) : Prop where
  ti : TI sG B'
  fd : FD B' i S'
  oth : ∀ j, j < 8 → j ≠ i → ∀ T, FD B j T → FD B' j T
  res : (tkE S t ≠ 0 ∧ S' = S ∧ B' = B) ∨ (tkE S t = 0 ∧ S' = S.set (tkJ S t) Z32 ∧ ∃ r, WrR sG B (i : Int) ((tkJ S t * 32 : Nat) : Int) (st Z32) r B')
theorem tk_cases (S : List (List UInt8)) (t : ByteArray) : (nmB t ≠ 0 ∧ tkE S t = nmB t ∧ tkN S t = 0) ∨ (nmB t = 0 ∧ fst1 (hsN · t) S = -1 ∧ (∀ s ∈ S, hsN s t = false) ∧ tkE S t = 301 ∧ tkN S t = 0) ∨ (nmB t = 0 ∧ ∃ hj : tkJ S t < S.length, fst1 (hsN · t) S = (tkJ S t : Int) ∧ hsN (S[tkJ S t]'hj) t = true ∧ (∀ k (_ : k < tkJ S t) (hk : k < S.length), hsN (S[k]'hk) t = false) ∧ tkE S t = 0 ∧ tkN S t = ino (S[tkJ S t]'hj)) := by
  by_cases hn : nmB t ≠ 0
  · have e : tkE S t = nmB t := by unfold tkE; rw [if_pos hn]
    exact .inl ⟨hn, e, by unfold tkN; rw [e, if_neg hn]⟩
  · have hn0 : nmB t = 0 := by omega
    rcases fst1_cases (hsN · t) S with ⟨hf, hno, _⟩ | ⟨j, hj, hf, hyes, hbef, hx⟩
    · have hany : S.any (hsN · t) = false := by rw [List.any_eq_false]; intro s hs; rw [hno s hs]; decide
      have e : tkE S t = 301 := by unfold tkE; rw [if_neg hn, hany]; rfl
      exact .inr (.inl ⟨hn0, hf, hno, e, by unfold tkN; rw [e, if_neg (by decide)]⟩)
    · have hany : S.any (hsN · t) = true := List.any_eq_true.2 ⟨S[j], List.getElem_mem hj, hyes⟩
      have e : tkE S t = 0 := by unfold tkE; rw [if_neg hn, hany]; rfl
      have ej : tkJ S t = j := hx
      refine .inr (.inr ⟨hn0, by rw [ej]; exact hj, by rw [ej]; exact hf, ?_, ?_, e, ?_⟩)
      · simp only [ej]; exact hyes
      · rw [ej]; exact hbef
      · unfold tkN
        rw [if_pos e, List.getD_eq_getElem?_getD, List.getElem?_eq_getElem (by rw [ej]; exact hj)]
        rfl
set_option maxRecDepth 100000 in
theorem find_dir {p q cap m : Nat} {w : World} {B : List ByteArray} {i : Nat} {S : List (List UInt8)} (t : ByteArray) (H : TI sG B) (f : FD B i S) (hi : i < 8) (hv : VI sG p q cap m w sF B) :
    Calls Tryz.prog 15 #[.pointer (some ⟨p, 0, none⟩), .int .i64 (i : Int), .string t] w fun e w' => e = .returned (.tuple #[.int .i64 (tkN S t : Int), .int .i64 (tkE S t)]) ∧ Below w.heap.size w w' := by
  have HS := slots_fd H f hi hv
  have HN := name_at t
  rcases tk_cases S t with ⟨hn, e1, e2⟩ | ⟨hn, hf, _, e1, e2⟩ | ⟨hn, hj, hf, _, _, e1, e2⟩
  · rw [e1, e2]; exact find_bad hn HS HN
  · rw [e1, e2]; rw [hn] at HN; exact find_none hf HS HN
  · rw [e1, e2]; rw [hn] at HN; exact find_yes f.all hj hf HS HN
set_option maxRecDepth 100000 in
theorem take_dir {p q cap m : Nat} {w : World} {B : List ByteArray} {i : Nat} {S : List (List UInt8)} (t : ByteArray) (H : TI sG B) (f : FD B i S) (hi : i < 8) (hl : S.length < 400) (hv : VI sG p q cap m w sF B) :
    ∃ B' S', TakR B i S t B' S' ∧ Calls Tryz.prog 13 #[.pointer (some ⟨p, 0, none⟩), .int .i64 (i : Int), .string t] w fun e w' => e = .returned (.tuple #[.int .i64 (tkN S t : Int), .int .i64 (tkE S t)]) ∧ VPd p q cap m B' w w' := by
  have HS := slots_fd H f hi hv
  have HN := name_at t
  rcases tk_cases S t with ⟨hn, e1, e2⟩ | ⟨hn, hf, _, e1, e2⟩ | ⟨hn, hj, hf, _, _, e1, e2⟩
  · refine ⟨B, S, ⟨H, f, fun _ _ _ _ h => h, .inl ⟨by rw [e1]; exact hn, rfl, rfl⟩⟩, ?_⟩
    rw [e1, e2]
    exact (taken_bad hn HS HN).mono fun e w' ⟨h1, h2⟩ => ⟨h1, VPd.same hv h2⟩
  · refine ⟨B, S, ⟨H, f, fun _ _ _ _ h => h, .inl ⟨by rw [e1]; decide, rfl, rfl⟩⟩, ?_⟩
    rw [e1, e2]
    rw [hn] at HN
    exact (taken_none hf HS HN).mono fun e w' ⟨h1, h2⟩ => ⟨h1, VPd.same hv h2⟩
  · have hsz : (st Z32).size = 32 := by rw [st_size]; rfl
    obtain ⟨r, B', hd, hw, hc⟩ := wr_slot (i := i) (k := tkJ S t) (d := st Z32) H f hi (by omega) hsz hv
    have hr0 : r = 0 := by
      rcases hd with ⟨_, h⟩ | ⟨h, _⟩
      · exact h
      · exact absurd (lay_there H f hi hj hsz) h
    subst hr0
    rw [hn] at HN
    rcases f.write H hi (by omega) hl hsz (fun h => by omega) hw with ⟨_, h⟩ | ⟨_, hT, hF, hO⟩
    · exact absurd rfl h
    · have hS : putS S (tkJ S t) (st Z32).data.toList = S.set (tkJ S t) Z32 := by unfold putS; rw [if_pos hj, st_of]
      rw [hS] at hF
      refine ⟨B', _, ⟨hT, hF, hO, .inr ⟨e1, rfl, 0, hw⟩⟩, ?_⟩
      rw [e1, e2]
      exact taken_yes f.all hj (by have := f.len; omega) hf HS HN (fun w1 w2 h k => VPd.next h k) hc
theorem count_fd {p q cap m : Nat} {w : World} {B : List ByteArray} {i : Nat} {S : List (List UInt8)} (H : TI sG B) (f : FD B i S) (hi : i < 8) (hv : VI sG p q cap m w sF B) :
    Calls Tryz.prog 19 #[.pointer (some ⟨p, 0, none⟩), .int .i64 (i : Int)] w fun e' w' => e' = .returned (.tuple #[.int .i64 (S.length : Int), .int .i64 (usedN S : Int), .int .i64 0]) ∧ Below w.heap.size w w' := count_dir (slots_fd H f hi hv)
end Go.Proofs.YtokjlgebkihimaaGreat
namespace Go.Proofs.YtokjlgebkihimaaGreat
open Go.RowKit Go.Maps

theorem usedN_cons (s : List UInt8) (S : List (List UInt8)) : usedN (s :: S) = (if freeB s then 0 else 1) + usedN S := by
  unfold usedN
  rw [List.filter_cons]
  cases freeB s <;> simp <;> omega
theorem usedN_all : ∀ (S : List (List UInt8)), (∀ s ∈ S, freeB s = false) → usedN S = S.length
  | [], _ => rfl
  | s :: S, h => by
    rw [usedN_cons, h s (List.mem_cons_self ..), usedN_all S (fun x hx => h x (List.mem_cons_of_mem _ hx)), List.length_cons]
    simp; omega
/-- a directory grows by no more than it has names -/
theorem put_grow (S : List (List UInt8)) (d : List UInt8) (hd : freeB d = false) : (putS S (frk S) d).length = max S.length (usedN (putS S (frk S) d)) := by
  have hu := usedN_le (putS S (frk S) d)
  rw [putS_len] at hu ⊢
  by_cases c : frk S < S.length
  · rw [if_pos c] at hu ⊢; omega
  · rw [if_neg c] at hu ⊢
    have hno : ∀ s ∈ S, freeB s = false := by
      rcases fst1_cases freeB S with ⟨_, h, _⟩ | ⟨j, hj, _, _, _, h⟩
      · exact h
      · exact absurd (show frk S < S.length from by unfold frk; omega) c
    have e : usedN (putS S (frk S) d) = S.length + 1 := by
      unfold putS
      rw [if_neg c, usedN_snoc, usedN_all S hno, hd]
      rfl
    omega
theorem take_grow (S : List (List UInt8)) (j : Nat) (d : List UInt8) : (S.set j d).length = max S.length (usedN (S.set j d)) := by
  have hu := usedN_le (S.set j d)
  rw [List.length_set] at hu ⊢
  omega
theorem same_grow (S : List (List UInt8)) : S.length = max S.length (usedN S) := by
  have hu := usedN_le S
  omega
theorem PutR.grow {B : List ByteArray} {i : Nat} {S : List (List UInt8)} {t : ByteArray} {tn r : Int} {B' : List ByteArray} {S' : List (List UInt8)} (h : PutR B i S t tn r B' S') : S'.length = max S.length (usedN S') ∧ S'.length ≤ S.length + 1 := by
  rcases h.res with ⟨_, e, _⟩ | ⟨_, h0, e, _⟩
  · rw [e]; exact ⟨same_grow S, by omega⟩
  · have hn : nmB t = 0 := by
      by_cases c : nmB t ≠ 0
      · unfold pdE at h0; rw [if_pos c] at h0; exact absurd h0 c
      · omega
    have ht : ¬ (tn < 1 ∨ 63 < tn) := by
      intro c
      unfold pdE at h0
      rw [if_neg (by omega), if_pos c] at h0
      exact absurd h0 (by decide)
    rw [e]
    exact ⟨put_grow S _ (newS_free t _ (nmB_24 hn) (by omega) (by omega)), by rw [putS_len]; split <;> omega⟩
theorem TakR.grow {B : List ByteArray} {i : Nat} {S : List (List UInt8)} {t : ByteArray} {B' : List ByteArray} {S' : List (List UInt8)} (h : TakR B i S t B' S') : S'.length = max S.length (usedN S') ∧ S'.length = S.length := by
  rcases h.res with ⟨_, e, _⟩ | ⟨_, e, _⟩
  · rw [e]; exact ⟨same_grow S, rfl⟩
  · rw [e]; exact ⟨take_grow S _ _, by rw [List.length_set]⟩
/-- an empty directory -/
theorem fd_emp {B : List ByteArray} {i : Nat} (h : Emp sG B) (hn : nd sG B i = dN) : FD B i [] := by
  have hv : ∀ j q, vl (ab sG B (nd sG B)) j q = 0 := fun j q => vl_none (fun a p => by
    show (if p < 8 then (datN sG ((nd sG B a).at p)).toNat else 0) = 0
    rw [h.at0 a p, datN_zero s_ok]
    split <;> rfl) j q
  refine ⟨by rw [hn]; rfl, by rw [hn]; rfl, by decide, (fun s hs => by cases hs), ?_, ?_⟩
  · intro a _
    unfold fby
    rw [if_pos (hv _ _)]
    simp
  · intro q _
    rw [hv]
    constructor
    · intro h; exact absurd rfl h
    · rintro ⟨y, h, _⟩; simp at h
theorem dN_at (p : Nat) : dN.at p = 0 := by
  match p with
  | 0 => rfl
  | 1 => rfl
  | 2 => rfl
  | 3 => rfl
  | 4 => rfl
  | 5 => rfl
  | 6 => rfl
  | _ + 7 => rfl
/-- the blocks of 'start' -/
def B0 : List ByteArray := putB sG sF 0 dN
theorem b0_emp : Emp sG B0 ∧ nd sG B0 0 = dN := by
  obtain ⟨h1, h2⟩ := s_emp.put (i := 0) (by decide) d_c dN_at
  exact ⟨h1, by show nd sG (putB sG sF 0 dN) 0 = _; rw [h2, upd_at]⟩
theorem b0_fd : FD B0 0 [] := fd_emp b0_emp.1 b0_emp.2
/-- two directories -/
def B01 : List ByteArray := putB sG B0 1 dN
theorem b01_emp : Emp sG B01 ∧ nd sG B01 0 = dN ∧ nd sG B01 1 = dN := by
  obtain ⟨h1, h2⟩ := b0_emp.1.put (i := 1) (by decide) d_c dN_at
  refine ⟨h1, ?_, ?_⟩
  · show nd sG (putB sG B0 1 dN) 0 = _
    rw [h2, upd_ne _ _ (by decide)]; exact b0_emp.2
  · show nd sG (putB sG B0 1 dN) 1 = _
    rw [h2, upd_at]
set_option maxRecDepth 1000000 in
theorem a_name : nmB ⟨#[97]⟩ = 0 := by decide +kernel
set_option maxRecDepth 1000000 in
/-- the first write of 'speaks' goes well -/
theorem a_put : (layR sG B0 (usdI sG B0 ((0 : Nat) : Int)) 0 (st (newS ⟨#[97]⟩ 3))).1 = 0 := by decide +kernel
end Go.Proofs.YtokjlgebkihimaaGreat
