import Derived.Test.YtokjlgebkihimaaGreatYb
namespace Go.Proofs.YtokjlgebkihimaaGreat
open Go.RowKit Go.Maps Go.Shelf

/-- nothing is named of an inode -/
def Non (B : List ByteArray) (j : Nat) : Prop := ∀ q, okp q = true → vl (ab sG B (nd sG B)) j q = 0
theorem FD.non {B : List ByteArray} {i : Nat} (f : FD B i []) : Non B i := fun q hq => by
  by_cases e : vl (ab sG B (nd sG B)) i q = 0
  · exact e
  · obtain ⟨y, h, _⟩ := (f.ful q hq).1 e
    simp at h
theorem WrR.non {B B' : List ByteArray} {i j : Nat} {x : Int} {d : ByteArray} {r : Int} (H : TI sG B) (h : WrR sG B (i : Int) x d r B') (hj : j < 8) (hji : j ≠ i) (hn : Non B j) : Non B' j := by
  rcases h with ⟨rfl, _⟩ | ⟨_, i', y, ei, rfl, hi', hy, hd0, hu, hL, hB⟩
  · exact hn
  · have ei' : i' = i := by omega
    subst ei'
    obtain ⟨_, N, _, e1, e2, e3, hl⟩ := write_ti H hi' hy hu hL
    rw [← hB] at e2 e3
    intro q hq
    rw [e2, e3]
    by_cases c : vl (ab sG (layR sG B (usdI sG B (i' : Int)) y d).2.1 (upd N i' (layR sG B (usdI sG B (i' : Int)) y d).2.2)) j q = 0
    · exact c
    · exact absurd (hl.new j q (show j < sG.z from hj) hq (by rw [e1]; exact hn q hq) c).1 hji
theorem cnt_cover (l : List UInt8) (a : Nat) : ∀ (n : Nat) (C : List Nat), (∀ b, a ≤ b → b < a + n → tk l b = true → b ∈ C) → cnt l a n ≤ C.length
  | 0, _, _ => Nat.zero_le _
  | n + 1, C, h => by
    show cnt l a n + (if tk l (a + n) then 1 else 0) ≤ C.length
    cases ht : tk l (a + n) with
    | false =>
      have := cnt_cover l a n C (fun b h1 h2 h3 => h b h1 (by omega) h3)
      simp; exact this
    | true =>
      have hm := h (a + n) (by omega) (by omega) ht
      have := cnt_cover l a n (C.erase (a + n)) (fun b h1 h2 h3 => (List.mem_erase_of_ne (by omega)).2 (h b h1 (by omega) h3))
      rw [List.length_erase_of_mem hm] at this
      have h0 : 0 < C.length := List.length_pos_of_mem hm
      simp; omega
/-- the blocks of a directory -/
def nmL (B : List ByteArray) (k : Nat) : List Nat := (List.range k).map (fun y => vl (ab sG B (nd sG B)) 0 (pth y)) ++ [vl (ab sG B (nd sG B)) 0 [6]]
theorem tk_ab (B : List ByteArray) (N : Nat → Ino) (b : Nat) : (ab sG B N).tk b = tk (bk B sG.bm).data.toList b := rfl
theorem onp_low {y : Nat} (hy : y < 70) {q : List Nat} (hq : okp q = true) (h : onp y q) : q = pth y ∨ q = [6] := by
  obtain ⟨t, ht⟩ := h
  unfold pth at ht ⊢
  by_cases c : y < 6
  · rw [if_pos c] at ht ⊢
    match t, ht with
    | [], ht => exact .inl ht
    | a :: t, ht =>
      rw [List.cons_append] at ht
      injection ht with h1 h2
      have : q = [] := (List.append_eq_nil_iff.1 h2).2
      rw [this] at hq; exact absurd hq (by decide)
  · rw [if_neg c, if_pos hy] at ht ⊢
    match t, ht with
    | [], ht => exact .inl ht
    | [a], ht =>
      injection ht with h1 h2
      exact .inr h2
    | a :: b :: t, ht =>
      injection ht with h1 h2
      injection h2 with h3 h4
      have : q = [] := (List.append_eq_nil_iff.1 h4).2
      rw [this] at hq; exact absurd hq (by decide)
/-- of a view with one directory all that is taken is the directory's -/
theorem tk_named {B : List ByteArray} {S : List (List UInt8)} (H : TI sG B) (f : FD B 0 S) (hl : S.length ≤ 200) (hn : ∀ j, 1 ≤ j → j < 8 → Non B j) {k : Nat} (hk : ∀ y, y * 128 < S.length * 32 → y < k) :
    ∀ b, 24 ≤ b → b < 24 + 16 → tk (bk B sG.bm).data.toList b = true → b ∈ nmL B k := by
  intro b h1 h2 ht
  obtain ⟨i, p, hi, hp, hv⟩ := H.si.inv.all b h1 h2 ht
  by_cases e : i = 0
  · subst e
    obtain ⟨y, h3, h4⟩ := (f.ful p hp).1 (by rw [hv]; omega)
    unfold nmL
    rw [List.mem_append]
    rcases onp_low (by omega) hp h4 with e | e
    · rw [e] at hv
      exact .inl (List.mem_map.2 ⟨y, List.mem_range.2 (hk y h3), hv⟩)
    · rw [e] at hv
      exact .inr (by rw [List.mem_singleton]; exact hv.symm)
  · have := hn i (by omega) hi p hp
    omega
/-- a directory's blocks are apart: there are no more than there are blocks -/
theorem named_cnt {B : List ByteArray} {S : List (List UInt8)} (H : TI sG B) (f : FD B 0 S) {y : Nat} (h6 : 6 ≤ y) (h70 : y < 70) (hy : y * 128 < S.length * 32) : y + 2 ≤ 16 := by
  have I := H.si.inv
  have hne : ∀ z, z ≤ y → vl (ab sG B (nd sG B)) 0 (pth z) ≠ 0 := fun z hz => (f.ful _ (pth_ok (by omega))).2 ⟨z, by omega, onp_self z⟩
  have h6n : vl (ab sG B (nd sG B)) 0 [6] ≠ 0 := (f.ful [6] rfl).2 ⟨y, hy, [y - 6], by unfold pth; rw [if_neg (by omega), if_pos h70]; rfl⟩
  have hinj : ∀ p q, okp p = true → okp q = true → vl (ab sG B (nd sG B)) 0 p = vl (ab sG B (nd sG B)) 0 q → vl (ab sG B (nd sG B)) 0 p ≠ 0 → p = q := fun p q h1 h2 h3 h4 => (I.inj 0 0 p q (by decide) (by decide) h1 h2 h3 h4).2
  have hnd : (nmL B (y + 1)).Nodup := by
    unfold nmL
    rw [List.nodup_append]
    refine ⟨?_, by simp, ?_⟩
    · rw [List.nodup_iff_pairwise_ne, List.pairwise_map]
      refine List.Pairwise.imp_of_mem ?_ (List.nodup_iff_pairwise_ne.1 List.nodup_range)
      intro a b ha hb hab e
      have ha' := List.mem_range.1 ha
      have hb' := List.mem_range.1 hb
      exact hab (pth_inj (hinj _ _ (pth_ok (by omega)) (pth_ok (by omega)) e (hne a (by omega))))
    · intro a ha b hb
      rw [List.mem_singleton] at hb
      obtain ⟨z, hz, rfl⟩ := List.mem_map.1 ha
      have hz' := List.mem_range.1 hz
      subst hb
      intro e
      have := hinj _ _ (pth_ok (by omega)) rfl e (hne z (by omega))
      unfold pth at this
      split at this
      · simp at this; omega
      · split at this <;> simp at this
  have hle := nodup_cnt (bk B sG.bm).data.toList 24 16 (nmL B (y + 1)) hnd (by
    intro b hb
    unfold nmL at hb
    rw [List.mem_append] at hb
    rcases hb with hb | hb
    · obtain ⟨z, hz, rfl⟩ := List.mem_map.1 hb
      have hz' := List.mem_range.1 hz
      have h1 := I.rng 0 (pth z) (by decide) (pth_ok (by omega)) (hne z (by omega))
      exact ⟨h1.1, h1.2, I.tkn 0 (pth z) (by decide) (pth_ok (by omega)) (hne z (by omega))⟩
    · rw [List.mem_singleton] at hb
      subst hb
      have h1 := I.rng 0 [6] (by decide) rfl h6n
      exact ⟨h1.1, h1.2, I.tkn 0 [6] (by decide) rfl h6n⟩)
  have hc := cnt_le (bk B sG.bm).data.toList 24 16
  have hlen : (nmL B (y + 1)).length = y + 2 := by unfold nmL; simp
  omega
theorem fre_some {B : List ByteArray} (h : cnt (bk B sG.bm).data.toList 24 16 < 16) : ∃ b, fre sG B = some b := by
  cases hf : fre sG B with
  | some b => exact ⟨b, rfl⟩
  | none =>
    obtain ⟨i, h1, h2, h3⟩ := (cnt_full _ _ _).1 h
    rw [lsF_none hf i h1 h2] at h3
    cases h3
/-- a slot that is written where its block is there, or there is room for what it wants, goes well -/
theorem lay_room {B : List ByteArray} {S : List (List UInt8)} {d : ByteArray} {k : Nat} (H : TI sG B) (f : FD B 0 S) (hl : S.length ≤ 200) (hn : ∀ j, 1 ≤ j → j < 8 → Non B j) (hk : k ≤ S.length) (hd : d.size = 32) (hr : S.length * 32 ≤ 14 * 128 ∨ S.length % 4 ≠ 0) : (layR sG B (usdI sG B ((0 : Nat) : Int)) (k * 32) d).1 = 0 := by
  have hy : k * 32 / 128 < 70 := by omega
  obtain ⟨n0, hn0⟩ : ∃ n0, n0 = { nd sG B 0 with z := max (nd sG B 0).z (((k * 32 : Nat) : Int) + d.size) } := ⟨_, rfl⟩
  have eU : usdI sG B ((0 : Nat) : Int) = nd sG B 0 := (f.usd H (by decide)).2
  have eA : ab sG B (upd (nd sG B) 0 n0) = ab sG B (nd sG B) := by rw [hn0, ab_z, upd_self]
  have hb := blk_vl (G := sG) s_ok (B := B) (N := upd (nd sG B) 0 n0) (i := 0) (x := k * 32 / 128) (by omega)
  rw [upd_at, eA] at hb
  have h6 : nm sG B n0 0 6 = vl (ab sG B (nd sG B)) 0 [6] := by
    have := nm_vl (G := sG) s_ok (B := B) (N := upd (nd sG B) 0 n0) (i := 0) (pl := 6) (r := []) rfl (fun h => absurd rfl h)
    rw [upd_at, eA] at this
    exact this
  have hdl : d.data.toList.length = 32 := by rw [len_list]; exact hd
  have key : ∃ b B1 n1, rchS sG B n0 (k * 32 / 128) = (some b, B1, n1) := by
    unfold rchS
    by_cases c : blk sG B n0 (k * 32 / 128) = 0
    · rw [if_pos c]
      rw [hb] at c
      have hnot : ¬ (k * 32 / 128) * 128 < S.length * 32 := fun h => absurd c ((f.ful _ (pth_ok (by omega))).2 ⟨_, h, onp_self _⟩)
      have hkS : k = S.length ∧ S.length % 4 = 0 := by omega
      have hS14 : S.length * 32 ≤ 14 * 128 := by omega
      obtain ⟨y, hyy⟩ : ∃ y, y = k * 32 / 128 := ⟨_, rfl⟩
      rw [← hyy]
      have hy14 : y ≤ 14 ∧ y * 128 = S.length * 32 := by omega
      have hcov := cnt_cover (bk B sG.bm).data.toList 24 16 (nmL B y) (tk_named H f hl hn (fun z hz => by omega))
      have hln : (nmL B y).length = y + 1 := by unfold nmL; simp
      obtain ⟨b, hfb⟩ := fre_some (B := B) (by omega)
      by_cases c0 : y < 6
      · rw [if_pos c0]
        refine ⟨b, mkB sG B 0 y b, namN n0 0 y b, ?_⟩
        unfold mkS
        rw [hfb]
      · rw [if_neg c0, if_pos (by omega)]
        by_cases c6 : y = 6
        · have hz6 : nm sG B n0 0 6 = 0 := by
            rw [h6]
            by_cases e : vl (ab sG B (nd sG B)) 0 [6] = 0
            · exact e
            · obtain ⟨z, h1, t, h2⟩ := (f.ful [6] rfl).1 e
              exfalso
              have hz : z < 6 := by omega
              unfold pth at h2
              rw [if_pos hz] at h2
              match t, h2 with
              | [], h2 => simp at h2; omega
              | a :: t, h2 => simp at h2
          have hst : stS sG B n0 0 6 = (some b, mkB sG B 0 6 b, namN n0 0 6 b) := by
            unfold stS mkS
            rw [if_pos hz6, hfb]
          rw [hst]
          simp only
          have hbl := fre_lt s_ok hfb
          have hB1 : mkB sG B 0 6 b = (takeB sG B b true).set b (Zs 128) := by unfold mkB namB; rw [if_pos rfl]
          have htk : ∀ c, tk (bk (mkB sG B 0 6 b) sG.bm).data.toList c = true → c = b ∨ tk (bk B sG.bm).data.toList c = true := by
            intro c hc
            rw [hB1, bk_set _ (by rw [takeB_len]; rw [H.si.bl]; exact hbl.1), if_neg (by have : sG.bm = 21 := rfl; have : sG.da = 24 := rfl; omega)] at hc
            have e := congrArg (fun s => s.tk c) (ab_take (G := sG) s_ok H.si.bl H.si.bs (nd sG B) (b := b) hbl.1 true)
            simp only [tk_ab] at e
            rw [e] at hc
            by_cases e2 : c = b
            · exact .inl e2
            · simp only [NS.take, if_neg e2, tk_ab] at hc
              exact .inr hc
          have hcov2 := cnt_cover (bk (mkB sG B 0 6 b) sG.bm).data.toList 24 16 (b :: nmL B y) (fun c h1 h2 h3 => by
            rcases htk c h3 with e | e
            · rw [e]; exact List.mem_cons_self ..
            · exact List.mem_cons_of_mem _ (tk_named H f hl hn (fun z hz => by omega) c h1 h2 e))
          rw [List.length_cons, hln] at hcov2
          obtain ⟨b2, hfb2⟩ := fre_some (B := mkB sG B 0 6 b) (by omega)
          refine ⟨b2, mkB sG (mkB sG B 0 6 b) b (y - 6) b2, namN (namN n0 0 6 b) b (y - 6) b2, ?_⟩
          unfold mkS
          rw [hfb2]
        · have hz6 : nm sG B n0 0 6 ≠ 0 := by
            rw [h6]
            exact (f.ful [6] rfl).2 ⟨6, by omega, [0], rfl⟩
          have hst : stS sG B n0 0 6 = (some (nm sG B n0 0 6), B, n0) := by
            unfold stS
            rw [if_neg hz6]
          rw [hst]
          simp only
          refine ⟨b, mkB sG B (nm sG B n0 0 6) (y - 6) b, namN n0 (nm sG B n0 0 6) (y - 6) b, ?_⟩
          unfold mkS
          rw [hfb]
    · rw [if_neg c]
      exact ⟨_, _, _, rfl⟩
  obtain ⟨b, B1, n1, hrc⟩ := key
  unfold layR
  rw [eU, hd]
  rw [hd] at hn0
  rw [← hn0, layS_next (by omega) hrc, layS_done (by rw [List.length_drop]; omega)]
/-- where a put goes well in one view, it goes well in one that has no more -/
theorem lay_same {Bv Bw : List ByteArray} {S : List (List UInt8)} {d : ByteArray} {k : Nat} (Hv : TI sG Bv) (fv : FD Bv 0 S) (Hw : TI sG Bw) (fw : FD Bw 0 S) (hl : S.length < 200) (hn : ∀ j, 1 ≤ j → j < 8 → Non Bw j) (hk : k ≤ S.length) (hd : d.size = 32) (h0 : k = S.length → d.data.toList.getD 0 0 ≠ 0)
    (h : ∃ B', WrR sG Bv ((0 : Nat) : Int) ((k * 32 : Nat) : Int) d 0 B') : (layR sG Bw (usdI sG Bw ((0 : Nat) : Int)) (k * 32) d).1 = 0 := by
  by_cases hc : S.length % 4 ≠ 0
  · exact lay_room Hw fw (by omega) hn hk hd (.inr hc)
  · by_cases hkS : k < S.length
    · exact lay_there Hw fw (by decide) hkS hd
    · have hk' : k = S.length := by omega
      refine lay_room Hw fw (by omega) hn hk hd (.inl ?_)
      obtain ⟨B', hw⟩ := h
      rcases fv.write Hv (by decide) hk (by omega) hd h0 hw with ⟨_, h⟩ | ⟨_, hT, hF, _⟩
      · exact absurd rfl h
      · by_cases hy : S.length / 4 < 6
        · omega
        · have hlen : (putS S k d.data.toList).length = S.length + 1 := by rw [putS_len, if_neg hkS]
          have := named_cnt hT hF (y := S.length / 4) (by omega) (by omega) (by rw [hlen]; omega)
          omega
end Go.Proofs.YtokjlgebkihimaaGreat
