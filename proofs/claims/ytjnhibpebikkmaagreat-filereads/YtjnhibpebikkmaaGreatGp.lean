import Derived.Test.YtjnhibpebikkmaaGreatFv
namespace Go.Proofs.YtjnhibpebikkmaaGreat
open Go.RowKit Go.Maps

theorem chk_120 {n : Ino} (h : chkE n ≠ 0) : chkE n = 120 := by
  unfold chkE at h ⊢
  split
  · rename_i h1; rw [if_pos h1] at h; exact absurd rfl h
  · rfl
set_option maxRecDepth 100000 in
set_option maxHeartbeats 1000000 in
theorem vset_bad {G : Geo} {p q cap m : Nat} {w : World} {F B : List ByteArray} (i : Int) (n : Ino) (hn : chkE n ≠ 0) (h : VI G p q cap m w F B) : Calls Tryz.prog 13 #[.pointer (some ⟨p, 0, none⟩), .int .i64 i, n.v] w fun e w' => e = .returned (.int .i64 120) ∧ Below w.heap.size w w' := by
  have HN := hid (fun w' (hv : VI G p q cap m w' F B) => vnone_any (w := w') hv)
  have HC := hid (check_any n)
  rw [chk_120 hn] at HC
  clear hn
  have HV := hid h
  clear h
  obtain ⟨k, l, z, a, b, c, d, e, f, s, t⟩ := n
  simp only [Ino.v] at HC ⊢
  go_enter Tryz.func13, Tryz.ntmps13
  go_wp2_with (go_at_call 26; fail)
  obtain ⟨w1, hw1⟩ : ∃ w1, w1 = w.alloc (.cells #[.int .i64 k, .int .i64 l, .int .i64 z, .int .i64 a, .int .i64 b, .int .i64 c, .int .i64 d, .int .i64 e, .int .i64 f, .int .i64 s, .int .i64 t] 33) := ⟨_, rfl⟩
  have hX1 : Box w.heap.size w1 ⟨k, l, z, a, b, c, d, e, f, s, t⟩ := by rw [hw1]; exact box_at _ _
  have HB1 : Hid (Below w.heap.size w w1) := by rw [hw1]; exact below_alloc w _
  rw [← hw1]
  clear hw1
  have HV1 := hid (HV.out.below HB1.out)
  obtain ⟨c0, c1, c2, c3, c4, c5, c6, c7, c8, c9, c10⟩ := hX1.cells
  clear hX1
  go_wp2_with (first
    | (go_at_call 26; refine (HN.out _ HV1.out).mono ?_; rintro e w2 ⟨rfl, hw⟩; have hw := hw.symm; subst hw)
    | (go_at_call 36; refine (HC.out _).mono ?_; rintro e w2 ⟨rfl, hb2⟩; have HB2 := hid hb2; clear hb2))
  go_ret
  exact ⟨rfl, HB1.out.next HB2.out⟩
set_option maxRecDepth 100000 in
set_option maxHeartbeats 1000000 in
theorem vset_none {G : Geo} {p q cap m : Nat} {w : World} {F B : List ByteArray} (i : Int) (n : Ino) (hn : chkE n = 0) (hi : ¬ (0 ≤ i ∧ i < G.z)) (h : VI G p q cap m w F B) : Calls Tryz.prog 13 #[.pointer (some ⟨p, 0, none⟩), .int .i64 i, n.v] w fun e w' => e = .returned (.int .i64 6) ∧ Below w.heap.size w w' := by
  have HN := hid (fun w' (hv : VI G p q cap m w' F B) => vnone_any (w := w') hv)
  have HC := hid (check_any n)
  rw [hn] at HC
  have HI := hid (fun w' (hv : VI G p q cap m w' F B) => hasInode_any (w := w') i hv)
  rw [show decide (0 ≤ i ∧ i < G.z) = false by simp [hi]] at HI
  clear hn hi
  have HV := hid h
  clear h
  obtain ⟨k, l, z, a, b, c, d, e, f, s, t⟩ := n
  simp only [Ino.v] at HC ⊢
  go_enter Tryz.func13, Tryz.ntmps13
  go_wp2_with (go_at_call 26; fail)
  obtain ⟨w1, hw1⟩ : ∃ w1, w1 = w.alloc (.cells #[.int .i64 k, .int .i64 l, .int .i64 z, .int .i64 a, .int .i64 b, .int .i64 c, .int .i64 d, .int .i64 e, .int .i64 f, .int .i64 s, .int .i64 t] 33) := ⟨_, rfl⟩
  have hX1 : Box w.heap.size w1 ⟨k, l, z, a, b, c, d, e, f, s, t⟩ := by rw [hw1]; exact box_at _ _
  have HB1 : Hid (Below w.heap.size w w1) := by rw [hw1]; exact below_alloc w _
  rw [← hw1]
  clear hw1
  have HV1 := hid (HV.out.below HB1.out)
  obtain ⟨c0, c1, c2, c3, c4, c5, c6, c7, c8, c9, c10⟩ := hX1.cells
  clear hX1
  go_wp2_with (first
    | (go_at_call 26; refine (HN.out _ HV1.out).mono ?_; rintro e w2 ⟨rfl, hw⟩; have hw := hw.symm; subst hw)
    | (go_at_call 36; refine (HC.out _).mono ?_; rintro e w2 ⟨rfl, hb2⟩; have HB2 := hid hb2; clear hb2)
    | (go_at_call 37; refine (HI.out _ (HV1.out.below HB2.out)).mono ?_; rintro e w3 ⟨rfl, hw⟩; have hw := hw.symm; subst hw))
  go_ret
  exact ⟨rfl, HB1.out.next HB2.out⟩
theorem vset_any {G : Geo} {p q cap m : Nat} {w : World} {F B : List ByteArray} (i : Int) (n : Ino) (h : VI G p q cap m w F B) : Calls Tryz.prog 13 #[.pointer (some ⟨p, 0, none⟩), .int .i64 i, n.v] w fun e w' => ∃ r B', e = .returned (.int .i64 r) ∧ (r ≠ 0 → B' = B) ∧ VI G p q cap m w' F B' ∧ Only [m] w w' := by
  by_cases hn : chkE n = 0
  · by_cases hi : 0 ≤ i ∧ i < G.z
    · obtain ⟨j, rfl⟩ : ∃ j : Nat, i = j := ⟨i.toNat, by omega⟩
      exact (vset_ok j (by omega) n hn h).mono fun e w' ⟨he, hv, ho⟩ => ⟨0, _, he, fun h0 => absurd rfl h0, hv, ho⟩
    · exact (vset_none i n hn hi h).mono fun e w' ⟨he, hb⟩ => ⟨6, B, he, fun _ => rfl, h.below hb, Only.of_below hb⟩
  · exact (vset_bad i n hn h).mono fun e w' ⟨he, hb⟩ => ⟨120, B, he, fun _ => rfl, h.below hb, Only.of_below hb⟩
set_option maxRecDepth 100000 in
set_option maxHeartbeats 1000000 in
theorem write_neg {G : Geo} {p q cap m : Nat} {w : World} {F B : List ByteArray} (i x : Int) (d : ByteArray) (hx : x < 0) (h : VI G p q cap m w F B) : Calls Tryz.prog 11 #[.pointer (some ⟨p, 0, none⟩), .int .i64 i, .int .i64 x, .string d] w fun e w' => e = .returned (.int .i64 1) ∧ Below w.heap.size w w' := by
  have HN := hid (vnone_any h)
  have hx1 : decide (x < 0) = true := by simp [hx]
  clear hx
  clear h
  go_enter Tryz.func11, Tryz.ntmps11
  go_wp2_with (first
    | (go_at_call 26; refine HN.out.mono ?_; rintro e w0 ⟨rfl, hw⟩; have hw := hw.symm; subst hw))
  go_ret
  exact ⟨rfl, Below.refl _ _⟩
set_option maxRecDepth 100000 in
set_option maxHeartbeats 1000000 in
theorem write_long {G : Geo} {p q cap m : Nat} {w : World} {F B : List ByteArray} (i x : Int) (d : ByteArray) (hx : ¬ x < 0) (hd : 1024 < d.size) (h : VI G p q cap m w F B) : Calls Tryz.prog 11 #[.pointer (some ⟨p, 0, none⟩), .int .i64 i, .int .i64 x, .string d] w fun e w' => e = .returned (.int .i64 1) ∧ Below w.heap.size w w' := by
  have HN := hid (vnone_any h)
  have hx1 : decide (x < 0) = false := by simp; omega
  have hd1 : decide ((1024 : Int) < (d.size : Int)) = true := by simp; omega
  clear hx
  clear h
  go_enter Tryz.func11, Tryz.ntmps11
  go_wp2_with (first
    | (go_at_call 26; refine HN.out.mono ?_; rintro e w0 ⟨rfl, hw⟩; have hw := hw.symm; subst hw))
  go_ret
  exact ⟨rfl, Below.refl _ _⟩
set_option maxRecDepth 100000 in
set_option maxHeartbeats 1000000 in
theorem write_used {G : Geo} {p q cap m : Nat} {w : World} {F B : List ByteArray} (i x : Int) (d : ByteArray) (hx : ¬ x < 0) (hd : d.size ≤ 1024) (hu : usdE G B i ≠ 0) (h : VI G p q cap m w F B) : Calls Tryz.prog 11 #[.pointer (some ⟨p, 0, none⟩), .int .i64 i, .int .i64 x, .string d] w fun e w' => e = .returned (.int .i64 (usdE G B i)) ∧ Below w.heap.size w w' := by
  have HN := hid (vnone_any h)
  have HU := hid (used_any i h)
  obtain ⟨n, hn⟩ : ∃ n, n = usdI G B i := ⟨_, rfl⟩
  obtain ⟨r, hr⟩ : ∃ r, r = usdE G B i := ⟨_, rfl⟩
  rw [← hn, ← hr] at HU
  rw [← hr] at hu ⊢
  have hx1 : decide (x < 0) = false := by simp; omega
  have hd1 : decide ((1024 : Int) < (d.size : Int)) = false := by simp; omega
  have hd2 : ¬ 1024 < d.size := by omega
  clear hx hn hr
  obtain ⟨k, l, z, a, b, c, d', e, f, s, t⟩ := n
  simp only [Ino.v] at HU
  clear h
  go_enter Tryz.func11, Tryz.ntmps11
  go_wp2_with (first
    | (go_at_call 26; refine HN.out.mono ?_; rintro e w0 ⟨rfl, hw⟩; have hw := hw.symm; subst hw)
    | (go_at_call 29; refine HU.out.mono ?_; rintro e w1 ⟨rfl, hb1⟩; have HB1 := hid hb1; clear hb1))
  go_ret
  exact ⟨rfl, HB1.out.next (below_alloc _ _)⟩
set_option maxRecDepth 100000 in
set_option maxHeartbeats 1000000 in
theorem write_empty {G : Geo} {p q cap m : Nat} {w : World} {F B : List ByteArray} (i x : Int) (d : ByteArray) (hx : ¬ x < 0) (hd0 : d.size = 0) (hu : usdE G B i = 0) (h : VI G p q cap m w F B) : Calls Tryz.prog 11 #[.pointer (some ⟨p, 0, none⟩), .int .i64 i, .int .i64 x, .string d] w fun e w' => e = .returned (.int .i64 0) ∧ Below w.heap.size w w' := by
  have HN := hid (vnone_any h)
  have hdd : d = ⟨#[]⟩ := by
    have e : d.data.toList = [] := List.eq_nil_of_length_eq_zero (by rw [len_list]; exact hd0)
    rw [← st_toList d, e]; rfl
  subst hdd
  have HU := hid (used_any i h)
  rw [hu] at HU
  obtain ⟨n, hn⟩ : ∃ n, n = usdI G B i := ⟨_, rfl⟩
  rw [← hn] at HU
  have hx1 : decide (x < 0) = false := by simp; omega
  clear hx hn hu hd0
  obtain ⟨k, l, z, a, b, c, d', e, f, s, t⟩ := n
  simp only [Ino.v] at HU
  clear h
  go_enter Tryz.func11, Tryz.ntmps11
  go_wp2_with (first
    | (go_at_call 26; refine HN.out.mono ?_; rintro e w0 ⟨rfl, hw⟩; have hw := hw.symm; subst hw)
    | (go_at_call 29; refine HU.out.mono ?_; rintro e w1 ⟨rfl, hb1⟩; have HB1 := hid hb1; clear hb1))
  go_ret
  exact ⟨rfl, HB1.out.next (below_alloc _ _)⟩
set_option maxRecDepth 100000 in
set_option maxHeartbeats 1000000 in
theorem write_big {G : Geo} {p q cap m : Nat} {w : World} {F B : List ByteArray} (i x : Int) (d : ByteArray) (hx : ¬ x < 0) (hd : d.size ≤ 1024) (hd0 : d.size ≠ 0) (hu : usdE G B i = 0) (hb : 533248 - (d.size : Int) < x) (h : VI G p q cap m w F B) : Calls Tryz.prog 11 #[.pointer (some ⟨p, 0, none⟩), .int .i64 i, .int .i64 x, .string d] w fun e w' => e = .returned (.int .i64 307) ∧ Below w.heap.size w w' := by
  have HN := hid (vnone_any h)
  have HU := hid (used_any i h)
  rw [hu] at HU
  obtain ⟨n, hn⟩ : ∃ n, n = usdI G B i := ⟨_, rfl⟩
  rw [← hn] at HU
  have hx1 : decide (x < 0) = false := by simp; omega
  have hd1 : decide ((1024 : Int) < (d.size : Int)) = false := by simp; omega
  have hd2 : ¬ 1024 < d.size := by omega
  have hwr : IntKind.i64.wrap (533248 - (d.size : Int)) = 533248 - (d.size : Int) := by rw [IntKind.wrap_i64]; omega
  have hb1 : decide (533248 - (d.size : Int) < x) = true := by simp [hb]
  have hne : d.toList.isEmpty = false := by
    rw [Lib.toList_data, List.isEmpty_eq_false_iff]
    intro e
    exact hd0 (by rw [← len_list, e]; rfl)
  clear hx hn hu hd0 hb
  obtain ⟨k, l, z, a, b, c, d', e, f, s, t⟩ := n
  simp only [Ino.v] at HU
  clear h
  go_enter Tryz.func11, Tryz.ntmps11
  go_wp2_with (first
    | (go_at_call 26; refine HN.out.mono ?_; rintro e w0 ⟨rfl, hw⟩; have hw := hw.symm; subst hw)
    | (go_at_call 29; refine HU.out.mono ?_; rintro e w1 ⟨rfl, hb1⟩; have HB1 := hid hb1; clear hb1))
  go_ret
  exact ⟨rfl, HB1.out.next (below_alloc _ _)⟩
theorem write_any {G : Geo} {p q cap m : Nat} {w : World} {F B : List ByteArray} (i x : Int) (d : ByteArray) (h : VI G p q cap m w F B) : Calls Tryz.prog 11 #[.pointer (some ⟨p, 0, none⟩), .int .i64 i, .int .i64 x, .string d] w fun e w' => ∃ r B' m', e = .returned (.int .i64 r) ∧ (r ≠ 0 → B' = B) ∧ VI G p q cap m' w' F B' ∧ Only [p, m] w w' ∧ (m' = m ∨ w.heap.size ≤ m') := by
  have nop : ∀ r, (Calls Tryz.prog 11 #[.pointer (some ⟨p, 0, none⟩), .int .i64 i, .int .i64 x, .string d] w fun e w' => e = .returned (.int .i64 r) ∧ Below w.heap.size w w') → Calls Tryz.prog 11 #[.pointer (some ⟨p, 0, none⟩), .int .i64 i, .int .i64 x, .string d] w fun e w' => ∃ r B' m', e = .returned (.int .i64 r) ∧ (r ≠ 0 → B' = B) ∧ VI G p q cap m' w' F B' ∧ Only [p, m] w w' ∧ (m' = m ∨ w.heap.size ≤ m') := fun r hc => hc.mono fun e w' ⟨he, hb⟩ => ⟨r, B, m, he, fun _ => rfl, h.below hb, Only.of_below hb, .inl rfl⟩
  by_cases hx : x < 0
  · exact nop _ (write_neg i x d hx h)
  · by_cases hd : 1024 < d.size
    · exact nop _ (write_long i x d hx hd h)
    · by_cases hu : usdE G B i = 0
      · by_cases hd0 : d.size = 0
        · exact nop _ (write_empty i x d hx hd0 hu h)
        · by_cases hb : 533248 - (d.size : Int) < x
          · exact nop _ (write_big i x d hx (by omega) hd0 hu hb h)
          · obtain ⟨⟨hi0, hi1⟩, _⟩ := usd_ok hu
            obtain ⟨j, rfl⟩ : ∃ j : Nat, i = j := ⟨i.toNat, by omega⟩
            obtain ⟨y, rfl⟩ : ∃ y : Nat, x = y := ⟨x.toNat, by omega⟩
            rcases layS_01 G d.size B { usdI G B (j : Int) with z := max (usdI G B (j : Int)).z ((y : Int) + d.size) } y d.data.toList with h0 | h1
            · exact (write_ok j y d (by omega) hd0 (by omega) hu h0 h).mono fun e w' ⟨he, hv, ho⟩ => ⟨0, _, m, he, fun h0 => absurd rfl h0, hv, ho.wide (by simp), .inl rfl⟩
            · exact (write_fail j y d (by omega) hd0 (by omega) hu h1 h).mono fun e w' ⟨he, m', hv, ho, hm⟩ => ⟨306, B, m', he, fun _ => rfl, hv, ho, hm⟩
      · exact nop _ (write_used i x d hx (by omega) hu h)
end Go.Proofs.YtjnhibpebikkmaaGreat
namespace Go.Proofs.YtjnhibpebikkmaaGreat
open Go.RowKit Go.Maps

/-- the blocks and the inode behind letting go of what a spot names -/
def lgS (G : Geo) (B : List ByteArray) (n : Ino) (inn pl : Nat) : List ByteArray × Ino := if nm G B n inn pl = 0 then (B, n) else (namB (takeB G B (nm G B n inn pl) false) inn pl 0, namN n inn pl 0)
set_option maxRecDepth 100000 in
set_option maxHeartbeats 2000000 in
theorem letGo_no {G : Geo} {p q cap m g : Nat} {w : World} {F B : List ByteArray} (n : Ino) (inn pl : Nat) (hi : inn < G.n) (hp8 : inn = 0 → pl < 8) (_hp : pl < 64) (hb : nm G B n inn pl = 0) (hX : Box g w n) (_hgp : g ≠ p) (_hgq : g ≠ q) (h : VI G p q cap m w F B) : Calls Tryz.prog 57 #[.pointer (some ⟨p, 0, none⟩), .pointer (some ⟨g, 0, none⟩), .agg #[.int .i64 (inn : Int), .int .i64 (pl : Int)]] w fun e w' => e = .returned (.tuple #[]) ∧ Below w.heap.size w w' := by
  have HV := hid h
  have HG := hid h.ok
  have HX := hid hX
  have HGM := hid (h.gm hX)
  have HWM : Hid (w.heap.size ≠ m) := hid (by have := h.ml; omega)
  have HWG : Hid (w.heap.size ≠ g) := hid (by have := lt_of_block hX; omega)
  have HN := hid (fun w' (hv : VI G p q cap m w' F B) => named_nm (w := w') n inn pl hi hp8 hv)
  rw [hb] at HN
  clear h hX _hgp _hgq hb hi hp8 _hp
  obtain ⟨k, l, z, a0, b0, c0, d0, e0, f0, s0, t0⟩ := n
  simp only [Ino.v, Int.natCast_zero] at HN
  go_enter Tryz.func57, Tryz.ntmps57
  go_wp2_with (go_at_call 58; fail)
  obtain ⟨w1, hw1⟩ : ∃ w1, w1 = w.alloc (.cells #[.int .i64 (inn : Int), .int .i64 (pl : Int)] 102) := ⟨_, rfl⟩
  have HB1 : Hid (Below w.heap.size w w1) := by rw [hw1]; exact below_alloc w _
  have HS1 : Hid (Spt w.heap.size w1 (inn : Int) (pl : Int)) := by rw [hw1]; exact box_at _ _
  rw [← hw1]
  clear hw1
  have HV1 := hid (HV.out.below HB1.out)
  have HX1 := hid (HX.out.below HB1.out)
  have hc5 : ∀ w', Box g w' ⟨k, l, z, a0, b0, c0, d0, e0, f0, s0, t0⟩ → Spt w.heap.size w' (inn : Int) (pl : Int) → (w'.cell? ⟨g, 0, none⟩ = some (.int .i64 k) ∧ w'.cell? ⟨g, 1, none⟩ = some (.int .i64 l) ∧ w'.cell? ⟨g, 2, none⟩ = some (.int .i64 z) ∧ w'.cell? ⟨g, 3, none⟩ = some (.int .i64 a0) ∧ w'.cell? ⟨g, 4, none⟩ = some (.int .i64 b0) ∧ w'.cell? ⟨g, 5, none⟩ = some (.int .i64 c0) ∧ w'.cell? ⟨g, 6, none⟩ = some (.int .i64 d0) ∧ w'.cell? ⟨g, 7, none⟩ = some (.int .i64 e0) ∧ w'.cell? ⟨g, 8, none⟩ = some (.int .i64 f0) ∧ w'.cell? ⟨g, 9, none⟩ = some (.int .i64 s0) ∧ w'.cell? ⟨g, 10, none⟩ = some (.int .i64 t0) ∧ w'.cell? ⟨w.heap.size, 0, none⟩ = some (.int .i64 (inn : Int)) ∧ w'.cell? ⟨w.heap.size, 1, none⟩ = some (.int .i64 (pl : Int))) := fun w' hb hs => by
    obtain ⟨x0, x1, x2, x3, x4, x5, x6, x7, x8, x9, x10⟩ := hb.cells
    obtain ⟨z0, z1⟩ := hs.cells
    exact ⟨x0, x1, x2, x3, x4, x5, x6, x7, x8, x9, x10, z0, z1⟩
  have HC5 := hid hc5
  replace hc5 := hc5 _ HX1.out HS1.out
  go_region_held3 (fun w' => w'.cell? ⟨g, 0, none⟩ = some (.int .i64 k) ∧ w'.cell? ⟨g, 1, none⟩ = some (.int .i64 l) ∧ w'.cell? ⟨g, 2, none⟩ = some (.int .i64 z) ∧ w'.cell? ⟨g, 3, none⟩ = some (.int .i64 a0) ∧ w'.cell? ⟨g, 4, none⟩ = some (.int .i64 b0) ∧ w'.cell? ⟨g, 5, none⟩ = some (.int .i64 c0) ∧ w'.cell? ⟨g, 6, none⟩ = some (.int .i64 d0) ∧ w'.cell? ⟨g, 7, none⟩ = some (.int .i64 e0) ∧ w'.cell? ⟨g, 8, none⟩ = some (.int .i64 f0) ∧ w'.cell? ⟨g, 9, none⟩ = some (.int .i64 s0) ∧ w'.cell? ⟨g, 10, none⟩ = some (.int .i64 t0) ∧ w'.cell? ⟨w.heap.size, 0, none⟩ = some (.int .i64 (inn : Int)) ∧ w'.cell? ⟨w.heap.size, 1, none⟩ = some (.int .i64 (pl : Int))) (first | exact hc5 | exact hc6 | go_keep) (first
    | (go_at_call 58; refine (HN.out _ (by exact HV1.out.below ⟨rfl, rfl, rfl, Nat.le_refl _, fun _ _ => rfl⟩)).mono ?_; rintro e w6 ⟨rfl, hb6⟩
       have HB6 : Hid (Below w1.heap.size w1 w6) := hid ⟨hb6.os, hb6.tape, hb6.output, hb6.size, hb6.block⟩
       have HV6 := hid (HV1.out.below HB6.out)
       have HX6 := hid (HX1.out.below HB6.out)
       have HS6 := hid (HS1.out.below HB6.out)
       have HB7 := hid (HB1.out.next HB6.out)
       have hc6 := HC5.out _ HX6.out HS6.out
       clear hb6))
  obtain ⟨x0, x1, x2, x3, x4, x5, x6, x7, x8, x9, x10, z0, z1⟩ := hc6
  clear x0 x1 x2 x3 x4 x5 x6 x7 x8 x9 x10 hc5 HC5 HN
  clear z0 z1
  go_wp2
  go_end0
  exact ⟨rfl, HB7.out⟩
set_option maxRecDepth 100000 in
set_option maxHeartbeats 2000000 in
theorem letGo_yes {G : Geo} {p q cap m g : Nat} {w : World} {F B : List ByteArray} (n : Ino) (inn pl : Nat) (hi : inn < G.n) (hp8 : inn = 0 → pl < 8) (hp : pl < 64) (b : Nat) (hb : nm G B n inn pl = b) (hb0 : b ≠ 0) (hX : Box g w n) (hgp : g ≠ p) (hgq : g ≠ q) (h : VI G p q cap m w F B) : Calls Tryz.prog 57 #[.pointer (some ⟨p, 0, none⟩), .pointer (some ⟨g, 0, none⟩), .agg #[.int .i64 (inn : Int), .int .i64 (pl : Int)]] w fun e w' => e = .returned (.tuple #[]) ∧ VI G p q cap m w' F (namB (takeB G B b false) inn pl 0) ∧ Box g w' (namN n inn pl 0) ∧ Only [g, m] w w' := by
  have HV := hid h
  have HG := hid h.ok
  have HX := hid hX
  have HGM := hid (h.gm hX)
  have HWM : Hid (w.heap.size ≠ m) := hid (by have := h.ml; omega)
  have HWG : Hid (w.heap.size ≠ g) := hid (by have := lt_of_block hX; omega)
  have HN := hid (fun w' (hv : VI G p q cap m w' F B) => named_nm (w := w') n inn pl hi hp8 hv)
  rw [hb] at HN
  have hbl : b < G.n := hb ▸ nm_lt HG.out _ _ _ _
  have HT := hid (fun w' (hv : VI G p q cap m w' F B) => take_any (w := w') b hbl false hv)
  have HM := hid (fun w' (hx : Box g w' n) (hv : VI G p q cap m w' F (takeB G B b false)) => vname_any (w := w') n inn pl hi hp8 hp 0 (by omega) hx hgp hgq hv)
  obtain ⟨B3, hB3⟩ : ∃ B3, B3 = namB (takeB G B b false) inn pl 0 := ⟨_, rfl⟩
  obtain ⟨n3, hn3⟩ : ∃ n3, n3 = namN n inn pl 0 := ⟨_, rfl⟩
  rw [← hB3, ← hn3] at HM ⊢
  have hb1 : ¬ ((b : Int) = 0) := by omega
  clear h hX hgp hgq hb hb0 hbl hi hp8 hp hB3 hn3
  obtain ⟨k, l, z, a0, b0, c0, d0, e0, f0, s0, t0⟩ := n
  simp only [Ino.v] at HN
  go_enter Tryz.func57, Tryz.ntmps57
  go_wp2_with (go_at_call 58; fail)
  obtain ⟨w1, hw1⟩ : ∃ w1, w1 = w.alloc (.cells #[.int .i64 (inn : Int), .int .i64 (pl : Int)] 102) := ⟨_, rfl⟩
  have HB1 : Hid (Below w.heap.size w w1) := by rw [hw1]; exact below_alloc w _
  have HS1 : Hid (Spt w.heap.size w1 (inn : Int) (pl : Int)) := by rw [hw1]; exact box_at _ _
  rw [← hw1]
  clear hw1
  have HV1 := hid (HV.out.below HB1.out)
  have HX1 := hid (HX.out.below HB1.out)
  have hc5 : ∀ w', Box g w' ⟨k, l, z, a0, b0, c0, d0, e0, f0, s0, t0⟩ → Spt w.heap.size w' (inn : Int) (pl : Int) → (w'.cell? ⟨g, 0, none⟩ = some (.int .i64 k) ∧ w'.cell? ⟨g, 1, none⟩ = some (.int .i64 l) ∧ w'.cell? ⟨g, 2, none⟩ = some (.int .i64 z) ∧ w'.cell? ⟨g, 3, none⟩ = some (.int .i64 a0) ∧ w'.cell? ⟨g, 4, none⟩ = some (.int .i64 b0) ∧ w'.cell? ⟨g, 5, none⟩ = some (.int .i64 c0) ∧ w'.cell? ⟨g, 6, none⟩ = some (.int .i64 d0) ∧ w'.cell? ⟨g, 7, none⟩ = some (.int .i64 e0) ∧ w'.cell? ⟨g, 8, none⟩ = some (.int .i64 f0) ∧ w'.cell? ⟨g, 9, none⟩ = some (.int .i64 s0) ∧ w'.cell? ⟨g, 10, none⟩ = some (.int .i64 t0) ∧ w'.cell? ⟨w.heap.size, 0, none⟩ = some (.int .i64 (inn : Int)) ∧ w'.cell? ⟨w.heap.size, 1, none⟩ = some (.int .i64 (pl : Int))) := fun w' hb hs => by
    obtain ⟨x0, x1, x2, x3, x4, x5, x6, x7, x8, x9, x10⟩ := hb.cells
    obtain ⟨z0, z1⟩ := hs.cells
    exact ⟨x0, x1, x2, x3, x4, x5, x6, x7, x8, x9, x10, z0, z1⟩
  have HC5 := hid hc5
  replace hc5 := hc5 _ HX1.out HS1.out
  go_region_held3 (fun w' => w'.cell? ⟨g, 0, none⟩ = some (.int .i64 k) ∧ w'.cell? ⟨g, 1, none⟩ = some (.int .i64 l) ∧ w'.cell? ⟨g, 2, none⟩ = some (.int .i64 z) ∧ w'.cell? ⟨g, 3, none⟩ = some (.int .i64 a0) ∧ w'.cell? ⟨g, 4, none⟩ = some (.int .i64 b0) ∧ w'.cell? ⟨g, 5, none⟩ = some (.int .i64 c0) ∧ w'.cell? ⟨g, 6, none⟩ = some (.int .i64 d0) ∧ w'.cell? ⟨g, 7, none⟩ = some (.int .i64 e0) ∧ w'.cell? ⟨g, 8, none⟩ = some (.int .i64 f0) ∧ w'.cell? ⟨g, 9, none⟩ = some (.int .i64 s0) ∧ w'.cell? ⟨g, 10, none⟩ = some (.int .i64 t0) ∧ w'.cell? ⟨w.heap.size, 0, none⟩ = some (.int .i64 (inn : Int)) ∧ w'.cell? ⟨w.heap.size, 1, none⟩ = some (.int .i64 (pl : Int))) (first | exact hc5 | exact hc6 | go_keep) (first
    | (go_at_call 58; refine (HN.out _ (by exact HV1.out.below ⟨rfl, rfl, rfl, Nat.le_refl _, fun _ _ => rfl⟩)).mono ?_; rintro e w6 ⟨rfl, hb6⟩
       have HB6 : Hid (Below w1.heap.size w1 w6) := hid ⟨hb6.os, hb6.tape, hb6.output, hb6.size, hb6.block⟩
       have HV6 := hid (HV1.out.below HB6.out)
       have HX6 := hid (HX1.out.below HB6.out)
       have HS6 := hid (HS1.out.below HB6.out)
       have HB7 := hid (HB1.out.next HB6.out)
       have hc6 := HC5.out _ HX6.out HS6.out
       clear hb6))
  obtain ⟨x0, x1, x2, x3, x4, x5, x6, x7, x8, x9, x10, z0, z1⟩ := hc6
  clear x0 x1 x2 x3 x4 x5 x6 x7 x8 x9 x10 hc5 HC5 HN
  go_wp2_with (first
    | (go_at_call 81; refine (HT.out _ (by exact HV6.out.below ⟨rfl, rfl, rfl, Nat.le_refl _, fun _ _ => rfl⟩)).mono ?_; rintro e w9 ⟨rfl, hv9, ho9⟩
       have HV9 := hid hv9
       have HO9 : Hid (Only [m] w6 w9) := hid ⟨ho9.os, ho9.tape, ho9.output, ho9.size, ho9.block⟩
       clear hv9 ho9 z0 z1
       obtain ⟨z0, z1⟩ := (HS6.out.only HO9.out (by simpa using HWM.out)).cells)
    | (go_at_call 82; refine (HM.out _ (HX6.out.only HO9.out (by simpa using HGM.out)) HV9.out).mono ?_; rintro e w12 ⟨rfl, hv12, hx12, ho12⟩
       have HV12 := hid hv12
       have HX12 := hid hx12
       have HO12 := hid ho12
       clear hv12 hx12 ho12))
  go_end0
  exact ⟨rfl, HV12.out, HX12.out, (Only.of_below HB7.out).trans ((HO9.out.wide (by simp)).trans HO12.out)⟩
theorem letGo_any {G : Geo} {p q cap m g : Nat} {w : World} {F B : List ByteArray} (n : Ino) (inn pl : Nat) (hi : inn < G.n) (hp8 : inn = 0 → pl < 8) (hp : pl < 64) (hX : Box g w n) (hgp : g ≠ p) (hgq : g ≠ q) (h : VI G p q cap m w F B) : Calls Tryz.prog 57 #[.pointer (some ⟨p, 0, none⟩), .pointer (some ⟨g, 0, none⟩), .agg #[.int .i64 (inn : Int), .int .i64 (pl : Int)]] w fun e w' => e = .returned (.tuple #[]) ∧ VI G p q cap m w' F (lgS G B n inn pl).1 ∧ Box g w' (lgS G B n inn pl).2 ∧ Only [g, m] w w' := by
  unfold lgS
  by_cases hb : nm G B n inn pl = 0
  · rw [if_pos hb]
    exact (letGo_no n inn pl hi hp8 hp hb hX hgp hgq h).mono fun e w' ⟨he, hb'⟩ => ⟨he, h.below hb', hX.below hb', Only.of_below hb'⟩
  · rw [if_neg hb]
    exact letGo_yes n inn pl hi hp8 hp _ rfl hb hX hgp hgq h
theorem usedI_lg {G : Geo} {B : List ByteArray} {n : Ino} {inn pl : Nat} (h : usedI n = true) : usedI (lgS G B n inn pl).2 = true := by
  unfold lgS
  split
  · exact h
  · exact usedI_nam h (by omega)
end Go.Proofs.YtjnhibpebikkmaaGreat
namespace Go.Proofs.YtjnhibpebikkmaaGreat
open Go.RowKit Go.Maps

/-- the blocks and the inode behind letting go of all blocks from an index on, so many -/
def lfS (G : Geo) : Nat → List ByteArray → Ino → Nat → List ByteArray × Ino
  | 0, B, n, _ => (B, n)
  | f + 1, B, n, i => match spt G B n i with
    | none => lfS G f B n (i + 1)
    | some ab => lfS G f (lgS G B n ab.1 ab.2).1 (lgS G B n ab.1 ab.2).2 (i + 1)
theorem usedI_lf {G : Geo} : ∀ (f : Nat) {B : List ByteArray} {n : Ino} {i : Nat}, usedI n = true → usedI (lfS G f B n i).2 = true
  | 0, _, _, _, h => h
  | f + 1, B, n, i, h => by
    unfold lfS
    split
    · exact usedI_lf f h
    · exact usedI_lf f (usedI_lg h)
theorem lfS_none {G : Geo} {f : Nat} {B : List ByteArray} {n : Ino} {i : Nat} (h : spt G B n i = none) : lfS G (f + 1) B n i = lfS G f B n (i + 1) := by rw [lfS, h]
theorem lfS_some {G : Geo} {f : Nat} {B : List ByteArray} {n : Ino} {i a b : Nat} (h : spt G B n i = some (a, b)) : lfS G (f + 1) B n i = lfS G f (lgS G B n a b).1 (lgS G B n a b).2 (i + 1) := by rw [lfS, h]
set_option maxRecDepth 100000 in
set_option maxHeartbeats 4000000 in
theorem letGoFrom_any {G : Geo} {p q cap m g : Nat} {w : World} {F B : List ByteArray} (n : Ino) (size : Nat) (hs : size ≤ 533248) (hX : Box g w n) (hgp : g ≠ p) (hgq : g ≠ q) (h : VI G p q cap m w F B) : Calls Tryz.prog 33 #[.pointer (some ⟨p, 0, none⟩), .pointer (some ⟨g, 0, none⟩), .int .i64 (size : Int)] w fun e w' => e = .returned (.tuple #[]) ∧ VI G p q cap m w' F (lfS G (4166 - (size + 127) / 128) B n ((size + 127) / 128)).1 ∧ Box g w' (lfS G (4166 - (size + 127) / 128) B n ((size + 127) / 128)).2 ∧ Only [g, m] w w' := by
  obtain ⟨fi, hfi⟩ : ∃ fi, fi = (size + 127) / 128 := ⟨_, rfl⟩
  rw [← hfi]
  obtain ⟨R, hR⟩ : ∃ R, R = lfS G (4166 - fi) B n fi := ⟨_, rfl⟩
  rw [← hR]
  have HRes := hid hR
  have HG := hid h.ok
  have HGP := hid hgp
  have HGQ := hid hgq
  have HGM := hid (h.gm hX)
  have HV := hid h
  have HX := hid hX
  have hw1 : IntKind.i64.wrap ((size : Int) + 128) = (size : Int) + 128 := by rw [IntKind.wrap_i64]; omega
  have hw2 : IntKind.i64.wrap ((size : Int) + 128 - 1) = (size : Int) + 127 := by rw [IntKind.wrap_i64] <;> omega
  have hw3 : IntKind.i64.wrap (((size : Int) + 127) / 128) = (fi : Int) := by rw [IntKind.wrap_i64] <;> omega
  have HFI : Hid (fi ≤ 4166) := hid (by omega)
  have HFE : Hid (fi = (size + 127) / 128 ∧ size ≤ 533248) := hid ⟨hfi, hs⟩
  clear hR h hX hgp hgq hs hfi
  go_enter Tryz.func33, Tryz.ntmps33
  go_wp2
  go_loopw [7] (fun iv wr => ∃ (i : Nat) (B' : List ByteArray) (n' : Ino), iv = .int .i64 (i : Int) ∧ i ≤ 4166 ∧ R = lfS G (4166 - i) B' n' i ∧ VI G p q cap m wr F B' ∧ Box g wr n' ∧ Only [g, m] w wr) (fun iv _ => 4166 - (intOf iv).toNat)
  case atStart =>
    have e := HFE.out
    have e2 : ((size : Int) + 127).tdiv 128 = (fi : Int) := by rw [Int.tdiv_eq_ediv_of_nonneg (by omega)]; omega
    exact ⟨fi, B, n, by rw [e2, show wrap64 (fi : Int) = (fi : Int) by unfold wrap64; omega], HFI.out, HRes.out, HV.out, HX.out, Only.refl _ _⟩
  case round =>
    clear HRes HV HX hw1 hw2 hw3 HFI HFE
    obtain ⟨i, B', n', rfl, hi, hR, hV, hX, hO⟩ := hrel
    have HV := hid hV
    have HX := hid hX
    have HO := hid hO
    have HRR := hid hR
    have HRL : Hid (g < wr.heap.size ∧ m < wr.heap.size) := hid ⟨lt_of_block hX, hV.ml⟩
    clear hV hX hO hR
    by_cases hil : i < 4166
    · have HSP := hid (spotOf_any n' i hil HV.out)
      have hlt : decide ((i : Int) < 4166) = true := by simp; omega
      obtain ⟨f, hf⟩ : ∃ f, 4166 - i = f + 1 ∧ 4166 - (i + 1) = f := ⟨4166 - (i + 1), by omega, rfl⟩
      rw [hf.1] at HRR
      have HF := hid hf
      cases hsp : spt G B' n' i with
      | none =>
        rw [hsp] at HSP
        have HE := hid (HRR.out.trans (lfS_none hsp))
        simp only [sptV, Option.getD_none, Option.isSome_none] at HSP
        clear hsp hf hi HRR
        obtain ⟨k, l, z, a0, b0, c0, d0, e0, f0, s0, t0⟩ := n'
        simp only [Ino.v] at HSP
        obtain ⟨x0, x1, x2, x3, x4, x5, x6, x7, x8, x9, x10⟩ := HX.out.cells
        go_wp2_with (first
          | (go_at_call 56; refine HSP.out.mono ?_; rintro e w2 ⟨rfl, hb2⟩; have HB2 := hid hb2; clear hb2))
        go_roundw
        case rel =>
          refine ⟨i + 1, B', _, by go_num, by omega, ?_, (HV.out.below HB2.out).below (below_alloc _ _), (HX.out.below HB2.out).below (below_alloc _ _), HO.out.next (HB2.out.next (below_alloc _ _))⟩
          rw [HF.out.2]
          exact HE.out
        case measure => simp only [intOf]; omega
      | some ab =>
        obtain ⟨a, b⟩ := ab
        obtain ⟨ha, hab, hb64⟩ := spt_ok HG.out hsp
        rw [hsp] at HSP
        have HE := hid (HRR.out.trans (lfS_some hsp))
        simp only [sptV, Option.getD_some, Option.isSome_some] at HSP
        have HLG := hid (fun w' (hx : Box g w' n') (hv : VI G p q cap m w' F B') => letGo_any (w := w') n' a b ha hab hb64 hx HGP.out HGQ.out hv)
        obtain ⟨r, hr⟩ : ∃ r, r = lgS G B' n' a b := ⟨_, rfl⟩
        rw [← hr] at HLG HE
        clear hsp hf hi HRR ha hab hb64 hr
        obtain ⟨k, l, z, a0, b0, c0, d0, e0, f0, s0, t0⟩ := n'
        simp only [Ino.v] at HSP
        obtain ⟨x0, x1, x2, x3, x4, x5, x6, x7, x8, x9, x10⟩ := HX.out.cells
        go_wp2_with (first
          | (go_at_call 56; refine HSP.out.mono ?_; rintro e w2 ⟨rfl, hb2⟩; have HB2 := hid hb2; clear hb2)
          | (go_at_call 57; refine (HLG.out _ (by exact (HX.out.below HB2.out).below (below_alloc _ _)) (by exact (HV.out.below HB2.out).below (below_alloc _ _))).mono ?_; rintro e w3 ⟨rfl, hv3, hx3, ho3⟩
             have HV3 := hid hv3
             have HX3 := hid hx3
             have HO3 := hid ((HO.out.next (HB2.out.next (below_alloc _ _))).trans ho3)
             clear hv3 hx3 ho3))
        go_roundw
        case rel =>
          refine ⟨i + 1, _, _, by go_num, by omega, ?_, HV3.out, HX3.out, HO3.out⟩
          rw [HF.out.2]
          exact HE.out
        case measure => simp only [intOf]; omega
    · have hie : i = 4166 := by omega
      subst hie
      have HE : Hid (R = (B', n')) := hid HRR.out
      clear HRR
      go_wp2
      go_end0
      refine ⟨rfl, ?_, ?_, HO.out⟩
      · rw [HE.out]; exact HV.out
      · rw [HE.out]; exact HX.out
end Go.Proofs.YtjnhibpebikkmaaGreat
namespace Go.Proofs.YtjnhibpebikkmaaGreat
open Go.RowKit Go.Maps

/-- does a block of names name none, up to a place? -/
def bare (G : Geo) (B : List ByteArray) (n : Ino) (c : Nat) : Nat → Bool
  | 0 => true
  | k + 1 => bare G B n c k && decide (nm G B n c k = 0)
theorem bare_no {G : Geo} {B : List ByteArray} {n : Ino} {c : Nat} : ∀ {t j : Nat}, j < t → nm G B n c j ≠ 0 → bare G B n c t = false
  | 0, _, h, _ => by omega
  | t + 1, j, h, hn => by
    unfold bare
    by_cases e : j = t
    · subst e
      simp [hn]
    · rw [bare_no (t := t) (j := j) (by omega) hn]
      rfl
/-- the blocks and the inode behind letting go of a block of names that names none -/
def idT (G : Geo) (B : List ByteArray) (n : Ino) (c inn pl : Nat) : List ByteArray × Ino := if bare G B n c 64 = true then lgS G B n inn pl else (B, n)
/-- the same, where there may be no such block -/
def idS (G : Geo) (B : List ByteArray) (n : Ino) (inn pl : Nat) : List ByteArray × Ino := if nm G B n inn pl = 0 then (B, n) else idT G B n (nm G B n inn pl) inn pl
theorem usedI_id {G : Geo} {B : List ByteArray} {n : Ino} {inn pl : Nat} (h : usedI n = true) : usedI (idS G B n inn pl).2 = true := by
  unfold idS
  split
  · exact h
  · unfold idT
    split
    · exact usedI_lg h
    · exact h
set_option maxRecDepth 100000 in
set_option maxHeartbeats 2000000 in
theorem idle_no {G : Geo} {p q cap m g : Nat} {w : World} {F B : List ByteArray} (n : Ino) (inn pl : Nat) (hi : inn < G.n) (hp8 : inn = 0 → pl < 8) (_hp : pl < 64) (hb : nm G B n inn pl = 0) (hX : Box g w n) (_hgp : g ≠ p) (_hgq : g ≠ q) (h : VI G p q cap m w F B) : Calls Tryz.prog 59 #[.pointer (some ⟨p, 0, none⟩), .pointer (some ⟨g, 0, none⟩), .agg #[.int .i64 (inn : Int), .int .i64 (pl : Int)]] w fun e w' => e = .returned (.tuple #[]) ∧ Below w.heap.size w w' := by
  have HV := hid h
  have HG := hid h.ok
  have HX := hid hX
  have HGM := hid (h.gm hX)
  have HWM : Hid (w.heap.size ≠ m) := hid (by have := h.ml; omega)
  have HWG : Hid (w.heap.size ≠ g) := hid (by have := lt_of_block hX; omega)
  have HN := hid (fun w' (hv : VI G p q cap m w' F B) => named_nm (w := w') n inn pl hi hp8 hv)
  rw [hb] at HN
  clear h hX _hgp _hgq hb hi hp8 _hp
  obtain ⟨k, l, z, a0, b0, c0, d0, e0, f0, s0, t0⟩ := n
  simp only [Ino.v, Int.natCast_zero] at HN
  go_enter Tryz.func59, Tryz.ntmps59
  go_wp2_with (go_at_call 58; fail)
  obtain ⟨w1, hw1⟩ : ∃ w1, w1 = w.alloc (.cells #[.int .i64 (inn : Int), .int .i64 (pl : Int)] 102) := ⟨_, rfl⟩
  have HB1 : Hid (Below w.heap.size w w1) := by rw [hw1]; exact below_alloc w _
  have HS1 : Hid (Spt w.heap.size w1 (inn : Int) (pl : Int)) := by rw [hw1]; exact box_at _ _
  rw [← hw1]
  clear hw1
  have HV1 := hid (HV.out.below HB1.out)
  have HX1 := hid (HX.out.below HB1.out)
  have hc5 : ∀ w', Box g w' ⟨k, l, z, a0, b0, c0, d0, e0, f0, s0, t0⟩ → Spt w.heap.size w' (inn : Int) (pl : Int) → (w'.cell? ⟨g, 0, none⟩ = some (.int .i64 k) ∧ w'.cell? ⟨g, 1, none⟩ = some (.int .i64 l) ∧ w'.cell? ⟨g, 2, none⟩ = some (.int .i64 z) ∧ w'.cell? ⟨g, 3, none⟩ = some (.int .i64 a0) ∧ w'.cell? ⟨g, 4, none⟩ = some (.int .i64 b0) ∧ w'.cell? ⟨g, 5, none⟩ = some (.int .i64 c0) ∧ w'.cell? ⟨g, 6, none⟩ = some (.int .i64 d0) ∧ w'.cell? ⟨g, 7, none⟩ = some (.int .i64 e0) ∧ w'.cell? ⟨g, 8, none⟩ = some (.int .i64 f0) ∧ w'.cell? ⟨g, 9, none⟩ = some (.int .i64 s0) ∧ w'.cell? ⟨g, 10, none⟩ = some (.int .i64 t0) ∧ w'.cell? ⟨w.heap.size, 0, none⟩ = some (.int .i64 (inn : Int)) ∧ w'.cell? ⟨w.heap.size, 1, none⟩ = some (.int .i64 (pl : Int))) := fun w' hb hs => by
    obtain ⟨x0, x1, x2, x3, x4, x5, x6, x7, x8, x9, x10⟩ := hb.cells
    obtain ⟨z0, z1⟩ := hs.cells
    exact ⟨x0, x1, x2, x3, x4, x5, x6, x7, x8, x9, x10, z0, z1⟩
  have HC5 := hid hc5
  replace hc5 := hc5 _ HX1.out HS1.out
  go_region_held3 (fun w' => w'.cell? ⟨g, 0, none⟩ = some (.int .i64 k) ∧ w'.cell? ⟨g, 1, none⟩ = some (.int .i64 l) ∧ w'.cell? ⟨g, 2, none⟩ = some (.int .i64 z) ∧ w'.cell? ⟨g, 3, none⟩ = some (.int .i64 a0) ∧ w'.cell? ⟨g, 4, none⟩ = some (.int .i64 b0) ∧ w'.cell? ⟨g, 5, none⟩ = some (.int .i64 c0) ∧ w'.cell? ⟨g, 6, none⟩ = some (.int .i64 d0) ∧ w'.cell? ⟨g, 7, none⟩ = some (.int .i64 e0) ∧ w'.cell? ⟨g, 8, none⟩ = some (.int .i64 f0) ∧ w'.cell? ⟨g, 9, none⟩ = some (.int .i64 s0) ∧ w'.cell? ⟨g, 10, none⟩ = some (.int .i64 t0) ∧ w'.cell? ⟨w.heap.size, 0, none⟩ = some (.int .i64 (inn : Int)) ∧ w'.cell? ⟨w.heap.size, 1, none⟩ = some (.int .i64 (pl : Int))) (first | exact hc5 | exact hc6 | go_keep) (first
    | (go_at_call 58; refine (HN.out _ (by exact HV1.out.below ⟨rfl, rfl, rfl, Nat.le_refl _, fun _ _ => rfl⟩)).mono ?_; rintro e w6 ⟨rfl, hb6⟩
       have HB6 : Hid (Below w1.heap.size w1 w6) := hid ⟨hb6.os, hb6.tape, hb6.output, hb6.size, hb6.block⟩
       have HV6 := hid (HV1.out.below HB6.out)
       have HX6 := hid (HX1.out.below HB6.out)
       have HS6 := hid (HS1.out.below HB6.out)
       have HB7 := hid (HB1.out.next HB6.out)
       have hc6 := HC5.out _ HX6.out HS6.out
       clear hb6))
  obtain ⟨x0, x1, x2, x3, x4, x5, x6, x7, x8, x9, x10, z0, z1⟩ := hc6
  clear x0 x1 x2 x3 x4 x5 x6 x7 x8 x9 x10 hc5 HC5 HN
  clear z0 z1
  go_wp2
  (try simp only [Exit.inBlock, Exit.then]); refine bodyPost_ret (results_none rfl _ _ _) rfl ?_
  exact ⟨rfl, HB7.out⟩
set_option maxRecDepth 100000 in
set_option maxHeartbeats 2000000 in
theorem idle_go {G : Geo} {p q cap m g : Nat} {w : World} {F B : List ByteArray} (n : Ino) (inn pl : Nat) (hi : inn < G.n) (hp8 : inn = 0 → pl < 8) (hp : pl < 64) (c : Nat) (hb : nm G B n inn pl = c) (hb0 : c ≠ 0) (hX : Box g w n) (hgp : g ≠ p) (hgq : g ≠ q) (h : VI G p q cap m w F B) : Calls Tryz.prog 59 #[.pointer (some ⟨p, 0, none⟩), .pointer (some ⟨g, 0, none⟩), .agg #[.int .i64 (inn : Int), .int .i64 (pl : Int)]] w fun e w' => e = .returned (.tuple #[]) ∧ VI G p q cap m w' F (idT G B n c inn pl).1 ∧ Box g w' (idT G B n c inn pl).2 ∧ Only [g, m] w w' := by
  have HV := hid h
  have HG := hid h.ok
  have HX := hid hX
  have HGM := hid (h.gm hX)
  have HWM : Hid (w.heap.size ≠ m) := hid (by have := h.ml; omega)
  have HWG : Hid (w.heap.size ≠ g) := hid (by have := lt_of_block hX; omega)
  have HN := hid (fun w' (hv : VI G p q cap m w' F B) => named_nm (w := w') n inn pl hi hp8 hv)
  rw [hb] at HN
  have hcl : c < G.n := hb ▸ nm_lt HG.out _ _ _ _
  have HN2 := hid (fun w' (hv : VI G p q cap m w' F B) k => named_nm (w := w') n c k hcl (fun e => absurd e hb0) hv)
  have HLG := hid (fun w' (hx : Box g w' n) (hv : VI G p q cap m w' F B) => letGo_any (w := w') n inn pl hi hp8 hp hx hgp hgq hv)
  have HBN : Hid (∀ j, j < 64 → nm G B n c j ≠ 0 → idT G B n c inn pl = (B, n)) := hid (fun j hj hn => by unfold idT; rw [bare_no (t := 64) hj hn]; rfl)
  have HBT : Hid (bare G B n c 64 = true → idT G B n c inn pl = lgS G B n inn pl) := hid (fun hj => by unfold idT; rw [if_pos hj])
  have HB0 : Hid (bare G B n c 0 = true) := hid rfl
  have HBS : Hid (∀ j, bare G B n c j = true → nm G B n c j = 0 → bare G B n c (j + 1) = true) := hid (fun j h1 h2 => by unfold bare; rw [h1, h2]; rfl)
  have hb1 : ((c : Int) == 0) = false := by simp; omega
  obtain ⟨rr, hrr⟩ : ∃ rr : List ByteArray × Ino, rr = idT G B n c inn pl := ⟨_, rfl⟩
  rw [← hrr] at HBN HBT ⊢
  obtain ⟨nf, hnf⟩ : ∃ nf, nf = nm G B n c := ⟨_, rfl⟩
  obtain ⟨bf, hbf⟩ : ∃ bf, bf = bare G B n c := ⟨_, rfl⟩
  obtain ⟨lg, hlg⟩ : ∃ lg, lg = lgS G B n inn pl := ⟨_, rfl⟩
  rw [← hnf] at HN2 HBN HBS
  rw [← hbf] at HBT HBS HB0
  rw [← hlg] at HLG HBT
  clear h hX hgp hgq hb hb0 hcl hi hp8 hp hnf hbf hlg hrr
  obtain ⟨k, l, z, a0, b0, c0, d0, e0, f0, s0, t0⟩ := n
  simp only [Ino.v] at HN HN2
  go_enter Tryz.func59, Tryz.ntmps59
  go_wp2_with (go_at_call 58; fail)
  obtain ⟨w1, hw1⟩ : ∃ w1, w1 = w.alloc (.cells #[.int .i64 (inn : Int), .int .i64 (pl : Int)] 102) := ⟨_, rfl⟩
  have HB1 : Hid (Below w.heap.size w w1) := by rw [hw1]; exact below_alloc w _
  have HS1 : Hid (Spt w.heap.size w1 (inn : Int) (pl : Int)) := by rw [hw1]; exact box_at _ _
  rw [← hw1]
  clear hw1
  have HV1 := hid (HV.out.below HB1.out)
  have HX1 := hid (HX.out.below HB1.out)
  have hc5 : ∀ w', Box g w' ⟨k, l, z, a0, b0, c0, d0, e0, f0, s0, t0⟩ → Spt w.heap.size w' (inn : Int) (pl : Int) → (w'.cell? ⟨g, 0, none⟩ = some (.int .i64 k) ∧ w'.cell? ⟨g, 1, none⟩ = some (.int .i64 l) ∧ w'.cell? ⟨g, 2, none⟩ = some (.int .i64 z) ∧ w'.cell? ⟨g, 3, none⟩ = some (.int .i64 a0) ∧ w'.cell? ⟨g, 4, none⟩ = some (.int .i64 b0) ∧ w'.cell? ⟨g, 5, none⟩ = some (.int .i64 c0) ∧ w'.cell? ⟨g, 6, none⟩ = some (.int .i64 d0) ∧ w'.cell? ⟨g, 7, none⟩ = some (.int .i64 e0) ∧ w'.cell? ⟨g, 8, none⟩ = some (.int .i64 f0) ∧ w'.cell? ⟨g, 9, none⟩ = some (.int .i64 s0) ∧ w'.cell? ⟨g, 10, none⟩ = some (.int .i64 t0) ∧ w'.cell? ⟨w.heap.size, 0, none⟩ = some (.int .i64 (inn : Int)) ∧ w'.cell? ⟨w.heap.size, 1, none⟩ = some (.int .i64 (pl : Int))) := fun w' hb hs => by
    obtain ⟨x0, x1, x2, x3, x4, x5, x6, x7, x8, x9, x10⟩ := hb.cells
    obtain ⟨z0, z1⟩ := hs.cells
    exact ⟨x0, x1, x2, x3, x4, x5, x6, x7, x8, x9, x10, z0, z1⟩
  have HC5 := hid hc5
  replace hc5 := hc5 _ HX1.out HS1.out
  go_region_held3 (fun w' => w'.cell? ⟨g, 0, none⟩ = some (.int .i64 k) ∧ w'.cell? ⟨g, 1, none⟩ = some (.int .i64 l) ∧ w'.cell? ⟨g, 2, none⟩ = some (.int .i64 z) ∧ w'.cell? ⟨g, 3, none⟩ = some (.int .i64 a0) ∧ w'.cell? ⟨g, 4, none⟩ = some (.int .i64 b0) ∧ w'.cell? ⟨g, 5, none⟩ = some (.int .i64 c0) ∧ w'.cell? ⟨g, 6, none⟩ = some (.int .i64 d0) ∧ w'.cell? ⟨g, 7, none⟩ = some (.int .i64 e0) ∧ w'.cell? ⟨g, 8, none⟩ = some (.int .i64 f0) ∧ w'.cell? ⟨g, 9, none⟩ = some (.int .i64 s0) ∧ w'.cell? ⟨g, 10, none⟩ = some (.int .i64 t0) ∧ w'.cell? ⟨w.heap.size, 0, none⟩ = some (.int .i64 (inn : Int)) ∧ w'.cell? ⟨w.heap.size, 1, none⟩ = some (.int .i64 (pl : Int))) (first | exact hc5 | exact hc6 | go_keep) (first
    | (go_at_call 58; refine (HN.out _ (by exact HV1.out.below ⟨rfl, rfl, rfl, Nat.le_refl _, fun _ _ => rfl⟩)).mono ?_; rintro e w6 ⟨rfl, hb6⟩
       have HB6 : Hid (Below w1.heap.size w1 w6) := hid ⟨hb6.os, hb6.tape, hb6.output, hb6.size, hb6.block⟩
       have HV6 := hid (HV1.out.below HB6.out)
       have HX6 := hid (HX1.out.below HB6.out)
       have HS6 := hid (HS1.out.below HB6.out)
       have HB7 := hid (HB1.out.next HB6.out)
       have hc6 := HC5.out _ HX6.out HS6.out
       clear hb6))
  obtain ⟨x0, x1, x2, x3, x4, x5, x6, x7, x8, x9, x10, z0, z1⟩ := hc6
  clear x0 x1 x2 x3 x4 x5 x6 x7 x8 x9 x10 hc5 HC5 HN
  go_wp2
  go_loopw [16] (fun iv wr => ∃ j : Nat, iv = .int .i64 (j : Int) ∧ j ≤ 64 ∧ bf j = true ∧ Below w6.heap.size w6 wr) (fun iv _ => 64 - (intOf iv).toNat)
  case atStart => exact ⟨0, rfl, Nat.zero_le _, HB0.out, Below.refl _ _⟩
  case round =>
    obtain ⟨j, rfl, hj, hbj, hBj⟩ := hrel
    have HBJ := hid hBj
    have HBF := hid hbj
    clear hBj hbj z0 z1
    obtain ⟨z0, z1⟩ := (HS6.out.below HBJ.out).cells
    obtain ⟨x0, x1, x2, x3, x4, x5, x6, x7, x8, x9, x10⟩ := (HX6.out.below HBJ.out).cells
    by_cases hjl : j < 64
    · have hlt : decide ((j : Int) < 64) = true := by simp; omega
      have HNJ := hid (HN2.out _ (HV6.out.below HBJ.out) j)
      by_cases hn0 : nf j = 0
      · rw [hn0] at HNJ
        have HST := hid (HBS.out j HBF.out hn0)
        simp only [Int.natCast_zero] at HNJ
        clear hn0
        go_wp2_with (first | (go_at_call 58; refine HNJ.out.mono ?_; rintro e w8 ⟨rfl, hb8⟩; have HB8 := hid hb8; clear hb8))
        go_roundw
        case rel => exact ⟨j + 1, by go_num, by omega, HST.out, HBJ.out.next HB8.out⟩
        case measure => simp only [intOf]; omega
      · have hn1 : ¬ ((nf j : Int) = 0) := by omega
        have HFL := hid (HBN.out j hjl hn0)
        obtain ⟨nj, hnj⟩ : ∃ nj, nj = nf j := ⟨_, rfl⟩
        rw [← hnj] at HNJ hn1
        clear hn0 hnj
        go_wp2_with (first | (go_at_call 58; refine HNJ.out.mono ?_; rintro e w8 ⟨rfl, hb8⟩; have HB8 := hid hb8; clear hb8))
        (try simp only [Exit.inBlock, Exit.then]); refine bodyPost_ret (results_none rfl _ _ _) rfl ?_
        have hbz := (HB7.out.next HBJ.out).next HB8.out
        refine ⟨rfl, ?_, ?_, Only.of_below hbz⟩
        · rw [HFL.out]; exact (HV6.out.below HBJ.out).below HB8.out
        · rw [HFL.out]; exact (HX6.out.below HBJ.out).below HB8.out
    · have hje : j = 64 := by omega
      subst hje
      have HRL := hid (HBT.out HBF.out)
      clear x0 x1 x2 x3 x4 x5 x6 x7 x8 x9 x10
      go_wp2_with (first
        | (go_at_call 57; refine (HLG.out _ (by exact HX6.out.below HBJ.out) (by exact HV6.out.below HBJ.out)).mono ?_; rintro e w9 ⟨rfl, hv9, hx9, ho9⟩
           have HV9 := hid hv9
           have HX9 := hid hx9
           have HO9 := hid ho9
           clear hv9 hx9 ho9))
      go_end0
      refine ⟨rfl, ?_, ?_, (Only.of_below (HB7.out.next HBJ.out)).trans HO9.out⟩
      · rw [HRL.out]; exact HV9.out
      · rw [HRL.out]; exact HX9.out
theorem idle_any {G : Geo} {p q cap m g : Nat} {w : World} {F B : List ByteArray} (n : Ino) (inn pl : Nat) (hi : inn < G.n) (hp8 : inn = 0 → pl < 8) (hp : pl < 64) (hX : Box g w n) (hgp : g ≠ p) (hgq : g ≠ q) (h : VI G p q cap m w F B) : Calls Tryz.prog 59 #[.pointer (some ⟨p, 0, none⟩), .pointer (some ⟨g, 0, none⟩), .agg #[.int .i64 (inn : Int), .int .i64 (pl : Int)]] w fun e w' => e = .returned (.tuple #[]) ∧ VI G p q cap m w' F (idS G B n inn pl).1 ∧ Box g w' (idS G B n inn pl).2 ∧ Only [g, m] w w' := by
  unfold idS
  by_cases hb : nm G B n inn pl = 0
  · rw [if_pos hb]
    exact (idle_no n inn pl hi hp8 hp hb hX hgp hgq h).mono fun e w' ⟨he, hb'⟩ => ⟨he, h.below hb', hX.below hb', Only.of_below hb'⟩
  · rw [if_neg hb]
    refine (idle_go n inn pl hi hp8 hp _ rfl hb hX hgp hgq h).mono ?_
    exact fun _ _ h => h
end Go.Proofs.YtjnhibpebikkmaaGreat
namespace Go.Proofs.YtjnhibpebikkmaaGreat
open Go.RowKit Go.Maps

/-- the blocks and the inode behind letting go of the blocks that a block of names names and that name none -/
def nmS (G : Geo) (c : Nat) : Nat → List ByteArray → Ino → Nat → List ByteArray × Ino
  | 0, B, n, _ => (B, n)
  | f + 1, B, n, j => nmS G c f (idS G B n c j).1 (idS G B n c j).2 (j + 1)
def n1S (G : Geo) (B : List ByteArray) (n : Ino) : List ByteArray × Ino := if nm G B n 0 7 = 0 then (B, n) else nmS G (nm G B n 0 7) 64 B n 0
def n2S (G : Geo) (B : List ByteArray) (n : Ino) : List ByteArray × Ino := idS G (n1S G B n).1 (n1S G B n).2 0 6
def nrS (G : Geo) (B : List ByteArray) (n : Ino) : List ByteArray × Ino := idS G (n2S G B n).1 (n2S G B n).2 0 7
theorem usedI_nm {G : Geo} {c : Nat} : ∀ (f : Nat) {B : List ByteArray} {n : Ino} {j : Nat}, usedI n = true → usedI (nmS G c f B n j).2 = true
  | 0, _, _, _, h => h
  | f + 1, B, n, j, h => by unfold nmS; exact usedI_nm f (usedI_id h)
theorem usedI_nr {G : Geo} {B : List ByteArray} {n : Ino} (h : usedI n = true) : usedI (nrS G B n).2 = true := by
  unfold nrS n2S n1S
  refine usedI_id (usedI_id ?_)
  split
  · exact h
  · exact usedI_nm 64 h
theorem ix107_0 (w : World) : (Instr.index 107 (.agg #[.int .i64 6, .int .i64 7]) (.int .i64 0)).run Tryz.prog w = .ok (.int .i64 6) w := by kernel_rfl
theorem ix107_1 (w : World) : (Instr.index 107 (.agg #[.int .i64 6, .int .i64 7]) (.int .i64 1)).run Tryz.prog w = .ok (.int .i64 7) w := by kernel_rfl
set_option maxRecDepth 100000 in
set_option maxHeartbeats 4000000 in
theorem namers_no {G : Geo} {p q cap m g : Nat} {w : World} {F B : List ByteArray} (n : Ino) (hA : nm G B n 0 7 = 0) (hX : Box g w n) (hgp : g ≠ p) (hgq : g ≠ q) (h : VI G p q cap m w F B) : Calls Tryz.prog 34 #[.pointer (some ⟨p, 0, none⟩), .pointer (some ⟨g, 0, none⟩)] w fun e w' => e = .returned (.tuple #[]) ∧ VI G p q cap m w' F (nrS G B n).1 ∧ Box g w' (nrS G B n).2 ∧ Only [g, m] w w' := by
  have HG := hid h.ok
  have HGP := hid hgp
  have HGQ := hid hgq
  have hz0 : 0 < G.n := by have := h.ok.c4; have := h.ok.sum; omega
  have HN := hid (named_nm n 0 7 hz0 (fun _ => by omega) h)
  have HI6 := hid (fun w' (hx : Box g w' (n1S G B n).2) (hv : VI G p q cap m w' F (n1S G B n).1) => idle_any (w := w') (n1S G B n).2 0 6 hz0 (fun _ => by omega) (by omega) hx hgp hgq hv)
  have HI7 := hid (fun w' (hx : Box g w' (n2S G B n).2) (hv : VI G p q cap m w' F (n2S G B n).1) => idle_any (w := w') (n2S G B n).2 0 7 hz0 (fun _ => by omega) (by omega) hx hgp hgq hv)
  have HR1 : Hid (n1S G B n = (B, n)) := hid (by unfold n1S; rw [if_pos hA])
  obtain ⟨r1, hr1⟩ : ∃ r, r = n1S G B n := ⟨_, rfl⟩
  obtain ⟨r2, hr2⟩ : ∃ r, r = n2S G B n := ⟨_, rfl⟩
  obtain ⟨r3, hr3⟩ : ∃ r, r = nrS G B n := ⟨_, rfl⟩
  rw [show idS G (n1S G B n).1 (n1S G B n).2 0 6 = r2 from hr2.symm ▸ rfl, ← hr1] at HI6
  rw [show idS G (n2S G B n).1 (n2S G B n).2 0 7 = r3 from hr3.symm ▸ rfl, ← hr2] at HI7
  rw [← hr1] at HR1
  rw [← hr3]
  have i0 := ix107_0
  have i1 := ix107_1
  rw [hA] at HN
  have HV := hid h
  have HX := hid hX
  clear h hX hgp hgq hz0 hA hr1 hr2 hr3
  rw [HR1.out] at HI6
  obtain ⟨k, l, z, a0, b0, c0, d0, e0, f0, s0, t0⟩ := n
  simp only [Ino.v, Int.natCast_zero] at HN HI6 HI7
  obtain ⟨x0, x1, x2, x3, x4, x5, x6, x7, x8, x9, x10⟩ := HX.out.cells
  go_enter Tryz.func34, Tryz.ntmps34
  go_wp2_with (first | (go_at_call 58; refine HN.out.mono ?_; rintro e w1 ⟨rfl, hb1⟩; have HV1 := hid (HV.out.below hb1); have HX1 := hid (HX.out.below hb1); have HO1 : Hid (Only [g, m] w w1) := hid (Only.of_below hb1); clear hb1))
  clear x0 x1 x2 x3 x4 x5 x6 x7 x8 x9 x10
  refine wp_loop_rounds 3 ?_
  rw [rounds_succ]
  go_wp2_with (fail)
  refine (HI6.out _ HX1.out HV1.out).mono ?_
  rintro e w8 ⟨rfl, hv8, hx8, ho8⟩
  have HV8 := hid hv8
  have HX8 := hid hx8
  have HO8 := hid (HO1.out.trans ho8)
  clear hv8 hx8 ho8
  go_wp2_with (fail)
  rw [rounds_succ]
  go_wp2_with (fail)
  refine (HI7.out _ HX8.out HV8.out).mono ?_
  rintro e w9 ⟨rfl, hv9, hx9, ho9⟩
  have HV9 := hid hv9
  have HX9 := hid hx9
  have HO9 := hid (HO8.out.trans ho9)
  clear hv9 hx9 ho9
  go_wp2
  rw [rounds_succ]
  go_wp2
  go_end0
  exact ⟨rfl, HV9.out, HX9.out, HO9.out⟩
set_option maxRecDepth 100000 in
set_option maxHeartbeats 4000000 in
theorem namers_go {G : Geo} {p q cap m g : Nat} {w : World} {F B : List ByteArray} (n : Ino) (c : Nat) (hA : nm G B n 0 7 = c) (hc0 : c ≠ 0) (hX : Box g w n) (hgp : g ≠ p) (hgq : g ≠ q) (h : VI G p q cap m w F B) : Calls Tryz.prog 34 #[.pointer (some ⟨p, 0, none⟩), .pointer (some ⟨g, 0, none⟩)] w fun e w' => e = .returned (.tuple #[]) ∧ VI G p q cap m w' F (nrS G B n).1 ∧ Box g w' (nrS G B n).2 ∧ Only [g, m] w w' := by
  have HG := hid h.ok
  have HGP := hid hgp
  have HGQ := hid hgq
  have hz0 : 0 < G.n := by have := h.ok.c4; have := h.ok.sum; omega
  have HN := hid (named_nm n 0 7 hz0 (fun _ => by omega) h)
  have HI6 := hid (fun w' (hx : Box g w' (n1S G B n).2) (hv : VI G p q cap m w' F (n1S G B n).1) => idle_any (w := w') (n1S G B n).2 0 6 hz0 (fun _ => by omega) (by omega) hx hgp hgq hv)
  have HI7 := hid (fun w' (hx : Box g w' (n2S G B n).2) (hv : VI G p q cap m w' F (n2S G B n).1) => idle_any (w := w') (n2S G B n).2 0 7 hz0 (fun _ => by omega) (by omega) hx hgp hgq hv)
  have HR1 : Hid (n1S G B n = nmS G c 64 B n 0) := hid (by unfold n1S; rw [hA, if_neg hc0])
  obtain ⟨r1, hr1⟩ : ∃ r, r = n1S G B n := ⟨_, rfl⟩
  obtain ⟨r2, hr2⟩ : ∃ r, r = n2S G B n := ⟨_, rfl⟩
  obtain ⟨r3, hr3⟩ : ∃ r, r = nrS G B n := ⟨_, rfl⟩
  rw [show idS G (n1S G B n).1 (n1S G B n).2 0 6 = r2 from hr2.symm ▸ rfl, ← hr1] at HI6
  rw [show idS G (n2S G B n).1 (n2S G B n).2 0 7 = r3 from hr3.symm ▸ rfl, ← hr2] at HI7
  rw [← hr1] at HR1
  rw [← hr3]
  have i0 := ix107_0
  have i1 := ix107_1
  rw [hA] at HN
  have HV := hid h
  have HX := hid hX
  have hcl : c < G.n := hA ▸ nm_lt HG.out _ _ _ _
  have HID := hid (fun w' B' n' j (hj : j < 64) (hx : Box g w' n') (hv : VI G p q cap m w' F B') => idle_any (w := w') n' c j hcl (fun e => absurd e hc0) hj hx hgp hgq hv)
  have hc1 : ((c : Int) != 0) = true := by simp; omega
  clear h hX hgp hgq hz0 hA hr1 hr2 hr3 hc0 hcl
  obtain ⟨k, l, z, a0, b0, c0, d0, e0, f0, s0, t0⟩ := n
  simp only [Ino.v, Int.natCast_zero] at HN HI6 HI7
  obtain ⟨x0, x1, x2, x3, x4, x5, x6, x7, x8, x9, x10⟩ := HX.out.cells
  go_enter Tryz.func34, Tryz.ntmps34
  go_wp2_with (first | (go_at_call 58; refine HN.out.mono ?_; rintro e w1 ⟨rfl, hb1⟩; have HV1 := hid (HV.out.below hb1); have HX1 := hid (HX.out.below hb1); have HO1 : Hid (Only [g, m] w w1) := hid (Only.of_below hb1); clear hb1))
  clear x0 x1 x2 x3 x4 x5 x6 x7 x8 x9 x10
  go_loopw [16] (fun iv wr => ∃ (j : Nat) (B' : List ByteArray) (n' : Ino), iv = .int .i64 (j : Int) ∧ j ≤ 64 ∧ r1 = nmS G c (64 - j) B' n' j ∧ VI G p q cap m wr F B' ∧ Box g wr n' ∧ Only [g, m] w wr) (fun iv _ => 64 - (intOf iv).toNat)
  case atStart => exact ⟨0, B, _, rfl, Nat.zero_le _, HR1.out, HV1.out, HX1.out, HO1.out⟩
  case round =>
    clear HV1 HX1 HO1 HV HX HN HR1
    obtain ⟨j, B', n', rfl, hj, hR, hV, hX, hO⟩ := hrel
    have HV := hid hV
    have HX := hid hX
    have HO := hid hO
    have HRR := hid hR
    clear hV hX hO hR
    by_cases hjl : j < 64
    · have hlt : decide ((j : Int) < 64) = true := by simp; omega
      obtain ⟨f, hf⟩ : ∃ f, 64 - j = f + 1 ∧ 64 - (j + 1) = f := ⟨64 - (j + 1), by omega, rfl⟩
      rw [hf.1] at HRR
      have HF := hid hf
      have HDJ := hid (HID.out wr B' n' j hjl HX.out HV.out)
      have HE : Hid (r1 = nmS G c f (idS G B' n' c j).1 (idS G B' n' c j).2 (j + 1)) := hid HRR.out
      obtain ⟨r, hr⟩ : ∃ r, r = idS G B' n' c j := ⟨_, rfl⟩
      rw [← hr] at HDJ HE
      clear hf hj HRR hr
      go_wp2_with (first
        | (go_at_call 59; refine HDJ.out.mono ?_; rintro e w3 ⟨rfl, hv3, hx3, ho3⟩
           have HV3 := hid hv3
           have HX3 := hid hx3
           have HO3 := hid (HO.out.trans ho3)
           clear hv3 hx3 ho3))
      go_roundw
      case rel =>
        refine ⟨j + 1, _, _, by go_num, by omega, ?_, HV3.out, HX3.out, HO3.out⟩
        rw [HF.out.2]
        exact HE.out
      case measure => simp only [intOf]; omega
    · have hje : j = 64 := by omega
      subst hje
      have HE : Hid (r1 = (B', n')) := hid HRR.out
      rw [HE.out] at HI6
      have HV1 := HV
      have HX1 := HX
      have HO1 := HO
      clear HRR HE
      go_wp2
      refine wp_loop_rounds 3 ?_
      rw [rounds_succ]
      go_wp2_with (fail)
      refine (HI6.out _ HX1.out HV1.out).mono ?_
      rintro e w8 ⟨rfl, hv8, hx8, ho8⟩
      have HV8 := hid hv8
      have HX8 := hid hx8
      have HO8 := hid (HO1.out.trans ho8)
      clear hv8 hx8 ho8
      go_wp2_with (fail)
      rw [rounds_succ]
      go_wp2_with (fail)
      refine (HI7.out _ HX8.out HV8.out).mono ?_
      rintro e w9 ⟨rfl, hv9, hx9, ho9⟩
      have HV9 := hid hv9
      have HX9 := hid hx9
      have HO9 := hid (HO8.out.trans ho9)
      clear hv9 hx9 ho9
      go_wp2
      rw [rounds_succ]
      go_wp2
      go_end0
      exact ⟨rfl, HV9.out, HX9.out, HO9.out⟩
theorem namers_any {G : Geo} {p q cap m g : Nat} {w : World} {F B : List ByteArray} (n : Ino) (hX : Box g w n) (hgp : g ≠ p) (hgq : g ≠ q) (h : VI G p q cap m w F B) : Calls Tryz.prog 34 #[.pointer (some ⟨p, 0, none⟩), .pointer (some ⟨g, 0, none⟩)] w fun e w' => e = .returned (.tuple #[]) ∧ VI G p q cap m w' F (nrS G B n).1 ∧ Box g w' (nrS G B n).2 ∧ Only [g, m] w w' := by
  by_cases hA : nm G B n 0 7 = 0
  · exact namers_no n hA hX hgp hgq h
  · exact namers_go n _ rfl hA hX hgp hgq h
end Go.Proofs.YtjnhibpebikkmaaGreat
namespace Go.Proofs.YtjnhibpebikkmaaGreat
open Go.RowKit Go.Maps

/-- a block whose bytes from a place on are 0 -/
def half (d : ByteArray) (k : Nat) : ByteArray := d.extract 0 k ++ Zs (128 - k)
theorem half_size {d : ByteArray} (hd : d.size = 128) {k : Nat} (hk : k ≤ 128) : (half d k).size = 128 := by
  unfold half
  rw [ByteArray.size_append, ByteArray.size_extract, Zs_size]
  omega
theorem cut_to (d : ByteArray) (j : Nat) (hj : j ≤ d.size) (w : World) : (Instr.slice 9 (.string d) none (some (.int .i64 (j : Int))) none).run Tryz.prog w = .ok (.string (d.extract 0 j)) w := by
  have := run_slice_string_h w 9 d Tryz.underlying9 .i64 (j : Int) (by omega) (by omega)
  simpa using this
/-- the blocks behind 'blank' -/
def blB (G : Geo) (B : List ByteArray) (n : Ino) (size : Nat) : List ByteArray := if size % 128 = 0 then B else if blk G B n (size / 128) = 0 then B else B.set (blk G B n (size / 128)) (half (bk B (blk G B n (size / 128))) (size % 128))
set_option maxRecDepth 100000 in
set_option maxHeartbeats 2000000 in
theorem blank_at {G : Geo} {p q cap m : Nat} {w : World} {F B : List ByteArray} (n : Ino) (size : Nat) (hs : size % 128 = 0) (_h : VI G p q cap m w F B) : Calls Tryz.prog 35 #[.pointer (some ⟨p, 0, none⟩), n.v, .int .i64 (size : Int)] w fun e w' => e = .returned (.tuple #[]) ∧ Below w.heap.size w w' := by
  have hm : (size : Int) % 128 = 0 := by omega
  clear _h hs
  obtain ⟨k, l, z, a0, b0, c0, d0, e0, f0, s0, t0⟩ := n
  simp only [Ino.v]
  go_enter Tryz.func35, Tryz.ntmps35
  go_wp2
  (try simp only [Exit.inBlock, Exit.then]); refine bodyPost_ret (results_none rfl _ _ _) rfl ?_
  exact ⟨rfl, below_alloc _ _⟩
set_option maxRecDepth 100000 in
set_option maxHeartbeats 2000000 in
theorem blank_no {G : Geo} {p q cap m : Nat} {w : World} {F B : List ByteArray} (n : Ino) (size : Nat) (hl : size ≤ 533248) (hs : size % 128 ≠ 0) (hb : blk G B n (size / 128) = 0) (h : VI G p q cap m w F B) : Calls Tryz.prog 35 #[.pointer (some ⟨p, 0, none⟩), n.v, .int .i64 (size : Int)] w fun e w' => e = .returned (.tuple #[]) ∧ Below w.heap.size w w' := by
  have HV := hid h
  have hix : size / 128 < 4166 := by omega
  have HBO := hid (fun w' (hv : VI G p q cap m w' F B) => blockOf_any (w := w') n (size / 128) hix hv)
  obtain ⟨ix, hi⟩ : ∃ ix, ix = size / 128 := ⟨_, rfl⟩
  rw [← hi] at HBO hb
  have hq : IntKind.i64.wrap ((size : Int) / 128) = (ix : Int) := by rw [IntKind.wrap_i64] <;> omega
  rw [hb] at HBO
  obtain ⟨fo, hfo⟩ : ∃ fo, fo = size % 128 := ⟨_, rfl⟩
  have hm : (size : Int) % 128 = (fo : Int) := by omega
  have hm1 : ((fo : Int) == 0) = false := by simp; omega
  clear h hs hl hix hi hb hfo
  obtain ⟨k, l, z, a0, b0, c0, d0, e0, f0, s0, t0⟩ := n
  simp only [Ino.v, Int.natCast_zero] at HBO ⊢
  go_enter Tryz.func35, Tryz.ntmps35
  go_wp2_with (go_at_call 42; fail)
  refine (HBO.out _ (by exact HV.out.below (below_alloc w _))).mono ?_
  rintro e w2 ⟨rfl, hb2⟩
  have HB2 : Hid (Below w.heap.size w w2) := hid ((below_alloc w _).next hb2)
  clear hb2
  go_wp2
  go_end0
  exact ⟨rfl, HB2.out⟩
set_option maxRecDepth 100000 in
set_option maxHeartbeats 2000000 in
theorem blank_go {G : Geo} {p q cap m : Nat} {w : World} {F B : List ByteArray} (n : Ino) (size : Nat) (hl : size ≤ 533248) (hs : size % 128 ≠ 0) (b : Nat) (hb : blk G B n (size / 128) = b) (hb0 : b ≠ 0) (h : VI G p q cap m w F B) : Calls Tryz.prog 35 #[.pointer (some ⟨p, 0, none⟩), n.v, .int .i64 (size : Int)] w fun e w' => e = .returned (.tuple #[]) ∧ VI G p q cap m w' F (B.set b (half (bk B b) (size % 128))) ∧ Only [m] w w' := by
  have HV := hid h
  have hix : size / 128 < 4166 := by omega
  have HBO := hid (fun w' (hv : VI G p q cap m w' F B) => blockOf_any (w := w') n (size / 128) hix hv)
  obtain ⟨ix, hi⟩ : ∃ ix, ix = size / 128 := ⟨_, rfl⟩
  rw [← hi] at HBO hb
  have hq : IntKind.i64.wrap ((size : Int) / 128) = (ix : Int) := by rw [IntKind.wrap_i64] <;> omega
  rw [hb] at HBO
  obtain ⟨fo, hfo⟩ : ∃ fo, fo = size % 128 := ⟨_, rfl⟩
  rw [← hfo]
  have hbl : b < G.n := hb ▸ blk_lt h.ok _ _ _
  have hsz := h.size _ hbl
  have hm : (size : Int) % 128 = (fo : Int) := by omega
  have hm1 : ((fo : Int) == 0) = false := by simp; omega
  have hb1 : ((b : Int) != 0) = true := by simp; omega
  have HK := hid (fun w' (hv : VI G p q cap m w' F B) => block_any (w := w') b hbl hv)
  have HZ := hid (zeros_any (128 - fo) (by omega))
  have HC := hid (fun w' (hv : VI G p q cap m w' F B) => change_any (w := w') b hbl (half (bk B b) fo) (half_size hsz (by omega)) hv)
  obtain ⟨R, hR⟩ : ∃ R, R = B.set b (half (bk B b) fo) := ⟨_, rfl⟩
  rw [← hR] at HC ⊢
  obtain ⟨db, hdb⟩ : ∃ db, db = bk B b := ⟨_, rfl⟩
  rw [← hdb] at HK HC hsz
  obtain ⟨zz, hzz⟩ : ∃ zz, zz = Zs (128 - fo) := ⟨_, rfl⟩
  have hzs : zz.size = 128 - fo := by rw [hzz]; exact Zs_size _
  unfold half at HC
  rw [← hzz] at HZ HC
  obtain ⟨rs, hrs⟩ : ∃ rs, rs = 128 - fo := ⟨_, rfl⟩
  rw [← hrs] at HZ
  have hw1 : IntKind.i64.wrap (128 - (fo : Int)) = (rs : Int) := by rw [IntKind.wrap_i64] <;> omega
  have hfl : fo ≤ db.size := by omega
  have hsl := cut_to db fo hfl
  have hcat := fun wx => Go.run_string_add_sum (P := Tryz.prog) (w := wx) (db.extract 0 fo) zz (by rw [ByteArray.size_extract, hzs]; omega)
  clear h hs hl hix hi hb hb0 hfo hR hdb hzz hrs hbl hzs
  obtain ⟨k, l, z, a0, b0, c0, d0, e0, f0, s0, t0⟩ := n
  simp only [Ino.v] at HBO ⊢
  go_enter Tryz.func35, Tryz.ntmps35
  go_wp2_with (go_at_call 42; fail)
  refine (HBO.out _ (by exact HV.out.below (below_alloc w _))).mono ?_
  rintro e w2 ⟨rfl, hb2⟩
  have HB2 : Hid (Below w.heap.size w w2) := hid ((below_alloc w _).next hb2)
  have HV2 := hid (HV.out.below HB2.out)
  clear hb2
  have hc2 : w2.cell? ⟨p, 1, none⟩ = some (.int .i64 (G.bm : Int)) := (HV2.out.cell 1).trans rfl
  go_wp2_with (go_at_call 40; fail)
  go_region_held3 (fun w' => w'.cell? ⟨p, 1, none⟩ = some (.int .i64 (G.bm : Int))) (first | exact hc2 | exact hc5 | exact hc6 | exact hc7 | go_keep) (first
    | (go_at_call 40; refine (HK.out _ (by exact HV2.out.below ⟨rfl, rfl, rfl, Nat.le_refl _, fun _ _ => rfl⟩)).mono ?_; rintro e w5 ⟨rfl, hb5⟩
       have HB5 : Hid (Below w2.heap.size w2 w5) := hid ⟨hb5.os, hb5.tape, hb5.output, hb5.size, hb5.block⟩
       have HV5 := hid (HV2.out.below HB5.out)
       have hc5 : w5.cell? ⟨p, 1, none⟩ = some (.int .i64 (G.bm : Int)) := (HV5.out.cell 1).trans rfl
       clear hb5)
    | (go_at_call 60; refine (HZ.out _).mono ?_; rintro e w6 ⟨rfl, hb6⟩
       have HB6 : Hid (Below w5.heap.size w5 w6) := hid ⟨hb6.os, hb6.tape, hb6.output, hb6.size, hb6.block⟩
       have HV6 := hid (HV5.out.below HB6.out)
       have hc6 : w6.cell? ⟨p, 1, none⟩ = some (.int .i64 (G.bm : Int)) := (HV6.out.cell 1).trans rfl
       clear hb6)
    | (go_at_call 54; refine (HC.out _ (by exact HV6.out.below ⟨rfl, rfl, rfl, Nat.le_refl _, fun _ _ => rfl⟩)).mono ?_; rintro e w7 ⟨rfl, hv7, ho7⟩
       have HV7 := hid hv7
       have HO7 : Hid (Only [m] w6 w7) := hid ⟨ho7.os, ho7.tape, ho7.output, ho7.size, ho7.block⟩
       have hc7 : w7.cell? ⟨p, 1, none⟩ = some (.int .i64 (G.bm : Int)) := (HV7.out.cell 1).trans rfl
       clear hv7 ho7))
  all_goals
    go_wp2
    go_end0
    exact ⟨rfl, HV7.out, (Only.of_below ((HB2.out.next HB5.out).next HB6.out)).trans HO7.out⟩
theorem vblank_any {G : Geo} {p q cap m : Nat} {w : World} {F B : List ByteArray} (n : Ino) (size : Nat) (hl : size ≤ 533248) (h : VI G p q cap m w F B) : Calls Tryz.prog 35 #[.pointer (some ⟨p, 0, none⟩), n.v, .int .i64 (size : Int)] w fun e w' => e = .returned (.tuple #[]) ∧ VI G p q cap m w' F (blB G B n size) ∧ Only [m] w w' := by
  unfold blB
  by_cases hs : size % 128 = 0
  · rw [if_pos hs]
    exact (blank_at n size hs h).mono fun e w' ⟨he, hb⟩ => ⟨he, h.below hb, Only.of_below hb⟩
  · rw [if_neg hs]
    by_cases hb : blk G B n (size / 128) = 0
    · rw [if_pos hb]
      exact (blank_no n size hl hs hb h).mono fun e w' ⟨he, hb⟩ => ⟨he, h.below hb, Only.of_below hb⟩
    · rw [if_neg hb]
      exact blank_go n size hl hs _ rfl hb h
end Go.Proofs.YtjnhibpebikkmaaGreat
namespace Go.Proofs.YtjnhibpebikkmaaGreat
open Go.RowKit Go.Maps

/-- the blocks and the inode behind the two first steps of 'Cut' -/
def c1S (G : Geo) (B : List ByteArray) (n : Ino) (size : Nat) : List ByteArray × Ino := lfS G (4166 - (size + 127) / 128) B n ((size + 127) / 128)
def c2S (G : Geo) (B : List ByteArray) (n : Ino) (size : Nat) : List ByteArray × Ino := nrS G (c1S G B n size).1 (c1S G B n size).2
/-- the blocks behind 'Cut' of an inode -/
def cutB (G : Geo) (B : List ByteArray) (i : Nat) (n : Ino) (size : Nat) : List ByteArray := putB G (blB G (c2S G B n size).1 (c2S G B n size).2 size) i { (c2S G B n size).2 with z := (size : Int) }
theorem usedI_c2 {G : Geo} {B : List ByteArray} {n : Ino} {size : Nat} (h : usedI n = true) : usedI (c2S G B n size).2 = true := by
  unfold c2S c1S
  exact usedI_nr (usedI_lf _ h)
set_option maxRecDepth 100000 in
set_option maxHeartbeats 2000000 in
theorem cut_neg {G : Geo} {p q cap m : Nat} {w : World} {F B : List ByteArray} (i x : Int) (hx : x < 0) (h : VI G p q cap m w F B) : Calls Tryz.prog 12 #[.pointer (some ⟨p, 0, none⟩), .int .i64 i, .int .i64 x] w fun e w' => e = .returned (.int .i64 1) ∧ Below w.heap.size w w' := by
  have HN := hid (vnone_any h)
  have hx1 : decide (x < 0) = true := by simp [hx]
  clear hx h
  go_enter Tryz.func12, Tryz.ntmps12
  go_wp2_with (first
    | (go_at_call 26; refine HN.out.mono ?_; rintro e w0 ⟨rfl, hw⟩; have hw := hw.symm; subst hw))
  go_ret
  exact ⟨rfl, Below.refl _ _⟩
set_option maxRecDepth 100000 in
set_option maxHeartbeats 2000000 in
theorem cut_long {G : Geo} {p q cap m : Nat} {w : World} {F B : List ByteArray} (i x : Int) (hx : 533248 < x) (h : VI G p q cap m w F B) : Calls Tryz.prog 12 #[.pointer (some ⟨p, 0, none⟩), .int .i64 i, .int .i64 x] w fun e w' => e = .returned (.int .i64 1) ∧ Below w.heap.size w w' := by
  have HN := hid (vnone_any h)
  have hx1 : decide (x < 0) = false := by simp; omega
  have hx2 : decide (533248 < x) = true := by simp [hx]
  clear hx h
  go_enter Tryz.func12, Tryz.ntmps12
  go_wp2_with (first
    | (go_at_call 26; refine HN.out.mono ?_; rintro e w0 ⟨rfl, hw⟩; have hw := hw.symm; subst hw))
  go_ret
  exact ⟨rfl, Below.refl _ _⟩
set_option maxRecDepth 100000 in
set_option maxHeartbeats 2000000 in
theorem cut_used {G : Geo} {p q cap m : Nat} {w : World} {F B : List ByteArray} (i x : Int) (hx0 : ¬ x < 0) (hx : ¬ 533248 < x) (hu : usdE G B i ≠ 0) (h : VI G p q cap m w F B) : Calls Tryz.prog 12 #[.pointer (some ⟨p, 0, none⟩), .int .i64 i, .int .i64 x] w fun e w' => e = .returned (.int .i64 (usdE G B i)) ∧ Below w.heap.size w w' := by
  have HN := hid (vnone_any h)
  have HU := hid (used_any i h)
  obtain ⟨n, hn⟩ : ∃ n, n = usdI G B i := ⟨_, rfl⟩
  obtain ⟨r, hr⟩ : ∃ r, r = usdE G B i := ⟨_, rfl⟩
  rw [← hn, ← hr] at HU
  rw [← hr] at hu ⊢
  have hx1 : decide (x < 0) = false := by simp; omega
  have hx2 : decide (533248 < x) = false := by simp; omega
  clear hx0 hx hn hr h
  obtain ⟨k, l, z, a0, b0, c0, d0, e0, f0, s0, t0⟩ := n
  simp only [Ino.v] at HU
  go_enter Tryz.func12, Tryz.ntmps12
  go_wp2_with (first
    | (go_at_call 26; refine HN.out.mono ?_; rintro e w0 ⟨rfl, hw⟩; have hw := hw.symm; subst hw)
    | (go_at_call 29; refine HU.out.mono ?_; rintro e w1 ⟨rfl, hb1⟩; have HB1 := hid hb1; clear hb1))
  go_ret
  exact ⟨rfl, HB1.out.next (below_alloc _ _)⟩
set_option maxRecDepth 100000 in
set_option maxHeartbeats 4000000 in
theorem cut_ok {G : Geo} {p q cap m : Nat} {w : World} {F B : List ByteArray} (i x : Nat) (hx : x ≤ 533248) (hu : usdE G B (i : Int) = 0) (h : VI G p q cap m w F B) : Calls Tryz.prog 12 #[.pointer (some ⟨p, 0, none⟩), .int .i64 (i : Int), .int .i64 (x : Int)] w fun e w' => e = .returned (.int .i64 0) ∧ VI G p q cap m w' F (cutB G B i (usdI G B (i : Int)) x) ∧ Only [m] w w' := by
  have HV := hid h
  obtain ⟨⟨hi0, hi1⟩, hne0, hse, hus⟩ := usd_ok hu
  have hiz : i < G.z := by omega
  have HN := hid (vnone_any h)
  have HU := hid (used_any (i : Int) h)
  rw [hu] at HU
  have HPQ : Hid (p < w.heap.size ∧ q < w.heap.size ∧ m < w.heap.size) := hid ⟨h.pl, h.ql, h.ml⟩
  obtain ⟨n, hn⟩ : ∃ n, n = usdI G B (i : Int) := ⟨_, rfl⟩
  rw [← hn] at HU hus ⊢
  have HL := hid (fun w' g (hX : Box g w' n) (h1 : g ≠ p) (h2 : g ≠ q) (hv : VI G p q cap m w' F B) => letGoFrom_any (w := w') n x hx hX h1 h2 hv)
  have HM := hid (fun w' g (hX : Box g w' (c1S G B n x).2) (h1 : g ≠ p) (h2 : g ≠ q) (hv : VI G p q cap m w' F (c1S G B n x).1) => namers_any (w := w') (c1S G B n x).2 hX h1 h2 hv)
  have HK := hid (fun w' (hv : VI G p q cap m w' F (c2S G B n x).1) => vblank_any (w := w') (c2S G B n x).2 x hx hv)
  have hck : chkE { (c2S G B n x).2 with z := (x : Int) } = 0 := usedI_chk (usedI_size (usedI_c2 hus) (by omega) (by omega))
  have HP := hid (fun w' (hv : VI G p q cap m w' F (blB G (c2S G B n x).1 (c2S G B n x).2 x)) => vput_any (w := w') i hiz { (c2S G B n x).2 with z := (x : Int) } hck hv)
  rw [show lfS G (4166 - (x + 127) / 128) B n ((x + 127) / 128) = c1S G B n x from rfl] at HL
  rw [show nrS G (c1S G B n x).1 (c1S G B n x).2 = c2S G B n x from rfl] at HM
  rw [show putB G (blB G (c2S G B n x).1 (c2S G B n x).2 x) i { (c2S G B n x).2 with z := (x : Int) } = cutB G B i n x from rfl] at HP
  obtain ⟨R9, hR9⟩ : ∃ R9, R9 = cutB G B i n x := ⟨_, rfl⟩
  obtain ⟨B3, hB3⟩ : ∃ B3, B3 = blB G (c2S G B n x).1 (c2S G B n x).2 x := ⟨_, rfl⟩
  obtain ⟨r2, hr2⟩ : ∃ r2, r2 = c2S G B n x := ⟨_, rfl⟩
  obtain ⟨r1, hr1⟩ : ∃ r1, r1 = c1S G B n x := ⟨_, rfl⟩
  rw [← hR9] at HP ⊢
  rw [← hB3] at HP HK
  rw [← hr2] at HP HK HM
  rw [← hr1] at HM HL
  have hx1 : decide ((x : Int) < 0) = false := by simp
  have hx2 : decide (533248 < (x : Int)) = false := by simp; omega
  clear h hi0 hi1 hne0 hse hus hu hiz hn hx hR9 hB3 hr2 hr1 hck
  obtain ⟨k, l, z, a0, b0, c0, d0, e0, f0, s0, t0⟩ := n
  obtain ⟨B2, ⟨k', l', z', a0', b0', c0', d0', e0', f0', s0', t0'⟩⟩ := r2
  simp only [Ino.v] at HU HP HK
  go_enter Tryz.func12, Tryz.ntmps12
  go_wp2_with (first
    | (go_at_call 26; refine HN.out.mono ?_; rintro e w0 ⟨rfl, hw⟩; have hw := hw.symm; subst hw)
    | (go_at_call 29; refine HU.out.mono ?_; rintro e w1 ⟨rfl, hb1⟩
       have HB1 := hid hb1
       clear hb1)
    | (go_at_call 33; fail))
  obtain ⟨w2, hw2⟩ : ∃ w2, w2 = w1.alloc (.cells #[.int .i64 k, .int .i64 l, .int .i64 z, .int .i64 a0, .int .i64 b0, .int .i64 c0, .int .i64 d0, .int .i64 e0, .int .i64 f0, .int .i64 s0, .int .i64 t0] 33) := ⟨_, rfl⟩
  have HX2 : Hid (Box w1.heap.size w2 ⟨k, l, z, a0, b0, c0, d0, e0, f0, s0, t0⟩) := by rw [hw2]; exact box_at _ _
  have hB2 : Below w1.heap.size w1 w2 := by rw [hw2]; exact below_alloc w1 _
  rw [← hw2]
  clear hw2
  have HV2 := hid ((HV.out.below HB1.out).below hB2)
  have HB2 := hid (HB1.out.next hB2)
  have HGP : Hid (w1.heap.size ≠ p ∧ w1.heap.size ≠ q ∧ w1.heap.size ≠ m ∧ w.heap.size ≤ w1.heap.size) := hid (by have := HPQ.out; have := HB1.out.size; omega)
  clear hB2
  refine (HL.out _ _ HX2.out HGP.out.1 HGP.out.2.1 HV2.out).mono ?_
  rintro e w3 ⟨rfl, hv3, hx3, ho3⟩
  have HV3 := hid hv3
  have HX3 := hid hx3
  have HO3 := hid ho3
  clear hv3 hx3 ho3
  go_wp2_with (go_at_call 34; fail)
  refine (HM.out _ _ HX3.out HGP.out.1 HGP.out.2.1 HV3.out).mono ?_
  rintro e w4 ⟨rfl, hv4, hx4, ho4⟩
  have HV4 := hid hv4
  have HX4 := hid hx4
  have HO4 := hid (HO3.out.trans ho4)
  clear hv4 hx4 ho4
  obtain ⟨x0, x1, x2, x3, x4, x5, x6, x7, x8, x9, x10⟩ := HX4.out.cells
  go_wp2_with (go_at_call 35; fail)
  refine (HK.out _ HV4.out).mono ?_
  rintro e w5 ⟨rfl, hv5, ho5⟩
  have HV5 := hid hv5
  have HX5 := hid (HX4.out.only ho5 (by simpa using HGP.out.2.2.1))
  have HO5 := hid (HO4.out.trans (ho5.wide (by simp)))
  clear hv5 ho5 x0 x1 x2 x3 x4 x5 x6 x7 x8 x9 x10
  have HX6 := hid (HX5.out.set2 (x : Int))
  have HV6 : Hid (VI G p q cap m (w5.setCell ⟨w1.heap.size, 2, none⟩ (.int .i64 (x : Int))) F B3) := hid (HV5.out.same (set_off _ _ (Ne.symm HGP.out.1)) (set_off _ _ (Ne.symm HGP.out.2.1)) (set_off _ _ (Ne.symm HGP.out.2.2.1)))
  have HO6 : Hid (Only [w1.heap.size, m] w2 (w5.setCell ⟨w1.heap.size, 2, none⟩ (.int .i64 (x : Int)))) := hid (HO5.out.trans (Only.setCell _ (by simp)))
  obtain ⟨x0, x1, x2, x3, x4, x5, x6, x7, x8, x9, x10⟩ := HX5.out.cells
  obtain ⟨y0, y1, y2, y3, y4, y5, y6, y7, y8, y9, y10⟩ := HX6.out.cells
  have f2 := HX5.out.free 2
  go_wp2_with (go_at_call 32; fail)
  refine (HP.out _ HV6.out).mono ?_
  rintro e w7 ⟨rfl, hv7, ho7⟩
  have HV7 := hid hv7
  have HO7 := hid ho7
  clear hv7 ho7
  go_wp2
  go_ret
  refine ⟨rfl, HV7.out, ?_⟩
  have hl := HGP.out
  have hO : Only [m] w (w5.setCell ⟨w1.heap.size, 2, none⟩ (.int .i64 (x : Int))) := ⟨HO6.out.os.trans HB2.out.os, HO6.out.tape.trans HB2.out.tape, HO6.out.output.trans HB2.out.output, Nat.le_trans HB2.out.size HO6.out.size, fun j hj hn => (HO6.out.block j (by have := HB2.out.size; omega) (by simp at hn ⊢; omega)).trans (HB2.out.block j hj)⟩
  exact hO.trans HO7.out
theorem vcut_any {G : Geo} {p q cap m : Nat} {w : World} {F B : List ByteArray} (i x : Int) (h : VI G p q cap m w F B) : Calls Tryz.prog 12 #[.pointer (some ⟨p, 0, none⟩), .int .i64 i, .int .i64 x] w fun e w' => ∃ r B', e = .returned (.int .i64 r) ∧ (r ≠ 0 → B' = B) ∧ VI G p q cap m w' F B' ∧ Only [m] w w' := by
  by_cases hx : x < 0
  · exact (cut_neg i x hx h).mono fun e w' ⟨he, hb⟩ => ⟨1, B, he, fun _ => rfl, h.below hb, Only.of_below hb⟩
  · by_cases hl : 533248 < x
    · exact (cut_long i x hl h).mono fun e w' ⟨he, hb⟩ => ⟨1, B, he, fun _ => rfl, h.below hb, Only.of_below hb⟩
    · by_cases hu : usdE G B i = 0
      · have hi := (usd_ok hu).1
        obtain ⟨j, rfl⟩ : ∃ j : Nat, i = j := ⟨i.toNat, by omega⟩
        obtain ⟨y, rfl⟩ : ∃ y : Nat, x = y := ⟨x.toNat, by omega⟩
        exact (cut_ok j y (by omega) hu h).mono fun e w' ⟨he, hv, ho⟩ => ⟨0, _, he, fun h0 => absurd rfl h0, hv, ho⟩
      · exact (cut_used i x hx hl hu h).mono fun e w' ⟨he, hb⟩ => ⟨_, B, he, fun _ => rfl, h.below hb, Only.of_below hb⟩
end Go.Proofs.YtjnhibpebikkmaaGreat
