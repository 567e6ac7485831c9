import Derived.Test.YtokjlgebkihimaaGreatFv
namespace Go.Proofs.YtokjlgebkihimaaGreat
open Go.RowKit Go.Maps

set_option maxRecDepth 100000 in
theorem chk_120 {n : Ino} (h : chkE n ≠ 0) : chkE n = 120 := by
  unfold chkE at h ⊢
  split
  · rename_i h1; rw [if_pos h1] at h; exact absurd rfl h
  · rfl
set_option maxRecDepth 100000 in
set_option maxHeartbeats 1000000 in
theorem vset_bad {G : Geo} {p q cap m : Nat} {w : World} {F B : List ByteArray} (i : Int) (n : Ino) (hn : chkE n ≠ 0) (h : VI G p q cap m w F B) : Calls Tryz.prog 27 #[.pointer (some ⟨p, 0, none⟩), .int .i64 i, n.v] w fun e w' => e = .returned (.int .i64 120) ∧ Below w.heap.size w w' := by
  have HN := hid (fun w' (hv : VI G p q cap m w' F B) => vnone_any (w := w') hv)
  have HC := hid (check_any n)
  rw [chk_120 hn] at HC
  clear hn
  have HV := hid h
  clear h
  obtain ⟨k, l, z, a, b, c, d, e, f, s, t⟩ := n
  simp only [Ino.v] at HC ⊢
  go_enter Tryz.func27, Tryz.ntmps27
  go_wp2_with (go_at_call 55; fail)
  obtain ⟨w1, hw1⟩ : ∃ w1, w1 = w.alloc (.cells #[.int .i64 k, .int .i64 l, .int .i64 z, .int .i64 a, .int .i64 b, .int .i64 c, .int .i64 d, .int .i64 e, .int .i64 f, .int .i64 s, .int .i64 t] 36) := ⟨_, rfl⟩
  have hX1 : Box w.heap.size w1 ⟨k, l, z, a, b, c, d, e, f, s, t⟩ := by rw [hw1]; exact box_at _ _
  have HB1 : Hid (Below w.heap.size w w1) := by rw [hw1]; exact below_alloc w _
  rw [← hw1]
  clear hw1
  have HV1 := hid (HV.out.below HB1.out)
  obtain ⟨c0, c1, c2, c3, c4, c5, c6, c7, c8, c9, c10⟩ := hX1.cells
  clear hX1
  go_wp2_with (first
    | (go_at_call 55; refine (HN.out _ HV1.out).mono ?_; rintro e w2 ⟨rfl, hw⟩; have hw := hw.symm; subst hw)
    | (go_at_call 59; refine (HC.out _).mono ?_; rintro e w2 ⟨rfl, hb2⟩; have HB2 := hid hb2; clear hb2))
  go_ret
  exact ⟨rfl, HB1.out.next HB2.out⟩
set_option maxRecDepth 100000 in
set_option maxHeartbeats 1000000 in
theorem vset_none {G : Geo} {p q cap m : Nat} {w : World} {F B : List ByteArray} (i : Int) (n : Ino) (hn : chkE n = 0) (hi : ¬ (0 ≤ i ∧ i < G.z)) (h : VI G p q cap m w F B) : Calls Tryz.prog 27 #[.pointer (some ⟨p, 0, none⟩), .int .i64 i, n.v] w fun e w' => e = .returned (.int .i64 6) ∧ Below w.heap.size w w' := by
  have HN := hid (fun w' (hv : VI G p q cap m w' F B) => vnone_any (w := w') hv)
  have HC := hid (check_any n)
  rw [hn] at HC
  have HI := hid (fun w' (hv : VI G p q cap m w' F B) => hasInode_any (w := w') i hv)
  rw [show decide (0 ≤ i ∧ i < G.z) = false by simp [hi]] at HI
  clear hn hi
  have HV := hid h
  clear h
  obtain ⟨k, l, z, a, b, c, d, e, f, s, t⟩ := n
  simp only [Ino.v] at HC ⊢
  go_enter Tryz.func27, Tryz.ntmps27
  go_wp2_with (go_at_call 55; fail)
  obtain ⟨w1, hw1⟩ : ∃ w1, w1 = w.alloc (.cells #[.int .i64 k, .int .i64 l, .int .i64 z, .int .i64 a, .int .i64 b, .int .i64 c, .int .i64 d, .int .i64 e, .int .i64 f, .int .i64 s, .int .i64 t] 36) := ⟨_, rfl⟩
  have hX1 : Box w.heap.size w1 ⟨k, l, z, a, b, c, d, e, f, s, t⟩ := by rw [hw1]; exact box_at _ _
  have HB1 : Hid (Below w.heap.size w w1) := by rw [hw1]; exact below_alloc w _
  rw [← hw1]
  clear hw1
  have HV1 := hid (HV.out.below HB1.out)
  obtain ⟨c0, c1, c2, c3, c4, c5, c6, c7, c8, c9, c10⟩ := hX1.cells
  clear hX1
  go_wp2_with (first
    | (go_at_call 55; refine (HN.out _ HV1.out).mono ?_; rintro e w2 ⟨rfl, hw⟩; have hw := hw.symm; subst hw)
    | (go_at_call 59; refine (HC.out _).mono ?_; rintro e w2 ⟨rfl, hb2⟩; have HB2 := hid hb2; clear hb2)
    | (go_at_call 60; refine (HI.out _ (HV1.out.below HB2.out)).mono ?_; rintro e w3 ⟨rfl, hw⟩; have hw := hw.symm; subst hw))
  go_ret
  exact ⟨rfl, HB1.out.next HB2.out⟩
set_option maxRecDepth 100000 in
theorem vset_any {G : Geo} {p q cap m : Nat} {w : World} {F B : List ByteArray} (i : Int) (n : Ino) (h : VI G p q cap m w F B) : Calls Tryz.prog 27 #[.pointer (some ⟨p, 0, none⟩), .int .i64 i, n.v] w fun e w' => ∃ r B', e = .returned (.int .i64 r) ∧ (r ≠ 0 → B' = B) ∧ VI G p q cap m w' F B' ∧ Only [m] w w' := by
  by_cases hn : chkE n = 0
  · by_cases hi : 0 ≤ i ∧ i < G.z
    · obtain ⟨j, rfl⟩ : ∃ j : Nat, i = j := ⟨i.toNat, by omega⟩
      exact (vset_ok j (by omega) n hn h).mono fun e w' ⟨he, hv, ho⟩ => ⟨0, _, he, fun h0 => absurd rfl h0, hv, ho⟩
    · exact (vset_none i n hn hi h).mono fun e w' ⟨he, hb⟩ => ⟨6, B, he, fun _ => rfl, h.below hb, Only.of_below hb⟩
  · exact (vset_bad i n hn h).mono fun e w' ⟨he, hb⟩ => ⟨120, B, he, fun _ => rfl, h.below hb, Only.of_below hb⟩
set_option maxRecDepth 100000 in
set_option maxHeartbeats 1000000 in
theorem write_neg {G : Geo} {p q cap m : Nat} {w : World} {F B : List ByteArray} (i x : Int) (d : ByteArray) (hx : x < 0) (h : VI G p q cap m w F B) : Calls Tryz.prog 71 #[.pointer (some ⟨p, 0, none⟩), .int .i64 i, .int .i64 x, .string d] w fun e w' => e = .returned (.int .i64 1) ∧ Below w.heap.size w w' := by
  have HN := hid (vnone_any h)
  have hx1 : decide (x < 0) = true := by simp [hx]
  clear hx
  clear h
  go_enter Tryz.func71, Tryz.ntmps71
  go_wp2_with (first
    | (go_at_call 55; refine HN.out.mono ?_; rintro e w0 ⟨rfl, hw⟩; have hw := hw.symm; subst hw))
  go_ret
  exact ⟨rfl, Below.refl _ _⟩
set_option maxRecDepth 100000 in
set_option maxHeartbeats 1000000 in
theorem write_long {G : Geo} {p q cap m : Nat} {w : World} {F B : List ByteArray} (i x : Int) (d : ByteArray) (hx : ¬ x < 0) (hd : 1024 < d.size) (h : VI G p q cap m w F B) : Calls Tryz.prog 71 #[.pointer (some ⟨p, 0, none⟩), .int .i64 i, .int .i64 x, .string d] w fun e w' => e = .returned (.int .i64 1) ∧ Below w.heap.size w w' := by
  have HN := hid (vnone_any h)
  have hx1 : decide (x < 0) = false := by simp; omega
  have hd1 : decide ((1024 : Int) < (d.size : Int)) = true := by simp; omega
  clear hx
  clear h
  go_enter Tryz.func71, Tryz.ntmps71
  go_wp2_with (first
    | (go_at_call 55; refine HN.out.mono ?_; rintro e w0 ⟨rfl, hw⟩; have hw := hw.symm; subst hw))
  go_ret
  exact ⟨rfl, Below.refl _ _⟩
set_option maxRecDepth 100000 in
set_option maxHeartbeats 1000000 in
theorem write_used {G : Geo} {p q cap m : Nat} {w : World} {F B : List ByteArray} (i x : Int) (d : ByteArray) (hx : ¬ x < 0) (hd : d.size ≤ 1024) (hu : usdE G B i ≠ 0) (h : VI G p q cap m w F B) : Calls Tryz.prog 71 #[.pointer (some ⟨p, 0, none⟩), .int .i64 i, .int .i64 x, .string d] w fun e w' => e = .returned (.int .i64 (usdE G B i)) ∧ Below w.heap.size w w' := by
  have HN := hid (vnone_any h)
  have HU := hid (used_any i h)
  obtain ⟨n, hn⟩ : ∃ n, n = usdI G B i := ⟨_, rfl⟩
  obtain ⟨r, hr⟩ : ∃ r, r = usdE G B i := ⟨_, rfl⟩
  rw [← hn, ← hr] at HU
  rw [← hr] at hu ⊢
  have hx1 : decide (x < 0) = false := by simp; omega
  have hd1 : decide ((1024 : Int) < (d.size : Int)) = false := by simp; omega
  have hd2 : ¬ 1024 < d.size := by omega
  clear hx hn hr
  obtain ⟨k, l, z, a, b, c, d', e, f, s, t⟩ := n
  simp only [Ino.v] at HU
  clear h
  go_enter Tryz.func71, Tryz.ntmps71
  go_wp2_with (first
    | (go_at_call 55; refine HN.out.mono ?_; rintro e w0 ⟨rfl, hw⟩; have hw := hw.symm; subst hw)
    | (go_at_call 94; refine HU.out.mono ?_; rintro e w1 ⟨rfl, hb1⟩; have HB1 := hid hb1; clear hb1))
  go_ret
  exact ⟨rfl, HB1.out.next (below_alloc _ _)⟩
set_option maxRecDepth 100000 in
set_option maxHeartbeats 1000000 in
theorem write_empty {G : Geo} {p q cap m : Nat} {w : World} {F B : List ByteArray} (i x : Int) (d : ByteArray) (hx : ¬ x < 0) (hd0 : d.size = 0) (hu : usdE G B i = 0) (h : VI G p q cap m w F B) : Calls Tryz.prog 71 #[.pointer (some ⟨p, 0, none⟩), .int .i64 i, .int .i64 x, .string d] w fun e w' => e = .returned (.int .i64 0) ∧ Below w.heap.size w w' := by
  have HN := hid (vnone_any h)
  have hdd : d = ⟨#[]⟩ := by
    have e : d.data.toList = [] := List.eq_nil_of_length_eq_zero (by rw [len_list]; exact hd0)
    rw [← st_toList d, e]; rfl
  subst hdd
  have HU := hid (used_any i h)
  rw [hu] at HU
  obtain ⟨n, hn⟩ : ∃ n, n = usdI G B i := ⟨_, rfl⟩
  rw [← hn] at HU
  have hx1 : decide (x < 0) = false := by simp; omega
  clear hx hn hu hd0
  obtain ⟨k, l, z, a, b, c, d', e, f, s, t⟩ := n
  simp only [Ino.v] at HU
  clear h
  go_enter Tryz.func71, Tryz.ntmps71
  go_wp2_with (first
    | (go_at_call 55; refine HN.out.mono ?_; rintro e w0 ⟨rfl, hw⟩; have hw := hw.symm; subst hw)
    | (go_at_call 94; refine HU.out.mono ?_; rintro e w1 ⟨rfl, hb1⟩; have HB1 := hid hb1; clear hb1))
  go_ret
  exact ⟨rfl, HB1.out.next (below_alloc _ _)⟩
set_option maxRecDepth 100000 in
set_option maxHeartbeats 1000000 in
theorem write_big {G : Geo} {p q cap m : Nat} {w : World} {F B : List ByteArray} (i x : Int) (d : ByteArray) (hx : ¬ x < 0) (hd : d.size ≤ 1024) (hd0 : d.size ≠ 0) (hu : usdE G B i = 0) (hb : 533248 - (d.size : Int) < x) (h : VI G p q cap m w F B) : Calls Tryz.prog 71 #[.pointer (some ⟨p, 0, none⟩), .int .i64 i, .int .i64 x, .string d] w fun e w' => e = .returned (.int .i64 307) ∧ Below w.heap.size w w' := by
  have HN := hid (vnone_any h)
  have HU := hid (used_any i h)
  rw [hu] at HU
  obtain ⟨n, hn⟩ : ∃ n, n = usdI G B i := ⟨_, rfl⟩
  rw [← hn] at HU
  have hx1 : decide (x < 0) = false := by simp; omega
  have hd1 : decide ((1024 : Int) < (d.size : Int)) = false := by simp; omega
  have hd2 : ¬ 1024 < d.size := by omega
  have hwr : IntKind.i64.wrap (533248 - (d.size : Int)) = 533248 - (d.size : Int) := by rw [IntKind.wrap_i64]; omega
  have hb1 : decide (533248 - (d.size : Int) < x) = true := by simp [hb]
  have hne : d.toList.isEmpty = false := by
    rw [Lib.toList_data, List.isEmpty_eq_false_iff]
    intro e
    exact hd0 (by rw [← len_list, e]; rfl)
  clear hx hn hu hd0 hb
  obtain ⟨k, l, z, a, b, c, d', e, f, s, t⟩ := n
  simp only [Ino.v] at HU
  clear h
  go_enter Tryz.func71, Tryz.ntmps71
  go_wp2_with (first
    | (go_at_call 55; refine HN.out.mono ?_; rintro e w0 ⟨rfl, hw⟩; have hw := hw.symm; subst hw)
    | (go_at_call 94; refine HU.out.mono ?_; rintro e w1 ⟨rfl, hb1⟩; have HB1 := hid hb1; clear hb1))
  go_ret
  exact ⟨rfl, HB1.out.next (below_alloc _ _)⟩
set_option maxRecDepth 100000 in
theorem write_any {G : Geo} {p q cap m : Nat} {w : World} {F B : List ByteArray} (i x : Int) (d : ByteArray) (h : VI G p q cap m w F B) : Calls Tryz.prog 71 #[.pointer (some ⟨p, 0, none⟩), .int .i64 i, .int .i64 x, .string d] w fun e w' => ∃ r B' m', e = .returned (.int .i64 r) ∧ (r ≠ 0 → B' = B) ∧ VI G p q cap m' w' F B' ∧ Only [p, m] w w' ∧ (m' = m ∨ w.heap.size ≤ m') := by
  have nop : ∀ r, (Calls Tryz.prog 71 #[.pointer (some ⟨p, 0, none⟩), .int .i64 i, .int .i64 x, .string d] w fun e w' => e = .returned (.int .i64 r) ∧ Below w.heap.size w w') → Calls Tryz.prog 71 #[.pointer (some ⟨p, 0, none⟩), .int .i64 i, .int .i64 x, .string d] w fun e w' => ∃ r B' m', e = .returned (.int .i64 r) ∧ (r ≠ 0 → B' = B) ∧ VI G p q cap m' w' F B' ∧ Only [p, m] w w' ∧ (m' = m ∨ w.heap.size ≤ m') := fun r hc => hc.mono fun e w' ⟨he, hb⟩ => ⟨r, B, m, he, fun _ => rfl, h.below hb, Only.of_below hb, .inl rfl⟩
  by_cases hx : x < 0
  · exact nop _ (write_neg i x d hx h)
  · by_cases hd : 1024 < d.size
    · exact nop _ (write_long i x d hx hd h)
    · by_cases hu : usdE G B i = 0
      · by_cases hd0 : d.size = 0
        · exact nop _ (write_empty i x d hx hd0 hu h)
        · by_cases hb : 533248 - (d.size : Int) < x
          · exact nop _ (write_big i x d hx (by omega) hd0 hu hb h)
          · obtain ⟨⟨hi0, hi1⟩, _⟩ := usd_ok hu
            obtain ⟨j, rfl⟩ : ∃ j : Nat, i = j := ⟨i.toNat, by omega⟩
            obtain ⟨y, rfl⟩ : ∃ y : Nat, x = y := ⟨x.toNat, by omega⟩
            rcases layS_01 G d.size B { usdI G B (j : Int) with z := max (usdI G B (j : Int)).z ((y : Int) + d.size) } y d.data.toList with h0 | h1
            · exact (write_ok j y d (by omega) hd0 (by omega) hu h0 h).mono fun e w' ⟨he, hv, ho⟩ => ⟨0, _, m, he, fun h0 => absurd rfl h0, hv, ho.wide (by simp), .inl rfl⟩
            · exact (write_fail j y d (by omega) hd0 (by omega) hu h1 h).mono fun e w' ⟨he, m', hv, ho, hm⟩ => ⟨306, B, m', he, fun _ => rfl, hv, ho, hm⟩
      · exact nop _ (write_used i x d hx (by omega) hu h)
end Go.Proofs.YtokjlgebkihimaaGreat
namespace Go.Proofs.YtokjlgebkihimaaGreat
open Go.RowKit Go.Maps

/-- the blocks and the inode behind letting go of what a spot names -/
def lgS (G : Geo) (B : List ByteArray) (n : Ino) (inn pl : Nat) : List ByteArray × Ino := if nm G B n inn pl = 0 then (B, n) else (namB (takeB G B (nm G B n inn pl) false) inn pl 0, namN n inn pl 0)
set_option maxRecDepth 100000 in
theorem usedI_lg {G : Geo} {B : List ByteArray} {n : Ino} {inn pl : Nat} (h : usedI n = true) : usedI (lgS G B n inn pl).2 = true := by
  unfold lgS
  split
  · exact h
  · exact usedI_nam h (by omega)
end Go.Proofs.YtokjlgebkihimaaGreat
namespace Go.Proofs.YtokjlgebkihimaaGreat
open Go.RowKit Go.Maps

/-- the blocks and the inode behind letting go of all blocks from an index on, so many -/
def lfS (G : Geo) : Nat → List ByteArray → Ino → Nat → List ByteArray × Ino
  | 0, B, n, _ => (B, n)
  | f + 1, B, n, i => match spt G B n i with
    | none => lfS G f B n (i + 1)
    | some ab => lfS G f (lgS G B n ab.1 ab.2).1 (lgS G B n ab.1 ab.2).2 (i + 1)
set_option maxRecDepth 100000 in
theorem usedI_lf {G : Geo} : ∀ (f : Nat) {B : List ByteArray} {n : Ino} {i : Nat}, usedI n = true → usedI (lfS G f B n i).2 = true
  | 0, _, _, _, h => h
  | f + 1, B, n, i, h => by
    unfold lfS
    split
    · exact usedI_lf f h
    · exact usedI_lf f (usedI_lg h)
set_option maxRecDepth 100000 in
theorem lfS_none {G : Geo} {f : Nat} {B : List ByteArray} {n : Ino} {i : Nat} (h : spt G B n i = none) : lfS G (f + 1) B n i = lfS G f B n (i + 1) := by rw [lfS, h]
set_option maxRecDepth 100000 in
theorem lfS_some {G : Geo} {f : Nat} {B : List ByteArray} {n : Ino} {i a b : Nat} (h : spt G B n i = some (a, b)) : lfS G (f + 1) B n i = lfS G f (lgS G B n a b).1 (lgS G B n a b).2 (i + 1) := by rw [lfS, h]
end Go.Proofs.YtokjlgebkihimaaGreat
namespace Go.Proofs.YtokjlgebkihimaaGreat
open Go.RowKit Go.Maps

/-- does a block of names name none, up to a place? -/
def bare (G : Geo) (B : List ByteArray) (n : Ino) (c : Nat) : Nat → Bool
  | 0 => true
  | k + 1 => bare G B n c k && decide (nm G B n c k = 0)
set_option maxRecDepth 100000 in
theorem bare_no {G : Geo} {B : List ByteArray} {n : Ino} {c : Nat} : ∀ {t j : Nat}, j < t → nm G B n c j ≠ 0 → bare G B n c t = false
  | 0, _, h, _ => by omega
  | t + 1, j, h, hn => by
    unfold bare
    by_cases e : j = t
    · subst e
      simp [hn]
    · rw [bare_no (t := t) (j := j) (by omega) hn]
      rfl
/-- the blocks and the inode behind letting go of a block of names that names none -/
def idT (G : Geo) (B : List ByteArray) (n : Ino) (c inn pl : Nat) : List ByteArray × Ino := if bare G B n c 64 = true then lgS G B n inn pl else (B, n)
/-- the same, where there may be no such block -/
def idS (G : Geo) (B : List ByteArray) (n : Ino) (inn pl : Nat) : List ByteArray × Ino := if nm G B n inn pl = 0 then (B, n) else idT G B n (nm G B n inn pl) inn pl
set_option maxRecDepth 100000 in
theorem usedI_id {G : Geo} {B : List ByteArray} {n : Ino} {inn pl : Nat} (h : usedI n = true) : usedI (idS G B n inn pl).2 = true := by
  unfold idS
  split
  · exact h
  · unfold idT
    split
    · exact usedI_lg h
    · exact h
end Go.Proofs.YtokjlgebkihimaaGreat
namespace Go.Proofs.YtokjlgebkihimaaGreat
open Go.RowKit Go.Maps

/-- the blocks and the inode behind letting go of the blocks that a block of names names and that name none -/
def nmS (G : Geo) (c : Nat) : Nat → List ByteArray → Ino → Nat → List ByteArray × Ino
  | 0, B, n, _ => (B, n)
  | f + 1, B, n, j => nmS G c f (idS G B n c j).1 (idS G B n c j).2 (j + 1)
def n1S (G : Geo) (B : List ByteArray) (n : Ino) : List ByteArray × Ino := if nm G B n 0 7 = 0 then (B, n) else nmS G (nm G B n 0 7) 64 B n 0
def n2S (G : Geo) (B : List ByteArray) (n : Ino) : List ByteArray × Ino := idS G (n1S G B n).1 (n1S G B n).2 0 6
def nrS (G : Geo) (B : List ByteArray) (n : Ino) : List ByteArray × Ino := idS G (n2S G B n).1 (n2S G B n).2 0 7
set_option maxRecDepth 100000 in
theorem usedI_nm {G : Geo} {c : Nat} : ∀ (f : Nat) {B : List ByteArray} {n : Ino} {j : Nat}, usedI n = true → usedI (nmS G c f B n j).2 = true
  | 0, _, _, _, h => h
  | f + 1, B, n, j, h => by unfold nmS; exact usedI_nm f (usedI_id h)
set_option maxRecDepth 100000 in
theorem usedI_nr {G : Geo} {B : List ByteArray} {n : Ino} (h : usedI n = true) : usedI (nrS G B n).2 = true := by
  unfold nrS n2S n1S
  refine usedI_id (usedI_id ?_)
  split
  · exact h
  · exact usedI_nm 64 h
end Go.Proofs.YtokjlgebkihimaaGreat
namespace Go.Proofs.YtokjlgebkihimaaGreat
open Go.RowKit Go.Maps

/-- a block whose bytes from a place on are 0 -/
def half (d : ByteArray) (k : Nat) : ByteArray := d.extract 0 k ++ Zs (128 - k)
set_option maxRecDepth 100000 in
theorem half_size {d : ByteArray} (hd : d.size = 128) {k : Nat} (hk : k ≤ 128) : (half d k).size = 128 := by
  unfold half
  rw [ByteArray.size_append, ByteArray.size_extract, Zs_size]
  omega
set_option maxRecDepth 100000 in
theorem cut_to (d : ByteArray) (j : Nat) (hj : j ≤ d.size) (w : World) : (Instr.slice 9 (.string d) none (some (.int .i64 (j : Int))) none).run Tryz.prog w = .ok (.string (d.extract 0 j)) w := by
  have := run_slice_string_h w 9 d Tryz.underlying9 .i64 (j : Int) (by omega) (by omega)
  simpa using this
/-- the blocks behind 'blank' -/
def blB (G : Geo) (B : List ByteArray) (n : Ino) (size : Nat) : List ByteArray := if size % 128 = 0 then B else if blk G B n (size / 128) = 0 then B else B.set (blk G B n (size / 128)) (half (bk B (blk G B n (size / 128))) (size % 128))
end Go.Proofs.YtokjlgebkihimaaGreat
namespace Go.Proofs.YtokjlgebkihimaaGreat
open Go.RowKit Go.Maps

/-- the blocks and the inode behind the two first steps of 'Cut' -/
def c1S (G : Geo) (B : List ByteArray) (n : Ino) (size : Nat) : List ByteArray × Ino := lfS G (4166 - (size + 127) / 128) B n ((size + 127) / 128)
def c2S (G : Geo) (B : List ByteArray) (n : Ino) (size : Nat) : List ByteArray × Ino := nrS G (c1S G B n size).1 (c1S G B n size).2
/-- the blocks behind 'Cut' of an inode -/
def cutB (G : Geo) (B : List ByteArray) (i : Nat) (n : Ino) (size : Nat) : List ByteArray := putB G (blB G (c2S G B n size).1 (c2S G B n size).2 size) i { (c2S G B n size).2 with z := (size : Int) }
set_option maxRecDepth 100000 in
theorem usedI_c2 {G : Geo} {B : List ByteArray} {n : Ino} {size : Nat} (h : usedI n = true) : usedI (c2S G B n size).2 = true := by
  unfold c2S c1S
  exact usedI_nr (usedI_lf _ h)
end Go.Proofs.YtokjlgebkihimaaGreat
