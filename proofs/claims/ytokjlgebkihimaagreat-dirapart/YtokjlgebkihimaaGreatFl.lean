import Derived.Test.YtokjlgebkihimaaGreatFh
namespace Go.Proofs.YtokjlgebkihimaaGreat
open Go.RowKit Go.Maps

/-- the block of an index, or 0 -/
def blk (G : Geo) (B : List ByteArray) (n : Ino) (i : Nat) : Nat := match spt G B n i with | none => 0 | some (a, b) => nm G B n a b
set_option maxRecDepth 100000 in
theorem spt_ok {G : Geo} (hG : G.Ok) {B : List ByteArray} {n : Ino} {i a b : Nat} (hs : spt G B n i = some (a, b)) : a < G.n ∧ (a = 0 → b < 8) ∧ b < 64 := by
  have hc := hG.c4
  have hn := hG.sum
  unfold spt at hs
  split at hs
  · cases hs; exact ⟨by omega, fun _ => by omega, by omega⟩
  · split at hs
    · split at hs
      · cases hs
      · rename_i h1 h2 h3
        cases hs; exact ⟨nm_lt hG _ _ _ _, fun e => absurd e h3, by omega⟩
    · split at hs
      · cases hs
      · split at hs
        · cases hs
        · rename_i h1 h2 h3 h4
          cases hs; exact ⟨nm_lt hG _ _ _ _, fun e => absurd e h4, by omega⟩
set_option maxRecDepth 100000 in
theorem blk_lt {G : Geo} (hG : G.Ok) (B : List ByteArray) (n : Ino) (i : Nat) : blk G B n i < G.n := by
  unfold blk
  split
  · have := hG.c4; have := hG.sum; omega
  · exact nm_lt hG _ _ _ _
set_option maxRecDepth 100000 in
set_option maxHeartbeats 1000000 in
theorem blockOf_any {G : Geo} {p q cap m : Nat} {w : World} {F B : List ByteArray} (n : Ino) (i : Nat) (hi : i < 4166) (h : VI G p q cap m w F B) : Calls Tryz.prog 133 #[.pointer (some ⟨p, 0, none⟩), n.v, .int .i64 (i : Int)] w fun e w' => e = .returned (.int .i64 (blk G B n i : Int)) ∧ Below w.heap.size w w' := by
  have HV := hid h
  have HG := hid h.ok
  have HS := hid (fun w' (hv : VI G p q cap m w' F B) => spotOf_any (w := w') n i hi hv)
  clear h hi
  unfold blk
  cases hs : spt G B n i with
  | none =>
    rw [hs] at HS
    simp only [sptV, Option.getD_none, Option.isSome_none] at HS ⊢
    clear hs
    obtain ⟨k, l, z, a0, b0, c0, d0, e0, f0, s0, t0⟩ := n
    simp only [Ino.v] at *
    go_enter Tryz.func133, Tryz.ntmps133
    go_wp2_with (first
      | (go_at_call 169; refine (HS.out _ (by exact HV.out.below (below_alloc w _))).mono ?_; rintro e w2 ⟨rfl, hb2⟩
         have HB2 : Hid (Below w.heap.size w w2) := hid ((below_alloc w _).next hb2)
         clear hb2))
    go_ret
    exact ⟨rfl, HB2.out.next (below_alloc _ _)⟩
  | some ab =>
    obtain ⟨a, b⟩ := ab
    obtain ⟨ha, hab, _⟩ := spt_ok HG.out hs
    rw [hs] at HS
    simp only [sptV, Option.getD_some, Option.isSome_some] at HS ⊢
    have HN := hid (fun w' (hv : VI G p q cap m w' F B) => named_nm (w := w') n a b ha hab hv)
    obtain ⟨r, hr⟩ : ∃ r, r = nm G B n a b := ⟨_, rfl⟩
    rw [← hr] at HN ⊢
    clear hs hr ha hab
    obtain ⟨k, l, z, a0, b0, c0, d0, e0, f0, s0, t0⟩ := n
    simp only [Ino.v] at *
    go_enter Tryz.func133, Tryz.ntmps133
    go_wp2_with (go_at_call 169; fail)
    have HX : Hid (Box w.heap.size (w.alloc (.cells #[.int .i64 k, .int .i64 l, .int .i64 z, .int .i64 a0, .int .i64 b0, .int .i64 c0, .int .i64 d0, .int .i64 e0, .int .i64 f0, .int .i64 s0, .int .i64 t0] 36)) ⟨k, l, z, a0, b0, c0, d0, e0, f0, s0, t0⟩) := hid (box_at _ _)
    refine (HS.out _ (by exact HV.out.below (below_alloc w _))).mono ?_
    rintro e w2 ⟨rfl, hb2⟩
    have HB2 : Hid (Below w.heap.size w w2) := hid ((below_alloc w _).next hb2)
    have HX2 := hid (HX.out.below hb2)
    obtain ⟨c0', c1', c2', c3', c4', c5', c6', c7', c8', c9', c10'⟩ := HX2.out.cells
    have hlt := HX2.out.lt
    clear hb2 HX HS
    go_wp2_with (first
      | (go_at_call 156; refine (HN.out _ (by exact (HV.out.below HB2.out).below (below_alloc w2 _))).mono ?_; rintro e w3 ⟨rfl, hb3⟩))
    go_ret
    exact ⟨rfl, (HB2.out.next (below_alloc _ _)).next hb3⟩
/-- what At answers -/
def atV (G : Geo) (B : List ByteArray) (i x : Int) : Int := if 0 ≤ x ∧ x < 4166 then (if nodeE G B i = 0 then (blk G B (nodeI G B i) x.toNat : Int) else 0) else 0
def atE (G : Geo) (B : List ByteArray) (i x : Int) : Int := if 0 ≤ x ∧ x < 4166 then nodeE G B i else 1
end Go.Proofs.YtokjlgebkihimaaGreat
namespace Go.Proofs.YtokjlgebkihimaaGreat
open Go.RowKit Go.Maps

/-- the least bit of so many from a place on that is not taken -/
def lsF (l : List UInt8) (a n : Nat) : Option Nat := (List.range' a n).find? (fun i => !tk l i)
set_option maxRecDepth 100000 in
theorem free1 (l : List UInt8) (i : Nat) : freeW l i 1 ↔ tk l i = false := by
  unfold freeW
  constructor
  · intro h; exact h i (Nat.le_refl _) (by omega)
  · intro h k h1 h2
    have : k = i := by omega
    rw [this]; exact h
set_option maxRecDepth 100000 in
theorem lsF_some {l : List UInt8} {a n i : Nat} (h : lsF l a n = some i) : a ≤ i ∧ i < a + n ∧ tk l i = false ∧ ∀ s, a ≤ s → s < i → tk l s = true := by
  unfold lsF at h
  rw [List.find?_range'_eq_some] at h
  obtain ⟨h1, h2, h3⟩ := h
  rw [List.mem_range'_1] at h2
  refine ⟨h2.1, h2.2, by simpa using h1, fun s hs hsi => by simpa using h3 s hs hsi⟩
set_option maxRecDepth 100000 in
theorem lsF_none {l : List UInt8} {a n : Nat} (h : lsF l a n = none) : ∀ s, a ≤ s → s < a + n → tk l s = true := by
  unfold lsF at h
  rw [List.find?_eq_none] at h
  intro s hs hsn
  have := h s (by rw [List.mem_range'_1]; omega)
  simpa using this
set_option maxRecDepth 100000 in
theorem lsF_run (l : List UInt8) (a n : Nat) : RunIs l a (a + n) 1 (lsF l a n) := by
  cases h : lsF l a n with
  | none =>
    intro s hs hsn hf
    rw [free1] at hf
    rw [lsF_none h s hs (by omega)] at hf
    cases hf
  | some i =>
    obtain ⟨h1, h2, h3, h4⟩ := lsF_some h
    refine ⟨h1, by omega, (free1 l i).2 h3, fun s hs hsi hf => ?_⟩
    rw [free1] at hf
    rw [h4 s hs hsi] at hf
    cases hf
set_option maxRecDepth 100000 in
theorem least_ok (b : ByteArray) (a n : Nat) (hb : b.size = 128) (hmn : a + n ≤ 1024) (w : World) : Calls Tryz.prog 181 #[.string b, .int .i64 a, .int .i64 ((a : Int) + n)] w fun e w' => e = .returned (.tuple #[.int .i64 (optI (lsF b.data.toList a n)), .int .i64 (optE (lsF b.data.toList a n))]) ∧ ∃ k, w' = w.drewN k := by
  have HR := hid (run_ok b a n 1 hb hmn (by omega) (by omega) w)
  have HU := hid (fun r (h : RunIs b.data.toList a (a + n) 1 r) => h.one (lsF_run b.data.toList a n))
  obtain ⟨o, ho⟩ : ∃ o, o = lsF b.data.toList a n := ⟨_, rfl⟩
  rw [← ho] at HU ⊢
  clear ho hb hmn
  go_enter Tryz.func181, Tryz.ntmps181
  go_wp2_with (first | (go_at_call 193; refine HR.out.mono ?_; rintro e w1 ⟨r, hr, rfl, k, rfl⟩; obtain rfl := HU.out r hr))
  go_ret2
  exact ⟨rfl, _, rfl⟩
/-- the blocks with a bit of the bitmap so -/
def takeB (G : Geo) (B : List ByteArray) (b : Nat) (t : Bool) : List ByteArray := B.set G.bm (setV (bk B G.bm) (b : Int) t)
set_option maxRecDepth 100000 in
theorem setV_size {b : ByteArray} {i : Nat} (t : Bool) (hb : b.size = 128) (hi : i < 1024) : (setV b (i : Int) t).size = 128 := by
  have h0 : bitE b (i : Int) = 0 := by unfold bitE; rw [if_pos hb, if_pos]; omega
  unfold setV
  rw [if_pos h0, st_size, stB_len, len_list, hb]
set_option maxRecDepth 100000 in
set_option maxHeartbeats 1000000 in
theorem take_any {G : Geo} {p q cap m : Nat} {w : World} {F B : List ByteArray} (b : Nat) (hb : b < G.n) (t : Bool) (h : VI G p q cap m w F B) : Calls Tryz.prog 182 #[.pointer (some ⟨p, 0, none⟩), .int .i64 (b : Int), .bool t] w fun e w' => e = .returned (.tuple #[]) ∧ VI G p q cap m w' F (takeB G B b t) ∧ Only [m] w w' := by
  have hbm : G.bm < G.n := by have := h.ok.bt; have := h.ok.tz; have := h.ok.sum; have := h.ok.c4; omega
  have hn1 := h.ok.n1
  have HK := hid (block_any G.bm hbm h)
  have HS := hid (set_any (bk B G.bm) (b : Int) t)
  have hsz := setV_size t (h.size _ hbm) (show b < 1024 by omega)
  have HC := hid (fun w' (hv : VI G p q cap m w' F B) => change_any (w := w') G.bm hbm (setV (bk B G.bm) (b : Int) t) hsz hv)
  have c1 : w.cell? ⟨p, 1, none⟩ = some (.int .i64 (G.bm : Int)) := (h.cell 1).trans rfl
  have HC1 : Hid (∀ w', VI G p q cap m w' F B → w'.cell? ⟨p, 1, none⟩ = some (.int .i64 (G.bm : Int))) := fun w' hv => (hv.cell 1).trans rfl
  have HV := hid h
  unfold takeB
  clear h hsz hbm hn1
  obtain ⟨u, hu⟩ : ∃ u, u = setV (bk B G.bm) (b : Int) t := ⟨_, rfl⟩
  obtain ⟨x, hx⟩ : ∃ x, x = bitE (bk B G.bm) (b : Int) := ⟨_, rfl⟩
  rw [← hu, ← hx] at HS
  rw [← hu] at HC ⊢
  obtain ⟨kb, hkb⟩ : ∃ kb, kb = bk B G.bm := ⟨_, rfl⟩
  rw [← hkb] at HK HS
  clear hu hx hkb
  go_enter Tryz.func182, Tryz.ntmps182
  go_wp2_with (first
    | (go_at_call 89; refine HK.out.mono ?_; rintro e w1 ⟨rfl, hb1⟩; have HB1 := hid hb1; clear hb1)
    | (go_at_call 194; refine (HS.out _).mono ?_; rintro e w2 ⟨rfl, hb2⟩; have HB2 := hid (HB1.out.next hb2); have hc2 := HC1.out _ (HV.out.below HB2.out); clear hb2)
    | (go_at_call 90; refine (HC.out _ (HV.out.below HB2.out)).mono ?_; rintro e w3 ⟨rfl, hv3, ho3⟩))
  go_end0
  exact ⟨rfl, hv3, (Only.of_below HB2.out).trans ho3⟩
/-- an inode with a number at a place -/
def Ino.put (n : Ino) (v : Int) : Nat → Ino
  | 0 => { n with a := v } | 1 => { n with b := v } | 2 => { n with c := v } | 3 => { n with d := v } | 4 => { n with e := v } | 5 => { n with f := v } | 6 => { n with s := v } | _ => { n with t := v }
set_option maxRecDepth 100000 in
theorem Box.put {q : Nat} {w : World} {n : Ino} (h : Box q w n) (pl : Nat) (hp : pl < 8) (v : Int) : Box q (w.setCell ⟨q, 3 + pl, none⟩ (.int .i64 v)) (n.put v pl) := by
  obtain ⟨k, l, z, a, b, c, d, e, f, s, t⟩ := n
  have e : pl = 0 ∨ pl = 1 ∨ pl = 2 ∨ pl = 3 ∨ pl = 4 ∨ pl = 5 ∨ pl = 6 ∨ pl = 7 := by omega
  rcases e with rfl | rfl | rfl | rfl | rfl | rfl | rfl | rfl
  · exact h.set3 v
  · exact h.set4 v
  · exact h.set5 v
  · exact h.set6 v
  · exact h.set7 v
  · exact h.set8 v
  · exact h.set9 v
  · exact h.set10 v
set_option maxRecDepth 100000 in
set_option maxHeartbeats 1000000 in
theorem name_in {G : Geo} {p q cap m g : Nat} {w : World} {F B : List ByteArray} (n : Ino) (pl : Nat) (hp : pl < 8) (v : Int) (hX : Box g w n) (hgp : g ≠ p) (hgq : g ≠ q) (h : VI G p q cap m w F B) : Calls Tryz.prog 183 #[.pointer (some ⟨p, 0, none⟩), .pointer (some ⟨g, 0, none⟩), .agg #[.int .i64 0, .int .i64 (pl : Int)], .int .i64 v] w fun e w' => e = .returned (.tuple #[]) ∧ VI G p q cap m w' F B ∧ Box g w' (n.put v pl) ∧ Only [g] w w' := by
  have HNu := hid (fun w' => number_any g pl hp w')
  obtain ⟨w1, hw1⟩ : ∃ w1, w1 = w.alloc (.cells #[.int .i64 0, .int .i64 (pl : Int)] 211) := ⟨_, rfl⟩
  have hB1 : Below w.heap.size w w1 := by rw [hw1]; exact below_alloc w _
  have hX1 := hX.below hB1
  have hcx := hX1.at pl hp
  have hfx := hX1.free (3 + pl)
  have HX2 := hid (hX1.put pl hp v)
  have HV1 := h.below hB1
  have hgm : g ≠ m := by
    rintro rfl
    obtain ⟨M, h1, _⟩ := h.map
    obtain ⟨es, c, h2⟩ := h1.isMap
    unfold Box at hX
    rw [h2] at hX
    cases hX
  have HV2 : Hid (VI G p q cap m (w1.setCell ⟨g, 3 + pl, none⟩ (.int .i64 v)) F B) := hid (HV1.same (set_off _ _ (Ne.symm hgp)) (set_off _ _ (Ne.symm hgq)) (set_off _ _ (Ne.symm hgm)))
  have HO : Hid (Only [g] w (w1.setCell ⟨g, 3 + pl, none⟩ (.int .i64 v))) := hid ((Only.of_below hB1).trans (Only.setCell _ (by simp)))
  obtain ⟨n', hn'⟩ : ∃ n', n' = n.put v pl := ⟨_, rfl⟩
  rw [← hn'] at HX2 ⊢
  clear hX h hB1 hX1 HV1 hgp hgq hgm hp hn'
  go_enter Tryz.func183, Tryz.ntmps183
  go_wp2_with (go_at_call 178; fail)
  rw [← hw1]
  clear hw1
  refine (HNu.out _).mono ?_
  rintro e w2 ⟨rfl, hw⟩
  have hw := hw.symm
  subst hw
  go_wp2
  (try simp only [Exit.inBlock, Exit.then]); refine bodyPost_ret (results_none rfl _ _ _) rfl ?_
  exact ⟨rfl, HV2.out, HX2.out, HO.out⟩
set_option maxRecDepth 100000 in
theorem renV_size {b : ByteArray} {k : Nat} {v : Nat} (hb : b.size = 128) (hk : k < 64) (hv : v < 1024) : (renV b (k : Int) (v : Int)).size = 128 := by
  have h0 : parE b (k : Int) 64 = 0 := by unfold parE; rw [if_pos hb, if_pos]; omega
  have h1 : okN (v : Int) = true := by unfold okN; rw [decide_eq_true_eq]; omega
  have h2 : renE b (k : Int) (v : Int) = 0 := by unfold renE; rw [if_pos h0, if_pos h1]
  unfold renV
  rw [if_pos h2]
  simp [ByteArray.size_append, st_size, fEnc_len]
  omega
set_option maxRecDepth 100000 in
set_option maxHeartbeats 1000000 in
theorem name_out {G : Geo} {p q cap m g : Nat} {w : World} {F B : List ByteArray} (inn pl : Nat) (hi0 : inn ≠ 0) (hi : inn < G.n) (hp : pl < 64) (v : Nat) (hv : v < 1024) (h : VI G p q cap m w F B) : Calls Tryz.prog 183 #[.pointer (some ⟨p, 0, none⟩), .pointer (some ⟨g, 0, none⟩), .agg #[.int .i64 (inn : Int), .int .i64 (pl : Int)], .int .i64 (v : Int)] w fun e w' => e = .returned (.tuple #[]) ∧ VI G p q cap m w' F (B.set inn (renV (bk B inn) (pl : Int) (v : Int))) ∧ Only [m] w w' := by
  have HV := hid h
  have HK := hid (fun w' (hv : VI G p q cap m w' F B) => block_any (w := w') inn hi hv)
  have HN := hid (rename_any (bk B inn) (pl : Int) (v : Int))
  have hsz := renV_size (h.size _ hi) hp hv
  have HC := hid (fun w' (hv : VI G p q cap m w' F B) => change_any (w := w') inn hi (renV (bk B inn) (pl : Int) (v : Int)) hsz hv)
  obtain ⟨u, hu⟩ : ∃ u, u = renV (bk B inn) (pl : Int) (v : Int) := ⟨_, rfl⟩
  obtain ⟨x, hx⟩ : ∃ x, x = renE (bk B inn) (pl : Int) (v : Int) := ⟨_, rfl⟩
  rw [← hu, ← hx] at HN
  rw [← hu] at HC ⊢
  obtain ⟨kb, hkb⟩ : ∃ kb, kb = bk B inn := ⟨_, rfl⟩
  rw [← hkb] at HK HN
  have hi0' : ¬ ((inn : Int) = 0) := by omega
  clear h hsz hu hx hkb hi hp hv hi0
  go_enter Tryz.func183, Tryz.ntmps183
  go_wp2_with (go_at_call 89; fail)
  obtain ⟨w1, hw1⟩ : ∃ w1, w1 = w.alloc (.cells #[.int .i64 (inn : Int), .int .i64 (pl : Int)] 211) := ⟨_, rfl⟩
  have HB1 : Hid (Below w.heap.size w w1) := by rw [hw1]; exact below_alloc w _
  have hS1 : Spt w.heap.size w1 (inn : Int) (pl : Int) := by rw [hw1]; exact box_at _ _
  rw [← hw1]
  clear hw1
  have hc1 := hS1.cells
  have HS1 := hid hS1
  have HV1 := hid (HV.out.below HB1.out)
  clear hS1 HV
  go_region_held3 (fun w' => w'.cell? ⟨w.heap.size, 0, none⟩ = some (.int .i64 (inn : Int)) ∧ w'.cell? ⟨w.heap.size, 1, none⟩ = some (.int .i64 (pl : Int))) (first | exact hc1 | exact hc6 | exact hc5 | go_keep) (first
    | (go_at_call 89; refine (HK.out _ (by exact HV1.out.below ⟨rfl, rfl, rfl, Nat.le_refl _, fun _ _ => rfl⟩)).mono ?_; rintro e w5 ⟨rfl, hb5⟩
       have HB5 : Hid (Below w1.heap.size w1 w5) := hid ⟨hb5.os, hb5.tape, hb5.output, hb5.size, hb5.block⟩
       have hc5 := (HS1.out.below HB5.out).cells
       clear hb5)
    | (go_at_call 195; refine (HN.out _).mono ?_; rintro e w6 ⟨rfl, hb6⟩
       have HB6 : Hid (Below w5.heap.size w5 w6) := hid ⟨hb6.os, hb6.tape, hb6.output, hb6.size, hb6.block⟩
       have hc6 := (HS1.out.below (HB5.out.next HB6.out)).cells
       have HV6 := hid (HV1.out.below (HB5.out.next HB6.out))
       clear hb6))
  all_goals
    obtain ⟨d0, d1⟩ := hc6
    go_wp2_with (first
      | (go_at_call 90; refine (HC.out _ (by exact HV6.out.below ⟨rfl, rfl, rfl, Nat.le_refl _, fun _ _ => rfl⟩)).mono ?_; rintro e w7 ⟨rfl, hv7, ho7⟩))
    go_end0
    exact ⟨rfl, hv7, (Only.of_below ((HB1.out.next HB5.out).next HB6.out)).trans ⟨ho7.os, ho7.tape, ho7.output, ho7.size, ho7.block⟩⟩
/-- the blocks, and the inode, with a number at a spot -/
def namB (B : List ByteArray) (inn pl v : Nat) : List ByteArray := if inn = 0 then B else B.set inn (renV (bk B inn) (pl : Int) (v : Int))
def namN (n : Ino) (inn pl v : Nat) : Ino := if inn = 0 then n.put (v : Int) pl else n
set_option maxRecDepth 100000 in
theorem vname_any {G : Geo} {p q cap m g : Nat} {w : World} {F B : List ByteArray} (n : Ino) (inn pl : Nat) (hi : inn < G.n) (hp8 : inn = 0 → pl < 8) (hp : pl < 64) (v : Nat) (hv : v < 1024) (hX : Box g w n) (hgp : g ≠ p) (hgq : g ≠ q) (h : VI G p q cap m w F B) : Calls Tryz.prog 183 #[.pointer (some ⟨p, 0, none⟩), .pointer (some ⟨g, 0, none⟩), .agg #[.int .i64 (inn : Int), .int .i64 (pl : Int)], .int .i64 (v : Int)] w fun e w' => e = .returned (.tuple #[]) ∧ VI G p q cap m w' F (namB B inn pl v) ∧ Box g w' (namN n inn pl v) ∧ Only [g, m] w w' := by
  unfold namB namN
  by_cases e : inn = 0
  · subst e
    rw [if_pos rfl, if_pos rfl]
    exact (name_in n pl (hp8 rfl) (v : Int) hX hgp hgq h).mono fun x w' ⟨a, b, c, d⟩ => ⟨a, b, c, d.wide (by simp)⟩
  · rw [if_neg e, if_neg e]
    have hgm : g ≠ m := by
      rintro rfl
      obtain ⟨M, h1, _⟩ := h.map
      obtain ⟨es, c, h2⟩ := h1.isMap
      unfold Box at hX
      rw [h2] at hX
      cases hX
    refine (name_out inn pl e hi hp v hv h).mono fun x w' ⟨a, b, d⟩ => ⟨a, b, (d.block g (lt_of_block hX) (by simpa using hgm)).trans hX, d.wide (by simp)⟩
end Go.Proofs.YtokjlgebkihimaaGreat
namespace Go.Proofs.YtokjlgebkihimaaGreat
open Go.RowKit Go.Maps

set_option maxRecDepth 100000 in
theorem VI.gm {G : Geo} {p q cap m g : Nat} {w : World} {F B : List ByteArray} {n : Ino} (h : VI G p q cap m w F B) (hX : Box g w n) : g ≠ m := by
  rintro rfl
  obtain ⟨M, h1, _⟩ := h.map
  obtain ⟨es, c, h2⟩ := h1.isMap
  unfold Box at hX
  rw [h2] at hX
  cases hX
/-- the least data block that is not taken -/
def fre (G : Geo) (B : List ByteArray) : Option Nat := lsF (bk B G.bm).data.toList G.da G.ct
/-- the blocks behind a block that was made and named at a spot -/
def mkB (G : Geo) (B : List ByteArray) (inn pl b : Nat) : List ByteArray := namB ((takeB G B b true).set b (Zs 128)) inn pl b
set_option maxRecDepth 100000 in
theorem Box.only {q : Nat} {w w' : World} {n : Ino} {fp : List Nat} (h : Box q w n) (k : Only fp w w') (hq : q ∉ fp) : Box q w' n := (k.block q (lt_of_block h) hq).trans h
set_option maxRecDepth 100000 in
set_option maxHeartbeats 2000000 in
theorem makeAt_no {G : Geo} {p q cap m g : Nat} {w : World} {F B : List ByteArray} (inn pl : Nat) (hf : fre G B = none) (h : VI G p q cap m w F B) : Calls Tryz.prog 157 #[.pointer (some ⟨p, 0, none⟩), .pointer (some ⟨g, 0, none⟩), .agg #[.int .i64 (inn : Int), .int .i64 (pl : Int)]] w fun e w' => e = .returned (.tuple #[.int .i64 0, .int .i64 306]) ∧ Below w.heap.size w w' := by
  have hbm : G.bm < G.n := by have := h.ok.bt; have := h.ok.tz; have := h.ok.sum; have := h.ok.c4; omega
  have hn1 := h.ok.n1
  have hsm := h.ok.sum
  have HV := hid h
  have HK := hid (fun w' (hv : VI G p q cap m w' F B) => block_any (w := w') G.bm hbm hv)
  have HE := hid (fun w' (hv : VI G p q cap m w' F B) => end_any (w := w') hv)
  have HL := hid (least_ok (bk B G.bm) G.da G.ct (h.size _ hbm) (by omega))
  unfold fre at hf
  rw [hf, show (G.da : Int) + (G.ct : Int) = (G.n : Int) by omega] at HL
  simp only [optI, optE] at HL
  obtain ⟨kb, hkb⟩ : ∃ kb, kb = bk B G.bm := ⟨_, rfl⟩
  rw [← hkb] at HK HL
  clear h hbm hn1 hsm hf hkb
  go_enter Tryz.func157, Tryz.ntmps157
  go_wp2_with (go_at_call 89; fail)
  obtain ⟨w1, hw1⟩ : ∃ w1, w1 = w.alloc (.cells #[.int .i64 (inn : Int), .int .i64 (pl : Int)] 211) := ⟨_, rfl⟩
  have HB1 : Hid (Below w.heap.size w w1) := by rw [hw1]; exact below_alloc w _
  rw [← hw1]
  clear hw1
  have HV1 := hid (HV.out.below HB1.out)
  have hc1 : w1.cell? ⟨p, 1, none⟩ = some (.int .i64 (G.bm : Int)) ∧ w1.cell? ⟨p, 3, none⟩ = some (.int .i64 (G.da : Int)) := ⟨(HV1.out.cell 1).trans rfl, (HV1.out.cell 3).trans rfl⟩
  clear HV
  go_region_held3 (fun w' => w'.cell? ⟨p, 1, none⟩ = some (.int .i64 (G.bm : Int)) ∧ w'.cell? ⟨p, 3, none⟩ = some (.int .i64 (G.da : Int))) (first | exact hc1 | exact hc5 | go_keep) (first
    | (go_at_call 89; refine (HK.out _ (by exact HV1.out.below ⟨rfl, rfl, rfl, Nat.le_refl _, fun _ _ => rfl⟩)).mono ?_; rintro e w5 ⟨rfl, hb5⟩
       have HB5 : Hid (Below w1.heap.size w1 w5) := hid ⟨hb5.os, hb5.tape, hb5.output, hb5.size, hb5.block⟩
       have HV5 := hid (HV1.out.below HB5.out)
       have hc5 : w5.cell? ⟨p, 1, none⟩ = some (.int .i64 (G.bm : Int)) ∧ w5.cell? ⟨p, 3, none⟩ = some (.int .i64 (G.da : Int)) := ⟨(HV5.out.cell 1).trans rfl, (HV5.out.cell 3).trans rfl⟩
       clear hb5)
    | (go_at_call 180; refine (HE.out _ (by first | exact HV5.out.below ⟨rfl, rfl, rfl, Nat.le_refl _, fun _ _ => rfl⟩ | exact HV1.out.below ⟨rfl, rfl, rfl, Nat.le_refl _, fun _ _ => rfl⟩)).mono ?_; rintro e w6 ⟨rfl, j, hw⟩; have hw := hw.symm; subst hw)
    | (go_at_call 181; refine (HL.out _).mono ?_; rintro e w7 ⟨rfl, j, hw⟩; have hw := hw.symm; subst hw))
  all_goals
    go_wp2
    go_ret2
    exact ⟨rfl, HB1.out.next ⟨HB5.out.os, HB5.out.tape, HB5.out.output, HB5.out.size, HB5.out.block⟩⟩
set_option maxRecDepth 100000 in
set_option maxHeartbeats 2000000 in
theorem makeAt_yes {G : Geo} {p q cap m g : Nat} {w : World} {F B : List ByteArray} (n : Ino) (inn pl b : Nat) (hf : fre G B = some b) (hi : inn < G.n) (hp8 : inn = 0 → pl < 8) (hp : pl < 64) (hX : Box g w n) (hgp : g ≠ p) (hgq : g ≠ q) (h : VI G p q cap m w F B) : Calls Tryz.prog 157 #[.pointer (some ⟨p, 0, none⟩), .pointer (some ⟨g, 0, none⟩), .agg #[.int .i64 (inn : Int), .int .i64 (pl : Int)]] w fun e w' => e = .returned (.tuple #[.int .i64 (b : Int), .int .i64 0]) ∧ VI G p q cap m w' F (mkB G B inn pl b) ∧ Box g w' (namN n inn pl b) ∧ Only [g, m] w w' := by
  have hbm : G.bm < G.n := by have := h.ok.bt; have := h.ok.tz; have := h.ok.sum; have := h.ok.c4; omega
  have hn1 := h.ok.n1
  have hsm := h.ok.sum
  have HV := hid h
  have HK := hid (fun w' (hv : VI G p q cap m w' F B) => block_any (w := w') G.bm hbm hv)
  have HE := hid (fun w' (hv : VI G p q cap m w' F B) => end_any (w := w') hv)
  have HL := hid (least_ok (bk B G.bm) G.da G.ct (h.size _ hbm) (by omega))
  have hb : b < G.n := by unfold fre at hf; have := lsF_some hf; omega
  have HT := hid (fun w' (hv : VI G p q cap m w' F B) => take_any (w := w') b hb true hv)
  have HZ := hid (zeros_any 128 (Nat.le_refl _))
  have HC := hid (fun w' (hv : VI G p q cap m w' F (takeB G B b true)) => change_any (w := w') b hb (Zs 128) (Zs_size 128) hv)
  have HM := hid (fun w' (hx : Box g w' n) (hv : VI G p q cap m w' F ((takeB G B b true).set b (Zs 128))) => vname_any (w := w') n inn pl hi hp8 hp b (by omega) hx hgp hgq hv)
  have hgm := h.gm hX
  have HGM := hid hgm
  have hwm : w.heap.size ≠ m := by have := h.ml; omega
  have HWM := hid hwm
  unfold mkB
  obtain ⟨B3, hB3⟩ : ∃ B3, B3 = namB ((takeB G B b true).set b (Zs 128)) inn pl b := ⟨_, rfl⟩
  obtain ⟨n3, hn3⟩ : ∃ n3, n3 = namN n inn pl b := ⟨_, rfl⟩
  rw [← hB3, ← hn3] at HM ⊢
  have HX := hid hX
  unfold fre at hf
  rw [hf, show (G.da : Int) + (G.ct : Int) = (G.n : Int) by omega] at HL
  simp only [optI, optE] at HL
  obtain ⟨kb, hkb⟩ : ∃ kb, kb = bk B G.bm := ⟨_, rfl⟩
  rw [← hkb] at HK HL
  obtain ⟨z, hz⟩ : ∃ z, z = Zs 128 := ⟨_, rfl⟩
  rw [← hz] at HZ HC HM
  clear h hbm hn1 hsm hf hkb hz hb hi hp8 hp hgp hgq hX hgm hwm hB3 hn3
  go_enter Tryz.func157, Tryz.ntmps157
  go_wp2_with (go_at_call 89; fail)
  obtain ⟨w1, hw1⟩ : ∃ w1, w1 = w.alloc (.cells #[.int .i64 (inn : Int), .int .i64 (pl : Int)] 211) := ⟨_, rfl⟩
  have HB1 : Hid (Below w.heap.size w w1) := by rw [hw1]; exact below_alloc w _
  have HS1 : Hid (Spt w.heap.size w1 (inn : Int) (pl : Int)) := by rw [hw1]; exact box_at _ _
  rw [← hw1]
  clear hw1
  have HV1 := hid (HV.out.below HB1.out)
  have hc1 : w1.cell? ⟨p, 1, none⟩ = some (.int .i64 (G.bm : Int)) ∧ w1.cell? ⟨p, 3, none⟩ = some (.int .i64 (G.da : Int)) := ⟨(HV1.out.cell 1).trans rfl, (HV1.out.cell 3).trans rfl⟩
  clear HV
  go_region_held3 (fun w' => w'.cell? ⟨p, 1, none⟩ = some (.int .i64 (G.bm : Int)) ∧ w'.cell? ⟨p, 3, none⟩ = some (.int .i64 (G.da : Int))) (first | exact hc1 | exact hc5 | go_keep) (first
    | (go_at_call 89; refine (HK.out _ (by exact HV1.out.below ⟨rfl, rfl, rfl, Nat.le_refl _, fun _ _ => rfl⟩)).mono ?_; rintro e w5 ⟨rfl, hb5⟩
       have HB5 : Hid (Below w1.heap.size w1 w5) := hid ⟨hb5.os, hb5.tape, hb5.output, hb5.size, hb5.block⟩
       have HV5 := hid (HV1.out.below HB5.out)
       have hc5 : w5.cell? ⟨p, 1, none⟩ = some (.int .i64 (G.bm : Int)) ∧ w5.cell? ⟨p, 3, none⟩ = some (.int .i64 (G.da : Int)) := ⟨(HV5.out.cell 1).trans rfl, (HV5.out.cell 3).trans rfl⟩
       clear hb5)
    | (go_at_call 180; refine (HE.out _ (by first | exact HV5.out.below ⟨rfl, rfl, rfl, Nat.le_refl _, fun _ _ => rfl⟩ | exact HV1.out.below ⟨rfl, rfl, rfl, Nat.le_refl _, fun _ _ => rfl⟩)).mono ?_; rintro e w6 ⟨rfl, j, hw⟩; have hw := hw.symm; subst hw)
    | (go_at_call 181; refine (HL.out _).mono ?_; rintro e w7 ⟨rfl, j, hw⟩; have hw := hw.symm; subst hw))
  all_goals
    have HV8 := HV5
    have HB8 : Hid (Below w.heap.size w w5) := hid (HB1.out.next HB5.out)
    have HX8 := hid (HX.out.below HB8.out)
    have HS8 := hid (HS1.out.below HB5.out)
    go_wp2_with (first
      | (go_at_call 182; refine (HT.out _ (by exact HV8.out.below ⟨rfl, rfl, rfl, Nat.le_refl _, fun _ _ => rfl⟩)).mono ?_; rintro e w9 ⟨rfl, hv9, ho9⟩
         have HV9 := hid hv9
         have HO9 : Hid (Only [m] w5 w9) := hid ⟨ho9.os, ho9.tape, ho9.output, ho9.size, ho9.block⟩
         clear hv9 ho9)
      | (go_at_call 132; refine (HZ.out _).mono ?_; rintro e w10 ⟨rfl, hb10⟩
         have HO10 := hid (HO9.out.next hb10)
         have HV10 := hid (HV9.out.below hb10)
         clear hb10)
      | (go_at_call 90; refine (HC.out _ HV10.out).mono ?_; rintro e w11 ⟨rfl, hv11, ho11⟩
         have HV11 := hid hv11
         have HO11 := hid (HO10.out.trans ho11)
         obtain ⟨d0, d1⟩ := (HS8.out.only HO11.out (by simpa using HWM.out)).cells
         clear hv11 ho11)
      | (go_at_call 183; refine (HM.out _ (HX8.out.only HO11.out (by simpa using HGM.out)) HV11.out).mono ?_; rintro e w12 ⟨rfl, hv12, hx12, ho12⟩
         have HV12 := hid hv12
         have HX12 := hid hx12
         have HO12 := hid ho12
         clear hv12 hx12 ho12))
    go_ret2
    exact ⟨rfl, HV12.out, HX12.out, (Only.of_below HB8.out).trans ((HO11.out.wide (by simp)).trans HO12.out)⟩
end Go.Proofs.YtokjlgebkihimaaGreat
namespace Go.Proofs.YtokjlgebkihimaaGreat
open Go.RowKit Go.Maps

def eS (o : Option Nat) : Int := match o with | some _ => 0 | none => 306
/-- what comes of making a block that is named at a spot: which, the blocks, the inode -/
def mkS (G : Geo) (B : List ByteArray) (n : Ino) (inn pl : Nat) : Option Nat × List ByteArray × Ino := match fre G B with
  | none => (none, B, n)
  | some b => (some b, mkB G B inn pl b, namN n inn pl b)
set_option maxRecDepth 100000 in
theorem makeAt_any {G : Geo} {p q cap m g : Nat} {w : World} {F B : List ByteArray} (n : Ino) (inn pl : Nat) (hi : inn < G.n) (hp8 : inn = 0 → pl < 8) (hp : pl < 64) (hX : Box g w n) (hgp : g ≠ p) (hgq : g ≠ q) (h : VI G p q cap m w F B) : Calls Tryz.prog 157 #[.pointer (some ⟨p, 0, none⟩), .pointer (some ⟨g, 0, none⟩), .agg #[.int .i64 (inn : Int), .int .i64 (pl : Int)]] w fun e w' => e = .returned (.tuple #[.int .i64 (optI (mkS G B n inn pl).1), .int .i64 (eS (mkS G B n inn pl).1)]) ∧ VI G p q cap m w' F (mkS G B n inn pl).2.1 ∧ Box g w' (mkS G B n inn pl).2.2 ∧ Only [g, m] w w' := by
  unfold mkS
  cases hf : fre G B with
  | none => exact (makeAt_no inn pl hf h).mono fun x w' ⟨a, b⟩ => ⟨a, h.below b, hX.below b, Only.of_below b⟩
  | some b => exact (makeAt_yes n inn pl b hf hi hp8 hp hX hgp hgq h).mono fun x w' ⟨a, c, d, e⟩ => ⟨a, c, d, e⟩
set_option maxRecDepth 100000 in
theorem fre_lt {G : Geo} (hG : G.Ok) {B : List ByteArray} {b : Nat} (h : fre G B = some b) : b < G.n ∧ b ≠ 0 ∧ G.da ≤ b := by
  unfold fre at h
  have := lsF_some h
  have := hG.sum
  have := hG.tz
  have := hG.bt
  omega
set_option maxRecDepth 100000 in
theorem mkS_lt {G : Geo} (hG : G.Ok) {B : List ByteArray} {n : Ino} {inn pl b : Nat} (h : (mkS G B n inn pl).1 = some b) : b < G.n ∧ b ≠ 0 := by
  unfold mkS at h
  cases hf : fre G B with
  | none => rw [hf] at h; cases h
  | some c => rw [hf] at h; cases h; exact ⟨(fre_lt hG hf).1, (fre_lt hG hf).2.1⟩
/-- a step of the way: what is named there, made if there is none -/
def stS (G : Geo) (B : List ByteArray) (n : Ino) (inn pl : Nat) : Option Nat × List ByteArray × Ino := if nm G B n inn pl = 0 then mkS G B n inn pl else (some (nm G B n inn pl), B, n)
/-- what 'reach' comes to -/
def rchS (G : Geo) (B : List ByteArray) (n : Ino) (i : Nat) : Option Nat × List ByteArray × Ino :=
  if blk G B n i = 0 then
    (if i < 6 then mkS G B n 0 i
     else if i < 70 then (match (stS G B n 0 6).1 with
       | none => (none, (stS G B n 0 6).2.1, (stS G B n 0 6).2.2)
       | some a => mkS G (stS G B n 0 6).2.1 (stS G B n 0 6).2.2 a (i - 6))
     else (match (stS G B n 0 7).1 with
       | none => (none, (stS G B n 0 7).2.1, (stS G B n 0 7).2.2)
       | some a => (match (stS G (stS G B n 0 7).2.1 (stS G B n 0 7).2.2 a ((i - 70) / 64)).1 with
         | none => (none, (stS G (stS G B n 0 7).2.1 (stS G B n 0 7).2.2 a ((i - 70) / 64)).2.1, (stS G (stS G B n 0 7).2.1 (stS G B n 0 7).2.2 a ((i - 70) / 64)).2.2)
         | some c => mkS G (stS G (stS G B n 0 7).2.1 (stS G B n 0 7).2.2 a ((i - 70) / 64)).2.1 (stS G (stS G B n 0 7).2.1 (stS G B n 0 7).2.2 a ((i - 70) / 64)).2.2 c ((i - 70) % 64))))
  else (some (blk G B n i), B, n)
set_option maxRecDepth 100000 in
theorem stS_lt {G : Geo} (hG : G.Ok) {B : List ByteArray} {n : Ino} {inn pl b : Nat} (h : (stS G B n inn pl).1 = some b) : b < G.n ∧ b ≠ 0 := by
  unfold stS at h
  split at h
  · exact mkS_lt hG h
  · rename_i h0
    cases h
    exact ⟨nm_lt hG _ _ _ _, h0⟩
/-- what stands in memory within 'reach' -/
structure RP (G : Geo) (p q cap m g : Nat) (F B : List ByteArray) (w0 : World) (n : Ino) (Y : Nat) (a b c d : Int) (w : World) : Prop where
  v : VI G p q cap m w F B
  x : Box g w n
  y : Way Y w a b c d
  yg : Y ≠ g
  ym : Y ≠ m
  o : Only [g, m] w0 w
set_option maxRecDepth 100000 in
theorem RP.below {G : Geo} {p q cap m g : Nat} {F B : List ByteArray} {w0 : World} {n : Ino} {Y : Nat} {a b c d : Int} {w w' : World} (h : RP G p q cap m g F B w0 n Y a b c d w) (k : Below w.heap.size w w') : RP G p q cap m g F B w0 n Y a b c d w' := ⟨h.v.below k, h.x.below k, h.y.below k, h.yg, h.ym, h.o.next k⟩
set_option maxRecDepth 100000 in
theorem RP.drew {G : Geo} {p q cap m g : Nat} {F B : List ByteArray} {w0 : World} {n : Ino} {Y : Nat} {a b c d : Int} {w w' : World} (h : RP G p q cap m g F B w0 n Y a b c d w) (k : ∃ j, w' = w.drewN j) : RP G p q cap m g F B w0 n Y a b c d w' := by
  obtain ⟨j, rfl⟩ := k
  exact h.below ((Below.refl _ _).dN _)
set_option maxRecDepth 100000 in
theorem RP.step {G : Geo} {p q cap m g : Nat} {F B B' : List ByteArray} {w0 : World} {n n' : Ino} {Y : Nat} {a b c d : Int} {w w' : World} (h : RP G p q cap m g F B w0 n Y a b c d w) (hv : VI G p q cap m w' F B') (hx : Box g w' n') (ho : Only [g, m] w w') : RP G p q cap m g F B' w0 n' Y a b c d w' := ⟨hv, hx, h.y.only ho (by simp; exact ⟨h.yg, h.ym⟩), h.yg, h.ym, h.o.trans ho⟩
end Go.Proofs.YtokjlgebkihimaaGreat
