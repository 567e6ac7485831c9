import Derived.Test.YtokjlgebkihimaaGreatXg
namespace Go.Proofs.YtokjlgebkihimaaGreat
open Go.RowKit Go.Maps

theorem ret46 {a : Act} {w : World} {R : Nat} {s : List UInt8} {x y : Value} {post : Ending → World → Prop} (hb : SB R w s) (hs : s.length = 32) (h2 : a.tmps.getD 6 undef = .pointer (some ⟨R, 0, none⟩)) (h3 : a.tmps.getD 7 undef = x) (h4 : a.tmps.getD 8 undef = y) (hd : a.defers = []) (hp : post (.returned (.tuple #[sv s, x, y])) w) : bodyPost Tryz.prog Tryz.f46 post .ret a w := by
  refine bodyPost_ret (v := .tuple #[sv s, x, y]) ?_ hd hp
  have hl := load_row (w := w) (g := R) (o := 0) s hs (fun i hi => by
    rw [Nat.zero_add, hb.cell i hi]
    unfold b0
    simp [hi])
  rw [Array.getD_eq_getD_getElem?] at h2 h3 h4
  simp [results, Tryz.results46, h2, h3, h4, asAddr, Result.andThen, hl]
theorem SlotsAt.later {p i : Value} {w W : World} {S : List (List UInt8)} (h : SlotsAt p i w S) (k : Below w.heap.size w W) : SlotsAt p i W S :=
  fun W' hW' => h W' (by have h1 := k.size; exact k.next hW')
set_option maxRecDepth 100000 in
set_option maxHeartbeats 1000000 in
theorem search_bad {p i : Value} {t : ByteArray} {w : World} {S : List (List UInt8)} {n : Int} (hn : n ≠ 0) (HS : SlotsAt p i w S) (HN : NameAt t n) : Calls Tryz.prog 46 #[p, i, .string t] w fun e' w' => e' = .returned (.tuple #[sv Z32, .int .i64 0, .int .i64 n]) ∧ Below w.heap.size w w' := by
  have hnb : (n != 0) = true := by simpa using hn
  go_enter Tryz.func46, Tryz.ntmps46
  go_upto_region 1 with fail
  obtain ⟨w1, hw1⟩ : ∃ w1, w1 = w.alloc (.cells #[.int .u8 0, .int .u8 0, .int .u8 0, .int .u8 0, .int .u8 0, .int .u8 0, .int .u8 0, .int .u8 0, .int .u8 0, .int .u8 0, .int .u8 0, .int .u8 0, .int .u8 0, .int .u8 0, .int .u8 0, .int .u8 0, .int .u8 0, .int .u8 0, .int .u8 0, .int .u8 0, .int .u8 0, .int .u8 0, .int .u8 0, .int .u8 0, .int .u8 0, .int .u8 0, .int .u8 0, .int .u8 0, .int .u8 0, .int .u8 0, .int .u8 0, .int .u8 0] 87) := ⟨_, rfl⟩
  obtain ⟨q, hq⟩ : ∃ q, q = w.heap.size := ⟨_, rfl⟩
  have HB1 : Hid (Below w.heap.size w w1) := hid (by rw [hw1]; exact below_alloc _ _)
  have HS1 : Hid (SB q w1 Z32) := hid (by unfold SB; rw [hw1, hq, zero_cells]; exact box_at _ _)
  rw [← hw1, ← hq]
  have HQ := hid hq
  clear hw1 hq
  have HF := hid (for_bad hn (HS.later HB1.out) HN)
  clear HS HN hn
  go_wp2_with (first
    | (go_at_call 34; refine (HF.out).mono ?_; rintro e' w2 ⟨rfl, b2⟩; have HB2 := hid b2; have HS2 := hid (HS1.out.below b2); clear b2)
    | (refine at_build0 rfl rfl ?_)
    | ((with_reducible refine SB.at_store HS2.out rfl (show Z32.length = 32 from rfl) ?_ ?_ ?_); rfl; rfl; intro w4 hs4 hk4))
  exact ret46 hs4 rfl rfl rfl rfl rfl ⟨rfl, hk4 _ _ (by have := HQ.out; omega) (HB1.out.next HB2.out)⟩
set_option maxRecDepth 100000 in
set_option maxHeartbeats 1000000 in
theorem search_none {p i : Value} {t : ByteArray} {w : World} {S : List (List UInt8)} (hf : fst1 (hsN · t) S = -1) (HS : SlotsAt p i w S) (HN : NameAt t 0) : Calls Tryz.prog 46 #[p, i, .string t] w fun e' w' => e' = .returned (.tuple #[sv Z32, .int .i64 0, .int .i64 301]) ∧ Below w.heap.size w w' := by
  go_enter Tryz.func46, Tryz.ntmps46
  go_upto_region 1 with fail
  obtain ⟨w1, hw1⟩ : ∃ w1, w1 = w.alloc (.cells #[.int .u8 0, .int .u8 0, .int .u8 0, .int .u8 0, .int .u8 0, .int .u8 0, .int .u8 0, .int .u8 0, .int .u8 0, .int .u8 0, .int .u8 0, .int .u8 0, .int .u8 0, .int .u8 0, .int .u8 0, .int .u8 0, .int .u8 0, .int .u8 0, .int .u8 0, .int .u8 0, .int .u8 0, .int .u8 0, .int .u8 0, .int .u8 0, .int .u8 0, .int .u8 0, .int .u8 0, .int .u8 0, .int .u8 0, .int .u8 0, .int .u8 0, .int .u8 0] 87) := ⟨_, rfl⟩
  obtain ⟨q, hq⟩ : ∃ q, q = w.heap.size := ⟨_, rfl⟩
  have HB1 : Hid (Below w.heap.size w w1) := hid (by rw [hw1]; exact below_alloc _ _)
  have HS1 : Hid (SB q w1 Z32) := hid (by unfold SB; rw [hw1, hq, zero_cells]; exact box_at _ _)
  rw [← hw1, ← hq]
  have HQ := hid hq
  clear hw1 hq
  have HF := hid (for_ok (HS.later HB1.out) HN)
  have HO := hid (fun (v : Value) (W : World) (h : LLie W v S) => first_of t h)
  rw [hf] at HO
  clear HS HN hf
  go_wp2_with (first
    | (go_at_call 34; refine (HF.out).mono ?_; rintro e' w2 ⟨v, rfl, hl, b2⟩; have HL := hid hl.lie; have HB2 := hid b2; have HS2 := hid (HS1.out.below b2); clear b2 hl)
    | (go_at_call 35; refine (HO.out _ _ HL.out).mono ?_; rintro e' w3 ⟨rfl, b3⟩; have HB3 := hid b3; have HS3 := hid (HS2.out.below b3); clear b3)
    | (refine at_build0 rfl rfl ?_)
    | ((with_reducible refine SB.at_store HS3.out rfl (show Z32.length = 32 from rfl) ?_ ?_ ?_); rfl; rfl; intro w4 hs4 hk4))
  exact ret46 hs4 rfl rfl rfl rfl rfl ⟨rfl, hk4 _ _ (by have := HQ.out; omega) ((HB1.out.next HB2.out).next HB3.out)⟩
set_option maxRecDepth 100000 in
set_option maxHeartbeats 1000000 in
theorem search_yes {p i : Value} {t : ByteArray} {w : World} {S : List (List UInt8)} {j : Nat} (hj : j < S.length) (hf : fst1 (hsN · t) S = (j : Int)) (HS : SlotsAt p i w S) (HN : NameAt t 0) : Calls Tryz.prog 46 #[p, i, .string t] w fun e' w' => e' = .returned (.tuple #[sv S[j], .int .i64 (j : Int), .int .i64 0]) ∧ Below w.heap.size w w' := by
  obtain ⟨s, hs⟩ : ∃ s, s = S[j]'hj := ⟨_, rfl⟩
  rw [← hs]
  go_enter Tryz.func46, Tryz.ntmps46
  go_upto_region 1 with fail
  obtain ⟨w1, hw1⟩ : ∃ w1, w1 = w.alloc (.cells #[.int .u8 0, .int .u8 0, .int .u8 0, .int .u8 0, .int .u8 0, .int .u8 0, .int .u8 0, .int .u8 0, .int .u8 0, .int .u8 0, .int .u8 0, .int .u8 0, .int .u8 0, .int .u8 0, .int .u8 0, .int .u8 0, .int .u8 0, .int .u8 0, .int .u8 0, .int .u8 0, .int .u8 0, .int .u8 0, .int .u8 0, .int .u8 0, .int .u8 0, .int .u8 0, .int .u8 0, .int .u8 0, .int .u8 0, .int .u8 0, .int .u8 0, .int .u8 0] 87) := ⟨_, rfl⟩
  obtain ⟨q, hq⟩ : ∃ q, q = w.heap.size := ⟨_, rfl⟩
  have HB1 : Hid (Below w.heap.size w w1) := hid (by rw [hw1]; exact below_alloc _ _)
  have HS1 : Hid (SB q w1 Z32) := hid (by unfold SB; rw [hw1, hq, zero_cells]; exact box_at _ _)
  rw [← hw1, ← hq]
  have HQ := hid hq
  clear hw1 hq
  have HF := hid (for_ok (HS.later HB1.out) HN)
  have HO := hid (fun (v : Value) (W : World) (h : LLie W v S) => first_of t h)
  rw [hf] at HO
  clear HS HN hf
  have hs' := hid hs
  go_upto_region 2 with (go_at_call 34; fail)
  refine (HF.out).mono ?_
  rintro e' w2 ⟨v, rfl, hl, b2⟩
  have HL := hid hl.lie
  have HB2 := hid b2
  have HS2 := hid (HS1.out.below b2)
  clear b2
  obtain ⟨hall, ao, cap, rfl, h1, h2, h3⟩ := hl.lie
  obtain ⟨gb, off, rfl, hgb, hat⟩ := h3 j hj
  have hlen := hall _ (List.getElem_mem hj)
  have HAT := hid hat
  have HLE := hid hlen
  have HG := hid hgb
  unfold maxLen at h2
  clear hl hall h3 hat hlen hgb
  rw [← hs'.out] at HAT HLE
  obtain ⟨n, hn⟩ : ∃ n, n = S.length := ⟨_, rfl⟩
  rw [← hn] at h1 hj HL ⊢
  clear hs hn
  go_wp2_with (first
    | (go_at_call 35; refine (HO.out _ _ HL.out).mono ?_; rintro e' w3 ⟨rfl, b3⟩; have HB3 := hid b3; have HS3 := hid (HS2.out.below b3); have HAT3 := hid (fun k (hk : k < s.length) => (b3.cell (p := ⟨gb, off + j * 32 + k, none⟩) HG.out).trans (HAT.out k hk)); clear b3)
    | (refine at_load87 rfl (.tmp 31) rfl gb (off + j * 32) rfl s HLE.out HAT3.out ?_)
    | ((with_reducible refine SB.at_store HS3.out rfl HLE.out ?_ ?_ ?_); rfl; rfl; intro w4 hs4 hk4))
  exact ret46 hs4 HLE.out rfl rfl rfl rfl ⟨rfl, hk4 _ _ (by have := HQ.out; omega) ((HB1.out.next HB2.out).next HB3.out)⟩
end Go.Proofs.YtokjlgebkihimaaGreat
namespace Go.Proofs.YtokjlgebkihimaaGreat
open Go.RowKit Go.Maps
set_option maxRecDepth 100000 in
theorem find_bad {p i : Value} {t : ByteArray} {w : World} {S : List (List UInt8)} {n : Int} (hn : n ≠ 0) (HS : SlotsAt p i w S) (HN : NameAt t n) : Calls Tryz.prog 15 #[p, i, .string t] w fun e' w' => e' = .returned (.tuple #[.int .i64 0, .int .i64 n]) ∧ Below w.heap.size w w' := by
  have HB0 := hid (search_bad hn HS HN)
  have hnb : (n != 0) = true := by simpa using hn
  clear HS HN hn
  go_enter Tryz.func15, Tryz.ntmps15
  go_wp2_with (first
    | (go_at_call 46; refine (HB0.out).mono ?_; rintro e' w2 ⟨rfl, b2⟩; have HB2 := hid b2; clear b2; have HZB : Hid (SB w2.heap.size (w2.alloc (.cells #[.int .u8 0, .int .u8 0, .int .u8 0, .int .u8 0, .int .u8 0, .int .u8 0, .int .u8 0, .int .u8 0, .int .u8 0, .int .u8 0, .int .u8 0, .int .u8 0, .int .u8 0, .int .u8 0, .int .u8 0, .int .u8 0, .int .u8 0, .int .u8 0, .int .u8 0, .int .u8 0, .int .u8 0, .int .u8 0, .int .u8 0, .int .u8 0, .int .u8 0, .int .u8 0, .int .u8 0, .int .u8 0, .int .u8 0, .int .u8 0, .int .u8 0, .int .u8 0] 87)) Z32) := hid (by unfold SB; rw [zero_cells]; exact box_at _ _); have HLA : Hid (Below w2.heap.size w2 (w2.alloc (.cells #[.int .u8 0, .int .u8 0, .int .u8 0, .int .u8 0, .int .u8 0, .int .u8 0, .int .u8 0, .int .u8 0, .int .u8 0, .int .u8 0, .int .u8 0, .int .u8 0, .int .u8 0, .int .u8 0, .int .u8 0, .int .u8 0, .int .u8 0, .int .u8 0, .int .u8 0, .int .u8 0, .int .u8 0, .int .u8 0, .int .u8 0, .int .u8 0, .int .u8 0, .int .u8 0, .int .u8 0, .int .u8 0, .int .u8 0, .int .u8 0, .int .u8 0, .int .u8 0] 87))) := hid (below_alloc _ _))
    | ((with_reducible refine SB.at_store HZB.out rfl (show Z32.length = 32 from rfl) ?_ ?_ ?_); rfl; rfl; intro w4 hs4 hk4; have HS4 := hid hs4; have HK4 := hid (hk4 _ _ (Nat.le_refl _) HLA.out); clear hs4 hk4))
  go_ret2
  exact ⟨rfl, HB2.out.next HK4.out⟩
set_option maxRecDepth 100000 in
theorem find_none {p i : Value} {t : ByteArray} {w : World} {S : List (List UInt8)} (hf : fst1 (hsN · t) S = -1) (HS : SlotsAt p i w S) (HN : NameAt t 0) : Calls Tryz.prog 15 #[p, i, .string t] w fun e' w' => e' = .returned (.tuple #[.int .i64 0, .int .i64 301]) ∧ Below w.heap.size w w' := by
  have HB0 := hid (search_none hf HS HN)
  clear HS HN hf
  go_enter Tryz.func15, Tryz.ntmps15
  go_wp2_with (first
    | (go_at_call 46; refine (HB0.out).mono ?_; rintro e' w2 ⟨rfl, b2⟩; have HB2 := hid b2; clear b2; have HZB : Hid (SB w2.heap.size (w2.alloc (.cells #[.int .u8 0, .int .u8 0, .int .u8 0, .int .u8 0, .int .u8 0, .int .u8 0, .int .u8 0, .int .u8 0, .int .u8 0, .int .u8 0, .int .u8 0, .int .u8 0, .int .u8 0, .int .u8 0, .int .u8 0, .int .u8 0, .int .u8 0, .int .u8 0, .int .u8 0, .int .u8 0, .int .u8 0, .int .u8 0, .int .u8 0, .int .u8 0, .int .u8 0, .int .u8 0, .int .u8 0, .int .u8 0, .int .u8 0, .int .u8 0, .int .u8 0, .int .u8 0] 87)) Z32) := hid (by unfold SB; rw [zero_cells]; exact box_at _ _); have HLA : Hid (Below w2.heap.size w2 (w2.alloc (.cells #[.int .u8 0, .int .u8 0, .int .u8 0, .int .u8 0, .int .u8 0, .int .u8 0, .int .u8 0, .int .u8 0, .int .u8 0, .int .u8 0, .int .u8 0, .int .u8 0, .int .u8 0, .int .u8 0, .int .u8 0, .int .u8 0, .int .u8 0, .int .u8 0, .int .u8 0, .int .u8 0, .int .u8 0, .int .u8 0, .int .u8 0, .int .u8 0, .int .u8 0, .int .u8 0, .int .u8 0, .int .u8 0, .int .u8 0, .int .u8 0, .int .u8 0, .int .u8 0] 87))) := hid (below_alloc _ _))
    | ((with_reducible refine SB.at_store HZB.out rfl (show Z32.length = 32 from rfl) ?_ ?_ ?_); rfl; rfl; intro w4 hs4 hk4; have HS4 := hid hs4; have HK4 := hid (hk4 _ _ (Nat.le_refl _) HLA.out); clear hs4 hk4))
  go_ret2
  exact ⟨rfl, HB2.out.next HK4.out⟩
set_option maxRecDepth 100000 in
theorem find_yes {p i : Value} {t : ByteArray} {w : World} {S : List (List UInt8)} {j : Nat} (hall : ∀ s ∈ S, s.length = 32) (hj : j < S.length) (hf : fst1 (hsN · t) S = (j : Int)) (HS : SlotsAt p i w S) (HN : NameAt t 0) : Calls Tryz.prog 15 #[p, i, .string t] w fun e' w' => e' = .returned (.tuple #[.int .i64 (ino (S[j]'hj) : Int), .int .i64 0]) ∧ Below w.heap.size w w' := by
  have HB0 := hid (search_yes hj hf HS HN)
  have HLE := hid (hall _ (List.getElem_mem hj))
  obtain ⟨s, hs⟩ : ∃ s, s = S[j]'hj := ⟨_, rfl⟩
  rw [← hs] at HB0 HLE ⊢
  have HI := hid (inode_slot s HLE.out)
  clear HS HN hf hall hs
  go_enter Tryz.func15, Tryz.ntmps15
  go_wp2_with (first
    | (go_at_call 46; refine (HB0.out).mono ?_; rintro e' w2 ⟨rfl, b2⟩; have HB2 := hid b2; clear b2; have HZB : Hid (SB w2.heap.size (w2.alloc (.cells #[.int .u8 0, .int .u8 0, .int .u8 0, .int .u8 0, .int .u8 0, .int .u8 0, .int .u8 0, .int .u8 0, .int .u8 0, .int .u8 0, .int .u8 0, .int .u8 0, .int .u8 0, .int .u8 0, .int .u8 0, .int .u8 0, .int .u8 0, .int .u8 0, .int .u8 0, .int .u8 0, .int .u8 0, .int .u8 0, .int .u8 0, .int .u8 0, .int .u8 0, .int .u8 0, .int .u8 0, .int .u8 0, .int .u8 0, .int .u8 0, .int .u8 0, .int .u8 0] 87)) Z32) := hid (by unfold SB; rw [zero_cells]; exact box_at _ _); have HLA : Hid (Below w2.heap.size w2 (w2.alloc (.cells #[.int .u8 0, .int .u8 0, .int .u8 0, .int .u8 0, .int .u8 0, .int .u8 0, .int .u8 0, .int .u8 0, .int .u8 0, .int .u8 0, .int .u8 0, .int .u8 0, .int .u8 0, .int .u8 0, .int .u8 0, .int .u8 0, .int .u8 0, .int .u8 0, .int .u8 0, .int .u8 0, .int .u8 0, .int .u8 0, .int .u8 0, .int .u8 0, .int .u8 0, .int .u8 0, .int .u8 0, .int .u8 0, .int .u8 0, .int .u8 0, .int .u8 0, .int .u8 0] 87))) := hid (below_alloc _ _))
    | ((with_reducible refine SB.at_store HZB.out rfl HLE.out ?_ ?_ ?_); rfl; rfl; intro w4 hs4 hk4; have HS4 := hid hs4; have HK4 := hid (hk4 _ _ (Nat.le_refl _) HLA.out); clear hs4 hk4)
    | (refine SB.at HS4.out HLE.out rfl (.tmp 8) rfl rfl ?_)
    | (go_at_call 47; refine (HI.out _).mono ?_; rintro e' w5 ⟨rfl, b5⟩; have HB5 := hid b5; clear b5))
  go_ret2
  exact ⟨rfl, (HB2.out.next HK4.out).next HB5.out⟩
end Go.Proofs.YtokjlgebkihimaaGreat
namespace Go.Proofs.YtokjlgebkihimaaGreat
open Go.RowKit Go.Maps

set_option maxRecDepth 100000 in
theorem write_with {p i : Value} {at_ : Nat} (s : List UInt8) (hs : s.length = 32) (ha : at_ ≤ 100000) {n : Int} {w : World} {post : World → Prop}
    (HW : Hid (∀ W, Below w.heap.size w W → Calls Tryz.prog 71 #[p, i, .int .i64 ((at_ * 32 : Nat) : Int), .string (st s)] W fun e' w' => e' = .returned (.int .i64 n) ∧ post w')) :
    Calls Tryz.prog 38 #[p, i, .int .i64 (at_ : Int), sv s] w fun e' w' => e' = .returned (.int .i64 n) ∧ post w' := by
  have HB : SB w.heap.size (w.alloc (.cells (bc s).toArray 87)) s := box_at _ _
  have hm : ((at_ : Int) * 32) = ((at_ * 32 : Nat) : Int) := by omega
  have HM := hid hm
  have HLE := hid hs
  have hcv := HB.conv hs 0 32 32 (by omega)
  rw [List.drop_zero, List.take_of_length_le (by omega)] at hcv
  have HC := hid hcv
  have hsl := slice_a w.heap.size
  have HA := hid (below_alloc w (.cells (bc s).toArray 87))
  obtain ⟨z, hz⟩ : ∃ z, z = st s := ⟨_, rfl⟩
  rw [← hz] at HW HC
  clear HB hcv hm hs
  unfold sv
  go_enter Tryz.func38, Tryz.ntmps38
  go_upto_region 1 with fail
  have hcv := HC.out
  obtain ⟨w1, hw1⟩ : ∃ w1, w1 = w.alloc (.cells (bc s).toArray 87) := ⟨_, rfl⟩
  rw [← hw1] at HA hcv ⊢
  clear hz hw1 HC
  go_wp2_with (go_at_call 71; (try rw [HM.out]); refine (HW.out _ HA.out).mono ?_; rintro e' w2 ⟨rfl, hp⟩; have HP := hid hp; clear hp)
  go_ret
  exact ⟨rfl, HP.out⟩
end Go.Proofs.YtokjlgebkihimaaGreat
namespace Go.Proofs.YtokjlgebkihimaaGreat
open Go.RowKit Go.Maps

/-- what lies between b and W's end stays -/
def KeptS (b : Nat) (W w' : World) : Prop := ∀ q, b ≤ q → q < W.heap.size → w'.heap[q]? = W.heap[q]?
set_option maxRecDepth 100000 in
theorem taken_bad {p i : Value} {t : ByteArray} {w : World} {S : List (List UInt8)} {n : Int} (hn : n ≠ 0) (HS : SlotsAt p i w S) (HN : NameAt t n) : Calls Tryz.prog 13 #[p, i, .string t] w fun e' w' => e' = .returned (.tuple #[.int .i64 0, .int .i64 n]) ∧ Below w.heap.size w w' := by
  have HB0 := hid (search_bad hn HS HN)
  have hnb : (n != 0) = true := by simpa using hn
  clear HS HN hn
  go_enter Tryz.func13, Tryz.ntmps13
  go_wp2_with (first
    | (go_at_call 46; refine (HB0.out).mono ?_; rintro e' w2 ⟨rfl, b2⟩; have HB2 := hid b2; clear b2; have HZB : Hid (SB w2.heap.size (w2.alloc (.cells #[.int .u8 0, .int .u8 0, .int .u8 0, .int .u8 0, .int .u8 0, .int .u8 0, .int .u8 0, .int .u8 0, .int .u8 0, .int .u8 0, .int .u8 0, .int .u8 0, .int .u8 0, .int .u8 0, .int .u8 0, .int .u8 0, .int .u8 0, .int .u8 0, .int .u8 0, .int .u8 0, .int .u8 0, .int .u8 0, .int .u8 0, .int .u8 0, .int .u8 0, .int .u8 0, .int .u8 0, .int .u8 0, .int .u8 0, .int .u8 0, .int .u8 0, .int .u8 0] 87)) Z32) := hid (by unfold SB; rw [zero_cells]; exact box_at _ _); have HLA : Hid (Below w2.heap.size w2 (w2.alloc (.cells #[.int .u8 0, .int .u8 0, .int .u8 0, .int .u8 0, .int .u8 0, .int .u8 0, .int .u8 0, .int .u8 0, .int .u8 0, .int .u8 0, .int .u8 0, .int .u8 0, .int .u8 0, .int .u8 0, .int .u8 0, .int .u8 0, .int .u8 0, .int .u8 0, .int .u8 0, .int .u8 0, .int .u8 0, .int .u8 0, .int .u8 0, .int .u8 0, .int .u8 0, .int .u8 0, .int .u8 0, .int .u8 0, .int .u8 0, .int .u8 0, .int .u8 0, .int .u8 0] 87))) := hid (below_alloc _ _))
    | ((with_reducible refine SB.at_store HZB.out rfl (show Z32.length = 32 from rfl) ?_ ?_ ?_); rfl; rfl; intro w4 hs4 hk4; have HS4 := hid hs4; have HK4 := hid (HB2.out.next (hk4 _ _ (Nat.le_refl _) HLA.out)); clear hs4 hk4))
  go_ret2
  exact ⟨rfl, HK4.out⟩
set_option maxRecDepth 100000 in
theorem taken_none {p i : Value} {t : ByteArray} {w : World} {S : List (List UInt8)} (hf : fst1 (hsN · t) S = -1) (HS : SlotsAt p i w S) (HN : NameAt t 0) : Calls Tryz.prog 13 #[p, i, .string t] w fun e' w' => e' = .returned (.tuple #[.int .i64 0, .int .i64 301]) ∧ Below w.heap.size w w' := by
  have HB0 := hid (search_none hf HS HN)
  clear HS HN hf
  go_enter Tryz.func13, Tryz.ntmps13
  go_wp2_with (first
    | (go_at_call 46; refine (HB0.out).mono ?_; rintro e' w2 ⟨rfl, b2⟩; have HB2 := hid b2; clear b2; have HZB : Hid (SB w2.heap.size (w2.alloc (.cells #[.int .u8 0, .int .u8 0, .int .u8 0, .int .u8 0, .int .u8 0, .int .u8 0, .int .u8 0, .int .u8 0, .int .u8 0, .int .u8 0, .int .u8 0, .int .u8 0, .int .u8 0, .int .u8 0, .int .u8 0, .int .u8 0, .int .u8 0, .int .u8 0, .int .u8 0, .int .u8 0, .int .u8 0, .int .u8 0, .int .u8 0, .int .u8 0, .int .u8 0, .int .u8 0, .int .u8 0, .int .u8 0, .int .u8 0, .int .u8 0, .int .u8 0, .int .u8 0] 87)) Z32) := hid (by unfold SB; rw [zero_cells]; exact box_at _ _); have HLA : Hid (Below w2.heap.size w2 (w2.alloc (.cells #[.int .u8 0, .int .u8 0, .int .u8 0, .int .u8 0, .int .u8 0, .int .u8 0, .int .u8 0, .int .u8 0, .int .u8 0, .int .u8 0, .int .u8 0, .int .u8 0, .int .u8 0, .int .u8 0, .int .u8 0, .int .u8 0, .int .u8 0, .int .u8 0, .int .u8 0, .int .u8 0, .int .u8 0, .int .u8 0, .int .u8 0, .int .u8 0, .int .u8 0, .int .u8 0, .int .u8 0, .int .u8 0, .int .u8 0, .int .u8 0, .int .u8 0, .int .u8 0] 87))) := hid (below_alloc _ _))
    | ((with_reducible refine SB.at_store HZB.out rfl (show Z32.length = 32 from rfl) ?_ ?_ ?_); rfl; rfl; intro w4 hs4 hk4; have HS4 := hid hs4; have HK4 := hid (HB2.out.next (hk4 _ _ (Nat.le_refl _) HLA.out)); clear hs4 hk4))
  go_ret2
  exact ⟨rfl, HK4.out⟩
set_option maxRecDepth 100000 in
theorem taken_yes {p i : Value} {t : ByteArray} {w : World} {S : List (List UInt8)} {j : Nat} {post : World → Prop} (hall : ∀ s ∈ S, s.length = 32) (hj : j < S.length) (hl : S.length ≤ 100000) (hf : fst1 (hsN · t) S = (j : Int)) (HS : SlotsAt p i w S) (HN : NameAt t 0)
    (hpost : ∀ w1 w2, post w1 → Below w1.heap.size w1 w2 → post w2)
    (HW : ∀ W, Below w.heap.size w W → Calls Tryz.prog 71 #[p, i, .int .i64 ((j * 32 : Nat) : Int), .string (st Z32)] W fun e' w' => e' = .returned (.int .i64 0) ∧ KeptS w.heap.size W w' ∧ post w') :
    Calls Tryz.prog 13 #[p, i, .string t] w fun e' w' => e' = .returned (.tuple #[.int .i64 (ino (S[j]'hj) : Int), .int .i64 0]) ∧ post w' := by
  have HB0 := hid (search_yes hj hf HS HN)
  have HLE := hid (hall _ (List.getElem_mem hj))
  have HWR : Hid (∀ W, Below w.heap.size w W → Calls Tryz.prog 38 #[p, i, .int .i64 (j : Int), sv Z32] W fun e' w' => e' = .returned (.int .i64 0) ∧ KeptS w.heap.size W w' ∧ post w') := hid (fun W hW => write_with Z32 rfl (by omega) (hid (fun W' hW' => (HW W' (hW.next hW')).mono fun e' w' ⟨h1, h2, h3⟩ => ⟨h1, fun q k1 k2 => (h2 q k1 (Nat.lt_of_lt_of_le k2 hW'.size)).trans (hW'.block q k2), h3⟩)))
  have HP0 := hid hpost
  obtain ⟨s, hs⟩ : ∃ s, s = S[j]'hj := ⟨_, rfl⟩
  rw [← hs] at HB0 HLE ⊢
  have HI := hid (inode_slot s HLE.out)
  clear HS HN hf hall hs HW hpost
  go_enter Tryz.func13, Tryz.ntmps13
  go_wp2_with (first
    | (go_at_call 46; refine (HB0.out).mono ?_; rintro e' w2 ⟨rfl, b2⟩; have HB2 := hid b2; clear b2; have HZB : Hid (SB w2.heap.size (w2.alloc (.cells #[.int .u8 0, .int .u8 0, .int .u8 0, .int .u8 0, .int .u8 0, .int .u8 0, .int .u8 0, .int .u8 0, .int .u8 0, .int .u8 0, .int .u8 0, .int .u8 0, .int .u8 0, .int .u8 0, .int .u8 0, .int .u8 0, .int .u8 0, .int .u8 0, .int .u8 0, .int .u8 0, .int .u8 0, .int .u8 0, .int .u8 0, .int .u8 0, .int .u8 0, .int .u8 0, .int .u8 0, .int .u8 0, .int .u8 0, .int .u8 0, .int .u8 0, .int .u8 0] 87)) Z32) := hid (by unfold SB; rw [zero_cells]; exact box_at _ _); have HLA : Hid (Below w2.heap.size w2 (w2.alloc (.cells #[.int .u8 0, .int .u8 0, .int .u8 0, .int .u8 0, .int .u8 0, .int .u8 0, .int .u8 0, .int .u8 0, .int .u8 0, .int .u8 0, .int .u8 0, .int .u8 0, .int .u8 0, .int .u8 0, .int .u8 0, .int .u8 0, .int .u8 0, .int .u8 0, .int .u8 0, .int .u8 0, .int .u8 0, .int .u8 0, .int .u8 0, .int .u8 0, .int .u8 0, .int .u8 0, .int .u8 0, .int .u8 0, .int .u8 0, .int .u8 0, .int .u8 0, .int .u8 0] 87))) := hid (below_alloc _ _))
    | ((with_reducible refine SB.at_store HZB.out rfl HLE.out ?_ ?_ ?_); rfl; rfl; intro w4 hs4 hk4; have HS4 := hid hs4; have HK4 := hid (HB2.out.next (hk4 _ _ (Nat.le_refl _) HLA.out)); clear hs4 hk4)
    | (refine at_build0 rfl rfl ?_)
    | (go_at_call 38; refine (HWR.out _ HK4.out).mono ?_; rintro e' w6 ⟨rfl, hk6, hp6⟩; have HP6 := hid hp6; have HS6 := hid ((hk6 _ HB2.out.size HS4.out.lt).trans HS4.out); clear hp6 hk6)
    | (refine SB.at (show SB _ _ _ from HS6.out) HLE.out rfl (.tmp 8) rfl rfl ?_)
    | (go_at_call 47; refine (HI.out _).mono ?_; rintro e' w5 ⟨rfl, b5⟩; have HP7 := hid (HP0.out _ _ HP6.out b5); clear b5))
  go_ret2
  exact ⟨rfl, HP7.out⟩
set_option maxRecDepth 100000 in
theorem taken_fails {p i : Value} {t : ByteArray} {w : World} {S : List (List UInt8)} {j : Nat} {post : World → Prop} {n : Int} (hn : n ≠ 0) (hall : ∀ s ∈ S, s.length = 32) (hj : j < S.length) (hl : S.length ≤ 100000) (hf : fst1 (hsN · t) S = (j : Int)) (HS : SlotsAt p i w S) (HN : NameAt t 0)
    (hpost : ∀ w1 w2, post w1 → Below w1.heap.size w1 w2 → post w2)
    (HW : ∀ W, Below w.heap.size w W → Calls Tryz.prog 71 #[p, i, .int .i64 ((j * 32 : Nat) : Int), .string (st Z32)] W fun e' w' => e' = .returned (.int .i64 n) ∧ KeptS w.heap.size W w' ∧ post w') :
    Calls Tryz.prog 13 #[p, i, .string t] w fun e' w' => e' = .returned (.tuple #[.int .i64 0, .int .i64 n]) ∧ post w' := by
  have HB0 := hid (search_yes hj hf HS HN)
  have HLE := hid (hall _ (List.getElem_mem hj))
  have HWR : Hid (∀ W, Below w.heap.size w W → Calls Tryz.prog 38 #[p, i, .int .i64 (j : Int), sv Z32] W fun e' w' => e' = .returned (.int .i64 n) ∧ KeptS w.heap.size W w' ∧ post w') := hid (fun W hW => write_with Z32 rfl (by omega) (hid (fun W' hW' => (HW W' (hW.next hW')).mono fun e' w' ⟨h1, h2, h3⟩ => ⟨h1, fun q k1 k2 => (h2 q k1 (Nat.lt_of_lt_of_le k2 hW'.size)).trans (hW'.block q k2), h3⟩)))
  have HP0 := hid hpost
  obtain ⟨s, hs⟩ : ∃ s, s = S[j]'hj := ⟨_, rfl⟩
  rw [← hs] at HB0 HLE
  have HI := hid (inode_slot s HLE.out)
  have hnb : (n != 0) = true := by simpa using hn
  clear hn
  clear HS HN hf hall hs HW hpost
  go_enter Tryz.func13, Tryz.ntmps13
  go_wp2_with (first
    | (go_at_call 46; refine (HB0.out).mono ?_; rintro e' w2 ⟨rfl, b2⟩; have HB2 := hid b2; clear b2; have HZB : Hid (SB w2.heap.size (w2.alloc (.cells #[.int .u8 0, .int .u8 0, .int .u8 0, .int .u8 0, .int .u8 0, .int .u8 0, .int .u8 0, .int .u8 0, .int .u8 0, .int .u8 0, .int .u8 0, .int .u8 0, .int .u8 0, .int .u8 0, .int .u8 0, .int .u8 0, .int .u8 0, .int .u8 0, .int .u8 0, .int .u8 0, .int .u8 0, .int .u8 0, .int .u8 0, .int .u8 0, .int .u8 0, .int .u8 0, .int .u8 0, .int .u8 0, .int .u8 0, .int .u8 0, .int .u8 0, .int .u8 0] 87)) Z32) := hid (by unfold SB; rw [zero_cells]; exact box_at _ _); have HLA : Hid (Below w2.heap.size w2 (w2.alloc (.cells #[.int .u8 0, .int .u8 0, .int .u8 0, .int .u8 0, .int .u8 0, .int .u8 0, .int .u8 0, .int .u8 0, .int .u8 0, .int .u8 0, .int .u8 0, .int .u8 0, .int .u8 0, .int .u8 0, .int .u8 0, .int .u8 0, .int .u8 0, .int .u8 0, .int .u8 0, .int .u8 0, .int .u8 0, .int .u8 0, .int .u8 0, .int .u8 0, .int .u8 0, .int .u8 0, .int .u8 0, .int .u8 0, .int .u8 0, .int .u8 0, .int .u8 0, .int .u8 0] 87))) := hid (below_alloc _ _))
    | ((with_reducible refine SB.at_store HZB.out rfl HLE.out ?_ ?_ ?_); rfl; rfl; intro w4 hs4 hk4; have HS4 := hid hs4; have HK4 := hid (HB2.out.next (hk4 _ _ (Nat.le_refl _) HLA.out)); clear hs4 hk4)
    | (refine at_build0 rfl rfl ?_)
    | (go_at_call 38; refine (HWR.out _ HK4.out).mono ?_; rintro e' w6 ⟨rfl, hk6, hp6⟩; have HP6 := hid hp6; have HS6 := hid ((hk6 _ HB2.out.size HS4.out.lt).trans HS4.out); clear hp6 hk6))
  go_ret2
  exact ⟨rfl, HP6.out⟩
end Go.Proofs.YtokjlgebkihimaaGreat
namespace Go.Proofs.YtokjlgebkihimaaGreat
open Go.RowKit Go.Maps
set_option maxRecDepth 100000 in
theorem putn_bad {p i : Value} {t : ByteArray} {tn : Int} {w : World} {S : List (List UInt8)} {n : Int} (hn : n ≠ 0) (HS : SlotsAt p i w S) (HN : NameAt t n) : Calls Tryz.prog 11 #[p, i, .string t, .int .i64 tn] w fun e' w' => e' = .returned (.int .i64 n) ∧ Below w.heap.size w w' := by
  have HB0 := hid (for_bad hn HS HN)
  have hnb : (n != 0) = true := by simpa using hn
  clear HS HN hn
  go_enter Tryz.func11, Tryz.ntmps11
  go_wp2_with (go_at_call 34; refine (HB0.out).mono ?_; rintro e' w2 ⟨rfl, b2⟩; have HB2 := hid b2; clear b2)
  go_ret
  exact ⟨rfl, HB2.out⟩
set_option maxRecDepth 100000 in
theorem putn_low {p i : Value} {t : ByteArray} {tn : Int} {w : World} {S : List (List UInt8)} (ht : tn < 1) (HS : SlotsAt p i w S) (HN : NameAt t 0) : Calls Tryz.prog 11 #[p, i, .string t, .int .i64 tn] w fun e' w' => e' = .returned (.int .i64 1) ∧ Below w.heap.size w w' := by
  have HF := hid (for_ok HS HN)
  have h1 : decide (tn < 1) = true := decide_eq_true ht
  clear HS HN ht
  go_enter Tryz.func11, Tryz.ntmps11
  go_wp2_with (go_at_call 34; refine (HF.out).mono ?_; rintro e' w2 ⟨v, rfl, hl, b2⟩; have HL := hid hl.lie; have HB2 := hid b2; obtain ⟨ao, cap, rfl, hc1, hc2⟩ := hl.sl; clear b2 hl)
  go_ret
  exact ⟨rfl, HB2.out⟩
set_option maxRecDepth 100000 in
theorem putn_high {p i : Value} {t : ByteArray} {tn : Int} {w : World} {S : List (List UInt8)} (ht : 63 < tn) (HS : SlotsAt p i w S) (HN : NameAt t 0) : Calls Tryz.prog 11 #[p, i, .string t, .int .i64 tn] w fun e' w' => e' = .returned (.int .i64 1) ∧ Below w.heap.size w w' := by
  have HF := hid (for_ok HS HN)
  have h1 : decide (tn < 1) = false := decide_eq_false (by omega)
  have h2 : decide (64 ≤ tn) = true := decide_eq_true (by omega)
  clear HS HN ht
  go_enter Tryz.func11, Tryz.ntmps11
  go_wp2_with (go_at_call 34; refine (HF.out).mono ?_; rintro e' w2 ⟨v, rfl, hl, b2⟩; have HL := hid hl.lie; have HB2 := hid b2; obtain ⟨ao, cap, rfl, hc1, hc2⟩ := hl.sl; clear b2 hl)
  go_ret
  exact ⟨rfl, HB2.out⟩
set_option maxRecDepth 100000 in
theorem putn_there {p i : Value} {t : ByteArray} {tn : Int} {w : World} {S : List (List UInt8)} {j : Nat} (h1 : 1 ≤ tn) (h2 : tn < 64) (hf : fst1 (hsN · t) S = (j : Int)) (HS : SlotsAt p i w S) (HN : NameAt t 0) : Calls Tryz.prog 11 #[p, i, .string t, .int .i64 tn] w fun e' w' => e' = .returned (.int .i64 302) ∧ Below w.heap.size w w' := by
  have HF := hid (for_ok HS HN)
  have HO := hid (fun (v : Value) (W : World) (h : LLie W v S) => first_of t h)
  rw [hf] at HO
  have hr1 : decide (tn < 1) = false := decide_eq_false (by omega)
  have hr2 : decide (64 ≤ tn) = false := decide_eq_false (by omega)
  have hjj : ((j : Int) != -1) = true := by simp <;> omega
  clear HS HN hf h1 h2
  go_enter Tryz.func11, Tryz.ntmps11
  go_wp2_with (first
    | (go_at_call 34; refine (HF.out).mono ?_; rintro e' w2 ⟨v, rfl, hl, b2⟩; have HL := hid hl.lie; have HB2 := hid b2; obtain ⟨ao, cap, rfl, hc1, hc2⟩ := hl.sl; clear b2 hl)
    | (go_at_call 35; refine (HO.out _ _ HL.out).mono ?_; rintro e' w3 ⟨rfl, b3⟩; have HB3 := hid b3; clear b3))
  go_ret
  exact ⟨rfl, HB2.out.next HB3.out⟩
set_option maxRecDepth 100000 in
set_option maxHeartbeats 1000000 in
theorem putn_free {p i : Value} {t : ByteArray} {tn : Nat} {w : World} {S : List (List UInt8)} {k : Nat} (hk : fst1 freeB S = (k : Int)) (hk2 : k ≤ 100000) {n : Int} {post : World → Prop} (h1 : 1 ≤ tn) (h2 : tn < 64) (h24 : t.size ≤ 24) (hf : fst1 (hsN · t) S = -1) (HS : SlotsAt p i w S) (HN : NameAt t 0)
    (HW : ∀ W, Below w.heap.size w W → Calls Tryz.prog 71 #[p, i, .int .i64 ((k * 32 : Nat) : Int), .string (st (newS t tn))] W fun e' w' => e' = .returned (.int .i64 n) ∧ post w') :
    Calls Tryz.prog 11 #[p, i, .string t, .int .i64 (tn : Int)] w fun e' w' => e' = .returned (.int .i64 n) ∧ post w' := by
  have HF := hid (for_ok HS HN)
  have HO := hid (fun (v : Value) (W : World) (h : LLie W v S) => first_of t h)
  have HX := hid (fun (v : Value) (W : World) (h : LLie W v S) => index_free h)
  rw [hf] at HO
  rw [hk] at HX
  have HNS := hid (new_slot t tn h2 h24)
  have HWR : Hid (∀ W, Below w.heap.size w W → Calls Tryz.prog 38 #[p, i, .int .i64 (k : Int), sv (newS t tn)] W fun e' w' => e' = .returned (.int .i64 n) ∧ post w') := hid (fun W hW => write_with (newS t tn) (newS_len t tn) (by omega) (hid (fun W' hW' => HW W' (hW.next hW'))))
  have hr1 : decide ((tn : Int) < 1) = false := decide_eq_false (by omega)
  have hr2 : decide (64 ≤ (tn : Int)) = false := decide_eq_false (by omega)
  have hkk : ((k : Int) == -1) = false := by simp <;> omega
  clear HS HN hf hk hk2 HW h1 h2 h24
  obtain ⟨ns, hns⟩ : ∃ ns, ns = newS t tn := ⟨_, rfl⟩
  rw [← hns] at HNS HWR
  clear hns
  obtain ⟨tv, hto⟩ : ∃ tv : Int, tv = (tn : Int) := ⟨_, rfl⟩
  rw [← hto] at HNS hr1 hr2 ⊢
  clear hto
  go_enter Tryz.func11, Tryz.ntmps11
  go_wp2_with (first
    | (go_at_call 34; refine (HF.out).mono ?_; rintro e' w2 ⟨v, rfl, hl, b2⟩; have HL := hid hl.lie; have HB2 := hid b2; obtain ⟨ao, cap, rfl, hc1, hc2⟩ := hl.sl; clear b2 hl)
    | (go_at_call 35; refine (HO.out _ _ HL.out).mono ?_; rintro e' w3 ⟨rfl, b3⟩; have HL3 := hid (HL.out.below b3); have HB3 := hid (HB2.out.next b3); clear b3)
    | (go_at_call 36; refine (HX.out _ _ HL3.out).mono ?_; rintro e' w4 ⟨rfl, b4⟩; have HB4 := hid (HB3.out.next b4); clear b4)
    | (go_at_call 39; refine (HNS.out _).mono ?_; rintro e' w5 ⟨rfl, b5⟩; have HB5 := hid (HB4.out.next b5); clear b5)
    | (go_at_call 38; refine (HWR.out _ HB5.out).mono ?_; rintro e' w6 ⟨rfl, hp6⟩; have HP6 := hid hp6; clear hp6))
  go_ret
  exact ⟨rfl, HP6.out⟩
set_option maxRecDepth 100000 in
set_option maxHeartbeats 1000000 in
theorem putn_end {p i : Value} {t : ByteArray} {tn : Nat} {w : World} {S : List (List UInt8)} (hk : fst1 freeB S = -1) (hk2 : S.length ≤ 100000) {n : Int} {post : World → Prop} (h1 : 1 ≤ tn) (h2 : tn < 64) (h24 : t.size ≤ 24) (hf : fst1 (hsN · t) S = -1) (HS : SlotsAt p i w S) (HN : NameAt t 0)
    (HW : ∀ W, Below w.heap.size w W → Calls Tryz.prog 71 #[p, i, .int .i64 ((S.length * 32 : Nat) : Int), .string (st (newS t tn))] W fun e' w' => e' = .returned (.int .i64 n) ∧ post w') :
    Calls Tryz.prog 11 #[p, i, .string t, .int .i64 (tn : Int)] w fun e' w' => e' = .returned (.int .i64 n) ∧ post w' := by
  have HF := hid (for_ok HS HN)
  have HO := hid (fun (v : Value) (W : World) (h : LLie W v S) => first_of t h)
  have HX := hid (fun (v : Value) (W : World) (h : LLie W v S) => index_free h)
  rw [hf] at HO
  rw [hk] at HX
  have HNS := hid (new_slot t tn h2 h24)
  have HWR : Hid (∀ W, Below w.heap.size w W → Calls Tryz.prog 38 #[p, i, .int .i64 (S.length : Int), sv (newS t tn)] W fun e' w' => e' = .returned (.int .i64 n) ∧ post w') := hid (fun W hW => write_with (newS t tn) (newS_len t tn) (by omega) (hid (fun W' hW' => HW W' (hW.next hW'))))
  have hr1 : decide ((tn : Int) < 1) = false := decide_eq_false (by omega)
  have hr2 : decide (64 ≤ (tn : Int)) = false := decide_eq_false (by omega)
  have HNL : Hid (S.length ≤ 100000) := hid hk2
  clear HS HN hf hk hk2 HW h1 h2 h24
  obtain ⟨ns, hns⟩ : ∃ ns, ns = newS t tn := ⟨_, rfl⟩
  rw [← hns] at HNS HWR
  clear hns
  obtain ⟨tv, hto⟩ : ∃ tv : Int, tv = (tn : Int) := ⟨_, rfl⟩
  rw [← hto] at HNS hr1 hr2 ⊢
  clear hto
  go_enter Tryz.func11, Tryz.ntmps11
  go_wp2_with (first
    | (go_at_call 34; refine (HF.out).mono ?_; rintro e' w2 ⟨v, rfl, hl, b2⟩; have HL := hid hl.lie; have HB2 := hid b2; obtain ⟨ao, cap, rfl, hc1, hc2⟩ := hl.sl; clear b2 hl)
    | (go_at_call 35; refine (HO.out _ _ HL.out).mono ?_; rintro e' w3 ⟨rfl, b3⟩; have HL3 := hid (HL.out.below b3); have HB3 := hid (HB2.out.next b3); clear b3)
    | (go_at_call 36; refine (HX.out _ _ HL3.out).mono ?_; rintro e' w4 ⟨rfl, b4⟩; have HB4 := hid (HB3.out.next b4); clear b4)
    | (go_at_call 39; refine (HNS.out _).mono ?_; rintro e' w5 ⟨rfl, b5⟩; have HB5 := hid (HB4.out.next b5); clear b5)
    | (go_at_call 38; refine (HWR.out _ HB5.out).mono ?_; rintro e' w6 ⟨rfl, hp6⟩; have HP6 := hid hp6; clear hp6))
  go_ret
  exact ⟨rfl, HP6.out⟩
end Go.Proofs.YtokjlgebkihimaaGreat
