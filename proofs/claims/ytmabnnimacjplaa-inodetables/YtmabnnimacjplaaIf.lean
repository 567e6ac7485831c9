import Derived.Test.YtmabnnimacjplaaIe
import Derived.Deep.RegionHeld3
namespace Go.Proofs.Ytmabnnimacjplaa
open Go.RowKit

theorem cat_list (a b : ByteArray) : (a ++ b).data.toList = a.data.toList ++ b.data.toList := by simp
/-- a number's bytes -/
def fx (n k : Int) : ByteArray := st (fEnc n.toNat k.toNat)
theorem fx_any (n k : Int) (h0 : 0 ≤ n) (h1 : n ≤ 9223372036854775807) (h2 : 0 ≤ k) (h3 : k ≤ 8) (w : World) : Calls Try.prog 33 #[.int .i64 n, .int .i64 k] w fun e w' => e = .returned (.string (fx n k)) ∧ Below w.heap.size w w' := by
  obtain ⟨n, rfl⟩ : ∃ m : Nat, n = m := ⟨n.toNat, by omega⟩
  obtain ⟨k, rfl⟩ : ∃ m : Nat, k = m := ⟨k.toNat, by omega⟩
  exact refFixed n k (by omega) (by omega) w
theorem fx_size (n k : Int) : (fx n k).size = k.toNat := by unfold fx; rw [st_size, fEnc_len]
theorem renc_out (k l z a b c d e f s t : Nat) : fx k 1 ++ fx l 1 ++ fx z 4 ++ fx a 2 ++ fx b 2 ++ fx c 2 ++ fx d 2 ++ fx e 2 ++ fx f 2 ++ fx s 2 ++ fx t 2 ++ Z10 = st (encN k l z a b c d e f s t) := by
  apply ByteArray.ext
  simp [st, encN, Z10, fx]
theorem Box.below {q : Nat} {w w' : World} {n : Ino} (h : Box q w n) (k : Below w.heap.size w w') : Box q w' n := (k.block q (lt_of_block h)).trans h
set_option maxRecDepth 100000 in
set_option maxHeartbeats 4000000 in
theorem rencode_ok (k l z a b c d e f s t : Nat) (hr : rightI ⟨k, l, z, a, b, c, d, e, f, s, t⟩ = true) (hk : k < 256) (hl : l < 256) (hz : z < 4294967296) (ha : a < 65536) (hb : b < 65536) (hc : c < 65536) (hd : d < 65536) (he : e < 65536) (hf : f < 65536) (hs : s < 65536) (ht : t < 65536) (w : World) :
    Calls Try.prog 10 #[Ino.v ⟨k, l, z, a, b, c, d, e, f, s, t⟩] w fun x w' => x = .returned (.tuple #[.string (st (encN k l z a b c d e f s t)), .int .i64 0]) ∧ Below w.heap.size w w' := by
  have HC := hid (rright_any ⟨k, l, z, a, b, c, d, e, f, s, t⟩)
  rw [hr] at HC
  have HO := hid (renc_out k l z a b c d e f s t)
  obtain ⟨post, hpost⟩ : ∃ x, x = st (encN k l z a b c d e f s t) := ⟨_, rfl⟩
  rw [← hpost] at HO ⊢
  clear hpost hr
  have HF : Hid ((k < 256 ∧ l < 256 ∧ z < 4294967296) ∧ (a < 65536 ∧ b < 65536 ∧ c < 65536 ∧ d < 65536 ∧ e < 65536 ∧ f < 65536 ∧ s < 65536 ∧ t < 65536)) := ⟨⟨hk, hl, hz⟩, ha, hb, hc, hd, he, hf, hs, ht⟩
  clear hk hl hz ha hb hc hd he hf hs ht
  have hv := z10_size
  have HZ : Hid (∀ w, Calls Try.prog 34 #[.int .i64 10] w fun e w' => e = .returned (.string Z10) ∧ Below w.heap.size w w') := fun w => (zeros_any w).mono fun e w' ⟨h1, h2⟩ => ⟨h1, by rw [h2]; exact Below.refl _ _⟩
  obtain ⟨v, hve⟩ : ∃ v, v = Z10 := ⟨_, rfl⟩
  rw [← hve] at hv HZ HO
  clear hve
  have HFx := hid (fun n k h0 h1 h2 h3 w => fx_any n k h0 h1 h2 h3 w)
  have zk : (fx k 1).size = 1 := fx_size _ _
  have zl : (fx l 1).size = 1 := fx_size _ _
  have zz : (fx z 4).size = 4 := fx_size _ _
  have za : (fx a 2).size = 2 := fx_size _ _
  have zb : (fx b 2).size = 2 := fx_size _ _
  have zc : (fx c 2).size = 2 := fx_size _ _
  have zd : (fx d 2).size = 2 := fx_size _ _
  have ze : (fx e 2).size = 2 := fx_size _ _
  have zf : (fx f 2).size = 2 := fx_size _ _
  have zs : (fx s 2).size = 2 := fx_size _ _
  have zt : (fx t 2).size = 2 := fx_size _ _
  obtain ⟨F, hF⟩ : ∃ F, F = fx := ⟨_, rfl⟩
  rw [← hF] at HFx HO zk zl zz za zb zc zd ze zf zs zt
  clear hF
  simp only [Ino.v] at HC ⊢
  have hB0 : Box w.heap.size (w.alloc (.cells #[.int .i64 k, .int .i64 l, .int .i64 z, .int .i64 a, .int .i64 b, .int .i64 c, .int .i64 d, .int .i64 e, .int .i64 f, .int .i64 s, .int .i64 t] 24)) ⟨k, l, z, a, b, c, d, e, f, s, t⟩ := box_at _ _
  have HB0 := hid hB0
  clear hB0
  go_enter Try.func10, Try.ntmps10
  go_upto_region 3 with (first
    | (go_at_call 14; refine (HC.out _).mono ?_; rintro x W ⟨rfl, hb1⟩; have hB1 : Box w.heap.size W _ := (hb1.block w.heap.size (by simp)).trans HB0.out; have HW : Hid (Below w.heap.size w W) := (below_alloc w _).next hb1; clear hb1))
  have HBX := hid hB1
  have hgl : w.heap.size < W.heap.size := lt_of_block hB1
  obtain ⟨c0, c1, c2, c3, c4, c5, c6, c7, c8, c9, c10⟩ := hB1.cells
  clear hB1
  obtain ⟨q, hq⟩ : ∃ q, q = w.heap.size := ⟨_, rfl⟩
  rw [← hq] at hgl c0 c1 c2 c3 c4 c5 c6 c7 c8 c9 c10 ⊢
  have HQ := hid hq
  clear hq
  go_cut [4] (fun s4 wx => s4 = .string (F k 1 ++ F l 1 ++ F z 4) ∧ Below W.heap.size W wx)
  case first =>
    go_region_held3 (fun w' => w'.cell? ⟨q, 0, none⟩ = some (.int .i64 (k : Int)) ∧ w'.cell? ⟨q, 1, none⟩ = some (.int .i64 (l : Int)) ∧ w'.cell? ⟨q, 2, none⟩ = some (.int .i64 (z : Int))) (first | exact ⟨c0, c1, c2⟩ | exact d3 | exact d2 | exact d1 | go_keep) (first
      | (go_at_call 33; have hk := HB2; clear hk; refine (HFx.out _ _ (by have := HF.out; omega) (by have := HF.out; omega) (by decide) (by decide) _).mono ?_; rintro x w3 ⟨rfl, hb3⟩; have HB3 : Hid (Below W.heap.size W w3) := hid (HB2.out.next ⟨hb3.os, hb3.tape, hb3.output, hb3.size, hb3.block⟩); have d3 : w3.cell? ⟨q, 0, none⟩ = some (.int .i64 (k : Int)) ∧ w3.cell? ⟨q, 1, none⟩ = some (.int .i64 (l : Int)) ∧ w3.cell? ⟨q, 2, none⟩ = some (.int .i64 (z : Int)) := ⟨(HB3.out.cell (p := ⟨q, 0, none⟩) hgl).trans c0, (HB3.out.cell (p := ⟨q, 1, none⟩) hgl).trans c1, (HB3.out.cell (p := ⟨q, 2, none⟩) hgl).trans c2⟩; clear hb3)
      | (go_at_call 33; have hk := HB1; clear hk; refine (HFx.out _ _ (by have := HF.out; omega) (by have := HF.out; omega) (by decide) (by decide) _).mono ?_; rintro x w2 ⟨rfl, hb2⟩; have HB2 : Hid (Below W.heap.size W w2) := hid (HB1.out.next ⟨hb2.os, hb2.tape, hb2.output, hb2.size, hb2.block⟩); have d2 : w2.cell? ⟨q, 0, none⟩ = some (.int .i64 (k : Int)) ∧ w2.cell? ⟨q, 1, none⟩ = some (.int .i64 (l : Int)) ∧ w2.cell? ⟨q, 2, none⟩ = some (.int .i64 (z : Int)) := ⟨(HB2.out.cell (p := ⟨q, 0, none⟩) hgl).trans c0, (HB2.out.cell (p := ⟨q, 1, none⟩) hgl).trans c1, (HB2.out.cell (p := ⟨q, 2, none⟩) hgl).trans c2⟩; clear hb2)
      | (go_at_call 33; refine (HFx.out _ _ (by have := HF.out; omega) (by have := HF.out; omega) (by decide) (by decide) _).mono ?_; rintro x w1 ⟨rfl, hb1⟩; have HB1 : Hid (Below W.heap.size W w1) := hid (⟨hb1.os, hb1.tape, hb1.output, hb1.size, hb1.block⟩); have d1 : w1.cell? ⟨q, 0, none⟩ = some (.int .i64 (k : Int)) ∧ w1.cell? ⟨q, 1, none⟩ = some (.int .i64 (l : Int)) ∧ w1.cell? ⟨q, 2, none⟩ = some (.int .i64 (z : Int)) := ⟨(HB1.out.cell (p := ⟨q, 0, none⟩) hgl).trans c0, (HB1.out.cell (p := ⟨q, 1, none⟩) hgl).trans c1, (HB1.out.cell (p := ⟨q, 2, none⟩) hgl).trans c2⟩; clear hb1))
    all_goals
      go_wp2
      go_meet
      exact ⟨rfl, HB3.out⟩
  case rest =>
    obtain ⟨rfl, hbx⟩ := hcut
    rename World => wx
    have HXB : Hid (Box q wx ⟨k, l, z, a, b, c, d, e, f, s, t⟩) := by rw [HQ.out]; exact HBX.out.below hbx
    have HBL : Hid (Below w.heap.size w wx) := HW.out.next hbx
    clear c0 c1 c2 c3 c4 c5 c6 c7 c8 c9 c10 HBX hbx HW
    obtain ⟨c0, c1, c2, c3, c4, c5, c6, c7, c8, c9, c10⟩ := HXB.out.cells
    go_wp2
    refine wp_loop_rounds 7 ?_
    rw [rounds_succ]
    go_wp2_with (first | (go_at_call 33; refine (HFx.out _ _ (by have := HF.out; omega) (by have := HF.out; omega) (by decide) (by decide) _).mono ?_; rintro x wx ⟨rfl, hb3⟩; replace HXB := hid (HXB.out.below hb3); replace HBL := hid (HBL.out.next hb3); clear hb3; obtain ⟨c0, c1, c2, c3, c4, c5, c6, c7, c8, c9, c10⟩ := HXB.out.cells))
    rw [rounds_succ]
    go_wp2_with (first | (go_at_call 33; refine (HFx.out _ _ (by have := HF.out; omega) (by have := HF.out; omega) (by decide) (by decide) _).mono ?_; rintro x wx ⟨rfl, hb3⟩; replace HXB := hid (HXB.out.below hb3); replace HBL := hid (HBL.out.next hb3); clear hb3; obtain ⟨c0, c1, c2, c3, c4, c5, c6, c7, c8, c9, c10⟩ := HXB.out.cells))
    rw [rounds_succ]
    go_wp2_with (first | (go_at_call 33; refine (HFx.out _ _ (by have := HF.out; omega) (by have := HF.out; omega) (by decide) (by decide) _).mono ?_; rintro x wx ⟨rfl, hb3⟩; replace HXB := hid (HXB.out.below hb3); replace HBL := hid (HBL.out.next hb3); clear hb3; obtain ⟨c0, c1, c2, c3, c4, c5, c6, c7, c8, c9, c10⟩ := HXB.out.cells))
    rw [rounds_succ]
    go_wp2_with (first | (go_at_call 33; refine (HFx.out _ _ (by have := HF.out; omega) (by have := HF.out; omega) (by decide) (by decide) _).mono ?_; rintro x wx ⟨rfl, hb3⟩; replace HXB := hid (HXB.out.below hb3); replace HBL := hid (HBL.out.next hb3); clear hb3; obtain ⟨c0, c1, c2, c3, c4, c5, c6, c7, c8, c9, c10⟩ := HXB.out.cells))
    rw [rounds_succ]
    go_wp2_with (first | (go_at_call 33; refine (HFx.out _ _ (by have := HF.out; omega) (by have := HF.out; omega) (by decide) (by decide) _).mono ?_; rintro x wx ⟨rfl, hb3⟩; replace HXB := hid (HXB.out.below hb3); replace HBL := hid (HBL.out.next hb3); clear hb3; obtain ⟨c0, c1, c2, c3, c4, c5, c6, c7, c8, c9, c10⟩ := HXB.out.cells))
    rw [rounds_succ]
    go_wp2_with (first | (go_at_call 33; refine (HFx.out _ _ (by have := HF.out; omega) (by have := HF.out; omega) (by decide) (by decide) _).mono ?_; rintro x wx ⟨rfl, hb3⟩; replace HXB := hid (HXB.out.below hb3); replace HBL := hid (HBL.out.next hb3); clear hb3; obtain ⟨c0, c1, c2, c3, c4, c5, c6, c7, c8, c9, c10⟩ := HXB.out.cells))
    rw [rounds_succ]
    go_wp2
    clear hgl
    have hgx : q < wx.heap.size := lt_of_block HXB.out
    go_region_held3 (fun w' => w'.cell? ⟨q, 9, none⟩ = some (.int .i64 (s : Int)) ∧ w'.cell? ⟨q, 10, none⟩ = some (.int .i64 (t : Int))) (first | exact ⟨c9, c10⟩ | exact d3 | exact d2 | exact d1 | go_keep) (first
      | (go_at_call 34; have hk := HB2; clear hk; refine (HZ.out _).mono ?_; rintro x w3 ⟨rfl, hb3⟩; have HB3 : Hid (Below wx.heap.size wx w3) := hid (HB2.out.next ⟨hb3.os, hb3.tape, hb3.output, hb3.size, hb3.block⟩); have d3 : w3.cell? ⟨q, 9, none⟩ = some (.int .i64 (s : Int)) ∧ w3.cell? ⟨q, 10, none⟩ = some (.int .i64 (t : Int)) := ⟨(HB3.out.cell (p := ⟨q, 9, none⟩) hgx).trans c9, (HB3.out.cell (p := ⟨q, 10, none⟩) hgx).trans c10⟩; clear hb3)
      | (go_at_call 33; have hk := HB1; clear hk; refine (HFx.out _ _ (by have := HF.out; omega) (by have := HF.out; omega) (by decide) (by decide) _).mono ?_; rintro x w2 ⟨rfl, hb2⟩; have HB2 : Hid (Below wx.heap.size wx w2) := hid (HB1.out.next ⟨hb2.os, hb2.tape, hb2.output, hb2.size, hb2.block⟩); have d2 : w2.cell? ⟨q, 9, none⟩ = some (.int .i64 (s : Int)) ∧ w2.cell? ⟨q, 10, none⟩ = some (.int .i64 (t : Int)) := ⟨(HB2.out.cell (p := ⟨q, 9, none⟩) hgx).trans c9, (HB2.out.cell (p := ⟨q, 10, none⟩) hgx).trans c10⟩; clear hb2)
      | (go_at_call 33; refine (HFx.out _ _ (by have := HF.out; omega) (by have := HF.out; omega) (by decide) (by decide) _).mono ?_; rintro x w1 ⟨rfl, hb1⟩; have HB1 : Hid (Below wx.heap.size wx w1) := hid (⟨hb1.os, hb1.tape, hb1.output, hb1.size, hb1.block⟩); have d1 : w1.cell? ⟨q, 9, none⟩ = some (.int .i64 (s : Int)) ∧ w1.cell? ⟨q, 10, none⟩ = some (.int .i64 (t : Int)) := ⟨(HB1.out.cell (p := ⟨q, 9, none⟩) hgx).trans c9, (HB1.out.cell (p := ⟨q, 10, none⟩) hgx).trans c10⟩; clear hb1))
    all_goals
      go_wp2
      go_ret2
      exact ⟨by rw [← HO.out]; rfl, HBL.out.next HB3.out⟩
set_option maxRecDepth 100000 in
theorem rencode_no (n : Ino) (h : rightI n = false) (w : World) : Calls Try.prog 10 #[n.v] w fun x w' => x = .returned (.tuple #[.string ByteArray.empty, .int .i64 120]) ∧ Below w.heap.size w w' := by
  have HC := hid (rright_any n)
  rw [h] at HC
  clear h
  obtain ⟨k, l, z, a, b, c, d, e, f, s, t⟩ := n
  simp only [Ino.v] at HC ⊢
  go_enter Try.func10, Try.ntmps10
  go_wp2_with (first | (go_at_call 14; refine (HC.out _).mono ?_; rintro x w1 ⟨rfl, hb1⟩))
  go_ret2
  exact ⟨rfl, (below_alloc w _).next hb1⟩
theorem rencode_any (n : Ino) (w : World) : Calls Try.prog 10 #[n.v] w fun x w' => x = .returned (.tuple #[.string (encV n), .int .i64 (chkE n)]) ∧ Below w.heap.size w w' := by
  cases h : rightI n with
  | true =>
    have hc := rightE h
    unfold encV
    rw [hc, if_pos h]
    obtain ⟨k, l, z, a, b, c, d, e, f, s, t, rfl, h1, h2, h3, ha, hb, hcc, hd, he, hf, hs, ht⟩ := right_nat h
    rw [encL_nat]
    exact rencode_ok k l z a b c d e f s t h (by omega) (by omega) (by omega) (by omega) (by omega) (by omega) (by omega) (by omega) (by omega) (by omega) (by omega) w
  | false =>
    unfold encV
    rw [rightF h, if_neg (by rw [h]; decide)]
    exact rencode_no n h w
end Go.Proofs.Ytmabnnimacjplaa
