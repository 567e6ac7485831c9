import Derived.Test.YtjnhibpebikkmaaGreatId
namespace Go.Proofs.YtjnhibpebikkmaaGreat
open Go.RowKit

def Z10 : ByteArray := st (List.replicate 10 0)
theorem made10 : madeCells (Value.int .u8 0).cells 10 = (bc (List.replicate 10 0)).toArray := by kernel_rfl
theorem mk10 (w : World) : (Instr.makeSlice 45 (.int .i64 10) (.int .i64 10)).run Tryz.prog w = .ok (.slice (some ⟨w.heap.size, 0, none⟩) 10 10) (w.alloc (.cells (bc (List.replicate 10 0)).toArray 5)) := by
  obtain ⟨i0, hi, hz0, hz1, hz2⟩ := info_parts Tryz.info5
  have := run_makeSlice (P := Tryz.prog) w 45 5 i0 (.int .u8 0) Tryz.underlying45 hi hz0 .i64 .i64 10 10 (by decide) (by decide) (by rw [hz1]; decide) (by rw [hz2]; decide) (by decide)
  rw [hz1] at this
  have e : (10 : Int).toNat * 1 = 10 := rfl
  rw [e, made10] at this
  exact this
/-- a block of bytes, as cells -/
def CIs (g : Nat) (w : World) (l : List UInt8) : Prop := w.heap[g]? = some (.cells (bc l).toArray 5 (0, 0))
theorem CIs.get {g : Nat} {w : World} {l : List UInt8} (h : CIs g w l) (j : Nat) (hj : j < l.length) : w.cell? ⟨g, j, none⟩ = some (.int .u8 ((l[j]).toNat : Int)) := by
  unfold CIs at h
  simp [World.cell?, h, bc, hj]
theorem CIs.conv {g : Nat} {w : World} {l : List UInt8} (h : CIs g w l) (n cap : Nat) (hn : n = l.length) : (convert 45 9 (.slice (some ⟨g, 0, none⟩) n cap)).run Tryz.prog w = .ok (.string (st l)) w := by
  subst hn
  rw [← strOf_bytes]
  refine run_convert_bytes_arg w 45 5 Tryz.underlying45 Tryz.underlying5 g 0 l.length cap _ (by simp) (fun i hi => ?_) 9 Tryz.underlying9
  have hi' : i < l.length := by simpa using hi
  rw [Nat.zero_add, h.get i hi']
  simp [List.getElem?_eq_getElem hi']
theorem CIs.made (w : World) (l : List UInt8) : CIs w.heap.size (w.alloc (.cells (bc l).toArray 5)) l := box_at _ _
theorem rest_any (w : World) : Calls Tryz.prog 90 #[] w fun e w' => e = .returned (.string Z10) ∧ Below w.heap.size w w' := by
  have hmk := mk10 w
  have hcv := (CIs.made w (List.replicate 10 0)).conv 10 10 (by rfl)
  have hB := below_alloc w (.cells (bc (List.replicate 10 0)).toArray 5)
  obtain ⟨wm, hwm⟩ : ∃ wm, wm = w.alloc (.cells (bc (List.replicate 10 0)).toArray 5) := ⟨_, rfl⟩
  rw [← hwm] at hmk hcv hB
  obtain ⟨u, hu⟩ : ∃ u, u = Z10 := ⟨_, rfl⟩
  rw [show st (List.replicate 10 0) = u by rw [hu]; rfl] at hcv
  rw [← hu]
  clear hwm hu
  go_enter Tryz.func90, Tryz.ntmps90
  go_wp2
  go_ret
  exact ⟨rfl, hB⟩
theorem zz_snoc (j : Nat) : st (List.replicate j 0) ++ ⟨#[0]⟩ = st (List.replicate (j + 1) 0) := by
  apply ByteArray.ext
  apply Array.toList_inj.1
  simp [st, List.replicate_succ', -List.toArray_replicate]
theorem out_is (base g : Nat) (bs : List UInt8) (w : World) (hw : WIs base g w bs) (u : ByteArray) (hu : st bs = u) : Calls Tryz.prog 110 #[.pointer (some ⟨g, 0, none⟩)] w fun e w' => e = .returned (.string u) ∧ w' = w := by
  rw [← hu]; exact out_w base g bs w hw
theorem z10_size : Z10.size = 10 := by unfold Z10; rw [st_size]; rfl
theorem enc_out (k l z a b c d e f s t : Nat) : st (((((((((([] ++ fEnc k 1) ++ fEnc l 1) ++ fEnc z 4) ++ fEnc a 2) ++ fEnc b 2) ++ fEnc c 2) ++ fEnc d 2) ++ fEnc e 2) ++ fEnc f 2) ++ fEnc s 2 ++ fEnc t 2) ++ Z10 = st (encN k l z a b c d e f s t) := by
  apply ByteArray.ext
  simp [st, encN, Z10]
set_option maxRecDepth 100000 in
set_option maxHeartbeats 4000000 in
theorem encode_ok (k l z a b c d e f s t : Nat) (hr : chkE ⟨k, l, z, a, b, c, d, e, f, s, t⟩ = 0) (hk : k < 256) (hl : l < 256) (hz : z < 4294967296) (ha : a < 65536) (hb : b < 65536) (hc : c < 65536) (hd : d < 65536) (he : e < 65536) (hf : f < 65536) (hs : s < 65536) (ht : t < 65536) (w : World) :
    Calls Tryz.prog 79 #[Ino.v ⟨k, l, z, a, b, c, d, e, f, s, t⟩] w fun x w' => x = .returned (.tuple #[.string (st (encN k l z a b c d e f s t)), .int .i64 0]) ∧ Below w.heap.size w w' := by
  have HC := hid (check_any ⟨k, l, z, a, b, c, d, e, f, s, t⟩)
  rw [hr] at HC
  have HN := hid (names_any ⟨k, l, z, a, b, c, d, e, f, s, t⟩)
  have HO := hid (enc_out k l z a b c d e f s t)
  obtain ⟨post, hpost⟩ : ∃ x, x = st (encN k l z a b c d e f s t) := ⟨_, rfl⟩
  rw [← hpost] at HO ⊢
  clear hpost hr
  obtain ⟨u, hu⟩ : ∃ u, st (((((((((([] ++ fEnc k 1) ++ fEnc l 1) ++ fEnc z 4) ++ fEnc a 2) ++ fEnc b 2) ++ fEnc c 2) ++ fEnc d 2) ++ fEnc e 2) ++ fEnc f 2) ++ fEnc s 2 ++ fEnc t 2) = u := ⟨_, rfl⟩
  have hus : u.size = 22 := by rw [← hu, st_size]; simp [fEnc_len]
  rw [hu] at HO
  have HU := hid hu
  clear hu
  have hv := z10_size
  have HR := hid rest_any
  obtain ⟨v, hve⟩ : ∃ v, v = Z10 := ⟨_, rfl⟩
  rw [← hve] at hv HR HO
  clear hve
  have F := fun (x : Nat) (h : x < 65536) => fitsN (x := x) (size := 2) (.inr (.inl rfl)) h
  have HF : Hid ((k < 256 ∧ l < 256 ∧ z < 4294967296) ∧ (a < 65536 ∧ b < 65536 ∧ c < 65536 ∧ d < 65536 ∧ e < 65536 ∧ f < 65536 ∧ s < 65536 ∧ t < 65536)) := ⟨⟨hk, hl, hz⟩, ha, hb, hc, hd, he, hf, hs, ht⟩
  clear hk hl hz ha hb hc hd he hf hs ht F
  simp only [Ino.v, Ino.names] at HC HN ⊢
  have i0 := ix8_0 a b c d e f s t
  have i1 := ix8_1 a b c d e f s t
  have i2 := ix8_2 a b c d e f s t
  have i3 := ix8_3 a b c d e f s t
  have i4 := ix8_4 a b c d e f s t
  have i5 := ix8_5 a b c d e f s t
  have i6 := ix8_6 a b c d e f s t
  have i7 := ix8_7 a b c d e f s t
  have hB0 : Box w.heap.size (w.alloc (.cells #[.int .i64 k, .int .i64 l, .int .i64 z, .int .i64 a, .int .i64 b, .int .i64 c, .int .i64 d, .int .i64 e, .int .i64 f, .int .i64 s, .int .i64 t] 33)) ⟨k, l, z, a, b, c, d, e, f, s, t⟩ := box_at _ _
  have HB0 := hid hB0
  clear hB0
  have t1 : Hid True := trivial
  have t2 : Hid True := trivial
  have t3 : Hid True := trivial
  go_enter Tryz.func79, Tryz.ntmps79
  go_wp2_with (first
    | (go_at_call 36; refine (HC.out _).mono ?_; rintro x w1 ⟨rfl, hb1⟩; have hB1 : Box w.heap.size w1 _ := (hb1.block w.heap.size (by simp)).trans HB0.out; have hES := hid (ES.new (w0 := w) hB1 (Nat.lt_of_lt_of_le (by simp) hb1.size) (Nat.le_refl _) ((below_alloc w _).next hb1)); clear hB1 hb1)
    | (go_at_call 108; refine (new_any _).mono ?_; rintro x w2 ⟨rfl, hw2⟩; rw [← hw2] at hES; clear hw2; obtain ⟨c0, c1, c2, c3, c4, c5, c6, c7, c8, c9, c10⟩ := hES.out.box.cells)
    | (go_at_call 109; clear t1; refine (hES.out.fix _ 1 (by have := HF.out; omega) (by decide) (fitsN (.inl rfl) (by have := HF.out; omega)) (by simp)).mono ?_; rintro x w3 ⟨rfl, hE3⟩; replace hES := hid hE3; clear hE3; obtain ⟨c0, c1, c2, c3, c4, c5, c6, c7, c8, c9, c10⟩ := hES.out.box.cells)
    | (go_at_call 109; clear t2; refine (hES.out.fix _ 1 (by have := HF.out; omega) (by decide) (fitsN (.inl rfl) (by have := HF.out; omega)) (by simp [fEnc_len])).mono ?_; rintro x w3 ⟨rfl, hE3⟩; replace hES := hid hE3; clear hE3; obtain ⟨c0, c1, c2, c3, c4, c5, c6, c7, c8, c9, c10⟩ := hES.out.box.cells)
    | (go_at_call 109; clear t3; refine (hES.out.fix _ 4 (by have := HF.out; omega) (by decide) (fitsN (.inr (.inr rfl)) (by have := HF.out; omega)) (by simp [fEnc_len])).mono ?_; rintro x w3 ⟨rfl, hE3⟩; replace hES := hid hE3; clear hE3; obtain ⟨c0, c1, c2, c3, c4, c5, c6, c7, c8, c9, c10⟩ := hES.out.box.cells)
    | (go_at_call 62; refine (HN.out _).mono ?_; rintro x w4 ⟨rfl, hb4⟩; replace hES := hid (hES.out.below hb4); clear hb4))
  refine wp_loop_rounds 9 ?_
  rw [rounds_succ]
  go_wp2_with (first | (go_at_call 109; refine (hES.out.fix _ 2 (by have := HF.out; omega) (by decide) (fitsN (.inr (.inl rfl)) (by have := HF.out; omega)) (by simp [fEnc_len])).mono ?_; rintro x w3 ⟨rfl, hE3⟩; replace hES := hid hE3; clear hE3))
  rw [rounds_succ]
  go_wp2_with (first | (go_at_call 109; refine (hES.out.fix _ 2 (by have := HF.out; omega) (by decide) (fitsN (.inr (.inl rfl)) (by have := HF.out; omega)) (by simp [fEnc_len])).mono ?_; rintro x w3 ⟨rfl, hE3⟩; replace hES := hid hE3; clear hE3))
  rw [rounds_succ]
  go_wp2_with (first | (go_at_call 109; refine (hES.out.fix _ 2 (by have := HF.out; omega) (by decide) (fitsN (.inr (.inl rfl)) (by have := HF.out; omega)) (by simp [fEnc_len])).mono ?_; rintro x w3 ⟨rfl, hE3⟩; replace hES := hid hE3; clear hE3))
  rw [rounds_succ]
  go_wp2_with (first | (go_at_call 109; refine (hES.out.fix _ 2 (by have := HF.out; omega) (by decide) (fitsN (.inr (.inl rfl)) (by have := HF.out; omega)) (by simp [fEnc_len])).mono ?_; rintro x w3 ⟨rfl, hE3⟩; replace hES := hid hE3; clear hE3))
  rw [rounds_succ]
  go_wp2_with (first | (go_at_call 109; refine (hES.out.fix _ 2 (by have := HF.out; omega) (by decide) (fitsN (.inr (.inl rfl)) (by have := HF.out; omega)) (by simp [fEnc_len])).mono ?_; rintro x w3 ⟨rfl, hE3⟩; replace hES := hid hE3; clear hE3))
  rw [rounds_succ]
  go_wp2_with (first | (go_at_call 109; refine (hES.out.fix _ 2 (by have := HF.out; omega) (by decide) (fitsN (.inr (.inl rfl)) (by have := HF.out; omega)) (by simp [fEnc_len])).mono ?_; rintro x w3 ⟨rfl, hE3⟩; replace hES := hid hE3; clear hE3))
  rw [rounds_succ]
  go_wp2_with (first | (go_at_call 109; refine (hES.out.fix _ 2 (by have := HF.out; omega) (by decide) (fitsN (.inr (.inl rfl)) (by have := HF.out; omega)) (by simp [fEnc_len])).mono ?_; rintro x w3 ⟨rfl, hE3⟩; replace hES := hid hE3; clear hE3))
  rw [rounds_succ]
  go_wp2_with (first | (go_at_call 109; refine (hES.out.fix _ 2 (by have := HF.out; omega) (by decide) (fitsN (.inr (.inl rfl)) (by have := HF.out; omega)) (by simp [fEnc_len])).mono ?_; rintro x w3 ⟨rfl, hE3⟩; replace hES := hid hE3; clear hE3))
  rw [rounds_succ]
  go_wp2_with (first
    | (go_at_call 110; refine (out_is _ _ _ _ hES.out.wi u HU.out).mono ?_; rintro x w5 ⟨rfl, hw5⟩; rw [← hw5] at hES; clear hw5)
    | (go_at_call 90; refine (HR.out _).mono ?_; rintro x w6 ⟨rfl, hb6⟩))
  go_ret2
  exact ⟨by rw [← HO.out]; rfl, hES.out.bel.next hb6⟩
theorem rightE {n : Ino} (h : rightI n = true) : chkE n = 0 := by unfold chkE; rw [if_pos h]
theorem rightF {n : Ino} (h : rightI n = false) : chkE n = 120 := by unfold chkE; rw [if_neg (by rw [h]; decide)]
set_option maxRecDepth 100000 in
theorem encode_no (n : Ino) (h : rightI n = false) (w : World) : Calls Tryz.prog 79 #[n.v] w fun x w' => x = .returned (.tuple #[.string ByteArray.empty, .int .i64 120]) ∧ Below w.heap.size w w' := by
  have HC := hid (check_any n)
  rw [rightF h] at HC
  clear h
  obtain ⟨k, l, z, a, b, c, d, e, f, s, t⟩ := n
  simp only [Ino.v] at HC ⊢
  go_enter Tryz.func79, Tryz.ntmps79
  go_wp2_with (first | (go_at_call 36; refine (HC.out _).mono ?_; rintro x w1 ⟨rfl, hb1⟩))
  go_ret2
  exact ⟨rfl, (below_alloc w _).next hb1⟩
theorem encode_any (n : Ino) (w : World) : Calls Tryz.prog 79 #[n.v] w fun x w' => x = .returned (.tuple #[.string (encV n), .int .i64 (chkE n)]) ∧ Below w.heap.size w w' := by
  cases h : rightI n with
  | true =>
    have hc := rightE h
    unfold encV
    rw [hc, if_pos h]
    obtain ⟨k, l, z, a, b, c, d, e, f, s, t, rfl, h1, h2, h3, ha, hb, hcc, hd, he, hf, hs, ht⟩ := right_nat h
    rw [encL_nat]
    exact encode_ok k l z a b c d e f s t hc (by omega) (by omega) (by omega) (by omega) (by omega) (by omega) (by omega) (by omega) (by omega) (by omega) (by omega) w
  | false =>
    unfold encV
    rw [rightF h, if_neg (by rw [h]; decide)]
    exact encode_no n h w
end Go.Proofs.YtjnhibpebikkmaaGreat
