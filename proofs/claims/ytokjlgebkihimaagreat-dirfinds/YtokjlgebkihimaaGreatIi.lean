import Derived.Test.YtokjlgebkihimaaGreatId
import Derived.Deep.RegionHeld3
import Derived.Laws.CopyRow
import Derived.Laws.ResultCell
import Derived.Maps.OwnSet
namespace Go.Proofs.YtokjlgebkihimaaGreat
open Go.RowKit

def Z10 : ByteArray := st (List.replicate 10 0)
set_option maxRecDepth 100000 in
theorem made10 : madeCells (Value.int .u8 0).cells 10 = (bc (List.replicate 10 0)).toArray := by kernel_rfl
set_option maxRecDepth 100000 in
theorem mk10 (w : World) : (Instr.makeSlice 125 (.int .i64 10) (.int .i64 10)).run Tryz.prog w = .ok (.slice (some ⟨w.heap.size, 0, none⟩) 10 10) (w.alloc (.cells (bc (List.replicate 10 0)).toArray 5)) := by
  obtain ⟨i0, hi, hz0, hz1, hz2⟩ := info_parts Tryz.info5
  have := run_makeSlice (P := Tryz.prog) w 125 5 i0 (.int .u8 0) Tryz.underlying125 hi hz0 .i64 .i64 10 10 (by decide) (by decide) (by rw [hz1]; decide) (by rw [hz2]; decide) (by decide)
  rw [hz1] at this
  have e : (10 : Int).toNat * 1 = 10 := rfl
  rw [e, made10] at this
  exact this
/-- a block of bytes, as cells -/
def CIs (g : Nat) (w : World) (l : List UInt8) : Prop := w.heap[g]? = some (.cells (bc l).toArray 5 (0, 0))
set_option maxRecDepth 100000 in
theorem CIs.get {g : Nat} {w : World} {l : List UInt8} (h : CIs g w l) (j : Nat) (hj : j < l.length) : w.cell? ⟨g, j, none⟩ = some (.int .u8 ((l[j]).toNat : Int)) := by
  unfold CIs at h
  simp [World.cell?, h, bc, hj]
set_option maxRecDepth 100000 in
theorem CIs.conv {g : Nat} {w : World} {l : List UInt8} (h : CIs g w l) (n cap : Nat) (hn : n = l.length) : (convert 125 9 (.slice (some ⟨g, 0, none⟩) n cap)).run Tryz.prog w = .ok (.string (st l)) w := by
  subst hn
  rw [← strOf_bytes]
  refine run_convert_bytes_arg w 125 5 Tryz.underlying125 Tryz.underlying5 g 0 l.length cap _ (by simp) (fun i hi => ?_) 9 Tryz.underlying9
  have hi' : i < l.length := by simpa using hi
  rw [Nat.zero_add, h.get i hi']
  simp [List.getElem?_eq_getElem hi']
set_option maxRecDepth 100000 in
theorem CIs.made (w : World) (l : List UInt8) : CIs w.heap.size (w.alloc (.cells (bc l).toArray 5)) l := box_at _ _
set_option maxRecDepth 100000 in
theorem rest_any (w : World) : Calls Tryz.prog 153 #[] w fun e w' => e = .returned (.string Z10) ∧ Below w.heap.size w w' := by
  have hmk := mk10 w
  have hcv := (CIs.made w (List.replicate 10 0)).conv 10 10 (by rfl)
  have hB := below_alloc w (.cells (bc (List.replicate 10 0)).toArray 5)
  obtain ⟨wm, hwm⟩ : ∃ wm, wm = w.alloc (.cells (bc (List.replicate 10 0)).toArray 5) := ⟨_, rfl⟩
  rw [← hwm] at hmk hcv hB
  obtain ⟨u, hu⟩ : ∃ u, u = Z10 := ⟨_, rfl⟩
  rw [show st (List.replicate 10 0) = u by rw [hu]; rfl] at hcv
  rw [← hu]
  clear hwm hu
  go_enter Tryz.func153, Tryz.ntmps153
  go_wp2
  go_ret
  exact ⟨rfl, hB⟩
set_option maxRecDepth 100000 in
theorem zz_snoc (j : Nat) : st (List.replicate j 0) ++ ⟨#[0]⟩ = st (List.replicate (j + 1) 0) := by
  apply ByteArray.ext
  apply Array.toList_inj.1
  simp [st, List.replicate_succ', -List.toArray_replicate]
set_option maxRecDepth 100000 in
theorem out_is (base g : Nat) (bs : List UInt8) (w : World) (hw : WIs base g w bs) (u : ByteArray) (hu : st bs = u) : Calls Tryz.prog 152 #[.pointer (some ⟨g, 0, none⟩)] w fun e w' => e = .returned (.string u) ∧ w' = w := by
  rw [← hu]; exact out_w base g bs w hw
set_option maxRecDepth 100000 in
theorem z10_size : Z10.size = 10 := by unfold Z10; rw [st_size]; rfl
set_option maxRecDepth 100000 in
theorem enc_out (k l z a b c d e f s t : Nat) : st (((((((((([] ++ fEnc k 1) ++ fEnc l 1) ++ fEnc z 4) ++ fEnc a 2) ++ fEnc b 2) ++ fEnc c 2) ++ fEnc d 2) ++ fEnc e 2) ++ fEnc f 2) ++ fEnc s 2 ++ fEnc t 2) ++ Z10 = st (encN k l z a b c d e f s t) := by
  apply ByteArray.ext
  simp [st, encN, Z10]
set_option maxRecDepth 100000 in
set_option maxHeartbeats 4000000 in
theorem encode_ok (k l z a b c d e f s t : Nat) (hr : chkE ⟨k, l, z, a, b, c, d, e, f, s, t⟩ = 0) (hk : k < 256) (hl : l < 256) (hz : z < 4294967296) (ha : a < 65536) (hb : b < 65536) (hc : c < 65536) (hd : d < 65536) (he : e < 65536) (hf : f < 65536) (hs : s < 65536) (ht : t < 65536) (w : World) :
    Calls Tryz.prog 120 #[Ino.v ⟨k, l, z, a, b, c, d, e, f, s, t⟩] w fun x w' => x = .returned (.tuple #[.string (st (encN k l z a b c d e f s t)), .int .i64 0]) ∧ Below w.heap.size w w' := by
  have HC := hid (check_any ⟨k, l, z, a, b, c, d, e, f, s, t⟩)
  rw [hr] at HC
  have HN := hid (names_any ⟨k, l, z, a, b, c, d, e, f, s, t⟩)
  have HO := hid (enc_out k l z a b c d e f s t)
  obtain ⟨post, hpost⟩ : ∃ x, x = st (encN k l z a b c d e f s t) := ⟨_, rfl⟩
  rw [← hpost] at HO ⊢
  clear hpost hr
  obtain ⟨u, hu⟩ : ∃ u, st (((((((((([] ++ fEnc k 1) ++ fEnc l 1) ++ fEnc z 4) ++ fEnc a 2) ++ fEnc b 2) ++ fEnc c 2) ++ fEnc d 2) ++ fEnc e 2) ++ fEnc f 2) ++ fEnc s 2 ++ fEnc t 2) = u := ⟨_, rfl⟩
  have hus : u.size = 22 := by rw [← hu, st_size]; simp [fEnc_len]
  rw [hu] at HO
  have HU := hid hu
  clear hu
  have hv := z10_size
  have HR := hid rest_any
  obtain ⟨v, hve⟩ : ∃ v, v = Z10 := ⟨_, rfl⟩
  rw [← hve] at hv HR HO
  clear hve
  have F := fun (x : Nat) (h : x < 65536) => fitsN (x := x) (size := 2) (.inr (.inl rfl)) h
  have HF : Hid ((k < 256 ∧ l < 256 ∧ z < 4294967296) ∧ (a < 65536 ∧ b < 65536 ∧ c < 65536 ∧ d < 65536 ∧ e < 65536 ∧ f < 65536 ∧ s < 65536 ∧ t < 65536)) := ⟨⟨hk, hl, hz⟩, ha, hb, hc, hd, he, hf, hs, ht⟩
  clear hk hl hz ha hb hc hd he hf hs ht F
  simp only [Ino.v, Ino.names] at HC HN ⊢
  have i0 := ix8_0 a b c d e f s t
  have i1 := ix8_1 a b c d e f s t
  have i2 := ix8_2 a b c d e f s t
  have i3 := ix8_3 a b c d e f s t
  have i4 := ix8_4 a b c d e f s t
  have i5 := ix8_5 a b c d e f s t
  have i6 := ix8_6 a b c d e f s t
  have i7 := ix8_7 a b c d e f s t
  have hB0 : Box w.heap.size (w.alloc (.cells #[.int .i64 k, .int .i64 l, .int .i64 z, .int .i64 a, .int .i64 b, .int .i64 c, .int .i64 d, .int .i64 e, .int .i64 f, .int .i64 s, .int .i64 t] 36)) ⟨k, l, z, a, b, c, d, e, f, s, t⟩ := box_at _ _
  have HB0 := hid hB0
  clear hB0
  have t1 : Hid True := trivial
  have t2 : Hid True := trivial
  have t3 : Hid True := trivial
  go_enter Tryz.func120, Tryz.ntmps120
  go_wp2_with (first
    | (go_at_call 59; refine (HC.out _).mono ?_; rintro x w1 ⟨rfl, hb1⟩; have hB1 : Box w.heap.size w1 _ := (hb1.block w.heap.size (by simp)).trans HB0.out; have hES := hid (ES.new (w0 := w) hB1 (Nat.lt_of_lt_of_le (by simp) hb1.size) (Nat.le_refl _) ((below_alloc w _).next hb1)); clear hB1 hb1)
    | (go_at_call 150; refine (new_any _).mono ?_; rintro x w2 ⟨rfl, hw2⟩; rw [← hw2] at hES; clear hw2; obtain ⟨c0, c1, c2, c3, c4, c5, c6, c7, c8, c9, c10⟩ := hES.out.box.cells)
    | (go_at_call 151; clear t1; refine (hES.out.fix _ 1 (by have := HF.out; omega) (by decide) (fitsN (.inl rfl) (by have := HF.out; omega)) (by simp)).mono ?_; rintro x w3 ⟨rfl, hE3⟩; replace hES := hid hE3; clear hE3; obtain ⟨c0, c1, c2, c3, c4, c5, c6, c7, c8, c9, c10⟩ := hES.out.box.cells)
    | (go_at_call 151; clear t2; refine (hES.out.fix _ 1 (by have := HF.out; omega) (by decide) (fitsN (.inl rfl) (by have := HF.out; omega)) (by simp [fEnc_len])).mono ?_; rintro x w3 ⟨rfl, hE3⟩; replace hES := hid hE3; clear hE3; obtain ⟨c0, c1, c2, c3, c4, c5, c6, c7, c8, c9, c10⟩ := hES.out.box.cells)
    | (go_at_call 151; clear t3; refine (hES.out.fix _ 4 (by have := HF.out; omega) (by decide) (fitsN (.inr (.inr rfl)) (by have := HF.out; omega)) (by simp [fEnc_len])).mono ?_; rintro x w3 ⟨rfl, hE3⟩; replace hES := hid hE3; clear hE3; obtain ⟨c0, c1, c2, c3, c4, c5, c6, c7, c8, c9, c10⟩ := hES.out.box.cells)
    | (go_at_call 85; refine (HN.out _).mono ?_; rintro x w4 ⟨rfl, hb4⟩; replace hES := hid (hES.out.below hb4); clear hb4))
  refine wp_loop_rounds 9 ?_
  rw [rounds_succ]
  go_wp2_with (first | (go_at_call 151; refine (hES.out.fix _ 2 (by have := HF.out; omega) (by decide) (fitsN (.inr (.inl rfl)) (by have := HF.out; omega)) (by simp [fEnc_len])).mono ?_; rintro x w3 ⟨rfl, hE3⟩; replace hES := hid hE3; clear hE3))
  rw [rounds_succ]
  go_wp2_with (first | (go_at_call 151; refine (hES.out.fix _ 2 (by have := HF.out; omega) (by decide) (fitsN (.inr (.inl rfl)) (by have := HF.out; omega)) (by simp [fEnc_len])).mono ?_; rintro x w3 ⟨rfl, hE3⟩; replace hES := hid hE3; clear hE3))
  rw [rounds_succ]
  go_wp2_with (first | (go_at_call 151; refine (hES.out.fix _ 2 (by have := HF.out; omega) (by decide) (fitsN (.inr (.inl rfl)) (by have := HF.out; omega)) (by simp [fEnc_len])).mono ?_; rintro x w3 ⟨rfl, hE3⟩; replace hES := hid hE3; clear hE3))
  rw [rounds_succ]
  go_wp2_with (first | (go_at_call 151; refine (hES.out.fix _ 2 (by have := HF.out; omega) (by decide) (fitsN (.inr (.inl rfl)) (by have := HF.out; omega)) (by simp [fEnc_len])).mono ?_; rintro x w3 ⟨rfl, hE3⟩; replace hES := hid hE3; clear hE3))
  rw [rounds_succ]
  go_wp2_with (first | (go_at_call 151; refine (hES.out.fix _ 2 (by have := HF.out; omega) (by decide) (fitsN (.inr (.inl rfl)) (by have := HF.out; omega)) (by simp [fEnc_len])).mono ?_; rintro x w3 ⟨rfl, hE3⟩; replace hES := hid hE3; clear hE3))
  rw [rounds_succ]
  go_wp2_with (first | (go_at_call 151; refine (hES.out.fix _ 2 (by have := HF.out; omega) (by decide) (fitsN (.inr (.inl rfl)) (by have := HF.out; omega)) (by simp [fEnc_len])).mono ?_; rintro x w3 ⟨rfl, hE3⟩; replace hES := hid hE3; clear hE3))
  rw [rounds_succ]
  go_wp2_with (first | (go_at_call 151; refine (hES.out.fix _ 2 (by have := HF.out; omega) (by decide) (fitsN (.inr (.inl rfl)) (by have := HF.out; omega)) (by simp [fEnc_len])).mono ?_; rintro x w3 ⟨rfl, hE3⟩; replace hES := hid hE3; clear hE3))
  rw [rounds_succ]
  go_wp2_with (first | (go_at_call 151; refine (hES.out.fix _ 2 (by have := HF.out; omega) (by decide) (fitsN (.inr (.inl rfl)) (by have := HF.out; omega)) (by simp [fEnc_len])).mono ?_; rintro x w3 ⟨rfl, hE3⟩; replace hES := hid hE3; clear hE3))
  rw [rounds_succ]
  go_wp2_with (first
    | (go_at_call 152; refine (out_is _ _ _ _ hES.out.wi u HU.out).mono ?_; rintro x w5 ⟨rfl, hw5⟩; rw [← hw5] at hES; clear hw5)
    | (go_at_call 153; refine (HR.out _).mono ?_; rintro x w6 ⟨rfl, hb6⟩))
  go_ret2
  exact ⟨by rw [← HO.out]; rfl, hES.out.bel.next hb6⟩
set_option maxRecDepth 100000 in
theorem rightE {n : Ino} (h : rightI n = true) : chkE n = 0 := by unfold chkE; rw [if_pos h]
set_option maxRecDepth 100000 in
theorem rightF {n : Ino} (h : rightI n = false) : chkE n = 120 := by unfold chkE; rw [if_neg (by rw [h]; decide)]
set_option maxRecDepth 100000 in
theorem encode_no (n : Ino) (h : rightI n = false) (w : World) : Calls Tryz.prog 120 #[n.v] w fun x w' => x = .returned (.tuple #[.string ByteArray.empty, .int .i64 120]) ∧ Below w.heap.size w w' := by
  have HC := hid (check_any n)
  rw [rightF h] at HC
  clear h
  obtain ⟨k, l, z, a, b, c, d, e, f, s, t⟩ := n
  simp only [Ino.v] at HC ⊢
  go_enter Tryz.func120, Tryz.ntmps120
  go_wp2_with (first | (go_at_call 59; refine (HC.out _).mono ?_; rintro x w1 ⟨rfl, hb1⟩))
  go_ret2
  exact ⟨rfl, (below_alloc w _).next hb1⟩
set_option maxRecDepth 100000 in
theorem encode_any (n : Ino) (w : World) : Calls Tryz.prog 120 #[n.v] w fun x w' => x = .returned (.tuple #[.string (encV n), .int .i64 (chkE n)]) ∧ Below w.heap.size w w' := by
  cases h : rightI n with
  | true =>
    have hc := rightE h
    unfold encV
    rw [hc, if_pos h]
    obtain ⟨k, l, z, a, b, c, d, e, f, s, t, rfl, h1, h2, h3, ha, hb, hcc, hd, he, hf, hs, ht⟩ := right_nat h
    rw [encL_nat]
    exact encode_ok k l z a b c d e f s t hc (by omega) (by omega) (by omega) (by omega) (by omega) (by omega) (by omega) (by omega) (by omega) (by omega) (by omega) w
  | false =>
    unfold encV
    rw [rightF h, if_neg (by rw [h]; decide)]
    exact encode_no n h w
end Go.Proofs.YtokjlgebkihimaaGreat
namespace Go.Proofs.YtokjlgebkihimaaGreat
open Go.RowKit

set_option maxRecDepth 100000 in
theorem cat_list (a b : ByteArray) : (a ++ b).data.toList = a.data.toList ++ b.data.toList := by simp
/-- a number's bytes -/
def fx (n k : Int) : ByteArray := st (fEnc n.toNat k.toNat)
set_option maxRecDepth 100000 in
theorem fx_size (n k : Int) : (fx n k).size = k.toNat := by unfold fx; rw [st_size, fEnc_len]
set_option maxRecDepth 100000 in
theorem renc_out (k l z a b c d e f s t : Nat) : fx k 1 ++ fx l 1 ++ fx z 4 ++ fx a 2 ++ fx b 2 ++ fx c 2 ++ fx d 2 ++ fx e 2 ++ fx f 2 ++ fx s 2 ++ fx t 2 ++ Z10 = st (encN k l z a b c d e f s t) := by
  apply ByteArray.ext
  simp [st, encN, Z10, fx]
set_option maxRecDepth 100000 in
theorem Box.below {q : Nat} {w w' : World} {n : Ino} (h : Box q w n) (k : Below w.heap.size w w') : Box q w' n := (k.block q (lt_of_block h)).trans h
end Go.Proofs.YtokjlgebkihimaaGreat
namespace Go.Proofs.YtokjlgebkihimaaGreat
open Go.RowKit

set_option maxRecDepth 100000 in
theorem Box.free {q : Nat} {w : World} {n : Ino} (h : Box q w n) (i : Nat) : w.frozen? ⟨q, i, none⟩ = false := by
  unfold Box at h
  simp [World.frozen?, h]
set_option maxRecDepth 100000 in
theorem Box.lt {q : Nat} {w : World} {n : Ino} (h : Box q w n) : q < w.heap.size := lt_of_block h
set_option maxRecDepth 100000 in
theorem Box.kept {q g B : Nat} {w w' : World} {n : Ino} (h : Box q w n) (k : Kept B g w w') (hb : q < B) (hg : q ≠ g) : Box q w' n := (k.block q hb hg).trans h
set_option maxRecDepth 100000 in
theorem set_at {w : World} {g : Nat} {cs : Array Value} {t : TypeId} (h : w.heap[g]? = some (.cells cs t (0, 0))) (i : Nat) (v : Value) : (w.setCell ⟨g, i, none⟩ v).heap[g]? = some (.cells (cs.setIfInBounds i v) t (0, 0)) := by
  have hlt := lt_of_block h
  have h' : w.heap[g] = .cells cs t (0, 0) := by simpa [Array.getElem?_eq_getElem hlt] using h
  show (w.heap.modify g _)[g]? = _
  rw [Array.getElem?_eq_getElem (by simpa using hlt), Array.getElem_modify_self, h']
  rfl
set_option maxRecDepth 100000 in
theorem set_off {w : World} {g k : Nat} (i : Nat) (v : Value) (h : k ≠ g) : (w.setCell ⟨g, i, none⟩ v).heap[k]? = w.heap[k]? := Below.heap_setCell _ _ _ _ h
set_option maxRecDepth 100000 in
theorem kept_set (w : World) (g i : Nat) (v : Value) : Kept w.heap.size g w (w.setCell ⟨g, i, none⟩ v) := (Kept.refl _ g w).setCell i v
set_option maxRecDepth 100000 in
theorem Box.set0 {q : Nat} {w : World} {k l z a b c d e f s t : Int} (h : Box q w ⟨k, l, z, a, b, c, d, e, f, s, t⟩) (v : Int) : Box q (w.setCell ⟨q, 0, none⟩ (.int .i64 v)) ⟨v, l, z, a, b, c, d, e, f, s, t⟩ := set_at h 0 _
set_option maxRecDepth 100000 in
theorem Box.set1 {q : Nat} {w : World} {k l z a b c d e f s t : Int} (h : Box q w ⟨k, l, z, a, b, c, d, e, f, s, t⟩) (v : Int) : Box q (w.setCell ⟨q, 1, none⟩ (.int .i64 v)) ⟨k, v, z, a, b, c, d, e, f, s, t⟩ := set_at h 1 _
set_option maxRecDepth 100000 in
theorem Box.set2 {q : Nat} {w : World} {k l z a b c d e f s t : Int} (h : Box q w ⟨k, l, z, a, b, c, d, e, f, s, t⟩) (v : Int) : Box q (w.setCell ⟨q, 2, none⟩ (.int .i64 v)) ⟨k, l, v, a, b, c, d, e, f, s, t⟩ := set_at h 2 _
set_option maxRecDepth 100000 in
theorem Box.set3 {q : Nat} {w : World} {k l z a b c d e f s t : Int} (h : Box q w ⟨k, l, z, a, b, c, d, e, f, s, t⟩) (v : Int) : Box q (w.setCell ⟨q, 3, none⟩ (.int .i64 v)) ⟨k, l, z, v, b, c, d, e, f, s, t⟩ := set_at h 3 _
set_option maxRecDepth 100000 in
theorem Box.set4 {q : Nat} {w : World} {k l z a b c d e f s t : Int} (h : Box q w ⟨k, l, z, a, b, c, d, e, f, s, t⟩) (v : Int) : Box q (w.setCell ⟨q, 4, none⟩ (.int .i64 v)) ⟨k, l, z, a, v, c, d, e, f, s, t⟩ := set_at h 4 _
set_option maxRecDepth 100000 in
theorem Box.set5 {q : Nat} {w : World} {k l z a b c d e f s t : Int} (h : Box q w ⟨k, l, z, a, b, c, d, e, f, s, t⟩) (v : Int) : Box q (w.setCell ⟨q, 5, none⟩ (.int .i64 v)) ⟨k, l, z, a, b, v, d, e, f, s, t⟩ := set_at h 5 _
set_option maxRecDepth 100000 in
theorem Box.set6 {q : Nat} {w : World} {k l z a b c d e f s t : Int} (h : Box q w ⟨k, l, z, a, b, c, d, e, f, s, t⟩) (v : Int) : Box q (w.setCell ⟨q, 6, none⟩ (.int .i64 v)) ⟨k, l, z, a, b, c, v, e, f, s, t⟩ := set_at h 6 _
set_option maxRecDepth 100000 in
theorem Box.set7 {q : Nat} {w : World} {k l z a b c d e f s t : Int} (h : Box q w ⟨k, l, z, a, b, c, d, e, f, s, t⟩) (v : Int) : Box q (w.setCell ⟨q, 7, none⟩ (.int .i64 v)) ⟨k, l, z, a, b, c, d, v, f, s, t⟩ := set_at h 7 _
set_option maxRecDepth 100000 in
theorem Box.set8 {q : Nat} {w : World} {k l z a b c d e f s t : Int} (h : Box q w ⟨k, l, z, a, b, c, d, e, f, s, t⟩) (v : Int) : Box q (w.setCell ⟨q, 8, none⟩ (.int .i64 v)) ⟨k, l, z, a, b, c, d, e, v, s, t⟩ := set_at h 8 _
set_option maxRecDepth 100000 in
theorem Box.set9 {q : Nat} {w : World} {k l z a b c d e f s t : Int} (h : Box q w ⟨k, l, z, a, b, c, d, e, f, s, t⟩) (v : Int) : Box q (w.setCell ⟨q, 9, none⟩ (.int .i64 v)) ⟨k, l, z, a, b, c, d, e, f, v, t⟩ := set_at h 9 _
set_option maxRecDepth 100000 in
theorem Box.set10 {q : Nat} {w : World} {k l z a b c d e f s t : Int} (h : Box q w ⟨k, l, z, a, b, c, d, e, f, s, t⟩) (v : Int) : Box q (w.setCell ⟨q, 10, none⟩ (.int .i64 v)) ⟨k, l, z, a, b, c, d, e, f, s, v⟩ := set_at h 10 _
/-- the names in memory -/
def Nbx (p : Nat) (w : World) (a b c d e f s t : Int) : Prop := w.heap[p]? = some (.cells #[.int .i64 a, .int .i64 b, .int .i64 c, .int .i64 d, .int .i64 e, .int .i64 f, .int .i64 s, .int .i64 t] 140 (0, 0))
set_option maxRecDepth 100000 in
theorem Nbx.cells {p : Nat} {w : World} {a b c d e f s t : Int} (h : Nbx p w a b c d e f s t) : w.cell? ⟨p, 0, none⟩ = some (.int .i64 a) ∧ w.cell? ⟨p, 1, none⟩ = some (.int .i64 b) ∧ w.cell? ⟨p, 2, none⟩ = some (.int .i64 c) ∧ w.cell? ⟨p, 3, none⟩ = some (.int .i64 d) ∧ w.cell? ⟨p, 4, none⟩ = some (.int .i64 e) ∧ w.cell? ⟨p, 5, none⟩ = some (.int .i64 f) ∧ w.cell? ⟨p, 6, none⟩ = some (.int .i64 s) ∧ w.cell? ⟨p, 7, none⟩ = some (.int .i64 t) := by
  unfold Nbx at h
  simp [World.cell?, h]
set_option maxRecDepth 100000 in
theorem Nbx.free {p : Nat} {w : World} {a b c d e f s t : Int} (h : Nbx p w a b c d e f s t) (i : Nat) : w.frozen? ⟨p, i, none⟩ = false := by
  unfold Nbx at h
  simp [World.frozen?, h]
set_option maxRecDepth 100000 in
theorem Nbx.set0 {p : Nat} {w : World} {a b c d e f s t : Int} (h : Nbx p w a b c d e f s t) (v : Int) : Nbx p (w.setCell ⟨p, 0, none⟩ (.int .i64 v)) v b c d e f s t := set_at h 0 _
set_option maxRecDepth 100000 in
theorem Nbx.set1 {p : Nat} {w : World} {a b c d e f s t : Int} (h : Nbx p w a b c d e f s t) (v : Int) : Nbx p (w.setCell ⟨p, 1, none⟩ (.int .i64 v)) a v c d e f s t := set_at h 1 _
set_option maxRecDepth 100000 in
theorem Nbx.set2 {p : Nat} {w : World} {a b c d e f s t : Int} (h : Nbx p w a b c d e f s t) (v : Int) : Nbx p (w.setCell ⟨p, 2, none⟩ (.int .i64 v)) a b v d e f s t := set_at h 2 _
set_option maxRecDepth 100000 in
theorem Nbx.set3 {p : Nat} {w : World} {a b c d e f s t : Int} (h : Nbx p w a b c d e f s t) (v : Int) : Nbx p (w.setCell ⟨p, 3, none⟩ (.int .i64 v)) a b c v e f s t := set_at h 3 _
set_option maxRecDepth 100000 in
theorem Nbx.set4 {p : Nat} {w : World} {a b c d e f s t : Int} (h : Nbx p w a b c d e f s t) (v : Int) : Nbx p (w.setCell ⟨p, 4, none⟩ (.int .i64 v)) a b c d v f s t := set_at h 4 _
set_option maxRecDepth 100000 in
theorem Nbx.set5 {p : Nat} {w : World} {a b c d e f s t : Int} (h : Nbx p w a b c d e f s t) (v : Int) : Nbx p (w.setCell ⟨p, 5, none⟩ (.int .i64 v)) a b c d e v s t := set_at h 5 _
set_option maxRecDepth 100000 in
theorem Nbx.set6 {p : Nat} {w : World} {a b c d e f s t : Int} (h : Nbx p w a b c d e f s t) (v : Int) : Nbx p (w.setCell ⟨p, 6, none⟩ (.int .i64 v)) a b c d e f v t := set_at h 6 _
set_option maxRecDepth 100000 in
theorem Nbx.set7 {p : Nat} {w : World} {a b c d e f s t : Int} (h : Nbx p w a b c d e f s t) (v : Int) : Nbx p (w.setCell ⟨p, 7, none⟩ (.int .i64 v)) a b c d e f s v := set_at h 7 _
set_option maxRecDepth 100000 in
theorem load24 {q : Nat} {w : World} {n : Ino} (h : Box q w n) : (loadVar 36 ⟨q, 0, none⟩).run Tryz.prog w = .ok n.v w := by
  obtain ⟨k, l, z, a, b, c, d, e, f, s, t⟩ := n
  obtain ⟨c0, c1, c2, c3, c4, c5, c6, c7, c8, c9, c10⟩ := h.cells
  have a24 := Tryz.isAgg36
  have z24 := Tryz.sizeOf36
  simp only [Ino.v]
  go_simp
set_option maxRecDepth 100000 in
theorem store24 {q : Nat} {w : World} {n m : Ino} (h : Box q w n) : ∃ w', (Instr.storeAt 36 (.pointer (some ⟨q, 0, none⟩)) m.v).run Tryz.prog w = .ok () w' ∧ Box q w' m ∧ Kept w.heap.size q w w' := by
  have hs := run_storeCells_at Tryz.prog q 0 36 [.int .i64 m.k, .int .i64 m.l, .int .i64 m.z, .int .i64 m.a, .int .i64 m.b, .int .i64 m.c, .int .i64 m.d, .int .i64 m.e, .int .i64 m.f, .int .i64 m.s, .int .i64 m.t] 0 _ w h (by simp) (by intro v hv; simp at hv; rcases hv with rfl | rfl | rfl | rfl | rfl | rfl | rfl | rfl | rfl | rfl | rfl <;> rfl)
  simp only [List.take_zero, List.nil_append, Nat.zero_add, List.length_cons, List.length_nil] at hs
  rw [List.drop_of_length_le (by simp), List.append_nil] at hs
  refine ⟨w.setRow q #[.int .i64 m.k, .int .i64 m.l, .int .i64 m.z, .int .i64 m.a, .int .i64 m.b, .int .i64 m.c, .int .i64 m.d, .int .i64 m.e, .int .i64 m.f, .int .i64 m.s, .int .i64 m.t], ?_, ?_, ?_⟩
  rotate_left
  · exact setRow_heap w q _ #[.int .i64 m.k, .int .i64 m.l, .int .i64 m.z, .int .i64 m.a, .int .i64 m.b, .int .i64 m.c, .int .i64 m.d, .int .i64 m.e, .int .i64 m.f, .int .i64 m.s, .int .i64 m.t] 36 (0, 0) h
  · refine ⟨rfl, rfl, rfl, ?_, fun j _ hj => ?_⟩
    · show w.heap.size ≤ (w.heap.modify q _).size
      rw [Array.size_modify]
      exact Nat.le_refl _
    · show (w.heap.modify q _)[j]? = _
      rw [Array.getElem?_modify, if_neg (fun e => hj e.symm)]
  · have z24 := Tryz.sizeOf36
    have h2 : (Instr.sureAddr (.pointer (some ⟨q, 0, none⟩))).run Tryz.prog w = .ok ⟨q, 0, none⟩ w := by simp [Instr.sureAddr]
    simp only [Instr.storeAt, Ino.v, Sem.run_bind, h2, Result.andThen_ok, storeVar, z24, Value.cells]
    simp only [List.size_toArray, List.length_cons, List.length_nil, ne_eq, not_true_eq_false, if_false]
    exact hs
set_option maxRecDepth 100000 in
/-- to store a whole inode -/
theorem at_store24 {ops : Array Oper} {rest : List Oper} {p x : Operand} {ty : TypeId} {pos : String} {aft : Array Edge} {a : Act} {Q : Exit → Act → World → Prop} {w : World} (q : Nat) (n m : Ino) (hp : a.eval p = .pointer (some ⟨q, 0, none⟩)) (hx : a.eval x = m.v) (hb : Box q w n)
    (hK : ∀ w', Box q w' m → Kept w.heap.size q w w' → wpList Tryz.prog ops Q rest a w') :
    wpList Tryz.prog ops Q ({ dst := none, op := Op.store 36 p x, type := ty, pos := pos, after := aft, guard := none } :: rest) a w := by
  refine wpList_plain rfl fun K' hK' => ?_
  obtain ⟨w', hrun, r1, r2⟩ := store24 (m := m) hb
  unfold Oper.wp
  simp [execOp, hp, hx, hrun, Result.andThen]
  exact hK' _ _ (hK w' r1 r2)
set_option maxRecDepth 100000 in
set_option maxHeartbeats 2000000 in
theorem in_any (a b c d e f s t k l z a1 b1 c1 d1 e1 f1 s1 t1 : Int) (w : World) : Calls Tryz.prog 167 #[.agg #[.int .i64 a, .int .i64 b, .int .i64 c, .int .i64 d, .int .i64 e, .int .i64 f, .int .i64 s, .int .i64 t], .agg #[.int .i64 k, .int .i64 l, .int .i64 z, .int .i64 a1, .int .i64 b1, .int .i64 c1, .int .i64 d1, .int .i64 e1, .int .i64 f1, .int .i64 s1, .int .i64 t1]] w fun x w' => x = .returned (.agg #[.int .i64 k, .int .i64 l, .int .i64 z, .int .i64 a, .int .i64 b, .int .i64 c, .int .i64 d, .int .i64 e, .int .i64 f, .int .i64 s, .int .i64 t]) ∧ Below w.heap.size w w' := by
  go_enter Tryz.func167, Tryz.ntmps167
  go_wp2
  go_rounds 7
  go_region
  all_goals
    go_wp2
    go_returns
    exact ⟨rfl, by go_grown⟩
end Go.Proofs.YtokjlgebkihimaaGreat
namespace Go.Proofs.YtokjlgebkihimaaGreat
open Go.RowKit

/-- does a text end with ten zeros? -/
def sfx (y : ByteArray) : Prop := 10 ≤ y.size ∧ y.extract (y.size - 10) y.size = Z10
set_option maxRecDepth 100000 in
theorem hasS_short (y v : ByteArray) (hv : v.size = 10) (h : y.size < 10) (w : World) : Calls Tryz.prog 196 #[.string y, .string v] w fun e w' => e = .returned (.bool false) ∧ w' = w := by
  go_enter Tryz.func196, Tryz.ntmps196
  go_wp2
  go_ret
  exact ⟨rfl, rfl⟩
set_option maxRecDepth 100000 in
theorem hasS_long (y v : ByteArray) (hv : v.size = 10) (h : 10 ≤ y.size) (hs : y.size < 140737488355328) (r : Bool) (hr : ((y.extract (y.size - 10) y.size).toList == v.toList) = r) (w : World) : Calls Tryz.prog 196 #[.string y, .string v] w fun e w' => e = .returned (.bool r) ∧ w' = w := by
  have hn : ((y.size : Int) - 10).toNat = y.size - 10 := by omega
  go_enter Tryz.func196, Tryz.ntmps196
  go_wp2
  go_ret
  exact ⟨by first | rfl | (rw [← hr]; rfl), rfl⟩
set_option maxRecDepth 100000 in
theorem cutS_no (y v : ByteArray) (H : ∀ w, Calls Tryz.prog 196 #[.string y, .string v] w fun e w' => e = .returned (.bool false) ∧ w' = w) (w : World) : Calls Tryz.prog 164 #[.string y, .string v] w fun e w' => e = .returned (.tuple #[.string y, .bool false]) ∧ w' = w := by
  have HH := hid H
  have H2 : Hid (∀ w, Calls Tryz.prog 185 #[.string y, .string v] w fun e w' => e = .returned (.tuple #[.string y, .bool false]) ∧ w' = w) := by
    intro w
    clear H
    go_enter Tryz.func185, Tryz.ntmps185
    go_wp2_with (first | (go_at_call 196; refine (HH.out _).mono ?_; rintro e w1 ⟨rfl, rfl⟩))
    go_ret2
    exact ⟨rfl, rfl⟩
  clear H HH
  go_enter Tryz.func164, Tryz.ntmps164
  go_wp2_with (first | (go_at_call 185; refine (H2.out _).mono ?_; rintro e w1 ⟨rfl, rfl⟩))
  go_ret2
  exact ⟨rfl, rfl⟩
set_option maxRecDepth 100000 in
theorem cutS_yes (y v : ByteArray) (hv : v.size = 10) (h : 10 ≤ y.size) (hs : y.size < 140737488355328) (H : ∀ w, Calls Tryz.prog 196 #[.string y, .string v] w fun e w' => e = .returned (.bool true) ∧ w' = w) (w : World) : Calls Tryz.prog 164 #[.string y, .string v] w fun e w' => e = .returned (.tuple #[.string (y.extract 0 (y.size - 10)), .bool true]) ∧ w' = w := by
  have HH := hid H
  have hn : ((y.size : Int) - 10).toNat = y.size - 10 := by omega
  have H2 : Hid (∀ w, Calls Tryz.prog 185 #[.string y, .string v] w fun e w' => e = .returned (.tuple #[.string (y.extract 0 (y.size - 10)), .bool true]) ∧ w' = w) := by
    intro w
    clear H
    go_enter Tryz.func185, Tryz.ntmps185
    go_wp2_with (first | (go_at_call 196; refine (HH.out _).mono ?_; rintro e w1 ⟨rfl, rfl⟩))
    go_ret2
    exact ⟨by first | rfl | (rw [hn]; rfl), rfl⟩
  clear H HH
  go_enter Tryz.func164, Tryz.ntmps164
  go_wp2_with (first | (go_at_call 185; refine (H2.out _).mono ?_; rintro e w1 ⟨rfl, rfl⟩))
  go_ret2
  exact ⟨rfl, rfl⟩
set_option maxRecDepth 100000 in
theorem cut_any (y : ByteArray) (hs : y.size < 140737488355328) : (sfx y ∧ ∀ w, Calls Tryz.prog 164 #[.string y, .string Z10] w fun e w' => e = .returned (.tuple #[.string (y.extract 0 (y.size - 10)), .bool true]) ∧ w' = w) ∨ (¬ sfx y ∧ ∀ w, Calls Tryz.prog 164 #[.string y, .string Z10] w fun e w' => e = .returned (.tuple #[.string y, .bool false]) ∧ w' = w) := by
  by_cases h : 10 ≤ y.size
  · by_cases h2 : y.extract (y.size - 10) y.size = Z10
    · exact .inl ⟨⟨h, h2⟩, cutS_yes y Z10 z10_size h hs (hasS_long y Z10 z10_size h hs true (str_eq h2))⟩
    · exact .inr ⟨fun h3 => h2 h3.2, cutS_no y Z10 (hasS_long y Z10 z10_size h hs false (str_ne h2))⟩
  · exact .inr ⟨fun h3 => h h3.1, cutS_no y Z10 (hasS_short y Z10 z10_size (by omega))⟩
/-- what a number read says -/
structure RD (k : Nat) (s : ByteArray) (e : Int) (x : Nat) (s' : ByteArray) (e' : Int) : Prop where
  back : e' = 0 → e = 0 ∧ s.data.toList = fEnc x k ++ s'.data.toList ∧ x < 256 ^ k
  ahead : ∀ n r, n < 256 ^ k → n < 9223372036854775808 → e = 0 → s.data.toList = fEnc n k ++ r → e' = 0 ∧ s'.data.toList = r ∧ x = n
  size : s'.size ≤ s.size
  lt : x < 9223372036854775808
set_option maxRecDepth 100000 in
theorem rd_fx (k : Nat) (s : ByteArray) (e : Int) : RD k s e (fxN k s e) (fxS k s e) (fxE k s e) := by
  refine ⟨fun h => ?_, fun n r h1 h2 he hs => ?_, fxS_size k s e, ?_⟩
  · obtain ⟨h1, h2, h3, _⟩ := fx_back k h
    exact ⟨h1, h2, h3⟩
  · subst he
    exact fx_of k h1 h2 hs
  · unfold fxN
    split
    · decide
    · split
      · decide
      · split
        · assumption
        · decide
/-- while an inode is read: the answer's block, the reader's, the inode's -/
structure DSt (w0 : World) (R r q : Nat) (w : World) (s : ByteArray) (e : Int) (n : Ino) : Prop where
  rd : RIs r w s e
  res : Box R w Ino.zero
  box : Box q w n
  rR : R ≠ r
  rq : q ≠ r
  Rq : R ≠ q
  lR : w0.heap.size ≤ R
  lr : w0.heap.size ≤ r
  lq : w0.heap.size ≤ q
  sz : s.size ≤ maxLen
  bel : Below w0.heap.size w0 w
set_option maxRecDepth 100000 in
theorem DSt.below {w0 : World} {R r q : Nat} {w w' : World} {s : ByteArray} {e : Int} {n : Ino} (h : DSt w0 R r q w s e n) (k : Below w.heap.size w w') : DSt w0 R r q w' s e n :=
  ⟨h.rd.below k, h.res.below k, h.box.below k, h.rR, h.rq, h.Rq, h.lR, h.lr, h.lq, h.sz, h.bel.next k⟩
set_option maxRecDepth 100000 in
theorem DSt.read {w0 : World} {R r q : Nat} {w : World} {s : ByteArray} {e : Int} {n : Ino} (h : DSt w0 R r q w s e n) (k : Nat) (hk : sized k = true) (hk8 : k ≤ 8) :
    Calls Tryz.prog 166 #[.pointer (some ⟨r, 0, none⟩), .int .i64 k] w fun v w' => ∃ (x : Nat) (y : Int) (s' : ByteArray) (e' : Int), v = .returned (.tuple #[.int .i64 x, .int .i64 y]) ∧ RD k s e x s' e' ∧ DSt w0 R r q w' s' e' n ∧ Kept w.heap.size r w w' :=
  (fix_r k hk hk8 r s e h.sz w h.rd).mono fun _ _ ⟨⟨y, hv⟩, hr, hkp⟩ =>
    ⟨fxN k s e, y, fxS k s e, fxE k s e, hv, rd_fx k s e,
      ⟨hr, h.res.kept hkp h.res.lt h.rR, h.box.kept hkp h.box.lt h.rq, h.rR, h.rq, h.Rq, h.lR, h.lr, h.lq, Nat.le_trans (fxS_size k s e) h.sz, h.bel.trans (hkp.below h.bel.size h.lr)⟩, hkp⟩
set_option maxRecDepth 100000 in
theorem DSt.keptq {w0 : World} {R r q : Nat} {w w' : World} {s : ByteArray} {e : Int} {n m : Ino} (h : DSt w0 R r q w s e n) (k : Kept w.heap.size q w w') (hb : Box q w' m) : DSt w0 R r q w' s e m :=
  ⟨h.rd.kept k h.rd.lt (fun e => h.rq e.symm), h.res.kept k h.res.lt h.Rq, hb, h.rR, h.rq, h.Rq, h.lR, h.lr, h.lq, h.sz, h.bel.trans (k.below h.bel.size h.lq)⟩
set_option maxRecDepth 100000 in
theorem DSt.set0 {w0 : World} {R r q : Nat} {w : World} {sx : ByteArray} {ex : Int} {k l z a b c d e f s t : Int} (h : DSt w0 R r q w sx ex ⟨k, l, z, a, b, c, d, e, f, s, t⟩) (v : Int) : DSt w0 R r q (w.setCell ⟨q, 0, none⟩ (.int .i64 v)) sx ex ⟨v, l, z, a, b, c, d, e, f, s, t⟩ := h.keptq (kept_set w q 0 _) (h.box.set0 v)
set_option maxRecDepth 100000 in
theorem DSt.set1 {w0 : World} {R r q : Nat} {w : World} {sx : ByteArray} {ex : Int} {k l z a b c d e f s t : Int} (h : DSt w0 R r q w sx ex ⟨k, l, z, a, b, c, d, e, f, s, t⟩) (v : Int) : DSt w0 R r q (w.setCell ⟨q, 1, none⟩ (.int .i64 v)) sx ex ⟨k, v, z, a, b, c, d, e, f, s, t⟩ := h.keptq (kept_set w q 1 _) (h.box.set1 v)
set_option maxRecDepth 100000 in
theorem DSt.set2 {w0 : World} {R r q : Nat} {w : World} {sx : ByteArray} {ex : Int} {k l z a b c d e f s t : Int} (h : DSt w0 R r q w sx ex ⟨k, l, z, a, b, c, d, e, f, s, t⟩) (v : Int) : DSt w0 R r q (w.setCell ⟨q, 2, none⟩ (.int .i64 v)) sx ex ⟨k, l, v, a, b, c, d, e, f, s, t⟩ := h.keptq (kept_set w q 2 _) (h.box.set2 v)
/-- and the names' block -/
structure DSn (w0 : World) (R r q p : Nat) (w : World) (s : ByteArray) (e : Int) (n : Ino) (a1 b1 c1 d1 e1 f1 s1 t1 : Int) : Prop where
  d : DSt w0 R r q w s e n
  nb : Nbx p w a1 b1 c1 d1 e1 f1 s1 t1
  pR : R ≠ p
  pr : r ≠ p
  pq : q ≠ p
  lp : w0.heap.size ≤ p
set_option maxRecDepth 100000 in
theorem Nbx.lt {p : Nat} {w : World} {a b c d e f s t : Int} (h : Nbx p w a b c d e f s t) : p < w.heap.size := lt_of_block h
set_option maxRecDepth 100000 in
theorem DSn.read {w0 : World} {R r q p : Nat} {w : World} {s : ByteArray} {e : Int} {n : Ino} {a1 b1 c1 d1 e1 f1 s1 t1 : Int} (h : DSn w0 R r q p w s e n a1 b1 c1 d1 e1 f1 s1 t1) (k : Nat) (hk : sized k = true) (hk8 : k ≤ 8) :
    Calls Tryz.prog 166 #[.pointer (some ⟨r, 0, none⟩), .int .i64 k] w fun v w' => ∃ (x : Nat) (y : Int) (s' : ByteArray) (e' : Int), v = .returned (.tuple #[.int .i64 x, .int .i64 y]) ∧ RD k s e x s' e' ∧ DSn w0 R r q p w' s' e' n a1 b1 c1 d1 e1 f1 s1 t1 :=
  (h.d.read k hk hk8).mono fun _ _ ⟨x, y, s', e', hv, hr, hd, hkp⟩ =>
    ⟨x, y, s', e', hv, hr, hd, (hkp.block p h.nb.lt (fun e => h.pr e.symm)).trans h.nb, h.pR, h.pr, h.pq, h.lp⟩
set_option maxRecDepth 100000 in
theorem DSt.keptp {w0 : World} {R r q p : Nat} {w w' : World} {s : ByteArray} {e : Int} {n : Ino} (h : DSt w0 R r q w s e n) (k : Kept w.heap.size p w w') (h1 : R ≠ p) (h2 : r ≠ p) (h3 : q ≠ p) (h4 : w0.heap.size ≤ p) : DSt w0 R r q w' s e n :=
  ⟨h.rd.kept k h.rd.lt h2, h.res.kept k h.res.lt h1, h.box.kept k h.box.lt h3, h.rR, h.rq, h.Rq, h.lR, h.lr, h.lq, h.sz, h.bel.trans (k.below h.bel.size h4)⟩
set_option maxRecDepth 100000 in
theorem DSn.new {w0 : World} {R r q : Nat} {w : World} {s : ByteArray} {e : Int} {n : Ino} (h : DSt w0 R r q w s e n) : DSn w0 R r q w.heap.size (w.alloc (.cells #[.int .i64 0, .int .i64 0, .int .i64 0, .int .i64 0, .int .i64 0, .int .i64 0, .int .i64 0, .int .i64 0] 140)) s e n 0 0 0 0 0 0 0 0 :=
  ⟨h.below (below_alloc w _), box_at _ _, fun e => by have := h.res.lt; omega, fun e => by have := h.rd.lt; omega, fun e => by have := h.box.lt; omega, h.bel.size⟩
set_option maxRecDepth 100000 in
theorem DSn.set0 {w0 : World} {R r q p : Nat} {w : World} {s : ByteArray} {e : Int} {n : Ino} {a1 b1 c1 d1 e1 f1 s1 t1 : Int} (h : DSn w0 R r q p w s e n a1 b1 c1 d1 e1 f1 s1 t1) (v : Int) : DSn w0 R r q p (w.setCell ⟨p, 0, none⟩ (.int .i64 v)) s e n v b1 c1 d1 e1 f1 s1 t1 := ⟨h.d.keptp (kept_set w p 0 _) h.pR h.pr h.pq h.lp, h.nb.set0 v, h.pR, h.pr, h.pq, h.lp⟩
set_option maxRecDepth 100000 in
theorem DSn.set1 {w0 : World} {R r q p : Nat} {w : World} {s : ByteArray} {e : Int} {n : Ino} {a1 b1 c1 d1 e1 f1 s1 t1 : Int} (h : DSn w0 R r q p w s e n a1 b1 c1 d1 e1 f1 s1 t1) (v : Int) : DSn w0 R r q p (w.setCell ⟨p, 1, none⟩ (.int .i64 v)) s e n a1 v c1 d1 e1 f1 s1 t1 := ⟨h.d.keptp (kept_set w p 1 _) h.pR h.pr h.pq h.lp, h.nb.set1 v, h.pR, h.pr, h.pq, h.lp⟩
set_option maxRecDepth 100000 in
theorem DSn.set2 {w0 : World} {R r q p : Nat} {w : World} {s : ByteArray} {e : Int} {n : Ino} {a1 b1 c1 d1 e1 f1 s1 t1 : Int} (h : DSn w0 R r q p w s e n a1 b1 c1 d1 e1 f1 s1 t1) (v : Int) : DSn w0 R r q p (w.setCell ⟨p, 2, none⟩ (.int .i64 v)) s e n a1 b1 v d1 e1 f1 s1 t1 := ⟨h.d.keptp (kept_set w p 2 _) h.pR h.pr h.pq h.lp, h.nb.set2 v, h.pR, h.pr, h.pq, h.lp⟩
set_option maxRecDepth 100000 in
theorem DSn.set3 {w0 : World} {R r q p : Nat} {w : World} {s : ByteArray} {e : Int} {n : Ino} {a1 b1 c1 d1 e1 f1 s1 t1 : Int} (h : DSn w0 R r q p w s e n a1 b1 c1 d1 e1 f1 s1 t1) (v : Int) : DSn w0 R r q p (w.setCell ⟨p, 3, none⟩ (.int .i64 v)) s e n a1 b1 c1 v e1 f1 s1 t1 := ⟨h.d.keptp (kept_set w p 3 _) h.pR h.pr h.pq h.lp, h.nb.set3 v, h.pR, h.pr, h.pq, h.lp⟩
set_option maxRecDepth 100000 in
theorem DSn.set4 {w0 : World} {R r q p : Nat} {w : World} {s : ByteArray} {e : Int} {n : Ino} {a1 b1 c1 d1 e1 f1 s1 t1 : Int} (h : DSn w0 R r q p w s e n a1 b1 c1 d1 e1 f1 s1 t1) (v : Int) : DSn w0 R r q p (w.setCell ⟨p, 4, none⟩ (.int .i64 v)) s e n a1 b1 c1 d1 v f1 s1 t1 := ⟨h.d.keptp (kept_set w p 4 _) h.pR h.pr h.pq h.lp, h.nb.set4 v, h.pR, h.pr, h.pq, h.lp⟩
set_option maxRecDepth 100000 in
theorem DSn.set5 {w0 : World} {R r q p : Nat} {w : World} {s : ByteArray} {e : Int} {n : Ino} {a1 b1 c1 d1 e1 f1 s1 t1 : Int} (h : DSn w0 R r q p w s e n a1 b1 c1 d1 e1 f1 s1 t1) (v : Int) : DSn w0 R r q p (w.setCell ⟨p, 5, none⟩ (.int .i64 v)) s e n a1 b1 c1 d1 e1 v s1 t1 := ⟨h.d.keptp (kept_set w p 5 _) h.pR h.pr h.pq h.lp, h.nb.set5 v, h.pR, h.pr, h.pq, h.lp⟩
set_option maxRecDepth 100000 in
theorem DSn.set6 {w0 : World} {R r q p : Nat} {w : World} {s : ByteArray} {e : Int} {n : Ino} {a1 b1 c1 d1 e1 f1 s1 t1 : Int} (h : DSn w0 R r q p w s e n a1 b1 c1 d1 e1 f1 s1 t1) (v : Int) : DSn w0 R r q p (w.setCell ⟨p, 6, none⟩ (.int .i64 v)) s e n a1 b1 c1 d1 e1 f1 v t1 := ⟨h.d.keptp (kept_set w p 6 _) h.pR h.pr h.pq h.lp, h.nb.set6 v, h.pR, h.pr, h.pq, h.lp⟩
set_option maxRecDepth 100000 in
theorem DSn.set7 {w0 : World} {R r q p : Nat} {w : World} {s : ByteArray} {e : Int} {n : Ino} {a1 b1 c1 d1 e1 f1 s1 t1 : Int} (h : DSn w0 R r q p w s e n a1 b1 c1 d1 e1 f1 s1 t1) (v : Int) : DSn w0 R r q p (w.setCell ⟨p, 7, none⟩ (.int .i64 v)) s e n a1 b1 c1 d1 e1 f1 s1 v := ⟨h.d.keptp (kept_set w p 7 _) h.pR h.pr h.pq h.lp, h.nb.set7 v, h.pR, h.pr, h.pq, h.lp⟩
end Go.Proofs.YtokjlgebkihimaaGreat
