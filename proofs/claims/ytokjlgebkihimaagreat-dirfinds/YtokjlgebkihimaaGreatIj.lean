import Derived.Test.YtokjlgebkihimaaGreatIi
namespace Go.Proofs.YtokjlgebkihimaaGreat
open Go.RowKit

set_option maxRecDepth 100000 in
theorem enc_sfx {y : ByteArray} {n : Ino} (h : y.data.toList = encL n) : sfx y := by
  have hl : y.size = 32 := by rw [← len_list, h, encL_len]
  refine ⟨by omega, ?_⟩
  apply ByteArray.ext
  apply Array.toList_inj.1
  rw [ext_list, h, hl, List.take_of_length_le (by rw [encL_len]; exact Nat.le_refl _)]
  unfold encL encN Z10
  simp [fEnc, st]
set_option maxRecDepth 100000 in
theorem ret11 {a : Act} {w : World} {R : Nat} {m : Ino} {e : Int} {post : Ending → World → Prop} (hb : Box R w m) (h2 : a.tmps.getD 2 undef = .pointer (some ⟨R, 0, none⟩)) (h3 : a.tmps.getD 3 undef = .int .i64 e) (hd : a.defers = []) (hp : post (.returned (.tuple #[m.v, .int .i64 e])) w) : bodyPost Tryz.prog Tryz.f130 post .ret a w := by
  refine bodyPost_ret (v := .tuple #[m.v, .int .i64 e]) ?_ hd hp
  rw [results_cell_tmp (p := 2) (u := 3) (ty := 36) rfl, h2, h3]
  simp [asAddr, Result.andThen, load24 hb]
set_option maxRecDepth 100000 in
set_option maxHeartbeats 2000000 in
theorem decode_nosfx (y : ByteArray) (H : ∀ w, Calls Tryz.prog 164 #[.string y, .string Z10] w fun e w' => e = .returned (.tuple #[.string y, .bool false]) ∧ w' = w) (w : World) : Calls Tryz.prog 130 #[.string y] w fun x w' => x = .returned (.tuple #[Ino.zero.v, .int .i64 120]) ∧ Below w.heap.size w w' := by
  have HC := hid H
  have HR := hid rest_any
  obtain ⟨v, hve⟩ : ∃ v, v = Z10 := ⟨_, rfl⟩
  rw [← hve] at HC HR
  clear hve H
  have hB0 : Box w.heap.size (w.alloc (.cells #[.int .i64 0, .int .i64 0, .int .i64 0, .int .i64 0, .int .i64 0, .int .i64 0, .int .i64 0, .int .i64 0, .int .i64 0, .int .i64 0, .int .i64 0] 36)) Ino.zero := box_at _ _
  have HB0 := hid hB0
  clear hB0
  go_enter Tryz.func130, Tryz.ntmps130
  go_wp2_with (first
    | (go_at_call 153; refine (HR.out _).mono ?_; rintro x w1 ⟨rfl, hb1⟩; have HB1 := hid (HB0.out.below hb1); have HW : Hid (Below w.heap.size w w1) := (below_alloc w _).next hb1; clear hb1)
    | (go_at_call 164; refine (HC.out _).mono ?_; rintro x w2 ⟨rfl, rfl⟩)
    | ((with_reducible refine at_store24 w.heap.size Ino.zero Ino.zero ?_ ?_ HB1.out ?_); rfl; rfl; intro w3 hB3 hk3))
  exact ret11 hB3 rfl rfl rfl ⟨rfl, HW.out.trans (hk3.below HW.out.size (Nat.le_refl _))⟩
set_option maxRecDepth 100000 in
/-- where the inode's block was laid -/
theorem DSt.new {w0 w1 : World} {R : Nat} {X : ByteArray} (hR : Box R w1 Ino.zero) (h0 : w0.heap.size ≤ R) (hb : Below w0.heap.size w0 w1) (hX : X.size ≤ maxLen) : DSt w0 R w1.heap.size (w1.heap.size + 1) ((w1.alloc (.cells #[.string X, .int .i64 0] 244)).alloc (.cells #[.int .i64 0, .int .i64 0, .int .i64 0, .int .i64 0, .int .i64 0, .int .i64 0, .int .i64 0, .int .i64 0, .int .i64 0, .int .i64 0, .int .i64 0] 36)) X 0 Ino.zero := by
  have hl := hR.lt
  have k1 := below_alloc w1 (.cells #[.string X, .int .i64 0] 244)
  have hs : (w1.alloc (.cells #[.string X, .int .i64 0] 244)).heap.size = w1.heap.size + 1 := by show (w1.heap.push _).size = _; simp
  have k2 := below_alloc (w1.alloc (.cells #[.string X, .int .i64 0] 244)) (.cells #[.int .i64 0, .int .i64 0, .int .i64 0, .int .i64 0, .int .i64 0, .int .i64 0, .int .i64 0, .int .i64 0, .int .i64 0, .int .i64 0, .int .i64 0] 36)
  refine ⟨(RIs.new X w1).below k2, (hR.below k1).below k2, ?_, by omega, by omega, by omega, h0, hb.size, Nat.le_trans hb.size (by omega), hX, (hb.next k1).next k2⟩
  rw [← hs]
  exact box_at _ _
set_option maxRecDepth 100000 in
theorem endV_zero {s : ByteArray} {e : Int} (h : endV s e = 0) : e = 0 ∧ s.data.toList = [] := by
  unfold endV at h
  split at h
  · rename_i h1; exact absurd h h1
  · rename_i h1
    split at h
    · rename_i h2
      exact ⟨by omega, List.eq_nil_of_length_eq_zero (by rw [len_list]; exact h2)⟩
    · exact absurd h (by decide)
set_option maxRecDepth 100000 in
theorem endV_ok {s : ByteArray} (h : s.data.toList = []) : endV s 0 = 0 := by
  have : s.size = 0 := by rw [← len_list, h]; rfl
  unfold endV
  rw [if_neg (by decide), if_pos this]
set_option maxRecDepth 100000 in
theorem chain_back {X s1 s2 s3 s4 s5 s6 s7 s8 s9 s10 s11 : ByteArray} {x1 x2 x3 x4 x5 x6 x7 x8 x9 x10 x11 : Nat} {e1 e2 e3 e4 e5 e6 e7 e8 e9 e10 e11 : Int} (h1 : RD 1 X 0 x1 s1 e1) (h2 : RD 1 s1 e1 x2 s2 e2) (h3 : RD 4 s2 e2 x3 s3 e3) (h4 : RD 2 s3 e3 x4 s4 e4) (h5 : RD 2 s4 e4 x5 s5 e5) (h6 : RD 2 s5 e5 x6 s6 e6) (h7 : RD 2 s6 e6 x7 s7 e7) (h8 : RD 2 s7 e7 x8 s8 e8) (h9 : RD 2 s8 e8 x9 s9 e9) (h10 : RD 2 s9 e9 x10 s10 e10) (h11 : RD 2 s10 e10 x11 s11 e11) (hE : endV s11 e11 = 0) :
    X.data.toList ++ List.replicate 10 0 = encN x1 x2 x3 x4 x5 x6 x7 x8 x9 x10 x11 ∧ x1 < 256 ∧ x2 < 256 ∧ x3 < 4294967296 ∧ x4 < 65536 ∧ x5 < 65536 ∧ x6 < 65536 ∧ x7 < 65536 ∧ x8 < 65536 ∧ x9 < 65536 ∧ x10 < 65536 ∧ x11 < 65536 := by
  obtain ⟨z11, hn⟩ := endV_zero hE
  obtain ⟨z10, l11, b11⟩ := h11.back z11
  obtain ⟨z9, l10, b10⟩ := h10.back z10
  obtain ⟨z8, l9, b9⟩ := h9.back z9
  obtain ⟨z7, l8, b8⟩ := h8.back z8
  obtain ⟨z6, l7, b7⟩ := h7.back z7
  obtain ⟨z5, l6, b6⟩ := h6.back z6
  obtain ⟨z4, l5, b5⟩ := h5.back z5
  obtain ⟨z3, l4, b4⟩ := h4.back z4
  obtain ⟨z2, l3, b3⟩ := h3.back z3
  obtain ⟨z1, l2, b2⟩ := h2.back z2
  obtain ⟨_, l1, b1⟩ := h1.back z1
  refine ⟨?_, b1, b2, b3, b4, b5, b6, b7, b8, b9, b10, b11⟩
  rw [l1, l2, l3, l4, l5, l6, l7, l8, l9, l10, l11, hn]
  unfold encN
  simp
set_option maxRecDepth 100000 in
theorem chain_ahead {X s1 s2 s3 s4 s5 s6 s7 s8 s9 s10 s11 : ByteArray} {x1 x2 x3 x4 x5 x6 x7 x8 x9 x10 x11 : Nat} {e1 e2 e3 e4 e5 e6 e7 e8 e9 e10 e11 : Int} (h1 : RD 1 X 0 x1 s1 e1) (h2 : RD 1 s1 e1 x2 s2 e2) (h3 : RD 4 s2 e2 x3 s3 e3) (h4 : RD 2 s3 e3 x4 s4 e4) (h5 : RD 2 s4 e4 x5 s5 e5) (h6 : RD 2 s5 e5 x6 s6 e6) (h7 : RD 2 s6 e6 x7 s7 e7) (h8 : RD 2 s7 e7 x8 s8 e8) (h9 : RD 2 s8 e8 x9 s9 e9) (h10 : RD 2 s9 e9 x10 s10 e10) (h11 : RD 2 s10 e10 x11 s11 e11) {n1 n2 n3 n4 n5 n6 n7 n8 n9 n10 n11 : Nat} (b1 : n1 < 256) (b2 : n2 < 256) (b3 : n3 < 4294967296) (b4 : n4 < 65536) (b5 : n5 < 65536) (b6 : n6 < 65536) (b7 : n7 < 65536) (b8 : n8 < 65536) (b9 : n9 < 65536) (b10 : n10 < 65536) (b11 : n11 < 65536)
    (hy : X.data.toList ++ List.replicate 10 0 = encN n1 n2 n3 n4 n5 n6 n7 n8 n9 n10 n11) : endV s11 e11 = 0 ∧ x1 = n1 ∧ x2 = n2 ∧ x3 = n3 ∧ x4 = n4 ∧ x5 = n5 ∧ x6 = n6 ∧ x7 = n7 ∧ x8 = n8 ∧ x9 = n9 ∧ x10 = n10 ∧ x11 = n11 := by
  have hx : X.data.toList = fEnc n1 1 ++ (fEnc n2 1 ++ (fEnc n3 4 ++ (fEnc n4 2 ++ (fEnc n5 2 ++ (fEnc n6 2 ++ (fEnc n7 2 ++ (fEnc n8 2 ++ (fEnc n9 2 ++ (fEnc n10 2 ++ fEnc n11 2))))))))) := by
    apply List.append_cancel_right (bs := List.replicate 10 0)
    rw [hy]
    unfold encN
    simp
  obtain ⟨z1, l1, q1⟩ := h1.ahead n1 _ b1 (by omega) rfl hx
  obtain ⟨z2, l2, q2⟩ := h2.ahead n2 _ b2 (by omega) z1 l1
  obtain ⟨z3, l3, q3⟩ := h3.ahead n3 _ b3 (by omega) z2 l2
  obtain ⟨z4, l4, q4⟩ := h4.ahead n4 _ b4 (by omega) z3 l3
  obtain ⟨z5, l5, q5⟩ := h5.ahead n5 _ b5 (by omega) z4 l4
  obtain ⟨z6, l6, q6⟩ := h6.ahead n6 _ b6 (by omega) z5 l5
  obtain ⟨z7, l7, q7⟩ := h7.ahead n7 _ b7 (by omega) z6 l6
  obtain ⟨z8, l8, q8⟩ := h8.ahead n8 _ b8 (by omega) z7 l7
  obtain ⟨z9, l9, q9⟩ := h9.ahead n9 _ b9 (by omega) z8 l8
  obtain ⟨z10, l10, q10⟩ := h10.ahead n10 _ b10 (by omega) z9 l9
  obtain ⟨z11, l11, q11⟩ := h11.ahead n11 [] b11 (by omega) z10 (by rw [l10, List.append_nil])
  subst z11
  exact ⟨endV_ok l11, q1, q2, q3, q4, q5, q6, q7, q8, q9, q10, q11⟩
set_option maxRecDepth 100000 in
theorem DSt.read1 {w0 : World} {R r q : Nat} {w : World} {s : ByteArray} {e : Int} {n : Ino} (h : DSt w0 R r q w s e n) :
    Calls Tryz.prog 166 #[.pointer (some ⟨r, 0, none⟩), .int .i64 1] w fun v w' => ∃ (x : Nat) (y : Int) (s' : ByteArray) (e' : Int), v = .returned (.tuple #[.int .i64 x, .int .i64 y]) ∧ RD 1 s e x s' e' ∧ DSt w0 R r q w' s' e' n :=
  (h.read 1 (by decide) (by decide)).mono fun _ _ ⟨x, y, s', e', h1, h2, h3, _⟩ => ⟨x, y, s', e', h1, h2, h3⟩
set_option maxRecDepth 100000 in
theorem DSt.read4 {w0 : World} {R r q : Nat} {w : World} {s : ByteArray} {e : Int} {n : Ino} (h : DSt w0 R r q w s e n) :
    Calls Tryz.prog 166 #[.pointer (some ⟨r, 0, none⟩), .int .i64 4] w fun v w' => ∃ (x : Nat) (y : Int) (s' : ByteArray) (e' : Int), v = .returned (.tuple #[.int .i64 x, .int .i64 y]) ∧ RD 4 s e x s' e' ∧ DSt w0 R r q w' s' e' n :=
  (h.read 4 (by decide) (by decide)).mono fun _ _ ⟨x, y, s', e', h1, h2, h3, _⟩ => ⟨x, y, s', e', h1, h2, h3⟩
set_option maxRecDepth 100000 in
theorem DSn.read2 {w0 : World} {R r q p : Nat} {w : World} {s : ByteArray} {e : Int} {n : Ino} {a1 b1 c1 d1 e1 f1 s1 t1 : Int} (h : DSn w0 R r q p w s e n a1 b1 c1 d1 e1 f1 s1 t1) :
    Calls Tryz.prog 166 #[.pointer (some ⟨r, 0, none⟩), .int .i64 2] w fun v w' => ∃ (x : Nat) (y : Int) (s' : ByteArray) (e' : Int), v = .returned (.tuple #[.int .i64 x, .int .i64 y]) ∧ RD 2 s e x s' e' ∧ DSn w0 R r q p w' s' e' n a1 b1 c1 d1 e1 f1 s1 t1 :=
  h.read 2 (by decide) (by decide)
set_option maxRecDepth 100000 in
set_option maxHeartbeats 8000000 in
theorem decode_sfx (y X : ByteArray) (hX : X.size ≤ maxLen) (H : ∀ w, Calls Tryz.prog 164 #[.string y, .string Z10] w fun e w' => e = .returned (.tuple #[.string X, .bool true]) ∧ w' = w) (post : Ending → Prop)
    (hP : (∀ n1 n2 n3 n4 n5 n6 n7 n8 n9 n10 n11 : Nat, (X.data.toList ++ List.replicate 10 0 = encN n1 n2 n3 n4 n5 n6 n7 n8 n9 n10 n11 ∧ n1 < 256 ∧ n2 < 256 ∧ n3 < 4294967296 ∧ n4 < 65536 ∧ n5 < 65536 ∧ n6 < 65536 ∧ n7 < 65536 ∧ n8 < 65536 ∧ n9 < 65536 ∧ n10 < 65536 ∧ n11 < 65536) → rightI ⟨n1, n2, n3, n4, n5, n6, n7, n8, n9, n10, n11⟩ = true → post (.returned (.tuple #[Ino.v ⟨n1, n2, n3, n4, n5, n6, n7, n8, n9, n10, n11⟩, .int .i64 0]))) ∧
      ((∀ n1 n2 n3 n4 n5 n6 n7 n8 n9 n10 n11 : Nat, rightI ⟨n1, n2, n3, n4, n5, n6, n7, n8, n9, n10, n11⟩ = true → n1 < 256 → n2 < 256 → n3 < 4294967296 → n4 < 65536 → n5 < 65536 → n6 < 65536 → n7 < 65536 → n8 < 65536 → n9 < 65536 → n10 < 65536 → n11 < 65536 → X.data.toList ++ List.replicate 10 0 = encN n1 n2 n3 n4 n5 n6 n7 n8 n9 n10 n11 → False) → post (.returned (.tuple #[Ino.zero.v, .int .i64 120]))))
    (w : World) : Calls Tryz.prog 130 #[.string y] w fun x w' => post x ∧ Below w.heap.size w w' := by
  have HP := hid hP
  clear hP
  have HC := hid H
  have HR := hid rest_any
  obtain ⟨v, hve⟩ : ∃ v, v = Z10 := ⟨_, rfl⟩
  rw [← hve] at HC HR
  clear hve H
  have HO := hid of_any
  have HX := hid hX
  clear hX
  have hB0 : Box w.heap.size (w.alloc (.cells #[.int .i64 0, .int .i64 0, .int .i64 0, .int .i64 0, .int .i64 0, .int .i64 0, .int .i64 0, .int .i64 0, .int .i64 0, .int .i64 0, .int .i64 0] 36)) Ino.zero := box_at _ _
  have HB0 := hid hB0
  clear hB0
  have t1 : Hid True := trivial
  have t2 : Hid True := trivial
  have t3 : Hid True := trivial
  go_enter Tryz.func130, Tryz.ntmps130
  go_upto_region 6 with (first
    | (go_at_call 153; refine (HR.out _).mono ?_; rintro x w1 ⟨rfl, hb1⟩; have HB1 := hid (HB0.out.below hb1); have HW : Hid (Below w.heap.size w w1) := (below_alloc w _).next hb1; clear hb1)
    | (go_at_call 164; refine (HC.out _).mono ?_; rintro x w2 ⟨rfl, hw2⟩; rw [← hw2] at HB1 HW; clear hw2)
    | (go_at_call 165; refine (HO.out _ _).mono ?_; rintro x w3 ⟨rfl, hw3⟩; have hD := hid (DSt.new (w0 := w) (X := X) HB1.out (Nat.le_refl _) HW.out HX.out); rw [← hw3] at hD))
  replace hD : Hid (DSt w w.heap.size w2.heap.size (w2.heap.size + 1) ((w2.alloc (.cells #[.string X, .int .i64 0] 244)).alloc (.cells #[.int .i64 0, .int .i64 0, .int .i64 0, .int .i64 0, .int .i64 0, .int .i64 0, .int .i64 0, .int .i64 0, .int .i64 0, .int .i64 0, .int .i64 0] 36)) X 0 ⟨0, 0, 0, 0, 0, 0, 0, 0, 0, 0, 0⟩) := by
    rw [hw3] at hD; exact hD.out
  clear hw3 HB1 HW HB0 HO HR HC w3 w1
  obtain ⟨W, hW⟩ : ∃ W, W = (w2.alloc (.cells #[.string X, .int .i64 0] 244)).alloc (.cells #[.int .i64 0, .int .i64 0, .int .i64 0, .int .i64 0, .int .i64 0, .int .i64 0, .int .i64 0, .int .i64 0, .int .i64 0, .int .i64 0, .int .i64 0] 36) := ⟨_, rfl⟩
  rw [← hW] at hD ⊢
  obtain ⟨q, hq⟩ : ∃ q, q = w2.heap.size + 1 := ⟨_, rfl⟩
  obtain ⟨r, hr⟩ : ∃ r, r = w2.heap.size := ⟨_, rfl⟩
  obtain ⟨R, hR⟩ : ∃ R, R = w.heap.size := ⟨_, rfl⟩
  rw [← hq, ← hr, ← hR] at hD ⊢
  clear hW hq hr hR
  have c := hD.out.box.cells.1
  have f := hD.out.box.free 0
  go_wp2_with (first
    | (go_at_call 166; clear t1 c f; refine (hD.out.read1).mono ?_; rintro v w1 ⟨x1, y1, s1, e1, rfl, hR1, hD1⟩; replace hR1 := hid hR1; replace hD := hid hD1; clear hD1; have f := hD.out.box.free 0; have c := hD.out.box.cells.1)
    | (go_at_call 166; clear t2 c f; refine ((hD.out.set0 _).read1).mono ?_; rintro v w2 ⟨x2, y2, s2, e2, rfl, hR2, hD2⟩; replace hR2 := hid hR2; replace hD := hid hD2; clear hD2; have f := hD.out.box.free 1; have c := hD.out.box.cells.2.1)
    | (go_at_call 166; clear t3 c f; refine ((hD.out.set1 _).read4).mono ?_; rintro v w3 ⟨x3, y3, s3, e3, rfl, hR3, hD3⟩; replace hR3 := hid hR3; replace hD := hid hD3; clear hD3; have f := hD.out.box.free 2; have c := hD.out.box.cells.2.2.1))
  have hN0 := DSn.new (hD.out.set2 x3)
  rw [World.size_setCell] at hN0
  clear c f
  refine wp_loop_rounds 9 ?_
  rw [rounds_succ]
  go_wp2_with (first
    | (go_at_call 166; refine (hN0.read2).mono ?_; rintro v w4 ⟨x4, y4, s4, e4, rfl, hR4, hN4⟩; replace hR4 := hid hR4; have hN := hid hN4; clear hN4 hN0 hD; have f := hN.out.nb.free 0; have c := hN.out.nb.cells.1))
  rw [rounds_succ]
  go_wp2_with (first
    | (go_at_call 166; refine ((hN.out.set0 _).read2).mono ?_; rintro v w5 ⟨x5, y5, s5, e5, rfl, hR5, hN5⟩; replace hR5 := hid hR5; replace hN := hid hN5; clear hN5 c f; have f := hN.out.nb.free 1; have c := hN.out.nb.cells.2.1))
  rw [rounds_succ]
  go_wp2_with (first
    | (go_at_call 166; refine ((hN.out.set1 _).read2).mono ?_; rintro v w6 ⟨x6, y6, s6, e6, rfl, hR6, hN6⟩; replace hR6 := hid hR6; replace hN := hid hN6; clear hN6 c f; have f := hN.out.nb.free 2; have c := hN.out.nb.cells.2.2.1))
  rw [rounds_succ]
  go_wp2_with (first
    | (go_at_call 166; refine ((hN.out.set2 _).read2).mono ?_; rintro v w7 ⟨x7, y7, s7, e7, rfl, hR7, hN7⟩; replace hR7 := hid hR7; replace hN := hid hN7; clear hN7 c f; have f := hN.out.nb.free 3; have c := hN.out.nb.cells.2.2.2.1))
  rw [rounds_succ]
  go_wp2_with (first
    | (go_at_call 166; refine ((hN.out.set3 _).read2).mono ?_; rintro v w8 ⟨x8, y8, s8, e8, rfl, hR8, hN8⟩; replace hR8 := hid hR8; replace hN := hid hN8; clear hN8 c f; have f := hN.out.nb.free 4; have c := hN.out.nb.cells.2.2.2.2.1))
  rw [rounds_succ]
  go_wp2_with (first
    | (go_at_call 166; refine ((hN.out.set4 _).read2).mono ?_; rintro v w9 ⟨x9, y9, s9, e9, rfl, hR9, hN9⟩; replace hR9 := hid hR9; replace hN := hid hN9; clear hN9 c f; have f := hN.out.nb.free 5; have c := hN.out.nb.cells.2.2.2.2.2.1))
  rw [rounds_succ]
  go_wp2_with (first
    | (go_at_call 166; refine ((hN.out.set5 _).read2).mono ?_; rintro v w10 ⟨x10, y10, s10, e10, rfl, hR10, hN10⟩; replace hR10 := hid hR10; replace hN := hid hN10; clear hN10 c f; have f := hN.out.nb.free 6; have c := hN.out.nb.cells.2.2.2.2.2.2.1))
  rw [rounds_succ]
  go_wp2_with (first
    | (go_at_call 166; refine ((hN.out.set6 _).read2).mono ?_; rintro v w11 ⟨x11, y11, s11, e11, rfl, hR11, hN11⟩; replace hR11 := hid hR11; replace hN := hid hN11; clear hN11 c f; have f := hN.out.nb.free 7; have c := hN.out.nb.cells.2.2.2.2.2.2.2))
  clear c f
  have hNL := hN.out.set7 x11
  obtain ⟨wL, hL⟩ : ∃ wL, wL = w11.setCell ⟨w3.heap.size, 7, none⟩ (.int .i64 x11) := ⟨_, rfl⟩
  rw [← hL] at hNL ⊢
  clear hL hN
  have hN := hid hNL
  clear hNL
  obtain ⟨p0, p1, p2, p3, p4, p5, p6, p7⟩ := hN.out.nb.cells
  obtain ⟨c0, c1, c2, c3, c4, c5, c6, c7, c8, c9, c10⟩ := hN.out.d.box.cells
  rw [rounds_succ]
  have HK := hid (check_any ⟨(x1 : Int), (x2 : Int), (x3 : Int), (x4 : Int), (x5 : Int), (x6 : Int), (x7 : Int), (x8 : Int), (x9 : Int), (x10 : Int), (x11 : Int)⟩)
  simp only [Ino.v] at HK
  by_cases hE : endV s11 e11 = 0
  · have HCB := hid (chain_back hR1.out hR2.out hR3.out hR4.out hR5.out hR6.out hR7.out hR8.out hR9.out hR10.out hR11.out hE)
    cases hri : rightI ⟨(x1 : Int), (x2 : Int), (x3 : Int), (x4 : Int), (x5 : Int), (x6 : Int), (x7 : Int), (x8 : Int), (x9 : Int), (x10 : Int), (x11 : Int)⟩ with
    | true =>
      rw [rightE hri] at HK
      have HE := hid (And.intro hE hri)
      have HPo := hid (HP.out.1 _ _ _ _ _ _ _ _ _ _ _ HCB.out hri)
      clear hri
      go_wp2_with (first
        | (go_at_call 167; refine (in_any _ _ _ _ _ _ _ _ _ _ _ _ _ _ _ _ _ _ _ _).mono ?_; rintro v wz ⟨rfl, hbz⟩; have hDz := hid (hN.out.d.below hbz); clear hbz)
        | ((with_reducible refine at_store24 q _ ⟨x1, x2, x3, x4, x5, x6, x7, x8, x9, x10, x11⟩ ?_ ?_ hDz.out.box ?_); rfl; rfl; intro wf hBf hkf; have hDf := hid (hDz.out.keptq hkf hBf); clear hDz hBf hkf; obtain ⟨c0, c1, c2, c3, c4, c5, c6, c7, c8, c9, c10⟩ := hDf.out.box.cells)
        | (go_at_call 168; refine (end_r r _ _ _ hDf.out.rd).mono ?_; rintro v we ⟨rfl, hwe⟩; rw [← hwe] at hDf c0 c1 c2 c3 c4 c5 c6 c7 c8 c9 c10; clear hwe)
        | (go_at_call 59; refine (HK.out _).mono ?_; rintro v wc ⟨rfl, hbc⟩; replace hDf := hid (hDf.out.below hbc); clear hbc; obtain ⟨c0, c1, c2, c3, c4, c5, c6, c7, c8, c9, c10⟩ := hDf.out.box.cells)
        | ((with_reducible refine at_store24 R Ino.zero ⟨x1, x2, x3, x4, x5, x6, x7, x8, x9, x10, x11⟩ ?_ ?_ hDf.out.res ?_); rfl; rfl; intro wr hBr hkr))
      exact ret11 hBr rfl rfl rfl ⟨HPo.out, hDf.out.bel.trans (hkr.below hDf.out.bel.size hDf.out.lR)⟩
    | false =>
      rw [rightF hri] at HK
      have HPo := hid (HP.out.2 fun n1 n2 n3 n4 n5 n6 n7 n8 n9 n10 n11 hn b1 b2 b3 b4 b5 b6 b7 b8 b9 b10 b11 hy => by
        obtain ⟨_, q1, q2, q3, q4, q5, q6, q7, q8, q9, q10, q11⟩ := chain_ahead hR1.out hR2.out hR3.out hR4.out hR5.out hR6.out hR7.out hR8.out hR9.out hR10.out hR11.out b1 b2 b3 b4 b5 b6 b7 b8 b9 b10 b11 hy
        rw [q1, q2, q3, q4, q5, q6, q7, q8, q9, q10, q11, hn] at hri
        cases hri)
      clear hri
      go_wp2_with (first
        | (go_at_call 167; refine (in_any _ _ _ _ _ _ _ _ _ _ _ _ _ _ _ _ _ _ _ _).mono ?_; rintro v wz ⟨rfl, hbz⟩; have hDz := hid (hN.out.d.below hbz); clear hbz)
        | ((with_reducible refine at_store24 q _ ⟨x1, x2, x3, x4, x5, x6, x7, x8, x9, x10, x11⟩ ?_ ?_ hDz.out.box ?_); rfl; rfl; intro wf hBf hkf; have hDf := hid (hDz.out.keptq hkf hBf); clear hDz hBf hkf; obtain ⟨c0, c1, c2, c3, c4, c5, c6, c7, c8, c9, c10⟩ := hDf.out.box.cells)
        | (go_at_call 168; refine (end_r r _ _ _ hDf.out.rd).mono ?_; rintro v we ⟨rfl, hwe⟩; rw [← hwe] at hDf c0 c1 c2 c3 c4 c5 c6 c7 c8 c9 c10; clear hwe)
        | (go_at_call 59; refine (HK.out _).mono ?_; rintro v wc ⟨rfl, hbc⟩; replace hDf := hid (hDf.out.below hbc); clear hbc; obtain ⟨c0, c1, c2, c3, c4, c5, c6, c7, c8, c9, c10⟩ := hDf.out.box.cells)
        | ((with_reducible refine at_store24 R Ino.zero Ino.zero ?_ ?_ hDf.out.res ?_); rfl; rfl; intro wr hBr hkr))
      exact ret11 hBr rfl rfl rfl ⟨HPo.out, hDf.out.bel.trans (hkr.below hDf.out.bel.size hDf.out.lR)⟩
  · have HPo := hid (HP.out.2 fun n1 n2 n3 n4 n5 n6 n7 n8 n9 n10 n11 hn b1 b2 b3 b4 b5 b6 b7 b8 b9 b10 b11 hy => hE (chain_ahead hR1.out hR2.out hR3.out hR4.out hR5.out hR6.out hR7.out hR8.out hR9.out hR10.out hR11.out b1 b2 b3 b4 b5 b6 b7 b8 b9 b10 b11 hy).1)
    go_wp2_with (first
      | (go_at_call 167; refine (in_any _ _ _ _ _ _ _ _ _ _ _ _ _ _ _ _ _ _ _ _).mono ?_; rintro v wz ⟨rfl, hbz⟩; have hDz := hid (hN.out.d.below hbz); clear hbz)
      | ((with_reducible refine at_store24 q _ ⟨x1, x2, x3, x4, x5, x6, x7, x8, x9, x10, x11⟩ ?_ ?_ hDz.out.box ?_); rfl; rfl; intro wf hBf hkf; have hDf := hid (hDz.out.keptq hkf hBf); clear hDz hBf hkf; obtain ⟨c0, c1, c2, c3, c4, c5, c6, c7, c8, c9, c10⟩ := hDf.out.box.cells)
      | (go_at_call 168; refine (end_r r _ _ _ hDf.out.rd).mono ?_; rintro v we ⟨rfl, hwe⟩; rw [← hwe] at hDf c0 c1 c2 c3 c4 c5 c6 c7 c8 c9 c10; clear hwe)
      | (go_at_call 59; refine (HK.out _).mono ?_; rintro v wc ⟨rfl, hbc⟩; replace hDf := hid (hDf.out.below hbc); clear hbc; obtain ⟨c0, c1, c2, c3, c4, c5, c6, c7, c8, c9, c10⟩ := hDf.out.box.cells)
      | ((with_reducible refine at_store24 R Ino.zero Ino.zero ?_ ?_ hDf.out.res ?_); rfl; rfl; intro wr hBr hkr))
    exact ret11 hBr rfl rfl rfl ⟨HPo.out, hDf.out.bel.trans (hkr.below hDf.out.bel.size hDf.out.lR)⟩

end Go.Proofs.YtokjlgebkihimaaGreat
