import Derived.Test.YtjphfpfagnhelaaEa
namespace Go.Proofs.Ytjphfpfagnhelaa
open Go.RowKit

theorem _root_.Go.RowKit.Below.next {a b c : World} (h : Below a.heap.size a b) (k : Below b.heap.size b c) : Below a.heap.size a c := h.trans (k.mono h.size)
/-- an entry in memory -/
def Box (q : Nat) (w : World) (x : Ent) : Prop := w.heap[q]? = some (.cells #[.int .i64 x.V, .int .i64 x.C, .int .i64 x.R, .int .i64 x.K, .int .i64 x.A, .int .i64 x.N, .string x.p, .string x.t, .string x.d] 54 (0, 0))
theorem Box.cells {q : Nat} {w : World} {V C R K A N : Int} {p t d : ByteArray} (h : Box q w ⟨V, C, R, K, A, N, p, t, d⟩) : w.cell? ⟨q, 0, none⟩ = some (.int .i64 V) ∧ w.cell? ⟨q, 1, none⟩ = some (.int .i64 C) ∧ w.cell? ⟨q, 2, none⟩ = some (.int .i64 R) ∧ w.cell? ⟨q, 3, none⟩ = some (.int .i64 K) ∧ w.cell? ⟨q, 4, none⟩ = some (.int .i64 A) ∧ w.cell? ⟨q, 5, none⟩ = some (.int .i64 N) ∧ w.cell? ⟨q, 6, none⟩ = some (.string p) ∧ w.cell? ⟨q, 7, none⟩ = some (.string t) ∧ w.cell? ⟨q, 8, none⟩ = some (.string d) := by
  unfold Box at h
  simp [World.cell?, h]
theorem Box.free {q : Nat} {w : World} {n : Ent} (h : Box q w n) (i : Nat) : w.frozen? ⟨q, i, none⟩ = false := by
  unfold Box at h
  simp [World.frozen?, h]
theorem Box.lt {q : Nat} {w : World} {n : Ent} (h : Box q w n) : q < w.heap.size := lt_of_block h
theorem Box.kept {q g B : Nat} {w w' : World} {n : Ent} (h : Box q w n) (k : Kept B g w w') (hb : q < B) (hg : q ≠ g) : Box q w' n := (k.block q hb hg).trans h
theorem Box.below {q B : Nat} {w w' : World} {n : Ent} (h : Box q w n) (k : Below B w w') (hb : q < B) : Box q w' n := (k.block q hb).trans h
theorem box_at (w : World) (o : Obj) : (w.alloc o).heap[w.heap.size]? = some o := by show (w.heap.push o)[w.heap.size]? = _; simp
theorem WIs.below {base g : Nat} {w w' : World} {bs : List UInt8} (h : WIs base g w bs) (k : Below w.heap.size w w') : WIs base g w' bs := by
  obtain ⟨v, h1, h2⟩ := h
  refine ⟨v, (k.block g (lt_of_block h1)).trans h1, ?_⟩
  obtain ⟨e1, e2 | ⟨b, cap, cur, rfl, e3, e4, e5⟩⟩ := h2
  · exact ⟨e1, .inl e2⟩
  · exact ⟨e1, .inr ⟨b, cap, cur, rfl, e3, (k.block b (lt_of_block e4)).trans e4, e5⟩⟩
theorem RIs.below {g : Nat} {w w' : World} {s : ByteArray} {e : Int} (h : RIs g w s e) (k : Below w.heap.size w w') : RIs g w' s e := (k.block g h.lt).trans h
/-- while an entry is written -/
structure ES (w0 : World) (q g : Nat) (x : Ent) (w : World) (bs : List UInt8) (m : Nat) : Prop where
  wi : WIs g g w bs
  box : Box q w x
  qg : q < g
  w0q : w0.heap.size ≤ q
  gs : g ≤ w.heap.size
  ln : bs.length ≤ m
  bel : Below w0.heap.size w0 w
theorem ES.new {w0 w1 : World} {q : Nat} {x : Ent} (hb : Box q w1 x) (h0 : w0.heap.size ≤ q) (hbel : Below w0.heap.size w0 w1) : ES w0 q w1.heap.size x (w1.alloc (.cells #[.slice none 0 0] 100)) [] 0 :=
  ⟨WIs.new w1 _, ((below_alloc w1 _).block q hb.lt).trans hb, hb.lt, h0, (below_alloc w1 _).size, Nat.le_refl _, hbel.trans ((below_alloc w1 _).mono hbel.size)⟩
theorem ES.step {w0 : World} {q g : Nat} {x : Ent} {w w' : World} {bs bs' : List UInt8} {m m' : Nat} (h : ES w0 q g x w bs m) (hw : WIs g g w' bs') (hk : Kept g g w w') (hl : bs'.length ≤ m') : ES w0 q g x w' bs' m' :=
  ⟨hw, (hk.block q h.qg (by have := h.qg; omega)).trans h.box, h.qg, h.w0q, Nat.le_trans h.gs hk.size, hl,
      h.bel.trans (hk.below (by have := h.qg; have := h.w0q; omega) (by have := h.qg; have := h.w0q; omega))⟩
theorem ES.uint {w0 : World} {q g : Nat} {x : Ent} {w : World} {bs : List UInt8} {m : Nat} (h : ES w0 q g x w bs m) (n : Nat) (hn : n ≤ 1099511627776) (hm : m ≤ 1000000) :
    Calls Try.prog 35 #[.pointer (some ⟨g, 0, none⟩), .int .i64 n] w fun e w' => e = .returned (.int .i64 0) ∧ ES w0 q g x w' (bs ++ uEnc n) (m + 10) :=
  (uint_w g g n bs (by omega) (by have := h.ln; omega) w h.wi h.gs).mono fun e w' ⟨he, hw, hk⟩ => ⟨he, h.step hw hk (by rw [List.length_append]; have := uEnc_len64 n (by omega); have := h.ln; omega)⟩
theorem ES.int {w0 : World} {q g : Nat} {x : Ent} {w : World} {bs : List UInt8} {m : Nat} (h : ES w0 q g x w bs m) (n : Int) (hn : -9223372036854775808 ≤ n ∧ n ≤ 9223372036854775807) (hm : m ≤ 1000000) :
    Calls Try.prog 64 #[.pointer (some ⟨g, 0, none⟩), .int .i64 n] w fun e w' => e = .returned (.int .i64 0) ∧ ES w0 q g x w' (bs ++ uEnc (zig n)) (m + 10) :=
  (int_w g g n bs hn (by have := h.ln; omega) w h.wi h.gs).mono fun e w' ⟨he, hw, hk⟩ => ⟨he, h.step hw hk (by rw [List.length_append]; have := uEnc_len64 (zig n) (zig_lt n hn); have := h.ln; omega)⟩
theorem ES.text {w0 : World} {q g : Nat} {x : Ent} {w : World} {bs : List UInt8} {m : Nat} (h : ES w0 q g x w bs m) (s : ByteArray) (hs : s.size ≤ 4096) (hm : m ≤ 1000000) :
    Calls Try.prog 65 #[.pointer (some ⟨g, 0, none⟩), .string s] w fun e w' => e = .returned (.int .i64 0) ∧ ES w0 q g x w' (bs ++ (uEnc s.size ++ s.data.toList)) (m + 5000) :=
  (text_w g g s bs (by omega) (by have := h.ln; omega) w h.wi h.gs).mono fun e w' ⟨he, hw, hk⟩ => ⟨he, h.step hw hk (by simp only [List.length_append, Array.length_toList]; have := uEnc_len64 s.size (by omega); have := h.ln; have : s.data.size = s.size := rfl; omega)⟩
theorem ES.fin {w0 : World} {q g : Nat} {x : Ent} {w : World} {bs : List UInt8} {m : Nat} (h : ES w0 q g x w bs m) :
    Calls Try.prog 36 #[.pointer (some ⟨g, 0, none⟩)] w fun e w' => e = .returned (.string (st bs)) ∧ w' = w := out_w g g bs w h.wi
/-- an entry's bytes -/
def txE (s : ByteArray) : List UInt8 := uEnc s.size ++ s.data.toList
def encE (x : Ent) : List UInt8 := uEnc x.V.toNat ++ (uEnc x.C.toNat ++ (uEnc x.R.toNat ++ (uEnc (zig x.K) ++ (uEnc (zig x.A) ++ (uEnc (zig x.N) ++ (txE x.p ++ (txE x.t ++ txE x.d)))))))
def i64B (n : Int) : Prop := -9223372036854775808 ≤ n ∧ n ≤ 9223372036854775807
/-- the numbers of an entry are numbers of the language -/
structure Ent.Ok (x : Ent) : Prop where
  v : i64B x.V
  c : i64B x.C
  r : i64B x.R
  k : i64B x.K
  a : i64B x.A
  n : i64B x.N
theorem rgt_parts {x : Ent} (h : rgt x = true) : (0 ≤ x.V ∧ x.V ≤ 1099511627776) ∧ (0 ≤ x.C ∧ x.C ≤ 1099511627776) ∧ (1 ≤ x.R ∧ x.R ≤ 1099511627776) ∧ x.p.size ≤ 4096 ∧ x.t.size ≤ 4096 ∧ x.d.size ≤ 4096 := by
  rw [rgt_of] at h
  simp at h
  omega
set_option maxRecDepth 100000 in
theorem encode_no (x : Ent) (h : rgt x = false) (w : World) : Calls Try.prog 52 #[x.v] w fun e w' => e = .returned (.tuple #[.string ByteArray.empty, .int .i64 4]) ∧ Below w.heap.size w w' := by
  have HR := hid (isRight_any x)
  rw [h] at HR
  clear h
  obtain ⟨V, C, R, K, A, N, p, t, d⟩ := x
  simp only [Ent.v] at HR ⊢
  go_enter Try.func52, Try.ntmps52
  go_wp2_with (first | (go_at_call 63; refine (HR.out _).mono ?_; rintro e w1 ⟨rfl, b1⟩))
  go_ret2
  exact ⟨rfl, (below_alloc _ _).trans (b1.mono (by simp))⟩
set_option maxRecDepth 100000 in
set_option maxHeartbeats 2000000 in
theorem encode_ok (x : Ent) (h : rgt x = true) (hx : x.Ok) (w : World) : Calls Try.prog 52 #[x.v] w fun e w' => e = .returned (.tuple #[.string (st (encE x)), .int .i64 0]) ∧ Below w.heap.size w w' := by
  have HR := hid (isRight_any x)
  obtain ⟨⟨v0, v1⟩, ⟨cc0, cc1⟩, ⟨r0, r1⟩, hp, ht, hd⟩ := rgt_parts h
  rw [h] at HR
  clear h
  obtain ⟨_, _, _, hk, ha, hn⟩ := hx
  obtain ⟨V, C, R, K, A, N, p, t, d⟩ := x
  simp only [Ent.v] at HR ⊢
  simp only [] at v0 v1 cc0 cc1 r0 r1 hp ht hd hk ha hn
  obtain ⟨V, rfl⟩ := Int.eq_ofNat_of_zero_le v0
  obtain ⟨C, rfl⟩ := Int.eq_ofNat_of_zero_le cc0
  obtain ⟨R, rfl⟩ := Int.eq_ofNat_of_zero_le (show 0 ≤ R by omega)
  have HK := hid hk
  have HA := hid ha
  have HN := hid hn
  have HV := hid v1
  have HC := hid cc1
  have HRr := hid r1
  have HP := hid hp
  have HT := hid ht
  have HD := hid hd
  have HX : Hid (encE ⟨V, C, R, K, A, N, p, t, d⟩ = uEnc V ++ (uEnc C ++ (uEnc R ++ (uEnc (zig K) ++ (uEnc (zig A) ++ (uEnc (zig N) ++ (uEnc p.size ++ (p.data.toList ++ (uEnc t.size ++ (t.data.toList ++ (uEnc d.size ++ d.data.toList))))))))))) := by
    show _ = _
    simp [encE, txE]
  have HB0 : Hid (Box w.heap.size (w.alloc (.cells #[.int .i64 V, .int .i64 C, .int .i64 R, .int .i64 K, .int .i64 A, .int .i64 N, .string p, .string t, .string d] 54)) ⟨V, C, R, K, A, N, p, t, d⟩) := box_at _ _
  clear hk ha hn v0 v1 cc0 cc1 r0 r1 hp ht hd
  go_enter Try.func52, Try.ntmps52
  go_wp2_with (first
    | (go_at_call 63; refine (HR.out _).mono ?_; rintro e w1 ⟨rfl, b1⟩; have HB1 := hid (HB0.out.below b1 (by simp)); have HL1 := hid ((below_alloc w _).trans (b1.mono (by simp))); clear b1 HR)
    | (go_at_call 34; refine (new_any _).mono ?_; rintro e w2 ⟨rfl, hw2⟩; have HE := hid (ES.new HB1.out (Nat.le_refl _) HL1.out); rw [← hw2] at HE; obtain ⟨c0, c1, c2, c3, c4, c5, c6, c7, c8⟩ := HE.out.box.cells; clear hw2)
    | (go_at_call 35; refine (HE.out.uint _ (by have := HV.out; have := HC.out; have := HRr.out; omega) (by decide)).mono ?_; rintro e w3 ⟨rfl, h3⟩; clear HE c0 c1 c2 c3 c4 c5 c6 c7 c8; have HE := hid h3; clear h3; obtain ⟨c0, c1, c2, c3, c4, c5, c6, c7, c8⟩ := HE.out.box.cells)
    | (go_at_call 64; refine (HE.out.int _ (by first | exact HK.out | exact HA.out | exact HN.out) (by decide)).mono ?_; rintro e w3 ⟨rfl, h3⟩; clear HE c0 c1 c2 c3 c4 c5 c6 c7 c8; have HE := hid h3; clear h3; obtain ⟨c0, c1, c2, c3, c4, c5, c6, c7, c8⟩ := HE.out.box.cells)
    | (go_at_call 65; refine (HE.out.text _ (by first | exact HP.out | exact HT.out | exact HD.out) (by decide)).mono ?_; rintro e w3 ⟨rfl, h3⟩; clear HE c0 c1 c2 c3 c4 c5 c6 c7 c8; have HE := hid h3; clear h3; obtain ⟨c0, c1, c2, c3, c4, c5, c6, c7, c8⟩ := HE.out.box.cells)
    | (go_at_call 36; refine (HE.out.fin).mono ?_; rintro e w4 ⟨rfl, hw4⟩; subst hw4))
  go_ret2
  exact ⟨by rw [HX.out]; rfl, HE.out.bel⟩
end Go.Proofs.Ytjphfpfagnhelaa
