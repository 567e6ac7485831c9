import Derived.Test.YtjnhibpebikkmaaGreatIc
namespace Go.Proofs.YtjnhibpebikkmaaGreat
open Go.RowKit

/-- an inode's bytes -/
def encN (k l z a b c d e f s t : Nat) : List UInt8 :=
  fEnc k 1 ++ (fEnc l 1 ++ (fEnc z 4 ++ (fEnc a 2 ++ (fEnc b 2 ++ (fEnc c 2 ++ (fEnc d 2 ++ (fEnc e 2 ++ (fEnc f 2 ++ (fEnc s 2 ++ (fEnc t 2 ++ List.replicate 10 0))))))))))
def encL (n : Ino) : List UInt8 := encN n.k.toNat n.l.toNat n.z.toNat n.a.toNat n.b.toNat n.c.toNat n.d.toNat n.e.toNat n.f.toNat n.s.toNat n.t.toNat
def twoN (l : List UInt8) (i : Nat) : Int := ((l.getD i 0).toNat : Int) + 256 * ((l.getD (i + 1) 0).toNat : Int)
def nOf (l : List UInt8) : Ino := ⟨((l.getD 0 0).toNat : Int), ((l.getD 1 0).toNat : Int), twoN l 2 + 65536 * twoN l 4, twoN l 6, twoN l 8, twoN l 10, twoN l 12, twoN l 14, twoN l 16, twoN l 18, twoN l 20⟩
theorem encN_len (k l z a b c d e f s t : Nat) : (encN k l z a b c d e f s t).length = 32 := by
  unfold encN; simp [fEnc_len]
theorem nOf_enc (k l z a b c d e f s t : Nat) (hk : k < 256) (hl : l < 256) (hz : z < 4294967296) (ha : a < 65536) (hb : b < 65536) (hc : c < 65536) (hd : d < 65536) (he : e < 65536) (hf : f < 65536) (hs : s < 65536) (ht : t < 65536) :
    nOf (encN k l z a b c d e f s t) = ⟨k, l, z, a, b, c, d, e, f, s, t⟩ := by
  unfold nOf encN twoN
  simp only [fEnc, List.cons_append, List.nil_append, List.getD_cons_zero, List.getD_cons_succ, UInt8.toNat_ofNat']
  rw [Ino.mk.injEq]
  refine ⟨?_, ?_, ?_, ?_, ?_, ?_, ?_, ?_, ?_, ?_, ?_⟩ <;> omega
theorem lnk_le {k l : Int} (h : lnk k l = true) : (k = 1 ∨ k = 2) ∧ 1 ≤ l ∧ l ≤ 100 := by
  unfold lnk at h
  split at h
  · have := of_decide_eq_true h; omega
  · split at h
    · have := of_decide_eq_true h; omega
    · cases h
theorem okN_le {x : Int} (h : okN x = true) : 0 ≤ x ∧ x < 1024 := of_decide_eq_true h
/-- what is right is made of small numbers -/
theorem right_nat {n : Ino} (h : rightI n = true) : ∃ k l z a b c d e f s t : Nat, n = ⟨k, l, z, a, b, c, d, e, f, s, t⟩ ∧ k ≤ 2 ∧ l ≤ 100 ∧ z ≤ 533248 ∧ a < 1024 ∧ b < 1024 ∧ c < 1024 ∧ d < 1024 ∧ e < 1024 ∧ f < 1024 ∧ s < 1024 ∧ t < 1024 := by
  unfold rightI at h
  rw [Bool.or_eq_true] at h
  rcases h with h | h
  · have := free_zero h
    exact ⟨0, 0, 0, 0, 0, 0, 0, 0, 0, 0, 0, this, by decide, by decide, by decide, by decide, by decide, by decide, by decide, by decide, by decide, by decide, by decide⟩
  · unfold usedI namesB at h
    simp only [Bool.and_eq_true, decide_eq_true_iff] at h
    obtain ⟨⟨⟨h1, h2⟩, h3⟩, ⟨⟨⟨⟨⟨⟨⟨ha, hb⟩, hc⟩, hd⟩, he⟩, hf⟩, hs⟩, ht⟩⟩ := h
    have h1 := lnk_le h1
    have ha := okN_le ha
    have hb := okN_le hb
    have hc := okN_le hc
    have hd := okN_le hd
    have he := okN_le he
    have hf := okN_le hf
    have hs := okN_le hs
    have ht := okN_le ht
    obtain ⟨k, l, z, a, b, c, d, e, f, s, t⟩ := n
    simp only at h1 h2 h3 ha hb hc hd he hf hs ht
    exact ⟨k.toNat, l.toNat, z.toNat, a.toNat, b.toNat, c.toNat, d.toNat, e.toNat, f.toNat, s.toNat, t.toNat, by rw [Ino.mk.injEq]; omega, by omega, by omega, by omega, by omega, by omega, by omega, by omega, by omega, by omega, by omega, by omega⟩
theorem encL_nat (k l z a b c d e f s t : Nat) : encL ⟨k, l, z, a, b, c, d, e, f, s, t⟩ = encN k l z a b c d e f s t := rfl
theorem nOf_right {n : Ino} (h : rightI n = true) : nOf (encL n) = n := by
  obtain ⟨k, l, z, a, b, c, d, e, f, s, t, rfl, h1, h2, h3, ha, hb, hc, hd, he, hf, hs, ht⟩ := right_nat h
  rw [encL_nat]
  exact nOf_enc k l z a b c d e f s t (by omega) (by omega) (by omega) (by omega) (by omega) (by omega) (by omega) (by omega) (by omega) (by omega) (by omega)
theorem encL_len (n : Ino) : (encL n).length = 32 := encN_len _ _ _ _ _ _ _ _ _ _ _
/-- the inode that bytes are -/
def decI (l : List UInt8) : Ino := if rightI (nOf l) = true ∧ encL (nOf l) = l then nOf l else Ino.zero
def decE (l : List UInt8) : Int := if rightI (nOf l) = true ∧ encL (nOf l) = l then 0 else 120
theorem dec_yes {n : Ino} (h : rightI n = true) : decI (encL n) = n ∧ decE (encL n) = 0 := by
  unfold decI decE
  rw [nOf_right h, if_pos ⟨h, rfl⟩, if_pos ⟨h, rfl⟩]
  exact ⟨rfl, rfl⟩
theorem dec_no {l : List UInt8} (h : ∀ n, rightI n = true → l ≠ encL n) : decI l = Ino.zero ∧ decE l = 120 := by
  unfold decI decE
  have : ¬ (rightI (nOf l) = true ∧ encL (nOf l) = l) := fun ⟨h1, h2⟩ => h _ h1 h2.symm
  rw [if_neg this, if_neg this]
  exact ⟨rfl, rfl⟩
/-- what Encode answers -/
def encV (n : Ino) : ByteArray := if rightI n then st (encL n) else ByteArray.empty
/-- an inode in memory -/
def Box (q : Nat) (w : World) (n : Ino) : Prop := w.heap[q]? = some (.cells #[.int .i64 n.k, .int .i64 n.l, .int .i64 n.z, .int .i64 n.a, .int .i64 n.b, .int .i64 n.c, .int .i64 n.d, .int .i64 n.e, .int .i64 n.f, .int .i64 n.s, .int .i64 n.t] 33 (0, 0))
theorem Box.cells {q : Nat} {w : World} {k l z a b c d e f s t : Int} (h : Box q w ⟨k, l, z, a, b, c, d, e, f, s, t⟩) : w.cell? ⟨q, 0, none⟩ = some (.int .i64 k) ∧ w.cell? ⟨q, 1, none⟩ = some (.int .i64 l) ∧ w.cell? ⟨q, 2, none⟩ = some (.int .i64 z) ∧ w.cell? ⟨q, 3, none⟩ = some (.int .i64 a) ∧ w.cell? ⟨q, 4, none⟩ = some (.int .i64 b) ∧ w.cell? ⟨q, 5, none⟩ = some (.int .i64 c) ∧ w.cell? ⟨q, 6, none⟩ = some (.int .i64 d) ∧ w.cell? ⟨q, 7, none⟩ = some (.int .i64 e) ∧ w.cell? ⟨q, 8, none⟩ = some (.int .i64 f) ∧ w.cell? ⟨q, 9, none⟩ = some (.int .i64 s) ∧ w.cell? ⟨q, 10, none⟩ = some (.int .i64 t) := by
  unfold Box at h
  simp [World.cell?, h]
theorem box_at (w : World) (o : Obj) : (w.alloc o).heap[w.heap.size]? = some o := by show (w.heap.push o)[w.heap.size]? = _; simp
/-- while an inode is written -/
structure ES (w0 : World) (q g : Nat) (n : Ino) (w : World) (bs : List UInt8) : Prop where
  wi : WIs g g w bs
  box : Box q w n
  qg : q < g
  w0q : w0.heap.size ≤ q
  gs : g ≤ w.heap.size
  bel : Below w0.heap.size w0 w
theorem ES.below {w0 : World} {q g : Nat} {n : Ino} {w w' : World} {bs : List UInt8} (h : ES w0 q g n w bs) (k : Below w.heap.size w w') : ES w0 q g n w' bs :=
  ⟨h.wi.below k, (k.block q (by have := h.qg; have := h.gs; omega)).trans h.box, h.qg, h.w0q, Nat.le_trans h.gs k.size, h.bel.next k⟩
theorem ES.new {w0 w1 : World} {q : Nat} {n : Ino} (hb : Box q w1 n) (hq : q < w1.heap.size) (h0 : w0.heap.size ≤ q) (hbel : Below w0.heap.size w0 w1) : ES w0 q w1.heap.size n (w1.alloc (.cells #[.slice none 0 0] 188)) [] :=
  ⟨WIs.new w1 _, ((below_alloc w1 _).block q hq).trans hb, hq, h0, (below_alloc w1 _).size, hbel.next (below_alloc w1 _)⟩
theorem ES.fix {w0 : World} {q g : Nat} {n : Ino} {w : World} {bs : List UInt8} (h : ES w0 q g n w bs) (x size : Nat) (hx : x ≤ 9223372036854775807) (hsz : size ≤ 8) (hf : fitsB x size = true) (hlen : bs.length ≤ 100) :
    Calls Tryz.prog 109 #[.pointer (some ⟨g, 0, none⟩), .int .i64 x, .int .i64 size] w fun e w' => e = .returned (.int .i64 0) ∧ ES w0 q g n w' (bs ++ fEnc x size) :=
  (fixed_w g g x size bs hx hsz hf (by omega) w h.wi h.gs).mono fun e w' ⟨he, hw, hk⟩ =>
    ⟨he, hw, (hk.block q h.qg (by have := h.qg; omega)).trans h.box, h.qg, h.w0q, Nat.le_trans h.gs hk.size,
      h.bel.trans (hk.below (by have := h.qg; have := h.w0q; omega) (by have := h.qg; have := h.w0q; omega))⟩
theorem fitsN {x : Nat} {size : Nat} (hs : size = 1 ∨ size = 2 ∨ size = 4) (h : x < 256 ^ size) : fitsB x size = true := by
  unfold fitsB sized
  rcases hs with rfl | rfl | rfl <;> simp <;> omega
end Go.Proofs.YtjnhibpebikkmaaGreat
