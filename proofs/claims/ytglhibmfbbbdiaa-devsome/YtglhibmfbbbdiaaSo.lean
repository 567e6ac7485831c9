import Derived.Test.YtglhibmfbbbdiaaAw
namespace Go.Proofs.Ytglhibmfbbbdiaa
open Go.RowKit Go.Maps

def Stp.d (s : Stp) : ByteArray := dataS s.M s.O s.c
def Stp.q (s : Stp) : Nat × ByteArray := (s.A.toNat, s.d)
def Stp.cl (s : Stp) : List Value := [.int .i64 s.K, .int .i64 s.A, .int .i64 s.M, .int .i64 s.O, .int .i64 s.T, .int .u8 (s.c.toNat : Int), s.pv]
def sc (D : List Stp) : List Value := D.flatMap Stp.cl
theorem sc_append (A B : List Stp) : sc (A ++ B) = sc A ++ sc B := by simp [sc]
theorem sc_one (s : Stp) : sc [s] = s.cl := by simp [sc]
def GoodS (s : Stp) : Prop := okW s.A s.d ∧ (∃ ao pc, s.pv = .slice ao s.pl pc) ∧ (-9223372036854775808 ≤ s.O ∧ s.O ≤ 9223372036854775807)
theorem row33_same {w w' : World} {base n : Nat} {v : Value} {xs : List Value} (hr : w.ownsRow base 33 7 v n xs) (hb : ∀ b, v.ownBlock = some b → w'.heap[b]? = w.heap[b]?) : w'.ownsRow base 33 7 v n xs := by
  obtain ⟨e1, e2 | ⟨b, cap, cur, rfl, e3, e4, e5⟩⟩ := hr
  · exact ⟨e1, .inl e2⟩
  · exact ⟨e1, .inr ⟨b, cap, cur, rfl, e3, (hb b rfl).trans e4, e5⟩⟩
/-- a device of six blocks and the row of the steps that it took -/
def SM (base g : Nat) (w : World) (S : DS) (D : List Stp) (v : Value) : Prop :=
  ∃ fp, DIs base g w 1048576 S fp ∧ w.ownsRow base 33 7 v D.length (sc D) ∧ (∀ b, v.ownBlock = some b → b ∉ fp)
theorem SM.keep {base g : Nat} {w w' : World} {S : DS} {D : List Stp} {v : Value} (h : SM base g w S D v) (hb : Below w.heap.size w w') : SM base g w' S D v := by
  obtain ⟨fp, h1, h2, h3⟩ := h
  exact ⟨fp, h1.below hb, row33_same h2 (fun b e => hb.block b (h2.lt b e).2), h3⟩
theorem SM.row_lt {base g : Nat} {w : World} {S : DS} {D : List Stp} {v : Value} (h : SM base g w S D v) : ∀ b, v.ownBlock = some b → b < w.heap.size := by
  obtain ⟨fp, _, h2, _⟩ := h
  exact fun b e => (h2.lt b e).2
theorem SM.turn {base g N : Nat} {w w' : World} {S' : DS} {D : List Stp} {v : Value} {fp fp' : List Nat} (h2 : w.ownsRow base 33 7 v D.length (sc D)) (h3 : ∀ b, v.ownBlock = some b → b ∉ fp) (hD : DIs base g w' N S' fp') (hO : Only fp w w') (hf : ∀ x ∈ fp', x ∈ fp ∨ w.heap.size ≤ x) : SM base g w' S' D v := by
  refine ⟨fp', hD.shrink', row33_same h2 (fun b e => hO.block b (h2.lt b e).2 (h3 b e)), fun b e hm => ?_⟩
  rcases hf b hm with h | h
  · exact h3 b e h
  · have := (h2.lt b e).2; omega
def SL (base g : Nat) (w : World) (j : Nat) (v : Value) : Prop := ∃ D : List Stp, SM base g w (S6 (D.map Stp.q)) D v ∧ D.length ≤ j ∧ ∀ s ∈ D, GoodS s
theorem SL.keep {base g j : Nat} {w w' : World} {v : Value} (h : SL base g w j v) (hb : Below w.heap.size w w') : SL base g w' j v := by
  obtain ⟨D, h1, h2⟩ := h
  exact ⟨D, h1.keep hb, h2⟩
theorem SL.mono {base g j j' : Nat} {w : World} {v : Value} (h : SL base g w j v) (hj : j ≤ j') : SL base g w j' v := by
  obtain ⟨D, h1, h2, h3⟩ := h
  exact ⟨D, h1, by omega, h3⟩
theorem SL.row_lt {base g j : Nat} {w : World} {v : Value} (h : SL base g w j v) : ∀ b, v.ownBlock = some b → b < w.heap.size := by
  obtain ⟨D, h1, _⟩ := h
  exact h1.row_lt
/-- .. the step taken by the device, not yet in the row -/
def SN (base g : Nat) (w : World) (j : Nat) (v : Value) (s : Stp) : Prop := ∃ D : List Stp, SM base g w (S6 (D.map Stp.q ++ [s.q])) D v ∧ D.length ≤ j ∧ ∀ s ∈ D, GoodS s
theorem sl_ok {base g j : Nat} {v : Value} (s : Stp) (hok : okW s.A s.d) (hd : s.d.size ≤ 1280) (hj : j ≤ 300) (w0 w : World) (h : SL base g w0 j v) (hb6 : Below w0.heap.size w0 w) (hb : base ≤ w.heap.size) :
    Calls Try.prog 11 #[.pointer (some ⟨g, 0, none⟩), .int .i64 s.A, .string s.d] w fun e w' => e = .returned (.int .i64 0) ∧ SN base g w' j v s ∧ Below base w w' ∧ ∀ x, w0.heap.size ≤ x → x < w.heap.size → w'.heap[x]? = w.heap[x]? := by
  obtain ⟨D, ⟨fp, h1, h2, h3⟩, hq, hg⟩ := h
  obtain ⟨o1, o2, o3, o4⟩ := hok
  obtain ⟨a, ha⟩ := Int.eq_ofNat_of_zero_le o3
  have h1' := h1.below hb6
  have hw := write_ok a s.d o1 o2 (by omega) (show a + cnt s.d ≤ 6 by omega) (by decide) (show (D.map Stp.q).length ≤ 100000 by simp; omega) w h1' hb
  rw [← ha] at hw
  refine hw.mono fun e w' q => ?_
  obtain ⟨k1, fp', k2, k3, k4⟩ := q
  have ea : s.q = (a, s.d) := by unfold Stp.q; rw [ha]; rfl
  refine ⟨k1, ⟨D, ?_, hq, hg⟩, k3.below hb (fun x hx => (h1.lo x hx).1), fun x h6 h7 => k3.block x h7 (fun hm => ?_)⟩
  · rw [ea]
    exact SM.turn (row33_same h2 (fun b e => hb6.block b (h2.lt b e).2)) h3 k2 k3 k4
  · have := (h1.lo x hm).2
    omega
theorem sl_bad {base g j : Nat} {v : Value} (A : Int) (d : ByteArray) (hA : -9223372036854775808 ≤ A ∧ A ≤ 9223372036854775807) (hok : ¬ okW A d) (hd : d.size ≤ 1280) (w : World) (h : SL base g w j v) :
    Calls Try.prog 11 #[.pointer (some ⟨g, 0, none⟩), .int .i64 A, .string d] w fun e w' => e = .returned (.int .i64 (errW d)) ∧ SL base g w' j v ∧ Below w.heap.size w w' := by
  unfold errW
  by_cases h1 : d.size = 0 ∨ d.size % 128 ≠ 0
  · rw [if_pos h1]
    exact (write_form _ A d h1 w).mono fun e w' q => ⟨q.1, by rw [q.2]; exact h, by rw [q.2]; exact Below.refl _ _⟩
  · rw [if_neg h1]
    have h2 : d.size ≠ 0 := fun e => h1 (.inl e)
    have h3 : d.size % 128 = 0 := by
      by_cases e : d.size % 128 = 0
      · exact e
      · exact absurd (.inr e) h1
    have hk := h
    obtain ⟨D, ⟨fp, hD, _⟩, _⟩ := h
    have h4 : A < 0 ∨ (cnt d : Int) > ((S6 (D.map Stp.q)).n : Int) - A := by
      by_cases e : A < 0
      · exact .inl e
      · right
        show (cnt d : Int) > 6 - A
        by_cases e2 : A + cnt d ≤ 6
        · exact absurd ⟨h2, h3, by omega, e2⟩ hok
        · omega
    exact (write_none A hA d h2 h3 (by omega) h4 w hD).mono fun e w' q => ⟨q.1, hk.keep q.2, q.2⟩
theorem Try.info33 : (Try.prog.info? 33).map (fun i => (i.zero, i.size, i.bytes)) = some (some (.agg #[.int .i64 0, .int .i64 0, .int .i64 0, .int .i64 0, .int .i64 0, .int .u8 0, .slice none 0 0]), 7, 72) := by kernel_rfl
/-- one step more in the row -/
theorem push_step {ops : Array Oper} {rest : List Oper} {o : Oper} {a : Act} {Q : Exit → Act → World → Prop} {w0 : World} (hgd : o.guard = none) (s x : Operand)
    (ho : o.op = .call { callee := .builtin .append, args := #[s, x], argTypes := #[22, 22] }) (base g j : Nat) (v : Value) (y : Stp) (pao : Option Addr) (pc : Nat) (hpv : y.pv = .slice pao y.pl pc) (hgood : GoodS y)
    (hs : a.eval s = v) (hx : a.eval x = .slice (some ⟨w0.heap.size, 0, none⟩) 1 1) (hA : SN base g w0 j v y) (hn : j ≤ 300) (hbase : base ≤ w0.heap.size)
    (h : ∀ v' w', SL base g w' (j + 1) v' → Below base w0 w' → wpList Try.prog ops Q rest (a.put o.dst v') w') :
    wpList Try.prog ops Q (o :: rest) a (w0.alloc (.cells #[.int .i64 y.K, .int .i64 y.A, .int .i64 y.M, .int .i64 y.O, .int .i64 y.T, .int .u8 (y.c.toNat : Int), .slice pao y.pl pc] 33)) := by
  obtain ⟨i0, hi, hz0, hz1, hz2⟩ := info_parts Try.info33
  obtain ⟨D, ⟨fp, h1, h2, h3⟩, hq, hg⟩ := hA
  refine wpList_append_own_at _ hgd s x 22 ho base 33 i0 _ 7 72 Try.underlying22 hi hz0 hz1 hz2 rfl (by decide) v D.length (sc D) hs (h2.alloc _) ⟨w0.heap.size, 0, none⟩ 1 1 y.cl hx rfl ?_ ?_ ?_ ?_ ?_ ?_
  · intro i u hu
    unfold Stp.cl at hu
    rw [hpv] at hu
    match i, hu with
    | 0, hu => simp at hu; subst hu; simp [Addr.add]
    | 1, hu => simp at hu; subst hu; simp [Addr.add]
    | 2, hu => simp at hu; subst hu; simp [Addr.add]
    | 3, hu => simp at hu; subst hu; simp [Addr.add]
    | 4, hu => simp at hu; subst hu; simp [Addr.add]
    | 5, hu => simp at hu; subst hu; simp [Addr.add]
    | 6, hu => simp at hu; subst hu; simp [Addr.add]
    | i + 7, hu => simp at hu
  · intro u hu
    unfold Stp.cl at hu
    rw [hpv] at hu
    simp at hu
    rcases hu with rfl | rfl | rfl | rfl | rfl | rfl | rfl <;> rfl
  · unfold maxLen; omega
  · omega
  · simp; omega
  · intro v' w' g1 g2 _ g4
    have hsz : ∀ o, (w0.alloc o).heap.size = w0.heap.size + 1 := fun o => by simp
    have hs2 := g2.size
    rw [hsz] at hs2
    have hblk : ∀ b, b < w0.heap.size → v.ownBlock ≠ some b → w'.heap[b]? = w0.heap[b]? := fun b hb hne => (g2.block b (by rw [hsz]; omega) (fun e => hne e.symm)).trans (Below.heap_alloc _ _ _ hb)
    have hO : Only (match v.ownBlock with | some b => [b] | none => []) w0 w' := ⟨g2.os, g2.tape, g2.output, by omega, fun b hb hn => hblk b hb (fun e => hn (by rw [e]; simp))⟩
    refine h v' w' ⟨D ++ [y], ⟨fp, ?_, ?_, fun b e => ?_⟩, by simp; omega, fun s hs => ?_⟩ ⟨g2.os, g2.tape, g2.output, by omega, fun b hb => hblk b (by omega) (fun e => by have := (h2.lt b e).1; omega)⟩
    · rw [List.map_append]
      refine h1.other hO (fun z hz hm => ?_)
      cases hp : v.ownBlock with
      | none => rw [hp] at hm; simp at hm
      | some b => rw [hp] at hm; simp at hm; subst hm; exact h3 _ hp hz
    · rw [List.length_append, sc_append, sc_one]
      exact g1
    · rcases g4 with g4 | g4
      · rw [g4] at e
        exact h3 b e
      · rw [g4, hsz] at e
        have : w0.heap.size + 1 = b := Option.some.inj e
        exact fun hm => by have := (h1.lo b hm).2; omega
    · rcases List.mem_append.1 hs with hs | hs
      · exact hg s hs
      · simp at hs; subst hs; exact hgood
/-- behind a crash a block is none, or a piece of a write -/
theorem crash_src (pk : Nat → Bool) (k : Nat) : ∀ (Q : List (Nat × ByteArray)) (i t : Nat) (f : Nat → Option ByteArray), crashFrom pk i t f Q k = f k ∨ ∃ q ∈ Q, q.1 ≤ k ∧ k < q.1 + cnt q.2 ∧ crashFrom pk i t f Q k = some (piece q.2 (k - q.1))
  | [], i, t, f => by rw [crash_end]; exact .inl rfl
  | q :: Q, i, t, f => by
    have key : ∀ (m t' : Nat), m ≤ cnt q.2 → (crashFrom pk (i + 1) t' (over f q.1 q.2 m) Q k = f k ∨ ∃ q' ∈ q :: Q, q'.1 ≤ k ∧ k < q'.1 + cnt q'.2 ∧ crashFrom pk (i + 1) t' (over f q.1 q.2 m) Q k = some (piece q'.2 (k - q'.1))) := by
      intro m t' hm
      rcases crash_src pk k Q (i + 1) t' (over f q.1 q.2 m) with h | ⟨q', h1, h2, h3, h4⟩
      · rw [h]
        unfold over
        by_cases e : q.1 ≤ k ∧ k < q.1 + m
        · rw [if_pos e]
          exact .inr ⟨q, by simp, e.1, by omega, rfl⟩
        · rw [if_neg e]; exact .inl rfl
      · exact .inr ⟨q', by simp [h1], h2, h3, h4⟩
    rw [crash_cons]
    split
    · exact key _ _ (Nat.le_refl _)
    · exact key _ _ (Nat.min_le_right _ _)
def SE (base g : Nat) (w : World) (F : Nat → Option ByteArray) (D : List Stp) (v : Value) : Prop := SM base g w ⟨6, F, []⟩ D v
theorem sl_crash {base g : Nat} {D : List Stp} {v : Value} (pv : Value) (len : Nat) (pk : Nat → Bool) (t : Nat) (ht : t ≤ 1024) (hj : D.length ≤ 300) (W w : World) (hPR : PR W pv len pk) (hW : Below W.heap.size W w) (hbW : W.heap.size ≤ base) (h : SM base g w (S6 (D.map Stp.q)) D v) (hb : base ≤ w.heap.size) :
    Calls Try.prog 16 #[.pointer (some ⟨g, 0, none⟩), pv, .int .i64 t] w fun e w' => e = .returned (.int .i64 0) ∧ SE base g w' (crashFrom pk 0 t (fun _ => none) (D.map Stp.q)) D v ∧ Below base w w' := by
  obtain ⟨fp, hD, h2, h3⟩ := h
  have hp : PIs w pv len pk fp := by
    obtain ⟨⟨ao, pc, rfl, p1⟩, p2, p3⟩ := hPR
    refine ⟨⟨ao, pc, rfl, fun i hi => ?_⟩, p2, p3⟩
    obtain ⟨b, off, rfl, q1, q2⟩ := p1 i hi
    refine ⟨b, off, rfl, fun hm => ?_, Nat.lt_of_lt_of_le q1 hW.size, (hW.cell (p := ⟨b, off + i, none⟩) q1).trans q2⟩
    have := (hD.lo b hm).1
    omega
  refine (crash_any pv len pk t ht (by decide) (show (D.map Stp.q).length ≤ 100000 by simp; omega) w hD hp).mono fun e w' k => ⟨k.1, SM.turn h2 h3 k.2.1 k.2.2 (fun x hx => .inl hx), k.2.2.below hb (fun y hy => (hD.lo y hy).1)⟩
theorem se_read {base g : Nat} {F : Nat → Option ByteArray} {D : List Stp} {v : Value} (i : Nat) (hi : i < 6) (w : World) (h : SE base g w F D v) : Calls Try.prog 22 #[.pointer (some ⟨g, 0, none⟩), .int .i64 i] w fun e w' => e = .returned (.tuple #[.string ((F i).getD Z), .int .i64 0]) ∧ Below w.heap.size w w' := by
  obtain ⟨fp, h1, _⟩ := h
  exact read_any i hi w h1
theorem se_lasts {base g : Nat} {F : Nat → Option ByteArray} {D : List Stp} {v : Value} (i : Nat) (hi : i < 6) (w : World) (h : SE base g w F D v) : Calls Try.prog 23 #[.pointer (some ⟨g, 0, none⟩), .int .i64 i] w fun e w' => e = .returned (.tuple #[.string ((F i).getD Z), .int .i64 0]) ∧ Below w.heap.size w w' := by
  obtain ⟨fp, h1, _⟩ := h
  exact lasts_any i hi w h1
theorem row_at7 {w : World} {base : Nat} {v : Value} {D : List Stp} (h : w.ownsRow base 33 7 v D.length (sc D)) (j : Nat) (hj : j < D.length) :
    ∃ b cap, v = .slice (some ⟨b, 0, none⟩) D.length cap ∧ b < w.heap.size ∧ ∀ k, k < 7 → w.cell? ⟨b, j * 7 + k, none⟩ = D[j].cl[k]? := by
  have hsc : ∀ (D : List Stp) (j : Nat) (hj : j < D.length) (k : Nat), k < 7 → (sc D)[j * 7 + k]? = D[j].cl[k]? := by
    intro D
    induction D with
    | nil => intro j hj; simp at hj
    | cons s D ih =>
      intro j hj k hk
      have e : sc (s :: D) = s.cl ++ sc D := rfl
      have hl : s.cl.length = 7 := rfl
      rw [e]
      cases j with
      | zero => rw [Nat.zero_mul, Nat.zero_add, List.getElem?_append_left (by omega)]; rfl
      | succ j =>
        rw [List.getElem?_append_right (by omega), hl, show (j + 1) * 7 + k - 7 = j * 7 + k by omega, ih j (by simpa using hj) k hk]
        rfl
  obtain ⟨hlen, e | ⟨b, cap, cur, rfl, e3, e4, e5, e6, e7, e8⟩⟩ := h
  · omega
  · refine ⟨b, cap, rfl, lt_of_block e4, fun k hk => ?_⟩
    have h1 := hsc D j hj k hk
    rw [← e8, List.getElem?_take_of_lt (by omega)] at h1
    rw [← h1]
    simp [World.cell?, e4]
end Go.Proofs.Ytglhibmfbbbdiaa
