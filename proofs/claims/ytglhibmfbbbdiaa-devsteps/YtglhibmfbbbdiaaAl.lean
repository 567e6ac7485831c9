import Derived.Test.YtglhibmfbbbdiaaSp
import Derived.Test.YtglhibmfbbbdiaaOp
namespace Go.Proofs.Ytglhibmfbbbdiaa
open Go.RowKit Go.Maps

theorem DIs.shrink' {base g N : Nat} {w : World} {S : DS} {fp : List Nat} (h : DIs base g w N S fp) : DIs base g w 1048576 S fp := by
  obtain ⟨⟨bl, bf, wv, h1, h2, h3, h4, h5⟩, h6, h7, h8, h9⟩ := h
  exact ⟨⟨bl, bf, wv, h1, h2, h3.shrink, h4.shrink, h5⟩, h6, h7, h8, h9⟩
theorem row4_same {w w' : World} {base n : Nat} {v : Value} {xs : List Value} (hr : w.ownsRow base 4 1 v n xs) (hb : ∀ b, v.ownBlock = some b → w'.heap[b]? = w.heap[b]?) : w'.ownsRow base 4 1 v n xs := by
  obtain ⟨e1, e2 | ⟨b, cap, cur, rfl, e3, e4, e5⟩⟩ := hr
  · exact ⟨e1, .inl e2⟩
  · exact ⟨e1, .inr ⟨b, cap, cur, rfl, e3, (hb b rfl).trans e4, e5⟩⟩
/-- two devices and a row of picks -/
def AP (base gd gx : Nat) (keep : Bool) (w : World) (Sd Sx : DS) (m : Nat) (pv : Value) : Prop :=
  ∃ fpd fpx, DIs base gd w 1048576 Sd fpd ∧ DIs base gx w 1048576 Sx fpx ∧ (∀ k ∈ fpd, k ∉ fpx) ∧ w.ownsRow base 4 1 pv m (List.replicate m (.bool keep)) ∧ (∀ b, pv.ownBlock = some b → b ∉ fpd ∧ b ∉ fpx)
theorem AP.keep {base gd gx m : Nat} {k : Bool} {w w' : World} {Sd Sx : DS} {pv : Value} (h : AP base gd gx k w Sd Sx m pv) (hb : Below w.heap.size w w') : AP base gd gx k w' Sd Sx m pv := by
  obtain ⟨fpd, fpx, h1, h2, h3, h4, h5⟩ := h
  exact ⟨fpd, fpx, h1.below hb, h2.below hb, h3, row4_same h4 (fun b e => hb.block b (h4.lt b e).2), h5⟩
/-- the first device has changed -/
theorem AP.turnD {base gd gx m : Nat} {k : Bool} {w w' : World} {Sd Sd' Sx : DS} {pv : Value} {fpd fpx fpd' : List Nat} {N : Nat} (_h1 : DIs base gd w 1048576 Sd fpd) (h2 : DIs base gx w 1048576 Sx fpx) (h3 : ∀ k ∈ fpd, k ∉ fpx) (h4 : w.ownsRow base 4 1 pv m (List.replicate m (.bool k))) (h5 : ∀ b, pv.ownBlock = some b → b ∉ fpd ∧ b ∉ fpx)
    (hD : DIs base gd w' N Sd' fpd') (hO : Only fpd w w') (hf : ∀ x ∈ fpd', x ∈ fpd ∨ w.heap.size ≤ x) : AP base gd gx k w' Sd' Sx m pv := by
  refine ⟨fpd', fpx, hD.shrink', h2.other hO (fun x hx hm => h3 x hm hx), fun x hx hm => ?_, row4_same h4 (fun b e => hO.block b (h4.lt b e).2 (h5 b e).1), fun b e => ⟨fun hm => ?_, (h5 b e).2⟩⟩
  · rcases hf x hx with h | h
    · exact h3 x h hm
    · have := (h2.lo x hm).2; omega
  · rcases hf b hm with h | h
    · exact (h5 b e).1 h
    · have := (h4.lt b e).2; omega
theorem AP.turnX {base gd gx m : Nat} {k : Bool} {w w' : World} {Sd Sx Sx' : DS} {pv : Value} {fpd fpx fpx' : List Nat} {N : Nat} (h1 : DIs base gd w 1048576 Sd fpd) (_h2 : DIs base gx w 1048576 Sx fpx) (h3 : ∀ k ∈ fpd, k ∉ fpx) (h4 : w.ownsRow base 4 1 pv m (List.replicate m (.bool k))) (h5 : ∀ b, pv.ownBlock = some b → b ∉ fpd ∧ b ∉ fpx)
    (hD : DIs base gx w' N Sx' fpx') (hO : Only fpx w w') (hf : ∀ x ∈ fpx', x ∈ fpx ∨ w.heap.size ≤ x) : AP base gd gx k w' Sd Sx' m pv := by
  refine ⟨fpd, fpx', h1.other hO (fun x hx hm => h3 x hx hm), hD.shrink', fun x hx hm => ?_, row4_same h4 (fun b e => hO.block b (h4.lt b e).2 (h5 b e).2), fun b e => ⟨(h5 b e).1, fun hm => ?_⟩⟩
  · rcases hf x hm with h | h
    · exact h3 x hx h
    · have := (h1.lo x hx).2; omega
  · rcases hf b hm with h | h
    · exact (h5 b e).2 h
    · have := (h4.lt b e).2; omega
/-- is a write taken, by a device of six blocks? -/
def okW (A : Int) (d : ByteArray) : Prop := d.size ≠ 0 ∧ d.size % 128 = 0 ∧ 0 ≤ A ∧ A + cnt d ≤ 6
def S6 (Q : List (Nat × ByteArray)) : DS := ⟨6, fun _ => none, Q⟩
theorem ap_wd {base gd gx m : Nat} {k : Bool} {Qd : List (Nat × ByteArray)} {Sx : DS} {pv : Value} (A : Int) (d : ByteArray) (hok : okW A d) (hd : d.size ≤ 1000000) (hQ : Qd.length ≤ 1000) (w : World) (h : AP base gd gx k w (S6 Qd) Sx m pv) (hb : base ≤ w.heap.size) :
    Calls Try.prog 11 #[.pointer (some ⟨gd, 0, none⟩), .int .i64 A, .string d] w fun e w' => e = .returned (.int .i64 0) ∧ AP base gd gx k w' (S6 (Qd ++ [(A.toNat, d)])) Sx m pv ∧ Below base w w' := by
  obtain ⟨o1, o2, o3, o4⟩ := hok
  obtain ⟨a, rfl⟩ := Int.eq_ofNat_of_zero_le o3
  obtain ⟨fpd, fpx, h1, h2, h3, h4, h5⟩ := h
  refine (write_ok a d o1 o2 hd (show a + cnt d ≤ 6 by omega) (by decide) (show Qd.length ≤ 100000 by omega) w h1 hb).mono fun e w' q => ?_
  obtain ⟨k1, fp', k2, k3, k4⟩ := q
  exact ⟨k1, AP.turnD h1 h2 h3 h4 h5 k2 k3 k4, k3.below hb (fun x hx => (h1.lo x hx).1)⟩
theorem ap_wx {base gd gx m : Nat} {k : Bool} {Qx : List (Nat × ByteArray)} {Sd : DS} {pv : Value} (A : Int) (d : ByteArray) (hok : okW A d) (hd : d.size ≤ 1000000) (hQ : Qx.length ≤ 1000) (w : World) (h : AP base gd gx k w Sd (S6 Qx) m pv) (hb : base ≤ w.heap.size) :
    Calls Try.prog 11 #[.pointer (some ⟨gx, 0, none⟩), .int .i64 A, .string d] w fun e w' => e = .returned (.int .i64 0) ∧ AP base gd gx k w' Sd (S6 (Qx ++ [(A.toNat, d)])) m pv ∧ Below base w w' := by
  obtain ⟨o1, o2, o3, o4⟩ := hok
  obtain ⟨a, rfl⟩ := Int.eq_ofNat_of_zero_le o3
  obtain ⟨fpd, fpx, h1, h2, h3, h4, h5⟩ := h
  refine (write_ok a d o1 o2 hd (show a + cnt d ≤ 6 by omega) (by decide) (show Qx.length ≤ 100000 by omega) w h2 hb).mono fun e w' q => ?_
  obtain ⟨k1, fp', k2, k3, k4⟩ := q
  exact ⟨k1, AP.turnX h1 h2 h3 h4 h5 k2 k3 k4, k3.below hb (fun x hx => (h2.lo x hx).1)⟩
def errW (d : ByteArray) : Int := if d.size = 0 ∨ d.size % 128 ≠ 0 then 4 else 6
theorem errW_ne (d : ByteArray) : (errW d == 0) = false := by unfold errW; split <;> decide
theorem ap_wbad {base gd gx m : Nat} {k : Bool} {Qd : List (Nat × ByteArray)} {Sx : DS} {pv : Value} (A : Int) (d : ByteArray) (hA : -9223372036854775808 ≤ A ∧ A ≤ 9223372036854775807) (hok : ¬ okW A d) (hd : d.size ≤ 1000000) (w : World) (h : AP base gd gx k w (S6 Qd) Sx m pv) :
    Calls Try.prog 11 #[.pointer (some ⟨gd, 0, none⟩), .int .i64 A, .string d] w fun e w' => e = .returned (.int .i64 (errW d)) ∧ AP base gd gx k w' (S6 Qd) Sx m pv ∧ Below w.heap.size w w' := by
  unfold errW
  by_cases h1 : d.size = 0 ∨ d.size % 128 ≠ 0
  · rw [if_pos h1]
    exact (write_form _ A d h1 w).mono fun e w' q => ⟨q.1, by rw [q.2]; exact h, by rw [q.2]; exact Below.refl _ _⟩
  · rw [if_neg h1]
    have h2 : d.size ≠ 0 := fun e => h1 (.inl e)
    have h3 : d.size % 128 = 0 := by
      by_cases e : d.size % 128 = 0
      · exact e
      · exact absurd (.inr e) h1
    have hk := h
    obtain ⟨fpd, fpx, hD, _⟩ := h
    have h4 : A < 0 ∨ (cnt d : Int) > ((S6 Qd).n : Int) - A := by
      by_cases e : A < 0
      · exact .inl e
      · right
        show (cnt d : Int) > 6 - A
        by_cases e2 : A + cnt d ≤ 6
        · exact absurd ⟨h2, h3, by omega, e2⟩ hok
        · omega
    exact (write_none A hA d h2 h3 hd h4 w hD).mono fun e w' q => ⟨q.1, hk.keep q.2, q.2⟩
theorem Try.info4 : (Try.prog.info? 4).map (fun i => (i.zero, i.size, i.bytes)) = some (some (.bool false), 1, 1) := by kernel_rfl
theorem rep_snoc (k : Bool) (m : Nat) : List.replicate m (Value.bool k) ++ [.bool k] = List.replicate (m + 1) (.bool k) := (List.replicate_succ').symm
/-- one pick more -/
theorem push_pick {ops : Array Oper} {rest : List Oper} {o : Oper} {a : Act} {Q : Exit → Act → World → Prop} {w0 : World} (hgd : o.guard = none) (s x : Operand)
    (ho : o.op = .call { callee := .builtin .append, args := #[s, x], argTypes := #[31, 31] }) (base gd gx : Nat) (k : Bool) (Sd Sx : DS) (m : Nat) (pv : Value)
    (hs : a.eval s = pv) (hx : a.eval x = .slice (some ⟨w0.heap.size, 0, none⟩) 1 1) (hA : AP base gd gx k w0 Sd Sx m pv) (hn : m ≤ 1000) (hbase : base ≤ w0.heap.size)
    (h : ∀ v' w', AP base gd gx k w' Sd Sx (m + 1) v' → Below base w0 w' → (∀ b, b < w0.heap.size → pv.ownBlock ≠ some b → w'.heap[b]? = w0.heap[b]?) → wpList Try.prog ops Q rest (a.put o.dst v') w') :
    wpList Try.prog ops Q (o :: rest) a (w0.alloc (.cells #[.bool k] 4)) := by
  obtain ⟨i0, hi, hz0, hz1, hz2⟩ := info_parts Try.info4
  obtain ⟨fpd, fpx, h1, h2, h3, h4, h5⟩ := hA
  refine wpList_append_own_at _ hgd s x 31 ho base 4 i0 (.bool false) 1 1 Try.underlying31 hi hz0 hz1 hz2 rfl (by decide) pv m _ hs (h4.alloc _) ⟨w0.heap.size, 0, none⟩ 1 1 [.bool k] hx rfl ?_ ?_ ?_ ?_ ?_ ?_
  · intro j u hj
    match j, hj with
    | 0, hj => simp at hj; subst hj; simp [Addr.add]
  · intro u hu; simp at hu; subst hu; rfl
  · unfold maxLen; omega
  · omega
  · simp; omega
  · intro v' w' g1 g2 _ g4
    have hsz : (w0.alloc (.cells #[.bool k] 4)).heap.size = w0.heap.size + 1 := by simp
    have hs2 := g2.size
    have hblk : ∀ b, b < w0.heap.size → pv.ownBlock ≠ some b → w'.heap[b]? = w0.heap[b]? := fun b hb hne => (g2.block b (by omega) (fun e => hne e.symm)).trans (Below.heap_alloc _ _ _ hb)
    have hO : ∀ fp : List Nat, (∀ b, pv.ownBlock = some b → b ∈ fp) → Only fp w0 w' := fun fp hm => ⟨g2.os, g2.tape, g2.output, by omega, fun b hb hn => hblk b hb (fun e => hn (hm b e))⟩
    have hOr := hO (match pv.ownBlock with | some b => [b] | none => []) (fun b e => by rw [e]; simp)
    refine h v' w' ⟨fpd, fpx, h1.other hOr (fun y hy hm => ?_), h2.other hOr (fun y hy hm => ?_), h3, by rw [← rep_snoc]; exact g1, fun b e => ?_⟩ ⟨g2.os, g2.tape, g2.output, by omega, fun b hb => hblk b (by omega) (fun e => by have := (h4.lt b e).1; omega)⟩ hblk
    · cases hp : pv.ownBlock with
      | none => rw [hp] at hm; simp at hm
      | some b => rw [hp] at hm; simp at hm; subst hm; exact (h5 _ hp).1 hy
    · cases hp : pv.ownBlock with
      | none => rw [hp] at hm; simp at hm
      | some b => rw [hp] at hm; simp at hm; subst hm; exact (h5 _ hp).2 hy
    · rcases g4 with g4 | g4
      · rw [g4] at e
        exact h5 b e
      · rw [g4, hsz] at e
        have : w0.heap.size + 1 = b := Option.some.inj e
        exact ⟨fun hm => by have := (h1.lo b hm).2; omega, fun hm => by have := (h2.lo b hm).2; omega⟩
theorem ap_flush {base gd gx m : Nat} {k : Bool} {Sd : DS} {Qx : List (Nat × ByteArray)} {pv : Value} (w : World) (h : AP base gd gx k w Sd (S6 Qx) m pv) (hb : base ≤ w.heap.size) :
    Calls Try.prog 14 #[.pointer (some ⟨gx, 0, none⟩)] w fun e w' => e = .returned (.tuple #[]) ∧ AP base gd gx k w' Sd ⟨6, seen (fun _ => none) Qx, []⟩ m pv ∧ Below base w w' := by
  obtain ⟨fpd, fpx, h1, h2, h3, h4, h5⟩ := h
  refine (flush_any (by decide) w h2).mono fun e w' q => ⟨q.1, AP.turnX h1 h2 h3 h4 h5 q.2.1 q.2.2 (fun x hx => .inl hx), q.2.2.below hb (fun x hx => (h2.lo x hx).1)⟩
theorem ap_crash {base gd gx m : Nat} {k : Bool} {Sx : DS} {Qd : List (Nat × ByteArray)} {pv : Value} (hm : m ≤ 1000) (hQ : Qd.length ≤ 1000) (w : World) (h : AP base gd gx k w (S6 Qd) Sx m pv) (hb : base ≤ w.heap.size) :
    Calls Try.prog 16 #[.pointer (some ⟨gd, 0, none⟩), pv, .int .i64 0] w fun e w' => e = .returned (.int .i64 0) ∧ AP base gd gx k w' ⟨6, crashFrom (fun i => if i < m then k else false) 0 0 (fun _ => none) Qd, []⟩ Sx m pv ∧ Below base w w' := by
  obtain ⟨fpd, fpx, h1, h2, h3, h4, h5⟩ := h
  have hp : PIs w pv m (fun i => if i < m then k else false) fpd := by
    refine ⟨?_, by unfold maxLen; omega, fun i hi => if_neg (by omega)⟩
    have hh := h4
    obtain ⟨e1, ⟨rfl, rfl⟩ | ⟨b, cap, cur, rfl, e3, e4, e5, e6, e7, e8⟩⟩ := hh
    · exact ⟨none, 0, rfl, fun i hi => by omega⟩
    · refine ⟨_, cap, rfl, fun i hi => ⟨b, 0, rfl, (h5 b rfl).1, lt_of_block e4, ?_⟩⟩
      have hc : cur.toList[i]? = some (.bool k) := by
        have h9 : (cur.toList.take (m * 1))[i]? = some (.bool k) := by rw [e8]; simp [hi]
        rw [List.getElem?_take_of_lt (by omega)] at h9
        exact h9
      show w.cell? ⟨b, 0 + i, none⟩ = some (.bool (if i < m then k else false))
      rw [if_pos hi, Nat.zero_add]
      simp [World.cell?, e4]
      simpa using hc
  refine (crash_any pv m _ 0 (by decide) (by decide) (show Qd.length ≤ 100000 by omega) w h1 hp).mono fun e w' q => ⟨q.1, AP.turnD h1 h2 h3 h4 h5 q.2.1 q.2.2 (fun x hx => .inl hx), q.2.2.below hb (fun x hx => (h1.lo x hx).1)⟩
end Go.Proofs.Ytglhibmfbbbdiaa
