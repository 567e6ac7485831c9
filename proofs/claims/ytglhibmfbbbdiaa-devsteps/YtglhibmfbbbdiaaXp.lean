import Derived.Test.YtglhibmfbbbdiaaXs
import Derived.Test.YtglhibmfbbbdiaaLa
namespace Go.Proofs.Ytglhibmfbbbdiaa
open Go.RowKit Go.Maps

/-- a device in the state S and the reference's in the state T -/
def P2 (K : Option (Nat × Obj)) (base gd gx : Nat) (w : World) (S T : DS) : Prop :=
  ∃ L fpd fpx, DIs base gd w 1048576 S fpd ∧ XIs base gx w L T.Q fpx ∧ L.length = T.n ∧ RelL T.L L ∧ (∀ k ∈ fpd, k ∉ fpx) ∧ ∀ v o, K = some (v, o) → w.heap[v]? = some o ∧ v ∉ fpd ∧ v ∉ fpx
theorem P2.px {K : Option (Nat × Obj)} {base gd gx : Nat} {w : World} {S : DS} (h : P2 K base gd gx w S S) : PX base gd gx w S := by
  obtain ⟨L, fpd, fpx, h1, h2, h3, h4, h5, _⟩ := h
  exact ⟨L, fpd, fpx, h1, h2, h3, h4, h5⟩
theorem P2.keep {K : Option (Nat × Obj)} {base gd gx : Nat} {w w' : World} {S T : DS} (h : P2 K base gd gx w S T) (hb : Below w.heap.size w w') : P2 K base gd gx w' S T := by
  obtain ⟨L, fpd, fpx, h1, h2, h3, h4, h5, h6⟩ := h
  exact ⟨L, fpd, fpx, h1.below hb, h2.below hb, h3, h4, h5, fun v o e => ⟨(hb.block v (lt_of_block (h6 v o e).1)).trans (h6 v o e).1, (h6 v o e).2⟩⟩
theorem P2.turnD {K : Option (Nat × Obj)} {base gd gx N : Nat} {w w' : World} {S' T : DS} {L : List ByteArray} {fpd fpx fpd' : List Nat} (h2 : XIs base gx w L T.Q fpx) (h3 : L.length = T.n) (h4 : RelL T.L L) (h5 : ∀ k ∈ fpd, k ∉ fpx) (h6 : ∀ v o, K = some (v, o) → w.heap[v]? = some o ∧ v ∉ fpd ∧ v ∉ fpx)
    (hD : DIs base gd w' N S' fpd') (hO : Only fpd w w') (hf : ∀ x ∈ fpd', x ∈ fpd ∨ w.heap.size ≤ x) : P2 K base gd gx w' S' T := by
  refine ⟨L, fpd', fpx, hD.shrink', h2.other hO (fun x hx hm => h5 x hm hx), h3, h4, fun x hx hm => ?_, fun v o e => ⟨(hO.block v (lt_of_block (h6 v o e).1) (h6 v o e).2.1).trans (h6 v o e).1, fun hm => ?_, (h6 v o e).2.2⟩⟩
  · rcases hf x hx with h | h
    · exact h5 x h hm
    · have := (h2.lo x hm).2; omega
  · rcases hf v hm with h | h
    · exact (h6 v o e).2.1 h
    · have := lt_of_block (h6 v o e).1; omega
theorem P2.turnX {K : Option (Nat × Obj)} {base gd gx : Nat} {w w' : World} {S T' : DS} {L' : List ByteArray} {fpd fpx fpx' : List Nat} (h1 : DIs base gd w 1048576 S fpd) (h5 : ∀ k ∈ fpd, k ∉ fpx) (h6 : ∀ v o, K = some (v, o) → w.heap[v]? = some o ∧ v ∉ fpd ∧ v ∉ fpx)
    (hX : XIs base gx w' L' T'.Q fpx') (h3 : L'.length = T'.n) (h4 : RelL T'.L L') (hO : Only fpx w w') (hf : ∀ x ∈ fpx', x ∈ fpx ∨ w.heap.size ≤ x) : P2 K base gd gx w' S T' := by
  refine ⟨L', fpd, fpx', h1.other hO h5, hX, h3, h4, fun x hx hm => ?_, fun v o e => ⟨(hO.block v (lt_of_block (h6 v o e).1) (h6 v o e).2.2).trans (h6 v o e).1, (h6 v o e).2.1, fun hm => ?_⟩⟩
  · rcases hf x hm with h | h
    · exact h5 x hx h
    · have := (h1.lo x hx).2; omega
  · rcases hf v hm with h | h
    · exact (h6 v o e).2.2 h
    · have := lt_of_block (h6 v o e).1; omega
/-- is a write taken, by a device of n blocks? -/
def okN (n : Nat) (A : Int) (d : ByteArray) : Prop := d.size ≠ 0 ∧ d.size % 128 = 0 ∧ 0 ≤ A ∧ A + cnt d ≤ n
theorem p2_wd {K : Option (Nat × Obj)} {base gd gx : Nat} {S T : DS} (A : Int) (d : ByteArray) (hok : okN S.n A d) (hd : d.size ≤ 1000000) (hQ : S.Q.length ≤ 100000) (w : World) (h : P2 K base gd gx w S T) (hb : base ≤ w.heap.size) :
    Calls Try.prog 11 #[.pointer (some ⟨gd, 0, none⟩), .int .i64 A, .string d] w fun e w' => e = .returned (.int .i64 0) ∧ P2 K base gd gx w' ⟨S.n, S.L, S.Q ++ [(A.toNat, d)]⟩ T ∧ Below base w w' := by
  obtain ⟨o1, o2, o3, o4⟩ := hok
  obtain ⟨a, rfl⟩ := Int.eq_ofNat_of_zero_le o3
  obtain ⟨L, fpd, fpx, h1, h2, h3, h4, h5, h6⟩ := h
  refine (write_ok a d o1 o2 hd (by omega) (by decide) hQ w h1 hb).mono fun e w' q => ?_
  obtain ⟨k1, fp', k2, k3, k4⟩ := q
  exact ⟨k1, P2.turnD h2 h3 h4 h5 h6 k2 k3 k4, k3.below hb (fun x hx => (h1.lo x hx).1)⟩
theorem p2_wx {K : Option (Nat × Obj)} {base gd gx : Nat} {S T : DS} (A : Int) (d : ByteArray) (hok : okN T.n A d) (hd : d.size ≤ 1000000) (hQ : T.Q.length ≤ 100000) (w : World) (h : P2 K base gd gx w S T) (hb : base ≤ w.heap.size) :
    Calls Try.prog 13 #[.pointer (some ⟨gx, 0, none⟩), .int .i64 A, .string d] w fun e w' => e = .returned (.int .i64 0) ∧ P2 K base gd gx w' S ⟨T.n, T.L, T.Q ++ [(A.toNat, d)]⟩ ∧ Below base w w' := by
  obtain ⟨o1, o2, o3, o4⟩ := hok
  obtain ⟨a, rfl⟩ := Int.eq_ofNat_of_zero_le o3
  obtain ⟨L, fpd, fpx, h1, h2, h3, h4, h5, h6⟩ := h
  refine (xwrite_ok a d o1 o2 hd (by omega) hQ w h2 hb).mono fun e w' q => ?_
  obtain ⟨k1, fp', k2, k3, k4⟩ := q
  exact ⟨k1, P2.turnX (T' := ⟨T.n, T.L, T.Q ++ [(a, d)]⟩) h1 h5 h6 k2 h3 h4 k3 k4, k3.below hb (fun x hx => (h2.lo x hx).1)⟩
theorem not_ok {n : Nat} {A : Int} {d : ByteArray} (hok : ¬ okN n A d) (h1 : ¬ (d.size = 0 ∨ d.size % 128 ≠ 0)) : d.size ≠ 0 ∧ d.size % 128 = 0 ∧ (A < 0 ∨ (cnt d : Int) > (n : Int) - A) := by
  have h2 : d.size ≠ 0 := fun e => h1 (.inl e)
  have h3 : d.size % 128 = 0 := by
    by_cases e : d.size % 128 = 0
    · exact e
    · exact absurd (.inr e) h1
  refine ⟨h2, h3, ?_⟩
  by_cases e : A < 0
  · exact .inl e
  · right
    by_cases e2 : A + cnt d ≤ n
    · exact absurd ⟨h2, h3, by omega, e2⟩ hok
    · omega
theorem p2_wdbad {K : Option (Nat × Obj)} {base gd gx : Nat} {S T : DS} (A : Int) (d : ByteArray) (hA : -9223372036854775808 ≤ A ∧ A ≤ 9223372036854775807) (hok : ¬ okN S.n A d) (hd : d.size ≤ 1000000) (w : World) (h : P2 K base gd gx w S T) :
    Calls Try.prog 11 #[.pointer (some ⟨gd, 0, none⟩), .int .i64 A, .string d] w fun e w' => e = .returned (.int .i64 (errW d)) ∧ P2 K base gd gx w' S T ∧ Below w.heap.size w w' := by
  unfold errW
  by_cases h1 : d.size = 0 ∨ d.size % 128 ≠ 0
  · rw [if_pos h1]
    exact (write_form _ A d h1 w).mono fun e w' q => ⟨q.1, by rw [q.2]; exact h, by rw [q.2]; exact Below.refl _ _⟩
  · rw [if_neg h1]
    obtain ⟨h2, h3, h4⟩ := not_ok hok h1
    have hk := h
    obtain ⟨L, fpd, fpx, hD, _⟩ := h
    exact (write_none A hA d h2 h3 hd h4 w hD).mono fun e w' q => ⟨q.1, hk.keep q.2, q.2⟩
theorem p2_wxbad {K : Option (Nat × Obj)} {base gd gx : Nat} {S T : DS} (A : Int) (d : ByteArray) (hA : -9223372036854775808 ≤ A ∧ A ≤ 9223372036854775807) (hok : ¬ okN T.n A d) (hd : d.size ≤ 1000000) (w : World) (h : P2 K base gd gx w S T) :
    Calls Try.prog 13 #[.pointer (some ⟨gx, 0, none⟩), .int .i64 A, .string d] w fun e w' => e = .returned (.int .i64 (errW d)) ∧ P2 K base gd gx w' S T ∧ Below w.heap.size w w' := by
  unfold errW
  by_cases h1 : d.size = 0 ∨ d.size % 128 ≠ 0
  · rw [if_pos h1]
    exact (xwrite_form _ A d h1 w).mono fun e w' q => ⟨q.1, by rw [q.2]; exact h, by rw [q.2]; exact Below.refl _ _⟩
  · rw [if_neg h1]
    obtain ⟨h2, h3, h4⟩ := not_ok hok h1
    have hk := h
    obtain ⟨L, fpd, fpx, _, hX, hl, _⟩ := h
    rw [← hl] at h4
    exact (xwrite_none A hA d h2 h3 hd h4 w hX).mono fun e w' q => ⟨q.1, by rw [q.2]; exact hk, by rw [q.2]; exact Below.refl _ _⟩
theorem p2_fd {K : Option (Nat × Obj)} {base gd gx : Nat} {S T : DS} (w : World) (h : P2 K base gd gx w S T) (hb : base ≤ w.heap.size) :
    Calls Try.prog 14 #[.pointer (some ⟨gd, 0, none⟩)] w fun e w' => e = .returned (.tuple #[]) ∧ P2 K base gd gx w' ⟨S.n, seen S.L S.Q, []⟩ T ∧ Below base w w' := by
  obtain ⟨L, fpd, fpx, h1, h2, h3, h4, h5, h6⟩ := h
  exact (flush_any (by decide) w h1).mono fun e w' q => ⟨q.1, P2.turnD h2 h3 h4 h5 h6 q.2.1 q.2.2 (fun x hx => .inl hx), q.2.2.below hb (fun x hx => (h1.lo x hx).1)⟩
theorem p2_fx {K : Option (Nat × Obj)} {base gd gx : Nat} {S T : DS} (hQ : T.Q.length ≤ 100000) (w : World) (h : P2 K base gd gx w S T) (hb : base ≤ w.heap.size) :
    Calls Try.prog 15 #[.pointer (some ⟨gx, 0, none⟩)] w fun e w' => e = .returned (.tuple #[]) ∧ P2 K base gd gx w' S ⟨T.n, seen T.L T.Q, []⟩ ∧ Below base w w' := by
  obtain ⟨L, fpd, fpx, h1, h2, h3, h4, h5, h6⟩ := h
  refine (xflush_any hQ w h2).mono fun e w' q => ⟨q.1, P2.turnX (T' := ⟨T.n, seen T.L T.Q, []⟩) h1 h5 h6 q.2.1 (by rw [crashL_len]; exact h3) ?_ q.2.2 (fun x hx => .inl hx), q.2.2.below hb (fun x hx => (h2.lo x hx).1)⟩
  have := RelL.crash (fun i => if i < T.Q.length then true else false) T.Q 0 0 T.L L h4
  rw [crash_all _ T.Q 0 0 _ (fun j _ h2 => if_pos (by omega))] at this
  exact this
/-- picks that came in are picks beside whatever lies above -/
theorem pr_picks {W w : World} {pv : Value} {len : Nat} {pk : Nat → Bool} {base : Nat} {fp : List Nat} (hPR : PR W pv len pk) (hW : Below W.heap.size W w) (hbW : W.heap.size ≤ base) (hlo : ∀ k ∈ fp, base ≤ k) : PIs w pv len pk fp := by
  obtain ⟨⟨ao, pc, rfl, p1⟩, p2, p3⟩ := hPR
  refine ⟨⟨ao, pc, rfl, fun i hi => ?_⟩, p2, p3⟩
  obtain ⟨b, off, rfl, q1, q2⟩ := p1 i hi
  refine ⟨b, off, rfl, fun hm => ?_, Nat.lt_of_lt_of_le q1 hW.size, (hW.cell (p := ⟨b, off + i, none⟩) q1).trans q2⟩
  have := hlo b hm
  omega
theorem p2_cd {K : Option (Nat × Obj)} {base gd gx : Nat} {S T : DS} (pv : Value) (len : Nat) (pk : Nat → Bool) (t : Nat) (ht : t ≤ 1024) (hQ : S.Q.length ≤ 100000) (W w : World) (hPR : PR W pv len pk) (hW : Below W.heap.size W w) (hbW : W.heap.size ≤ base) (h : P2 K base gd gx w S T) (hb : base ≤ w.heap.size) :
    Calls Try.prog 16 #[.pointer (some ⟨gd, 0, none⟩), pv, .int .i64 t] w fun e w' => e = .returned (.int .i64 0) ∧ P2 K base gd gx w' ⟨S.n, crashFrom pk 0 t S.L S.Q, []⟩ T ∧ Below base w w' := by
  obtain ⟨L, fpd, fpx, h1, h2, h3, h4, h5, h6⟩ := h
  exact (crash_any pv len pk t ht (by decide) hQ w h1 (pr_picks hPR hW hbW (fun k hk => (h1.lo k hk).1))).mono fun e w' q => ⟨q.1, P2.turnD h2 h3 h4 h5 h6 q.2.1 q.2.2 (fun x hx => .inl hx), q.2.2.below hb (fun x hx => (h1.lo x hx).1)⟩
theorem p2_cx {K : Option (Nat × Obj)} {base gd gx : Nat} {S T : DS} (pv : Value) (len : Nat) (pk : Nat → Bool) (t : Nat) (ht : t ≤ 1024) (hQ : T.Q.length ≤ 100000) (W w : World) (hPR : PR W pv len pk) (hW : Below W.heap.size W w) (hbW : W.heap.size ≤ base) (h : P2 K base gd gx w S T) (hb : base ≤ w.heap.size) :
    Calls Try.prog 17 #[.pointer (some ⟨gx, 0, none⟩), pv, .int .i64 t] w fun e w' => e = .returned (.int .i64 0) ∧ P2 K base gd gx w' S ⟨T.n, crashFrom pk 0 t T.L T.Q, []⟩ ∧ Below base w w' := by
  obtain ⟨L, fpd, fpx, h1, h2, h3, h4, h5, h6⟩ := h
  exact (xcrash_any pv len pk t ht hQ w h2 (pr_picks hPR hW hbW (fun k hk => (h2.lo k hk).1))).mono fun e w' q => ⟨q.1, P2.turnX (T' := ⟨T.n, crashFrom pk 0 t T.L T.Q, []⟩) h1 h5 h6 q.2.1 (by rw [crashL_len]; exact h3) (RelL.crash pk T.Q 0 t T.L L h4) q.2.2 (fun x hx => .inl hx), q.2.2.below hb (fun x hx => (h2.lo x hx).1)⟩
theorem P2.drop {K : Option (Nat × Obj)} {base gd gx : Nat} {w : World} {S T : DS} (h : P2 K base gd gx w S T) : P2 none base gd gx w S T := by
  obtain ⟨L, fpd, fpx, h1, h2, h3, h4, h5, _⟩ := h
  exact ⟨L, fpd, fpx, h1, h2, h3, h4, h5, fun v o e => by cases e⟩
theorem P2.var {K : Option (Nat × Obj)} {base gd gx : Nat} {w : World} {S T : DS} (h : P2 K base gd gx w S T) (o : Obj) : P2 (some (w.heap.size, o)) base gd gx (w.alloc o) S T := by
  obtain ⟨L, fpd, fpx, h1, h2, h3, h4, h5, _⟩ := h
  refine ⟨L, fpd, fpx, h1.below (below_alloc _ _), h2.below (below_alloc _ _), h3, h4, h5, fun v o' e => ?_⟩
  have e2 := Option.some.inj e
  obtain ⟨rfl, rfl⟩ := Prod.mk.inj e2
  refine ⟨by show (w.heap.push _)[w.heap.size]? = _; simp, fun hm => ?_, fun hm => ?_⟩
  · have := (h1.lo _ hm).2; omega
  · have := (h2.lo _ hm).2; omega
theorem P2.cell {v : Nat} {o : Obj} {base gd gx : Nat} {w : World} {S T : DS} (h : P2 (some (v, o)) base gd gx w S T) : w.heap[v]? = some o := by
  obtain ⟨L, fpd, fpx, h1, h2, h3, h4, h5, h6⟩ := h
  exact (h6 v o rfl).1
end Go.Proofs.Ytglhibmfbbbdiaa
