import Derived.Test.YtglhibmfbbbdiaaXp
namespace Go.Proofs.Ytglhibmfbbbdiaa
open Go.RowKit Go.Maps

/-- behind j steps -/
def PJ (K : Option (Nat × Obj)) (n base gd gx : Nat) (w : World) (j : Nat) : Prop := ∃ S, S.n = n ∧ S.Q.length ≤ j ∧ P2 K base gd gx w S S
theorem PJ.keep {K : Option (Nat × Obj)} {n base gd gx j : Nat} {w w' : World} (h : PJ K n base gd gx w j) (k : Below w.heap.size w w') : PJ K n base gd gx w' j := by
  obtain ⟨S, h1, h2, h3⟩ := h
  exact ⟨S, h1, h2, h3.keep k⟩
theorem PJ.mono {K : Option (Nat × Obj)} {n base gd gx j j' : Nat} {w : World} (h : PJ K n base gd gx w j) (k : j ≤ j') : PJ K n base gd gx w j' := by
  obtain ⟨S, h1, h2, h3⟩ := h
  exact ⟨S, h1, by omega, h3⟩
theorem pj_same {K : Option (Nat × Obj)} {n base gd gx j : Nat} (a : Int) (hj : j ≤ 1000) (w : World) (h : PJ K n base gd gx w j) : Calls Try.prog 20 #[.pointer (some ⟨gd, 0, none⟩), .pointer (some ⟨gx, 0, none⟩), .int .i64 a] w fun e w' => e = .returned (.bool true) ∧ PJ K n base gd gx w' j ∧ Below w.heap.size w w' := by
  have hk := h
  obtain ⟨S, h1, h2, h3⟩ := h
  exact (px_same a (by omega) w h3.px).mono fun e w' q => ⟨q.1, hk.keep q.2, q.2⟩
/-- behind the device's half of a step -/
def PM (K : Option (Nat × Obj)) (n base gd gx : Nat) (w : World) (j : Nat) (f : DS → DS) : Prop := ∃ S, S.n = n ∧ S.Q.length ≤ j ∧ P2 K base gd gx w (f S) S
theorem pj_fd {K : Option (Nat × Obj)} {n base gd gx j : Nat} (w : World) (h : PJ K n base gd gx w j) (hb : base ≤ w.heap.size) : Calls Try.prog 14 #[.pointer (some ⟨gd, 0, none⟩)] w fun e w' => e = .returned (.tuple #[]) ∧ PM K n base gd gx w' j (fun S => ⟨S.n, seen S.L S.Q, []⟩) ∧ Below base w w' := by
  obtain ⟨S, h1, h2, h3⟩ := h
  exact (p2_fd w h3 hb).mono fun e w' q => ⟨q.1, ⟨S, h1, h2, q.2.1⟩, q.2.2⟩
theorem pj_fx {K : Option (Nat × Obj)} {n base gd gx j : Nat} (hj : j ≤ 1000) (w : World) (h : PM K n base gd gx w j (fun S => ⟨S.n, seen S.L S.Q, []⟩)) (hb : base ≤ w.heap.size) : Calls Try.prog 15 #[.pointer (some ⟨gx, 0, none⟩)] w fun e w' => e = .returned (.tuple #[]) ∧ PJ K n base gd gx w' (j + 1) ∧ Below base w w' := by
  obtain ⟨S, h1, h2, h3⟩ := h
  exact (p2_fx (by omega) w h3 hb).mono fun e w' q => ⟨q.1, ⟨⟨S.n, seen S.L S.Q, []⟩, h1, Nat.zero_le _, q.2.1⟩, q.2.2⟩
/-- what a crash answers, and what a write does -/
def errC (t : Int) : Int := if 0 ≤ t ∧ t ≤ 1024 then 0 else 1
def crS (pk : Nat → Bool) (t : Int) (S : DS) : DS := if 0 ≤ t ∧ t ≤ 1024 then ⟨S.n, crashFrom pk 0 t.toNat S.L S.Q, []⟩ else S
theorem pj_cd {K : Option (Nat × Obj)} {n base gd gx j : Nat} (pv : Value) (len : Nat) (pk : Nat → Bool) (t : Int) (hj : j ≤ 1000) (W w : World) (hPR : PR W pv len pk) (hW : Below W.heap.size W w) (hbW : W.heap.size ≤ base) (h : PJ K n base gd gx w j) (hb : base ≤ w.heap.size) :
    Calls Try.prog 16 #[.pointer (some ⟨gd, 0, none⟩), pv, .int .i64 t] w fun e w' => e = .returned (.int .i64 (errC t)) ∧ PM K n base gd gx w' j (crS pk t) ∧ Below base w w' := by
  obtain ⟨S, h1, h2, h3⟩ := h
  unfold errC
  by_cases ht : 0 ≤ t ∧ t ≤ 1024
  · rw [if_pos ht]
    obtain ⟨m, rfl⟩ := Int.eq_ofNat_of_zero_le ht.1
    refine (p2_cd pv len pk m (by omega) (by omega) W w hPR hW hbW h3 hb).mono fun e w' q => ⟨q.1, ⟨S, h1, h2, ?_⟩, q.2.2⟩
    unfold crS
    rw [if_pos ht]
    exact q.2.1
  · rw [if_neg ht]
    refine (crash_arg _ _ t ht w).mono fun e w' q => ⟨q.1, ⟨S, h1, h2, ?_⟩, by rw [q.2]; exact Below.refl _ _⟩
    unfold crS
    rw [if_neg ht, q.2]
    exact h3
theorem pj_cx {K : Option (Nat × Obj)} {n base gd gx j : Nat} (pv : Value) (len : Nat) (pk : Nat → Bool) (t : Int) (hj : j ≤ 1000) (W w : World) (hPR : PR W pv len pk) (hW : Below W.heap.size W w) (hbW : W.heap.size ≤ base) (h : PM K n base gd gx w j (crS pk t)) (hb : base ≤ w.heap.size) :
    Calls Try.prog 17 #[.pointer (some ⟨gx, 0, none⟩), pv, .int .i64 t] w fun e w' => e = .returned (.int .i64 (errC t)) ∧ PJ K n base gd gx w' (j + 1) ∧ Below base w w' := by
  obtain ⟨S, h1, h2, h3⟩ := h
  unfold errC
  unfold crS at h3
  by_cases ht : 0 ≤ t ∧ t ≤ 1024
  · rw [if_pos ht] at h3 ⊢
    obtain ⟨m, rfl⟩ := Int.eq_ofNat_of_zero_le ht.1
    exact (p2_cx pv len pk m (by omega) (by omega) W w hPR hW hbW h3 hb).mono fun e w' q => ⟨q.1, ⟨⟨S.n, crashFrom pk 0 m S.L S.Q, []⟩, h1, Nat.zero_le _, q.2.1⟩, q.2.2⟩
  · rw [if_neg ht] at h3 ⊢
    exact (xcrash_arg _ _ t ht w).mono fun e w' q => ⟨q.1, ⟨S, h1, by omega, by rw [q.2]; exact h3⟩, by rw [q.2]; exact Below.refl _ _⟩
open Classical in
noncomputable def wrE (n : Nat) (A : Int) (d : ByteArray) : Int := if okN n A d then 0 else errW d
open Classical in
noncomputable def wrS (A : Int) (d : ByteArray) (S : DS) : DS := if okN S.n A d then ⟨S.n, S.L, S.Q ++ [(A.toNat, d)]⟩ else S
theorem pj_wd {K : Option (Nat × Obj)} {n base gd gx j : Nat} (A : Int) (d : ByteArray) (hA : -9223372036854775808 ≤ A ∧ A ≤ 9223372036854775807) (hd : d.size ≤ 1000000) (hj : j ≤ 1000) (w : World) (h : PJ K n base gd gx w j) (hb : base ≤ w.heap.size) :
    Calls Try.prog 11 #[.pointer (some ⟨gd, 0, none⟩), .int .i64 A, .string d] w fun e w' => e = .returned (.int .i64 (wrE n A d)) ∧ PM K n base gd gx w' j (wrS A d) ∧ Below base w w' := by
  obtain ⟨S, rfl, h2, h3⟩ := h
  unfold wrE
  by_cases ho : okN S.n A d
  · rw [if_pos ho]
    refine (p2_wd A d ho hd (by omega) w h3 hb).mono fun e w' q => ⟨q.1, ⟨S, rfl, h2, ?_⟩, q.2.2⟩
    unfold wrS
    rw [if_pos ho]
    exact q.2.1
  · rw [if_neg ho]
    refine (p2_wdbad A d hA ho hd w h3).mono fun e w' q => ⟨q.1, ⟨S, rfl, h2, ?_⟩, q.2.2.mono hb⟩
    unfold wrS
    rw [if_neg ho]
    exact q.2.1
theorem pj_wx {K : Option (Nat × Obj)} {n base gd gx j : Nat} (A : Int) (d : ByteArray) (hA : -9223372036854775808 ≤ A ∧ A ≤ 9223372036854775807) (hd : d.size ≤ 1000000) (hj : j ≤ 1000) (w : World) (h : PM K n base gd gx w j (wrS A d)) (hb : base ≤ w.heap.size) :
    Calls Try.prog 13 #[.pointer (some ⟨gx, 0, none⟩), .int .i64 A, .string d] w fun e w' => e = .returned (.int .i64 (wrE n A d)) ∧ PJ K n base gd gx w' (j + 1) ∧ Below base w w' := by
  obtain ⟨S, rfl, h2, h3⟩ := h
  unfold wrE
  unfold wrS at h3
  by_cases ho : okN S.n A d
  · rw [if_pos ho] at h3 ⊢
    exact (p2_wx A d ho hd (by omega) w h3 hb).mono fun e w' q => ⟨q.1, ⟨⟨S.n, S.L, S.Q ++ [(A.toNat, d)]⟩, rfl, by simp; omega, q.2.1⟩, q.2.2⟩
  · rw [if_neg ho] at h3 ⊢
    exact (p2_wxbad A d hA ho hd w h3).mono fun e w' q => ⟨q.1, ⟨S, rfl, by omega, q.2.1⟩, q.2.2.mono hb⟩
theorem PM.keep {K : Option (Nat × Obj)} {n base gd gx j : Nat} {f : DS → DS} {w w' : World} (h : PM K n base gd gx w j f) (k : Below w.heap.size w w') : PM K n base gd gx w' j f := by
  obtain ⟨S, h1, h2, h3⟩ := h
  exact ⟨S, h1, h2, h3.keep k⟩
/-- what the law asks of both beside: how many wait, how many blocks -/
theorem pj_waits {K : Option (Nat × Obj)} {n base gd gx j : Nat} (w : World) (h : PJ K n base gd gx w j) : ∃ m ql cap bl, m ≤ j ∧ w.heap[gx]? = some (.cells #[.slice (some ⟨bl, 0, none⟩) n n, .slice ql m cap] 43 (0, 0)) ∧
    (Calls Try.prog 18 #[.pointer (some ⟨gd, 0, none⟩)] w fun e w' => e = .returned (.int .i64 m) ∧ w' = w) ∧ (Calls Try.prog 19 #[.pointer (some ⟨gd, 0, none⟩)] w fun e w' => e = .returned (.int .i64 n) ∧ w' = w) := by
  obtain ⟨S, rfl, h2, L, fpd, fpx, h1, hX, hl, _⟩ := h
  obtain ⟨⟨bl, qv, e1, _, e3, _⟩, _⟩ := hX
  have hlen : ∃ ao cap, qv = .slice ao S.Q.length cap := by
    obtain ⟨_, e | ⟨b, cap, cur, e, _⟩⟩ := e3
    · exact ⟨none, 0, by rw [e.2]; exact e.1⟩
    · exact ⟨_, cap, e⟩
  obtain ⟨ao, cap, rfl⟩ := hlen
  rw [hl] at e1
  exact ⟨S.Q.length, ao, cap, bl, h2, e1, waits_any w h1, blocks_any w h1⟩
theorem pj_new (n : Nat) (h1 : 1 ≤ n) (h2 : n ≤ 1024) (base : Nat) (w : World) (hb : base ≤ w.heap.size) : Calls Try.prog 8 #[.int .i64 n] w fun e w1 => ∃ gd, e = .returned (.tuple #[.pointer (some ⟨gd, 0, none⟩), .int .i64 0]) ∧ Below w.heap.size w w1 ∧
    Calls Try.prog 9 #[.int .i64 n] w1 fun e w' => ∃ gx, e = .returned (.tuple #[.pointer (some ⟨gx, 0, none⟩), .int .i64 0]) ∧ Below w.heap.size w w' ∧ PJ none n base gd gx w' 0 := by
  refine (new_any n h1 h2 base w hb).mono fun e w1 q => ⟨_, q.1, q.2.2, ?_⟩
  have hb1 := q.2.2.size
  refine (xnew_any n h1 h2 base w1 (by omega)).mono fun e2 w2 q2 => ⟨_, q2.1, q.2.2.next q2.2.2, ⟨n, fun _ => none, []⟩, rfl, Nat.le_refl _, List.replicate n ByteArray.empty, _, _, (q.2.1.below q2.2.2).shrink', q2.2.1, by simp, RelL.new n, fun k hk hm => ?_, fun v o e => by cases e⟩
  have := (q.2.1.lo k hk).2
  simp at hm
  omega
theorem PJ.drop {K : Option (Nat × Obj)} {n base gd gx j : Nat} {w : World} (h : PJ K n base gd gx w j) : PJ none n base gd gx w j := by
  obtain ⟨S, h1, h2, h3⟩ := h
  exact ⟨S, h1, h2, h3.drop⟩
theorem PJ.var {K : Option (Nat × Obj)} {n base gd gx j : Nat} {w : World} (h : PJ K n base gd gx w j) (o : Obj) : PJ (some (w.heap.size, o)) n base gd gx (w.alloc o) j := by
  obtain ⟨S, h1, h2, h3⟩ := h
  exact ⟨S, h1, h2, h3.var o⟩
theorem PJ.cell {v : Nat} {o : Obj} {n base gd gx j : Nat} {w : World} (h : PJ (some (v, o)) n base gd gx w j) : w.heap[v]? = some o := by
  obtain ⟨S, h1, h2, h3⟩ := h
  exact h3.cell
theorem PM.cell {v : Nat} {o : Obj} {n base gd gx j : Nat} {f : DS → DS} {w : World} (h : PM (some (v, o)) n base gd gx w j f) : w.heap[v]? = some o := by
  obtain ⟨S, h1, h2, h3⟩ := h
  exact h3.cell
end Go.Proofs.Ytglhibmfbbbdiaa
