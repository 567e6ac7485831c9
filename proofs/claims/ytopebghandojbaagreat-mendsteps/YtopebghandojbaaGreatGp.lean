import Derived.Test.YtopebghandojbaaGreatGj
import Derived.Test.YtopebghandojbaaGreatGn
namespace Go.Proofs.YtopebghandojbaaGreat
open Go.RowKit Go.Maps

section
variable {N0 : Nat} {M : Nat → Prop} {s g x y z j m : Nat} {w w' : World} {σ : MS} {T F : Nat} {l : List Int}
theorem PR.commit_room (h : PR N0 M s g x y z j m w σ [] T F l) (hok : Sh.okS x y z) (hT : T < y - 1) (hF : 1 ≤ F) (hF2 : F + l.length ≤ 1099511627000) (hl : l.length ≤ 299) (hln : ∀ n ∈ l, 0 ≤ n) (v : Value) (L : List Chg) (hL : CLie w v L) (hv : L ≠ [] → ∀ b, v.ownBlock = some b → b < N0) (hr : right L = true) (hwi : withinB (1 + (y : Int)) x L = true) (hL2 : Sml L ∧ L.length ≤ 48) (hpl : (L.length : Int) + 1 ≤ (y : Int) - 1) (hroom : sumI l + L.length + 1 ≤ (y : Int) - 1) :
    Calls Tryz.prog 14 #[.pointer (some ⟨s, 0, none⟩), v] w fun e w' => e = .returned (.int .i64 0) ∧ After M w (fun M' w' => PR N0 M' s g x y z j m w' { σ with U := L } ([] ++ comAct ((y : Int) - 1) T F (sumI l) l.length L) T F (l ++ [(L.length : Int) + 1])) w' := by
  refine h.com v L hv hL2 (by unfold comAct; simp) ?_
  intro ao uv r N k1 k2 k3 k4 k5 k6 k7
  refine (Go.Proofs.YtopebghandojbaaGreat.commit_room (M := σ.M) v L hok hr hwi (by omega) hF (by omega) hl hln hpl hroom w k1 k2 k3 hL k4 k5 k6 k7).mono ?_
  rintro e w' ⟨rfl, B1, uv', r', c1, c2, c3, c4, c5, c6, c7⟩
  refine ⟨rfl, B1, uv', r', c1, c2, c3, c4, ?_, c6, c7⟩
  rw [List.length_append, List.length_singleton]
  exact c5
theorem PR.commit_lay {T' : Nat} (h : PR N0 M s g x y z j m w σ [] T F l) (hok : Sh.okS x y z) (hT : T < y - 1) (hF : 1 ≤ F) (hF2 : F + l.length ≤ 1099511627000) (hl : l.length ≤ 299) (hln : ∀ n ∈ l, 0 ≤ n) (v : Value) (L : List Chg) (hL : CLie w v L) (hv : L ≠ [] → ∀ b, v.ownBlock = some b → b < N0) (hr : right L = true) (hwi : withinB (1 + (y : Int)) x L = true) (hL2 : Sml L ∧ L.length ≤ 48) (hpl : (L.length : Int) + 1 ≤ (y : Int) - 1) (hs : sumI l ≤ (y : Int) - 1) (hroom : (y : Int) - 1 < sumI l + L.length + 1) (hT' : (T' : Int) = ((T : Int) + sumI l) % ((y : Int) - 1)) :
    Calls Tryz.prog 14 #[.pointer (some ⟨s, 0, none⟩), v] w fun e w' => e = .returned (.int .i64 0) ∧ After M w (fun M' w' => PR N0 M' s g x y z j m w' { σ with U := L } (layA σ.M (hdB T' (F + l.length) (F + l.length)) ++ comAct ((y : Int) - 1) T' (F + l.length) (sumI []) ([] : List Int).length L) T' (F + l.length) ([] ++ [(L.length : Int) + 1])) w' := by
  have hml := h.sm.len
  refine h.com v L hv hL2 (by unfold comAct; simp) ?_
  intro ao uv r N k1 k2 k3 k4 k5 k6 k7
  refine (Go.Proofs.YtopebghandojbaaGreat.commit_lay (M := σ.M) v L hok hr hwi (by omega) hF (by omega) hl hln hpl hs hroom hT' (by omega) w k1 k2 k3 hL k4 k5 k6 k7).mono ?_
  rintro e w' ⟨rfl, B1, uv', r', c1, c2, c3, c4, c5, c6, c7⟩
  exact ⟨rfl, B1, uv', r', c1, c2, c3, c4, c5, c6, c7⟩
end
/-- what both stores are amidst of -/
structure Inv (x y z : Nat) (σ : MS) (A : List AT) (T F : Nat) (l : List Int) (n : Nat) : Prop where
  safe : ∃ st, Safe x (fun _ => True) (EQ x y z T F l st n) A σ
  qok : Qok σ A
  len : A.length ≤ 1000
  c0 : 0 ≤ σ.c
  c1 : σ.c + A.length ≤ 100000
  ml : σ.M.length ≤ 256
theorem Inv.quiet {x y z : Nat} {σ : MS} {T F n : Nat} {l : List Int} (h : Inv x y z σ [] T F l n) : ∃ st, EQ x y z T F l st n σ := by
  obtain ⟨st, _, h⟩ := h.safe
  exact ⟨st, h⟩
theorem Inv.step {x y z : Nat} {σ : MS} {a : AT} {A : List AT} {T F n : Nat} {l : List Int} (hok : Sh.okS x y z) (h : Inv x y z σ (a :: A) T F l n) (h1 : OneEnd (a :: A)) : AOk x a ∧ Inv x y z (σ.act a) A T F l n := by
  obtain ⟨⟨st, _, s2, s3⟩, h2, h3, h4, h5, h6⟩ := h
  have hy := hok.1.2.1
  simp only [List.length_cons] at h3 h5
  refine ⟨s2, ⟨st, s3⟩, h2.act s2, by omega, ?_, ?_, ?_⟩
  · rcases act_c σ a with e | e <;> omega
  · rcases act_c σ a with e | e <;> omega
  · rcases s2 with ⟨e, _⟩ | ⟨e | e | e, _⟩
    · rw [MS.act_w e]; exact h6
    · rw [MS.act_f e]; exact h6
    · rw [MS.act_l e]; exact Nat.zero_le _
    · have hA := h1.1 e
      subst hA
      obtain ⟨_, f', Ls', hg, _, _, e2⟩ := s3
      rw [e2]
      have k1 := mg_used Ls'
      have k2 := hg.us
      show (mg Ls').length ≤ 256
      omega
/-- both stores, apart, in one state, and a block of none of them -/
structure Both (N0 q s g jp m r d x y z j n : Nat) (w : World) (A : List AT) : Prop where
  ex : ∃ (MP MR : Nat → Prop) (σ : MS) (T F : Nat) (l : List Int), PR N0 MP s g x y z jp m w σ A T F l ∧ RR N0 MR r d x y z j w σ A T F l ∧ (∀ b, MP b → ¬ MR b) ∧ (∀ b, MP b ∨ MR b → b ≠ q) ∧ Inv x y z σ A T F l n
/-- all that was ahead of both stores, and the block, is as it was -/
def Fq (N0 q : Nat) (w w' : World) : Prop := Keep (fun b => N0 ≤ b ∧ b ≠ q) w w'
theorem Fq.of {N0 q : Nat} {w w' : World} (h : Below w.heap.size w w') : Fq N0 q w w' := Keep.of h
theorem Fq.next {N0 q : Nat} {w w1 w2 : World} (h : Fq N0 q w w1) (k : Fq N0 q w1 w2) : Fq N0 q w w2 := Keep.trans h k
section
variable {N0 q s g jp m r d x y z j n : Nat} {w w' : World} {A A1 A2 : List AT} {MP MR : Nat → Prop} {σ σ1 σ2 : MS} {T T1 T2 F F1 F2 : Nat} {l l1 l2 : List Int}
theorem Both.below (h : Both N0 q s g jp m r d x y z j n w A) (k : Below w.heap.size w w') : Both N0 q s g jp m r d x y z j n w' A := by
  obtain ⟨MP, MR, σ, T, F, l, h1, h2, h3, h4, h5⟩ := h
  exact ⟨MP, MR, σ, T, F, l, h1.below k, h2.below k, h3, h4, h5⟩
theorem Both.low (h : Both N0 q s g jp m r d x y z j n w A) (q' : Nat) (hq : q' < N0) : Both N0 q' s g jp m r d x y z j n w A := by
  obtain ⟨MP, MR, σ, T, F, l, h1, h2, h3, h4, h5⟩ := h
  refine ⟨MP, MR, σ, T, F, l, h1, h2, h3, fun b hb => ?_, h5⟩
  rcases hb with e | e
  · have := h1.lo b e; omega
  · have := h2.lo b e; omega
theorem Both.box (h : Both N0 q s g jp m r d x y z j n w A) (o : Obj) : Both N0 w.heap.size s g jp m r d x y z j n (w.alloc o) A := by
  obtain ⟨MP, MR, σ, T, F, l, h1, h2, h3, h4, h5⟩ := h
  refine ⟨MP, MR, σ, T, F, l, h1.below (below_alloc _ _), h2.below (below_alloc _ _), h3, fun b hb => ?_, h5⟩
  rcases hb with e | e
  · have := h1.hi b e; omega
  · have := h2.hi b e; omega
theorem Both.sz (h : Both N0 q s g jp m r d x y z j n w A) : N0 ≤ w.heap.size := by
  obtain ⟨MP, MR, σ, T, F, l, h1, _⟩ := h
  exact h1.size
/-- the program's store has gone on -/
theorem half (hq : q < w.heap.size) (h1 : PR N0 MP s g x y z jp m w σ A T F l) (h2 : RR N0 MR r d x y z j w σ2 A2 T2 F2 l2) (h3 : ∀ b, MP b → ¬ MR b) (h4 : ∀ b, MP b ∨ MR b → b ≠ q) (k : After MP w (fun M' w' => PR N0 M' s g x y z jp m w' σ1 A1 T1 F1 l1) w') :
    ∃ MP', PR N0 MP' s g x y z jp m w' σ1 A1 T1 F1 l1 ∧ RR N0 MR r d x y z j w' σ2 A2 T2 F2 l2 ∧ (∀ b, MP' b → ¬ MR b) ∧ (∀ b, MP' b ∨ MR b → b ≠ q) ∧ Fq N0 q w w' := by
  obtain ⟨M', k1, k2, k3⟩ := k
  refine ⟨M', k1, h2.keep k3 (fun b hb hp => h3 b hp hb) h1.lo, fun b hb hm => ?_, fun b hb => ?_, k3.weak fun b hb => ⟨h1.lo b hb, h4 b (.inl hb)⟩⟩
  · rcases k2 b hb with e | e
    · exact h3 b e hm
    · have := h2.hi b hm; omega
  · rcases hb with e | e
    · rcases k2 b e with e | e
      · exact h4 b (.inl e)
      · omega
    · exact h4 b (.inr e)
/-- the document's store has gone on -/
theorem whole (hq : q < w.heap.size) (h1 : PR N0 MP s g x y z jp m w σ1 A1 T1 F1 l1) (h2 : RR N0 MR r d x y z j w σ2 A2 T2 F2 l2) (h3 : ∀ b, MP b → ¬ MR b) (h4 : ∀ b, MP b ∨ MR b → b ≠ q) (k : After MR w (fun M' w' => RR N0 M' r d x y z j w' σ1 A1 T1 F1 l1) w') (hI : Inv x y z σ1 A1 T1 F1 l1 n) :
    Both N0 q s g jp m r d x y z j n w' A1 ∧ Fq N0 q w w' := by
  obtain ⟨M', k1, k2, k3⟩ := k
  refine ⟨⟨MP, M', σ1, T1, F1, l1, h1.keep k3 (fun b hb hp => h3 b hb hp), k1, fun b hb hm => ?_, fun b hb => ?_, hI⟩, k3.weak fun b hb => ⟨h2.lo b hb, h4 b (.inr hb)⟩⟩
  · rcases k2 b hm with e | e
    · exact h3 b hb e
    · have := h1.hi b hb; omega
  · rcases hb with e | e
    · exact h4 b (.inl e)
    · rcases k2 b e with e | e
      · exact h4 b (.inr e)
      · omega
/-- a step of both -/
theorem Both.step {a : AT} (hok : Sh.okS x y z) (h : Both N0 q s g jp m r d x y z j n w (a :: A)) (hq : q < w.heap.size) :
    Calls Tryz.prog 18 #[.pointer (some ⟨s, 0, none⟩)] w fun e w1 => e = .returned (.tuple #[.bool (!decide (0 < A.length)), .int .i64 0]) ∧ Fq N0 q w w1 ∧ Hid (∀ w2, Below w1.heap.size w1 w2 → Calls Tryz.prog 19 #[.pointer (some ⟨r, 0, none⟩)] w2 fun e w3 => e = .returned (.tuple #[.bool (!decide (0 < A.length)), .int .i64 0]) ∧ Both N0 q s g jp m r d x y z j n w3 A ∧ Fq N0 q w2 w3) := by
  obtain ⟨MP, MR, σ, T, F, l, h1, h2, h3, h4, h5⟩ := h
  obtain ⟨i1, i2⟩ := h5.step hok h2.one
  have hl := h5.len
  have hqo := h5.qok.2
  have c0 := h5.c0
  have c1 := h5.c1
  have ml := h5.ml
  simp only [List.length_cons] at hl hqo c1
  refine (h1.step i1 (by omega) (by omega) ⟨c0, by omega⟩).mono ?_
  rintro e w1 ⟨rfl, k⟩
  obtain ⟨MP', g1, g2, g3, g4, g5⟩ := half hq h1 h2 h3 h4 k
  refine ⟨rfl, g5, hid fun w2 kb => ?_⟩
  have hz1 := g5.size
  have hz2 := kb.size
  refine ((g2.below kb).step i1 (by omega) (by omega) ⟨c0, by omega⟩ (by omega)).mono ?_
  rintro e w3 ⟨rfl, k3⟩
  exact ⟨rfl, whole (by omega) (g1.below kb) (g2.below kb) g3 g4 k3 i2⟩
/-- a step of both that is none -/
theorem Both.step0 (h : Both N0 q s g jp m r d x y z j n w []) :
    Calls Tryz.prog 18 #[.pointer (some ⟨s, 0, none⟩)] w fun e w1 => e = .returned (.tuple #[.bool false, .int .i64 7]) ∧ Fq N0 q w w1 ∧ Hid (∀ w2, Below w1.heap.size w1 w2 → Calls Tryz.prog 19 #[.pointer (some ⟨r, 0, none⟩)] w2 fun e w3 => e = .returned (.tuple #[.bool false, .int .i64 7]) ∧ Both N0 q s g jp m r d x y z j n w3 [] ∧ Fq N0 q w2 w3) := by
  have h' := h
  obtain ⟨MP, MR, σ, T, F, l, h1, h2, h3, h4, h5⟩ := h'
  refine h1.step0.mono ?_
  rintro e w1 ⟨rfl, rfl⟩
  refine ⟨rfl, Keep.refl _ _, hid fun w2 kb => (h2.below kb).step0.mono ?_⟩
  rintro e w3 ⟨rfl, rfl⟩
  exact ⟨rfl, h.below kb, Keep.refl _ _⟩
theorem szL_nn {Ls : List (List Chg)} : ∀ n ∈ Ls.map szL, (0 : Int) ≤ n := fun n hn => by
  obtain ⟨K, _, rfl⟩ := List.mem_map.1 hn
  unfold szL; omega
/-- a checkpoint of both -/
theorem Both.check (hok : Sh.okS x y z) (hn : n ≤ 10000) (h : Both N0 q s g jp m r d x y z j n w A) (hq : q < w.heap.size) :
    ∃ (c : Int) (A' : List AT), Calls Tryz.prog 16 #[.pointer (some ⟨s, 0, none⟩)] w fun e w1 => e = .returned (.int .i64 c) ∧ Fq N0 q w w1 ∧ Hid (∀ w2, Below w1.heap.size w1 w2 → Calls Tryz.prog 17 #[.pointer (some ⟨r, 0, none⟩)] w2 fun e w3 => e = .returned (.int .i64 c) ∧ Both N0 q s g jp m r d x y z j n w3 A' ∧ Fq N0 q w2 w3) := by
  have h' := h
  obtain ⟨MP, MR, σ, T, F, l, h1, h2, h3, h4, h5⟩ := h'
  have hx := hok.1.1
  have hy := hok.1.2.1
  have hsp := hok.2
  match A, h, h1, h2, h5 with
  | a :: A, h, h1, h2, h5 =>
    have hl := h5.len
    simp only [List.length_cons] at hl
    refine ⟨7, a :: A, h1.check_busy.mono ?_⟩
    rintro e w1 ⟨rfl, rfl⟩
    refine ⟨rfl, Keep.refl _ _, hid fun w2 kb => ((h2.below kb).check_busy (by omega)).mono ?_⟩
    rintro e w3 ⟨rfl, rfl⟩
    exact ⟨rfl, h.below kb, Keep.refl _ _⟩
  | [], h, h1, h2, h5 =>
    obtain ⟨st, f, Ls, hG, hle, hne, hσ⟩ := h5.quiet
    subst hle
    by_cases hLs : Ls = []
    · subst hLs
      refine ⟨0, [], (h1.check0 (by omega)).mono ?_⟩
      rintro e w1 ⟨rfl, qq, hw⟩
      subst hw
      refine ⟨rfl, ⟨rfl, rfl, rfl, Nat.le_refl _, fun _ _ _ => rfl⟩, hid fun w2 kb => ?_⟩
      have kb' : Below w.heap.size w w2 := ⟨kb.os, kb.tape, kb.output, kb.size, kb.block⟩
      refine ((h2.below kb').check0).mono ?_
      rintro e w3 ⟨rfl, rfl⟩
      exact ⟨rfl, h.below kb', Keep.refl _ _⟩
    · have hTl := hG.tl
      have hus := hG.us
      have hlu := len_le_used Ls
      have hml := mg_used Ls
      have hsafe := safe_mend (c := (F : Int) + Ls.length - 1) (by omega) hG
      have hT2 : ((((T + used Ls) % (y - 1) : Nat)) : Int) = ((T : Int) + sumI (Ls.map szL)) % ((y : Int) - 1) := by
        rw [sum_used, show (y : Int) - 1 = ((y - 1 : Nat) : Int) by omega]
        push_cast
        rfl
      subst hσ
      have hl1 : Ls.map szL ≠ [] := by simpa using hLs
      have hI : Inv x y z ⟨f, [], mg Ls, [], (F : Int) + Ls.length - 1⟩ (layA (mg Ls) (hdB ((T + used Ls) % (y - 1)) (F + (Ls.map szL).length) (F + (Ls.map szL).length))) ((T + used Ls) % (y - 1)) (F + (Ls.map szL).length) [] n := by
        rw [List.length_map]
        refine ⟨⟨st, hsafe.mono (fun _ _ => trivial) ?_⟩, ⟨(fun q hq => by cases hq), ?_⟩, ?_, h5.c0, ?_, h5.ml⟩
        · rintro σ ⟨f', hg, rfl⟩
          refine ⟨f', [], hg, rfl, hne, ?_⟩
          show _ = (⟨f', [], [], [], _⟩ : MS)
          congr 1
        · show 0 + _ ≤ 2000
          unfold layA; simp; omega
        · unfold layA; simp; omega
        · show (F : Int) + Ls.length - 1 + _ ≤ 100000
          unfold layA; simp; omega
      refine ⟨0, layA (mg Ls) (hdB ((T + used Ls) % (y - 1)) (F + (Ls.map szL).length) (F + (Ls.map szL).length)), (h1.check (by omega) hTl (by rw [List.length_map]; omega) (by rw [List.length_map]; omega) hl1 szL_nn (by rw [sum_used]; omega) rfl hT2).mono ?_⟩
      rintro e w1 ⟨rfl, k⟩
      obtain ⟨MP', g1, g2, g3, g4, g5⟩ := half hq h1 h2 h3 h4 k
      refine ⟨rfl, g5, hid fun w2 kb => ?_⟩
      have hz1 := g5.size
      have hz2 := kb.size
      refine ((g2.below kb).check (by omega) hTl (by rw [List.length_map]; omega) (by rw [List.length_map]; omega) hl1 (by show (mg Ls).length ≤ 500; omega) hT2).mono ?_
      rintro e w3 ⟨rfl, k3⟩
      exact ⟨rfl, whole (by omega) (g1.below kb) (g2.below kb) g3 g4 k3 hI⟩
end
end Go.Proofs.YtopebghandojbaaGreat
namespace Go.Proofs.YtopebghandojbaaGreat
open Go.RowKit Go.Maps

section
variable {N0 q s g jp m r d x y z j n : Nat} {w w' : World} {A A1 A2 : List AT} {MP MR : Nat → Prop} {σ σ1 σ2 : MS} {T T1 T2 F F1 F2 : Nat} {l l1 l2 : List Int}
theorem comAct_eq (y T F : Nat) (hy : 1 ≤ y) (Ls : List (List Chg)) (L : List Chg) : comAct ((y : Int) - 1) T F (sumI (Ls.map szL)) (Ls.map szL).length L = comA (ringW (y - 1) (T + used Ls) (encL (F + Ls.length) L)) (hdB T F (F + Ls.length + 1)) := acts_eq y T F hy Ls L
/-- a commit of both -/
theorem Both.commit (hok : Sh.okS x y z) (hn : n ≤ 10000) (h : Both N0 q s g jp m r d x y z j n w A) (hq : q < w.heap.size) (v : Value) (L : List Chg) (hL : CLie w v L) (hv : L ≠ [] → ∀ b, v.ownBlock = some b → b < N0) :
    ∃ (c : Int) (A' : List AT) (n' : Nat), n' ≤ n + 1 ∧ Calls Tryz.prog 14 #[.pointer (some ⟨s, 0, none⟩), v] w fun e w1 => e = .returned (.int .i64 c) ∧ Fq N0 q w w1 ∧ Hid (∀ w2, Below w1.heap.size w1 w2 → Calls Tryz.prog 15 #[.pointer (some ⟨r, 0, none⟩), v] w2 fun e w3 => e = .returned (.int .i64 c) ∧ Both N0 q s g jp m r d x y z j n' w3 A' ∧ Fq N0 q w2 w3) := by
  have h' := h
  obtain ⟨MP, MR, σ, T, F, l, h1, h2, h3, h4, h5⟩ := h'
  have hx := hok.1.1
  have hy := hok.1.2.1
  have hsp := hok.2
  -- an answer alone
  have alone : ∀ (c : Int), Calls Tryz.prog 14 #[.pointer (some ⟨s, 0, none⟩), v] w (fun e w1 => e = .returned (.int .i64 c) ∧ Below w.heap.size w w1) → (∀ w2, Below w.heap.size w w2 → Calls Tryz.prog 15 #[.pointer (some ⟨r, 0, none⟩), v] w2 fun e w3 => e = .returned (.int .i64 c) ∧ Below w2.heap.size w2 w3) →
      ∃ (c : Int) (A' : List AT) (n' : Nat), n' ≤ n + 1 ∧ Calls Tryz.prog 14 #[.pointer (some ⟨s, 0, none⟩), v] w fun e w1 => e = .returned (.int .i64 c) ∧ Fq N0 q w w1 ∧ Hid (∀ w2, Below w1.heap.size w1 w2 → Calls Tryz.prog 15 #[.pointer (some ⟨r, 0, none⟩), v] w2 fun e w3 => e = .returned (.int .i64 c) ∧ Both N0 q s g jp m r d x y z j n' w3 A' ∧ Fq N0 q w2 w3) := by
    intro c k1 k2
    refine ⟨c, A, n, by omega, k1.mono ?_⟩
    rintro e w1 ⟨rfl, hb⟩
    refine ⟨rfl, Fq.of hb, hid fun w2 kb => (k2 w2 (hb.next kb)).mono ?_⟩
    rintro e w3 ⟨rfl, hb3⟩
    exact ⟨rfl, (h.below (hb.next kb)).below hb3, Fq.of hb3⟩
  by_cases hr : right L = true
  · by_cases hwi : withinB (1 + (y : Int)) x L = true
    · match A, h, h1, h2, h5, alone with
      | a :: A, h, h1, h2, h5, alone =>
        have hl := h5.len
        simp only [List.length_cons] at hl
        exact alone 7 (h1.com_busy v L hr hwi hL) fun w2 kb => (h2.below kb).com_busy (by omega) v L hr hwi (hL.below kb)
      | [], h, h1, h2, h5, alone =>
        obtain ⟨st, f, Ls, hG, hle, hne, hσ⟩ := h5.quiet
        subst hle
        subst hσ
        have hX : okX y x L := ⟨hr, hwi⟩
        obtain ⟨x1, x2, x3⟩ := hX.rise
        have hsm : Sml L ∧ L.length ≤ 48 := ⟨⟨x1, fun c hc => by obtain ⟨a, b, _⟩ := x2 c hc; omega⟩, x3⟩
        by_cases hpl : (L.length : Int) + 1 ≤ (y : Int) - 1
        · have hTl := hG.tl
          have hus := hG.us
          have hlu := len_le_used Ls
          have hml := mg_used Ls
          have hf1 := hG.f1
          by_cases hroom : used Ls + L.length + 1 ≤ y - 1
          · have hsafe := safe_commit (c := (F : Int) + Ls.length - 1) (by omega) hG hX hroom (by omega)
            have e1 := comAct_eq y T F (by omega) Ls L
            have hI : Inv x y z ⟨f, [], mg Ls, L, (F : Int) + Ls.length - 1⟩ ([] ++ comAct ((y : Int) - 1) T F (sumI (Ls.map szL)) (Ls.map szL).length L) T F (Ls.map szL ++ [(L.length : Int) + 1]) (n + 1) := by
              rw [e1]
              refine ⟨⟨stU st L, hsafe.mono (fun _ _ => trivial) ?_⟩, ⟨(fun q hq => by cases hq), ?_⟩, ?_, h5.c0, ?_, h5.ml⟩
              · rintro σ ⟨f', hg, rfl⟩
                refine ⟨f', Ls ++ [L], hg, by rw [List.map_append]; rfl, by rw [List.length_append, List.length_singleton]; omega, ?_⟩
                rw [List.length_append, List.length_singleton]
                congr 1
                push_cast
                omega
              · show 0 + _ ≤ 2000
                unfold comA
                simp [ringW_len, encL_len]
                omega
              · unfold comA
                simp [ringW_len, encL_len]
                omega
              · show (F : Int) + Ls.length - 1 + _ ≤ 100000
                unfold comA
                simp [ringW_len, encL_len]
                omega
            refine ⟨0, [] ++ comAct ((y : Int) - 1) T F (sumI (Ls.map szL)) (Ls.map szL).length L, n + 1, Nat.le_refl _, (h1.commit_room hok hTl hf1 (by rw [List.length_map]; omega) (by rw [List.length_map]; omega) szL_nn v L hL hv hr hwi hsm hpl (by rw [sum_used]; omega)).mono ?_⟩
            rintro e w1 ⟨rfl, k⟩
            obtain ⟨MP', g1, g2, g3, g4, g5⟩ := half hq h1 h2 h3 h4 k
            refine ⟨rfl, g5, hid fun w2 kb => ?_⟩
            have hz1 := g5.size
            have hz2 := kb.size
            have hLw : CLie w2 v L := (hL.same2 hz1 fun hn b hb => ?_).below kb
            · refine ((g2.below kb).commit_room (by omega) hTl hf1 (by rw [List.length_map]; omega) (by rw [List.length_map]; omega) v L hLw hv hr hwi hsm (by rw [sum_used]; omega) (by rw [sum_used]; omega)).mono ?_
              rintro e w3 ⟨rfl, k3⟩
              exact ⟨rfl, whole (by omega) (g1.below kb) (g2.below kb) g3 g4 k3 hI⟩
            · have hbn := hv hn b hb
              have := h1.size
              exact g5.block b (by omega) (fun e => by omega)
          · have hsafe := safe_lay_commit (c := (F : Int) + Ls.length - 1) (by omega) hG hX (by omega) (by omega)
            have e1 := comAct_eq y ((T + used Ls) % (y - 1)) (F + Ls.length) (by omega) [] L
            have hT2 : ((((T + used Ls) % (y - 1) : Nat)) : Int) = ((T : Int) + sumI (Ls.map szL)) % ((y : Int) - 1) := by
              rw [sum_used, show (y : Int) - 1 = ((y - 1 : Nat) : Int) by omega]
              push_cast
              rfl
            have hI : Inv x y z ⟨f, [], mg Ls, L, (F : Int) + Ls.length - 1⟩ (layA (mg Ls) (hdB ((T + used Ls) % (y - 1)) (F + (Ls.map szL).length) (F + (Ls.map szL).length)) ++ comAct ((y : Int) - 1) ((T + used Ls) % (y - 1)) (F + (Ls.map szL).length) (sumI []) ([] : List Int).length L) ((T + used Ls) % (y - 1)) (F + (Ls.map szL).length) ([] ++ [(L.length : Int) + 1]) (n + 1) := by
              rw [List.length_map]
              have e2 : comAct ((y : Int) - 1) ((T + used Ls) % (y - 1)) (F + Ls.length) (sumI []) ([] : List Int).length L = _ := e1
              rw [e2]
              refine ⟨⟨stU st L, hsafe.mono (fun _ _ => trivial) ?_⟩, ⟨(fun q hq => by cases hq), ?_⟩, ?_, h5.c0, ?_, h5.ml⟩
              · rintro σ ⟨f', hg, rfl⟩
                refine ⟨f', [L], hg, rfl, by rw [List.length_singleton]; omega, ?_⟩
                rw [List.length_singleton]
                congr 1
                push_cast
                omega
              · show 0 + _ ≤ 2000
                unfold comA layA
                simp [ringW_len, encL_len]
                omega
              · unfold comA layA
                simp [ringW_len, encL_len]
                omega
              · show (F : Int) + Ls.length - 1 + _ ≤ 100000
                unfold comA layA
                simp [ringW_len, encL_len]
                omega
            refine ⟨0, layA (mg Ls) (hdB ((T + used Ls) % (y - 1)) (F + (Ls.map szL).length) (F + (Ls.map szL).length)) ++ comAct ((y : Int) - 1) ((T + used Ls) % (y - 1)) (F + (Ls.map szL).length) (sumI []) ([] : List Int).length L, n + 1, Nat.le_refl _, (h1.commit_lay hok hTl hf1 (by rw [List.length_map]; omega) (by rw [List.length_map]; omega) szL_nn v L hL hv hr hwi hsm hpl (by rw [sum_used]; omega) (by rw [sum_used]; omega) hT2).mono ?_⟩
            rintro e w1 ⟨rfl, k⟩
            obtain ⟨MP', g1, g2, g3, g4, g5⟩ := half hq h1 h2 h3 h4 k
            refine ⟨rfl, g5, hid fun w2 kb => ?_⟩
            have hz1 := g5.size
            have hz2 := kb.size
            have hLw : CLie w2 v L := (hL.same2 hz1 fun hn b hb => ?_).below kb
            · refine ((g2.below kb).commit_lay (by omega) hTl hf1 (by rw [List.length_map]; omega) (by rw [List.length_map]; omega) v L hLw hv hr hwi hsm (by rw [sum_used]; omega) (by rw [sum_used]; omega) (by show (mg Ls).length ≤ 500; omega) hpl (by rw [sum_used]; omega) hT2).mono ?_
              rintro e w3 ⟨rfl, k3⟩
              exact ⟨rfl, whole (by omega) (g1.below kb) (g2.below kb) g3 g4 k3 hI⟩
            · have hbn := hv hn b hb
              have := h1.size
              exact g5.block b (by omega) (fun e => by omega)
        · exact alone 5 (h1.com_full (by omega) v L hr hwi (by omega) hL) fun w2 kb => (h2.below kb).com_full v L hr hwi (by omega) (hL.below kb)
    · exact alone 70 (h1.com_out v L hr (by simpa using hwi) hL) fun w2 kb => (h2.below kb).com_out v L hr (by simpa using hwi) (hL.below kb)
  · exact alone 70 (h1.com_bad v L (by simpa using hr) hL) fun w2 kb => rcommit_bad v L (by simpa using hr) w2 (hL.below kb)
end
end Go.Proofs.YtopebghandojbaaGreat
