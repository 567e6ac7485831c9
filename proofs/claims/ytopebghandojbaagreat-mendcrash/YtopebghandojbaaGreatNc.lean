import Derived.Test.YtopebghandojbaaGreatNb
namespace Go.Proofs.YtopebghandojbaaGreat
open Go.RowKit Go.Maps

/-- between two commits: what is done, and so many that were tried -/
def QD (B s g x y z j m : Nat) (W2 : World) (D : List (List Chg)) (q : Nat) (wx : World) : Prop := Below B W2 wx ∧ (∀ X ∈ D, okX y x X) ∧ ∃ f T F Ls, Quiet B s g x y z j m wx f T F Ls (stD D) ∧ F + Ls.length ≤ 1 + q
/-- in the midst of a commit, so many acts ahead -/
def GoD (B s g x y z j m : Nat) (W2 : World) (D : List (List Chg)) (X : List Chg) (q k : Nat) (wx : World) : Prop := Below B W2 wx ∧ (∀ Y ∈ D ++ [X], okX y x Y) ∧ ∃ σ A T F l n, A.length = k ∧ Rn B s g x y z j m wx σ A T F l ∧ Safe x (Cr2 x y z (stD D) (stD (D ++ [X]))) (EQ x y z T F l (stD (D ++ [X])) n) A σ ∧ n ≤ 1 + q ∧ Qok σ A ∧ k ≤ 1000 ∧ 0 ≤ σ.c ∧ σ.c + k ≤ 100000
/-- a device ahead of a crash: what is sure, and what else it may be -/
def CutD (B g x y z : Nat) (W2 : World) (st1 st2 : Nat → ByteArray) (wx : World) : Prop := Below B W2 wx ∧ ∃ σ fp, Dv.DIs B g wx 1048576 ⟨x, σ.f, σ.Q⟩ fp ∧ Cr2 x y z st1 st2 σ ∧ (∀ q ∈ σ.Q, q.2.size = 128) ∧ σ.Q.length ≤ 2000
/-- behind a crash -/
def CrD (B g x y z : Nat) (W2 : World) (st : Nat → ByteArray) (wx : World) : Prop := Below B W2 wx ∧ ∃ f fp T F Ls, Dv.DIs B g wx 1048576 ⟨x, f, []⟩ fp ∧ GoodD x y z f T F Ls st
/-- while it is mended, so many acts ahead -/
def MendD (B s g x y z j m : Nat) (W2 : World) (st : Nat → ByteArray) (k : Nat) (wx : World) : Prop := Below B W2 wx ∧ ∃ σ A T F, A.length = k ∧ Rn B s g x y z j m wx σ A T F [] ∧ Safe x (fun σ => Sure x y z st σ ∧ Reads x y st σ) (fun _ => True) A σ ∧ Qok σ A ∧ k ≤ 1000 ∧ 0 ≤ σ.c ∧ σ.c + k ≤ 10000000
section
variable {B s g x y z j m : Nat} {W2 wx w' : World} {D : List (List Chg)} {X : List Chg} {q k : Nat} {st st1 st2 : Nat → ByteArray}
theorem QD.below (h : QD B s g x y z j m W2 D q wx) (kb : Below wx.heap.size wx w') (hB : B ≤ W2.heap.size) : QD B s g x y z j m W2 D q w' := by
  obtain ⟨hb, hD, f, T, F, Ls, hq, hn⟩ := h
  exact ⟨hb.trans (kb.mono (by have := hb.size; omega)), hD, f, T, F, Ls, hq.below kb, hn⟩
theorem QD.cut (h : QD B s g x y z j m W2 D q wx) : CutD B g x y z W2 (stD D) (stD D) wx := by
  obtain ⟨hb, _, f, T, F, Ls, hq, _⟩ := h
  obtain ⟨fp, hD⟩ := hq.rn.dev
  refine ⟨hb, _, fp, hD, fun Q' hs => ⟨T, F, Ls, .inl ?_⟩, (fun q hq => by cases hq), Nat.zero_le _⟩
  rw [List.sublist_nil.1 hs]
  exact hq.gd
theorem GoD.cut (h : GoD B s g x y z j m W2 D X q k wx) : CutD B g x y z W2 (stD D) (stD (D ++ [X])) wx := by
  obtain ⟨hb, _, σ, A, T, F, l, n, rfl, hr, hs, _, hq, _⟩ := h
  obtain ⟨fp, hD⟩ := hr.dev
  exact ⟨hb, σ, fp, hD, hs.here, hq.1, Nat.le_trans (Nat.le_add_right _ _) hq.2⟩
theorem GoD.below (h : GoD B s g x y z j m W2 D X q k wx) (kb : Below wx.heap.size wx w') (hB : B ≤ W2.heap.size) : GoD B s g x y z j m W2 D X q k w' := by
  obtain ⟨hb, hD, σ, A, T, F, l, n, e, hr, h2⟩ := h
  exact ⟨hb.trans (kb.mono (by have := hb.size; omega)), hD, σ, A, T, F, l, n, e, hr.below kb, h2⟩
theorem GoD.fin (h : GoD B s g x y z j m W2 D X q 0 wx) : QD B s g x y z j m W2 (D ++ [X]) q wx := by
  obtain ⟨hb, hD, σ, A, T, F, l, n, hA, hr, hs, hn, _⟩ := h
  obtain rfl := List.eq_nil_of_length_eq_zero hA
  obtain ⟨_, f', Ls', hg, rfl, rfl, rfl⟩ := hs
  exact ⟨hb, hD, f', T, F, Ls', ⟨hr, hg⟩, hn⟩
theorem GoD.busy (h : GoD B s g x y z j m W2 D X q k wx) : Calls Tryz.prog 21 #[.pointer (some ⟨s, 0, none⟩)] wx fun e w' => e = .returned (.bool (decide (0 < k))) ∧ w' = wx := by
  obtain ⟨hb, _, σ, A, T, F, l, n, rfl, hr, _⟩ := h
  exact hr.busy
theorem GoD.step (h : GoD B s g x y z j m W2 D X q (k + 1) wx) (hB : B ≤ W2.heap.size) : Calls Tryz.prog 18 #[.pointer (some ⟨s, 0, none⟩)] wx fun e w' => (∃ b, e = .returned (.tuple #[.bool b, .int .i64 0])) ∧ Hid (GoD B s g x y z j m W2 D X q k w' ∧ K24 wx w') := by
  obtain ⟨hb, hD, σ, A, T, F, l, n, hA, hr, hs, hn, hq, hk, hc1, hc2⟩ := h
  match A, hA with
  | a :: A, hA =>
    have hA : A.length = k := by simpa using hA
    obtain ⟨s1, s2, s3⟩ := hs
    have hqq := hq.2
    simp only [List.length_cons] at hqq
    refine (hr.stepK s2 (by omega) (by omega) ⟨hc1, by omega⟩ (by have := hb.size; omega)).mono ?_
    rintro e w' ⟨rfl, k1, k2, k3⟩
    refine ⟨⟨_, rfl⟩, hid ⟨⟨hb.trans k2, hD, _, A, T, F, l, n, hA, k1, s3, hn, hq.act s2, by omega, ?_, ?_⟩, k3⟩⟩
    · rcases act_c σ a with e | e <;> omega
    · rcases act_c σ a with e | e <;> omega
theorem QD.commit (h : QD B s g x y z j m W2 D q wx) (hok : Sh.okS x y z) (hq : q ≤ 100) (v : Value) (L : List Chg) (hL : CLie wx v L) (hv : L ≠ [] → ∀ a, v.ownBlock = some a → a < B) (hB : B ≤ W2.heap.size) :
    Calls Tryz.prog 14 #[.pointer (some ⟨s, 0, none⟩), v] wx fun e w' => (e = .returned (.int .i64 0) ∧ ∃ k, Hid (GoD B s g x y z j m W2 D L (q + 1) k w' ∧ K24 wx w' ∧ ∀ w'' b cs, wx.heap[b]? = some (.cells cs 24 (0, 0)) → B ≤ b → Dv.Only [b] w' w'' → GoD B s g x y z j m W2 D L (q + 1) k w'')) ∨ (∃ n : Int, e = .returned (.int .i64 n) ∧ (n != 0) = true ∧ (n = 5 ∨ n ≠ 5 ∧ ¬ okX y x L) ∧ Hid (QD B s g x y z j m W2 D (q + 1) w' ∧ K24 wx w')) := by
  obtain ⟨hb, hD, f, T, F, Ls, hQ, hn⟩ := h
  have hf1 := hQ.gd.f1
  refine (hQ.commitK hok (by omega) v L hL hv (by have := hb.size; omega)).mono ?_
  rintro e w' ⟨⟨rfl, hX, A, T1, F1, l1, k1, k2, k3, k4, k5⟩ | ⟨n, rfl, h0, h5, k⟩, kb, kk⟩
  · have hY : ∀ Y ∈ D ++ [L], okX y x Y := fun Y hY => by
      rcases List.mem_append.1 hY with h | h
      · exact hD Y h
      · rw [List.mem_singleton] at h; rw [h]; exact hX
    have hS : Safe x (Cr2 x y z (stD D) (stD (D ++ [L]))) (EQ x y z T1 F1 l1 (stD (D ++ [L])) (F + Ls.length + 1)) A ⟨f, [], mg Ls, L, (F : Int) + Ls.length - 1⟩ := by rw [stD_snoc]; exact k2
    have hc1 : 0 ≤ (F : Int) + Ls.length - 1 := by omega
    have hc2 : (F : Int) + Ls.length - 1 + A.length ≤ 100000 := by omega
    exact .inl ⟨rfl, A.length, hid ⟨⟨hb.trans kb, hY, _, A, T1, F1, l1, _, rfl, k1.1, hS, by omega, k3, k5, hc1, hc2⟩, kk, fun w'' b cs h1 h2 h3 => ⟨(hb.trans kb).trans (h3.below (by have := hb.size; have := kb.size; omega) (fun a ha => by simp at ha; omega)), hY, _, A, T1, F1, l1, _, rfl, k1.2 w'' b cs h1 h3, hS, by omega, k3, k5, hc1, hc2⟩⟩⟩
  · refine .inr ⟨n, rfl, by simpa using h0, ?_, hid ⟨⟨hb.trans kb, hD, f, T, F, Ls, k, by omega⟩, kk⟩⟩
    by_cases e5 : n = 5
    · exact .inl e5
    · exact .inr ⟨e5, fun hx => e5 (h5 hx)⟩
/-- the crash -/
theorem CutD.crash (h : CutD B g x y z W2 st1 st2 wx) (pv : Value) (bs : List Bool) (t : Nat) (ht : t ≤ 1024) (hb : BLie wx pv bs) (hB : bs ≠ [] → ∀ a, pv.ownBlock = some a → a < B) :
    Calls Tryz.prog 35 #[.pointer (some ⟨g, 0, none⟩), pv, .int .i64 t] wx fun e w' => e = .returned (.int .i64 0) ∧ Hid ((CrD B g x y z W2 st1 w' ∨ CrD B g x y z W2 st2 w') ∧ K24 wx w') := by
  obtain ⟨hbb, σ, fp, hD, hC, hz, hl⟩ := h
  refine (dev_crashK pv bs t ht (by omega) hz wx hD hb hB).mono ?_
  rintro e w' ⟨rfl, ⟨Q', q1, fp', hD'⟩, kb, kk⟩
  obtain ⟨T, F, Ls, hg | hg⟩ := hC Q' q1
  · exact ⟨rfl, hid ⟨.inl ⟨hbb.trans kb, _, fp', T, F, Ls, hD', hg⟩, kk⟩⟩
  · exact ⟨rfl, hid ⟨.inr ⟨hbb.trans kb, _, fp', T, F, Ls, hD', hg⟩, kk⟩⟩
theorem MendD.cut (h : MendD B s g x y z j m W2 st k wx) : CutD B g x y z W2 st st wx := by
  obtain ⟨hb, σ, A, T, F, rfl, hr, hs, hq, _⟩ := h
  obtain ⟨fp, hD⟩ := hr.dev
  refine ⟨hb, σ, fp, hD, fun Q' hQ => ?_, hq.1, Nat.le_trans (Nat.le_add_right _ _) hq.2⟩
  obtain ⟨T, F, Ls, hg⟩ := hs.here.1 Q' hQ
  exact ⟨T, F, Ls, .inl hg⟩
theorem MendD.below (h : MendD B s g x y z j m W2 st k wx) (kb : Below wx.heap.size wx w') (hB : B ≤ W2.heap.size) : MendD B s g x y z j m W2 st k w' := by
  obtain ⟨hb, σ, A, T, F, e, hr, h2⟩ := h
  exact ⟨hb.trans (kb.mono (by have := hb.size; omega)), σ, A, T, F, e, hr.below kb, h2⟩
theorem MendD.busy (h : MendD B s g x y z j m W2 st k wx) : Calls Tryz.prog 21 #[.pointer (some ⟨s, 0, none⟩)] wx fun e w' => e = .returned (.bool (decide (0 < k))) ∧ w' = wx := by
  obtain ⟨hb, σ, A, T, F, rfl, hr, _⟩ := h
  exact hr.busy
theorem MendD.step (h : MendD B s g x y z j m W2 st (k + 1) wx) (hB : B ≤ W2.heap.size) : Calls Tryz.prog 18 #[.pointer (some ⟨s, 0, none⟩)] wx fun e w' => (∃ b, e = .returned (.tuple #[.bool b, .int .i64 0])) ∧ Hid (MendD B s g x y z j m W2 st k w' ∧ K24 wx w') := by
  obtain ⟨hb, σ, A, T, F, hA, hr, hs, hq, hk, hc1, hc2⟩ := h
  match A, hA with
  | a :: A, hA =>
    have hA : A.length = k := by simpa using hA
    obtain ⟨s1, s2, s3⟩ := hs
    have hqq := hq.2
    simp only [List.length_cons] at hqq
    refine (hr.stepK s2 (by omega) (by omega) ⟨hc1, by omega⟩ (by have := hb.size; omega)).mono ?_
    rintro e w' ⟨rfl, k1, k2, k3⟩
    refine ⟨⟨_, rfl⟩, hid ⟨⟨hb.trans k2, _, A, T, F, hA, k1, s3, hq.act s2, by omega, ?_, ?_⟩, k3⟩⟩
    · rcases act_c σ a with e | e <;> omega
    · rcases act_c σ a with e | e <;> omega
theorem MendD.read (h : MendD B s g x y z j m W2 st k wx) (i : Nat) (h1 : 1 + y ≤ i) (h2 : i < x) :
    Calls Tryz.prog 23 #[.pointer (some ⟨s, 0, none⟩), .int .i64 (i : Int)] wx fun e w' => e = .returned (.tuple #[.string (st i), .int .i64 0]) ∧ Below wx.heap.size wx w' := by
  obtain ⟨hb, σ, A, T, F, hA, hr, hs, _⟩ := h
  rw [← hs.here.2 i h1 h2]
  exact hr.read i h2
/-- Open behind a crash -/
theorem CrD.open (hok : Sh.okS x y z) (h : CrD B g x y z W2 st wx) (hB : B ≤ W2.heap.size) :
    Calls Tryz.prog 11 #[.pointer (some ⟨g, 0, none⟩)] wx fun e w' => ∃ s j m k, e = .returned (.tuple #[.pointer (some ⟨s, 0, none⟩), .int .i64 0]) ∧ Hid (MendD B s g x y z j m W2 st k w' ∧ K24 wx w') := by
  obtain ⟨hb, f, fp, T, F, Ls, hD, hG⟩ := h
  have hx := hok.1.1
  have hsp := hok.2
  have hf1 := hG.f1
  have hfe := hG.fe
  refine (rn_open x y z hok hG wx hD (by have := hb.size; omega)).mono ?_
  rintro e w' ⟨s, j, m, rfl, hr, hs, kb⟩
  have hml : (mg Ls).length ≤ used Ls := mg_used Ls
  have hus := hG.us
  have hy := hok.1.2.1
  have hsf : Safe x (fun σ => Sure x y z st σ ∧ Reads x y st σ) (fun _ => True) (mendA y T F Ls) ⟨f, [], mg Ls, [], (F : Int) + Ls.length - 1⟩ := by
    by_cases hLs : Ls = []
    · have e1 : mendA y T F Ls = [] := if_pos hLs
      rw [e1]
      exact ⟨⟨hG.sureQ (fun q hq => by cases hq), hG.readsQ (fun q hq => by cases hq)⟩, trivial⟩
    · have e1 : mendA y T F Ls = _ := if_neg hLs
      rw [e1]
      exact (safe_mend (by omega) hG).mono (fun _ h => h) (fun σ hs => trivial)
  have hlen : (mendA y T F Ls).length ≤ 1000 := by
    unfold mendA layA
    split
    · exact Nat.zero_le _
    · simp; omega
  exact ⟨s, j, m, _, rfl, hid ⟨⟨hb.trans (kb.mono (by have := hb.size; omega)), _, _, _, _, rfl, hr, hsf, ⟨(fun q hq => by cases hq), by show 0 + _ ≤ 2000; omega⟩, by omega, by show 0 ≤ (F : Int) + Ls.length - 1; omega, by show (F : Int) + Ls.length - 1 + _ ≤ 10000000; omega⟩, K24.of kb⟩⟩
end
/-- the row of what is done: slices that were handed in -/
def DRow (B : Nat) (W w : World) (v : Value) (DL : List (Value × List Chg)) : Prop := w.ownsRow B 24 1 v DL.length (DL.map (·.1)) ∧ DL.length ≤ 100 ∧ ∀ p ∈ DL, CLie W p.1 p.2
theorem DRow.nil (B : Nat) (W w : World) : DRow B W w (.slice none 0 0) [] := ⟨World.ownsRow_nil _ _ _ _, by simp, fun p hp => by cases hp⟩
theorem DRow.keep {B : Nat} {W w w' : World} {v : Value} {DL : List (Value × List Chg)} (h : DRow B W w v DL) (k : K24 w w') : DRow B W w' v DL := by
  obtain ⟨⟨e1, e2 | ⟨b, cap, cur, rfl, e3, e4, e5⟩⟩, h2⟩ := h
  · exact ⟨⟨e1, .inl e2⟩, h2⟩
  · exact ⟨⟨e1, .inr ⟨b, cap, cur, rfl, e3, k b cur e4, e5⟩⟩, h2⟩
theorem DRow.lie {B : Nat} {W w : World} {v : Value} {DL : List (Value × List Chg)} (h : DRow B W w v DL) (k : Below W.heap.size W w) : VLie w v DL := by
  obtain ⟨⟨e1, ⟨rfl, e2⟩ | ⟨b, cap, cur, rfl, e3, e4, r1, r2, r3, r4⟩⟩, h2, h3⟩ := h
  · obtain rfl := List.eq_nil_of_length_eq_zero e2
    exact ⟨none, 0, rfl, Nat.le_refl _, Nat.zero_le _, fun i hi => by simp at hi⟩
  · refine ⟨_, cap, rfl, r1, r2, fun i hi => ⟨b, 0, rfl, lt_of_block e4, ?_, (h3 _ (List.getElem_mem hi)).below k⟩⟩
    have e : cur.toList[i]? = (DL.map (·.1))[i]? := by rw [← r4, List.getElem?_take_of_lt (by omega)]
    rw [Array.getElem?_toList] at e
    simp [World.cell?, e4, e, List.getElem?_eq_getElem hi]
theorem DRow.len {B : Nat} {W w : World} {v : Value} {DL : List (Value × List Chg)} (h : DRow B W w v DL) : ∃ ao cap, v = .slice ao DL.length cap ∧ DL.length ≤ cap ∧ cap ≤ maxLen := by
  obtain ⟨⟨e1, ⟨rfl, e2⟩ | ⟨b, cap, cur, rfl, e3, e4, r1, r2, r3, r4⟩⟩, h2, h3⟩ := h
  · rw [e2]; exact ⟨none, 0, rfl, Nat.le_refl _, Nat.zero_le _⟩
  · exact ⟨_, cap, rfl, r1, r2⟩
theorem DRow.grow {B : Nat} {W w w0 w7 : World} {v : Value} {DL : List (Value × List Chg)} {P : World → Prop} (h : DRow B W w v DL) (hg : w0.grownBy w7 v.ownBlock) (h1 : ∀ w'' b cs, w.heap[b]? = some (.cells cs 24 (0, 0)) → B ≤ b → Dv.Only [b] w0 w'' → P w'') (h2 : Below w0.heap.size w0 w7 → P w7) : P w7 := by
  obtain ⟨⟨e1, ⟨rfl, e2⟩ | ⟨b, cap, cur, rfl, e3, e4, e5⟩⟩, _⟩ := h
  · exact h2 ⟨hg.os, hg.tape, hg.output, hg.size, fun k hk => hg.block k hk (by intro e; cases e)⟩
  · exact h1 w7 b cur e4 e3 ⟨hg.os, hg.tape, hg.output, hg.size, fun k hk hn => hg.block k hk (by intro e; have e : some k = some b := e; cases e; simp at hn)⟩
theorem Tryz.infoV24 : (Tryz.prog.info? 24).map (fun i => (i.zero, i.size, i.bytes)) = some (some (.slice none 0 0), 1, 24) := by kernel_rfl
set_option maxRecDepth 100000 in
theorem pushD {ops : Array Oper} {rest : List Oper} {o : Oper} {a : Act} {Q : Exit → Act → World → Prop} {B : Nat} {W w0 : World} (hgd : o.guard = none) (s x : Operand)
    (ho : o.op = .call { callee := .builtin .append, args := #[s, x], argTypes := #[69, 69] }) (bb : Nat) (v : Value) (DL : List (Value × List Chg)) (y : Value) (L : List Chg) (hy : y.oneCell' = true) (hL : CLie W y L)
    (hs : a.eval s = v) (hx : a.eval x = .slice (some ⟨bb, 0, none⟩) 1 1) (hbb : bb = w0.heap.size) (hB : B ≤ w0.heap.size) (hA : DRow B W w0 v DL) (hn : DL.length ≤ 50)
    (h : ∀ v' w', DRow B W w' v' (DL ++ [(y, L)]) → w0.grownBy w' v.ownBlock → wpList Tryz.prog ops Q rest (a.put o.dst v') w') :
    wpList Tryz.prog ops Q (o :: rest) a (w0.alloc (.cells #[y] 24)) := by
  subst hbb
  obtain ⟨i0, hi, hz0, hz1, hz2⟩ := info_parts Tryz.infoV24
  obtain ⟨h1, h2, h3⟩ := hA
  have hnew : ∀ j u, [y][j]? = some u → (w0.alloc (.cells #[y] 24)).cell? ((⟨w0.heap.size, 0, none⟩ : Addr).add j) = some u := cell_one_new w0 y 24
  have grow : ∀ {row : Option Nat} {w'}, (w0.alloc (.cells #[y] 24)).grownBy w' row → w0.grownBy w' row := fun hg => ⟨hg.os, hg.tape, hg.output, by have := hg.size; simp at this; omega, fun k hk hne => (hg.block k (by simp; omega) hne).trans (Below.heap_alloc _ _ k hk)⟩
  have h1' : (w0.alloc (.cells #[y] 24)).ownsRow B 24 1 v DL.length (DL.map (·.1)) := by
    obtain ⟨e1, e2 | ⟨b, cap, cur, rfl, e3, e4, e5⟩⟩ := h1
    · exact ⟨e1, .inl e2⟩
    · exact ⟨e1, .inr ⟨b, cap, cur, rfl, e3, (Below.heap_alloc _ _ b (lt_of_block e4)).trans e4, e5⟩⟩
  refine wpList_append_own _ hgd s x 69 ho B 24 i0 (.slice none 0 0) 1 24 Tryz.underlying69 hi hz0 hz1 hz2 rfl (by decide) v DL.length (DL.map (·.1)) hs h1' ⟨w0.heap.size, 0, none⟩ 1 1 [y] hx rfl hnew (by intro u hu; simp at hu; subst hu; exact hy) (by unfold maxLen; omega) (by omega) (by simp; omega) ?_
  intro v' w' hown hg _
  refine h v' w' ⟨?_, by simp; omega, fun p hp => ?_⟩ (grow hg)
  · rw [List.length_append, List.map_append]
    exact hown
  · rcases List.mem_append.1 hp with h | h
    · exact h3 p h
    · rw [List.mem_singleton] at h; rw [h]; exact hL
end Go.Proofs.YtopebghandojbaaGreat
