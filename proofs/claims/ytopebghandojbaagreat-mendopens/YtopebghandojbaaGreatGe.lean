import Derived.Test.YtopebghandojbaaGreatYq
import Derived.Deep.CutBlock
import Derived.Deep.DeepCutAuto
import Derived.Test.YtopebghandojbaaGreatGb
namespace Go.Proofs.YtopebghandojbaaGreat
open Go.RowKit Go.Maps

/-- blocks with one put -/
def putF (st : Nat → ByteArray) (c : Chg) : Nat → ByteArray := fun i => if i = c.b.toNat then c.d else st i
theorem Fis.put {g n : Nat} {w : World} {st : Nat → ByteArray} (h : Fis g n n w st) (c : Chg) (_ : c.b.toNat < n) : Fis g n n (w.setCell ⟨g, c.b.toNat, none⟩ (.string c.d)) (putF st c) := by
  obtain ⟨cur, h1, h2, h3⟩ := h
  refine ⟨_, cells_set h1 _, by simp [h2], fun i hi => ?_⟩
  show (cur.setIfInBounds c.b.toNat (.string c.d))[i]? = some (.string (if i = c.b.toNat then c.d else st i))
  rw [Array.getElem?_setIfInBounds]
  by_cases e : c.b.toNat = i
  · rw [if_pos e, if_pos e.symm, if_pos (by omega)]
  · rw [if_neg e, if_neg (fun e2 => e e2.symm)]
    exact h3 i hi
/-- may transactions change a block? -/
theorem home_any (x y z k : Int) (w : World) : Calls Tryz.prog 60 #[.agg #[.int .i64 x, .int .i64 y, .int .i64 z], .int .i64 k] w fun e w' => e = .returned (.bool (decide (y < k) && decide (k < x))) ∧ Below w.heap.size w w' := by
  obtain ⟨A, hA⟩ : ∃ A, A = (decide (y < k) && decide (k < x)) := ⟨_, rfl⟩
  rw [← hA]
  have HA := hid hA
  clear hA
  by_cases h1 : y < k
  · by_cases h2 : k < x
    · go_enter Tryz.func60, Tryz.ntmps60
      go_wp2
      go_ret
      exact ⟨by rw [HA.out, decide_eq_true (show y < k by omega), decide_eq_true (show k < x by omega)]; rfl, below_alloc _ _⟩
    · go_enter Tryz.func60, Tryz.ntmps60
      go_wp2
      go_ret
      exact ⟨by rw [HA.out, decide_eq_true (show y < k by omega), decide_eq_false (show ¬ k < x by omega)]; rfl, below_alloc _ _⟩
  · go_enter Tryz.func60, Tryz.ntmps60
    go_wp2
    go_ret
    exact ⟨by rw [HA.out, decide_eq_false (show ¬ y < k by omega)]; rfl, below_alloc _ _⟩
end Go.Proofs.YtopebghandojbaaGreat
namespace Go.Proofs.YtopebghandojbaaGreat
open Go.RowKit Go.Maps

/-- nothing but what is mine has changed -/
structure Keep (M : Nat → Prop) (w w' : World) : Prop where
  os : w'.os = w.os
  tape : w'.tape = w.tape
  output : w'.output = w.output
  size : w.heap.size ≤ w'.heap.size
  block : ∀ k, k < w.heap.size → ¬ M k → w'.heap[k]? = w.heap[k]?
section
variable {M : Nat → Prop} {w w1 w2 w' : World}
theorem Keep.refl (M : Nat → Prop) (w : World) : Keep M w w := ⟨rfl, rfl, rfl, Nat.le_refl _, fun _ _ _ => rfl⟩
theorem Keep.of (h : Below w.heap.size w w') : Keep M w w' := ⟨h.os, h.tape, h.output, h.size, fun k hk _ => h.block k hk⟩
theorem Keep.trans (h : Keep M w w1) (k : Keep M w1 w2) : Keep M w w2 := ⟨k.os.trans h.os, k.tape.trans h.tape, k.output.trans h.output, Nat.le_trans h.size k.size, fun i hi hn => (k.block i (Nat.lt_of_lt_of_le hi h.size) hn).trans (h.block i hi hn)⟩
theorem Keep.only {fp : List Nat} (h : Dv.Only fp w w') (hf : ∀ b ∈ fp, M b) : Keep M w w' := ⟨h.os, h.tape, h.output, h.size, fun k hk hn => h.block k hk (fun hm => hn (hf k hm))⟩
theorem Keep.jfr {g : Nat} {r : Option Nat} (h : JFr g r w w') (hg : M g) (hr : ∀ b, r = some b → M b) : Keep M w w' := ⟨h.os, h.tape, h.output, h.size, fun k hk hn => h.block k hk (fun e => hn (e ▸ hg)) (fun e => hn (hr k e.symm))⟩
theorem Keep.set {a : Addr} (v : Value) (ha : M a.block) : Keep M w (w.setCell a v) := Keep.only (Dv.Only.setCell (fp := [a.block]) v (by simp)) (fun b hb => by simp at hb; rw [hb]; exact ha)
theorem Keep.grown {b : Option Nat} (h : w.grownBy w' b) (hb : ∀ k, b = some k → M k) : Keep M w w' := ⟨h.os, h.tape, h.output, h.size, fun k hk hn => h.block k hk (fun e => hn (hb k e.symm))⟩
theorem Keep.drew (h : Keep M w w') (n : Nat) : Keep M w (w'.drewN n) := ⟨h.os, h.tape, h.output, h.size, h.block⟩
theorem Keep.weak {M' : Nat → Prop} (h : Keep M w w') (hm : ∀ k, M k → M' k) : Keep M' w w' := ⟨h.os, h.tape, h.output, h.size, fun k hk hn => h.block k hk (fun e => hn (hm k e))⟩
theorem Keep.below {B : Nat} (h : Keep M w w') (hB : B ≤ w.heap.size) (hm : ∀ k, M k → B ≤ k) : Below B w w' := ⟨h.os, h.tape, h.output, h.size, fun k hk => h.block k (Nat.lt_of_lt_of_le hk hB) (fun e => by have := hm k e; omega)⟩
end
theorem wp_append_arg {P : Program} (w : World) {o : Oper} {a : Act} {K : Act → World → Prop} {Q : Exit → Act → World → Prop}
    (s x : Operand) (t : TypeId) (hop : o.op = Op.call { callee := Callee.builtin Builtin.append, args := #[s, x], argTypes := #[t, t] })
    (e : TypeId) (i : TypeInfo) (z : Value) (size bytes : Nat) (h1 : P.underlying t = some (.slice e)) (h2 : P.info? e = some i) (h3 : i.zero = some z) (h4 : i.size = size) (h5 : i.bytes = bytes) (h6 : z.cells.size = size) (h7 : 0 < size)
    (b off n cap : Nat) (olds : List Value) (hs : a.eval s = .slice (some ⟨b, off, none⟩) n cap) (hlo : olds.length = n * size) (holds : ∀ j u, olds[j]? = some u → w.cell? ⟨b, off + j, none⟩ = some u)
    (ad : Addr) (m c : Nat) (news : List Value) (hx : a.eval x = .slice (some ad) m c) (hn : news.length = m * size) (hc : ∀ j u, news[j]? = some u → w.cell? (ad.add j) = some u) (h1c : ∀ u ∈ news, u.oneCell' = true)
    (hspare : n + m ≤ cap → ∀ j, j < news.length → (w.cell? ⟨b, off + n * size + j, none⟩).isSome = true ∧ w.frozen? ⟨b, off + n * size + j, none⟩ = false)
    (b1 : n + m ≤ maxLen) (b2 : (n + m) * bytes ≤ 140737488355328)
    (hroom : n + m ≤ cap → K (a.put o.dst (.slice (some ⟨b, off, none⟩) (n + m) cap)) (w.setCells b (off + n * size) news))
    (hgrow : cap < n + m → ∀ v' w', w'.ownsRow w.heap.size e size v' (n + m) (olds ++ news) → w.grownBy w' none → K (a.put o.dst v') w') :
    Oper.wp P o a w K Q := by
  by_cases hr : n + m ≤ cap
  · subst h4
    have hrun := run_append_room_cells (P := P) w t o.type e i h1 h2 b off n cap ad m c news hn hc h1c hr (fun j hj => (hspare hr j hj).1) (fun j hj => (hspare hr j hj).2)
    unfold Oper.wp
    simp [execOp, hop, resolve, invoke, builtin, hs, hx, hrun, Result.andThen]
    exact hroom hr
  · obtain ⟨v', w', hrun, r1, r2⟩ := run_append_arg_grows (P := P) w t o.type e i z size bytes h1 h2 h3 h4 h5 h6 h7 ⟨b, off, none⟩ n cap olds hlo (fun j u hj => by rw [Addr.add_lit]; exact holds j u hj) ad m c news hn hc (by omega) b1 b2
    unfold Oper.wp
    simp [execOp, hop, resolve, invoke, builtin, hs, hx, hrun, Result.andThen]
    exact hgrow (by omega) v' w' r1 r2
set_option maxRecDepth 100000 in
theorem wp_pushR {o : Oper} {a : Act} {Q : Exit → Act → World → Prop} {K : Act → World → Prop} {w : World} (s x : Operand)
    (ho : o.op = .call { callee := .builtin .append, args := #[s, x], argTypes := #[52, 52] }) (g1 : Nat) (v : Value) (T : List AT) (y : AT) (n : Int) (hyn : n = rk y.k)
    (hs : a.eval s = v) (hx : a.eval x = .slice (some ⟨g1, 0, none⟩) 1 1) (c0 : w.cell? ⟨g1, 0, none⟩ = some (.int .i64 y.a)) (c1 : w.cell? ⟨g1, 1, none⟩ = some (.string y.d)) (c2 : w.cell? ⟨g1, 2, none⟩ = some (.int .i64 n)) (hA : RRow w v T) (hn : T.length ≤ 5000)
    (h : ∀ v' w', RRow w' v' (T ++ [y]) → w.grownBy w' v.ownBlock → (v'.ownBlock = v.ownBlock ∨ ∃ k, v'.ownBlock = some k ∧ w.heap.size ≤ k) → K (a.put o.dst v') w') :
    Oper.wp Tryz.prog o a w K Q := by
  subst hyn
  obtain ⟨i0, hi, hz0, hz1, hz2⟩ := info_parts Tryz.infoR130
  have hnew : ∀ j u, (encR y)[j]? = some u → w.cell? ((⟨g1, 0, none⟩ : Addr).add j) = some u := by
    intro j u hu
    match j, hu with
    | 0, hu => simp [encR] at hu; subst hu; simpa [Addr.add] using c0
    | 1, hu => simp [encR] at hu; subst hu; simpa [Addr.add] using c1
    | 2, hu => simp [encR] at hu; subst hu; simpa [Addr.add] using c2
    | j + 3, hu => simp [encR] at hu
  have hone : ∀ u ∈ encR y, u.oneCell' = true := by intro u hu; simp [encR] at hu; rcases hu with rfl | rfl | rfl <;> rfl
  have hel : (encR y).length = 3 := rfl
  have back : ∀ {base : Nat} {w' v'}, w'.ownsRow base 130 3 v' (T.length + 1) (ra T ++ encR y) → RRow w' v' (T ++ [y]) := by
    intro base w' v' hown
    refine RRow.of (base := base) ?_
    rw [List.length_append, ra_append, ra_one]
    exact hown
  rcases hA with ⟨rfl, rfl⟩ | ⟨b, off, cap, cur, rfl, h1, h2, h3, h4, h5⟩
  · refine wp_append_own w s x 52 ho w.heap.size 130 i0 (.agg #[.int .i64 0, .string ⟨#[]⟩, .int .i64 0]) 3 32 Tryz.underlying52 hi hz0 hz1 hz2 rfl (by decide) _ 0 [] hs (World.ownsRow_nil _ _ _ _) ⟨g1, 0, none⟩ 1 1 (encR y) hx rfl hnew hone (by decide) (by decide) (Nat.le_refl _) ?_
    intro v' w' hown hg _
    refine h v' w' (back hown) hg ?_
    rcases hown.2 with ⟨_, hz⟩ | ⟨k, _, _, rfl, hk, _⟩
    · omega
    · exact .inr ⟨k, rfl, hk⟩
  · have hcell : ∀ j, w.cell? ⟨b, j, none⟩ = cur[j]? := fun j => cell_of h1 j
    refine wp_append_arg w s x 52 ho 130 i0 (.agg #[.int .i64 0, .string ⟨#[]⟩, .int .i64 0]) 3 32 Tryz.underlying52 hi hz0 hz1 hz2 rfl (by decide) b off T.length cap (ra T) hs (ra_len T) ?_ ⟨g1, 0, none⟩ 1 1 (encR y) hx rfl hnew hone ?_ (by unfold maxLen; omega) (by omega) ?_ ?_
    · intro j u hu
      rw [hcell]
      exact h5 j u hu
    · intro hr j hj
      rw [hel] at hj
      refine ⟨?_, frees h1 _⟩
      rw [hcell, Array.getElem?_eq_getElem (show off + T.length * 3 + j < cur.size by omega)]
      rfl
    · intro hr
      obtain ⟨p, hp⟩ : ∃ p, p = off + T.length * 3 := ⟨_, rfl⟩
      rw [← hp]
      have e : w.setCells b p (encR y) = ((w.setCell ⟨b, p, none⟩ (.int .i64 y.a)).setCell ⟨b, p + 1, none⟩ (.string y.d)).setCell ⟨b, p + 2, none⟩ (.int .i64 (rk y.k)) := by simp [World.setCells, encR]
      rw [e]
      refine h _ _ ?_ ?_ (.inl rfl)
      · refine .inr ⟨b, off, cap, ((cur.set! p (.int .i64 y.a)).set! (p + 1) (.string y.d)).set! (p + 2) (.int .i64 (rk y.k)), by simp, cells_set (cells_set (cells_set h1 _) _) _, by simp; omega, h3, by simp; omega, fun i u hi => ?_⟩
        rw [ra_append, ra_one] at hi
        simp only [Array.set!_eq_setIfInBounds]
        by_cases hit : i < T.length * 3
        · rw [List.getElem?_append_left (by rw [ra_len]; exact hit)] at hi
          rw [Array.getElem?_setIfInBounds_ne (by omega), Array.getElem?_setIfInBounds_ne (by omega), Array.getElem?_setIfInBounds_ne (by omega)]
          exact h5 i u hi
        · rw [List.getElem?_append_right (by rw [ra_len]; omega), ra_len] at hi
          obtain ⟨j, hj⟩ : ∃ j, j = i - T.length * 3 := ⟨_, rfl⟩
          rw [← hj] at hi
          match j, hi with
          | 0, hi =>
            simp [encR] at hi; subst hi
            rw [show off + i = p by omega, Array.getElem?_setIfInBounds_ne (by omega), Array.getElem?_setIfInBounds_ne (by omega), Array.getElem?_setIfInBounds_self_of_lt (by omega)]
          | 1, hi =>
            simp [encR] at hi; subst hi
            rw [show off + i = p + 1 by omega, Array.getElem?_setIfInBounds_ne (by omega), Array.getElem?_setIfInBounds_self_of_lt (by simp; omega)]
          | 2, hi =>
            simp [encR] at hi; subst hi
            rw [show off + i = p + 2 by omega, Array.getElem?_setIfInBounds_self_of_lt (by simp; omega)]
          | j + 3, hi => simp [encR] at hi
      · refine ⟨rfl, rfl, rfl, by simp, fun k hk hne => ?_⟩
        have hkb : k ≠ b := by rintro rfl; exact hne rfl
        rw [Below.heap_setCell _ _ _ _ hkb, Below.heap_setCell _ _ _ _ hkb, Below.heap_setCell _ _ _ _ hkb]
    · intro hr v' w' hown hg
      refine h v' w' (back hown) ⟨hg.os, hg.tape, hg.output, hg.size, fun k hk _ => hg.block k hk (by simp)⟩ ?_
      rcases hown.2 with ⟨_, hz⟩ | ⟨k, _, _, rfl, hk, _⟩
      · omega
      · exact .inr ⟨k, rfl, hk⟩
/-- a store whose acts are mine -/
def RA (M : Nat → Prop) (s : Nat) (w : World) (d x y z j : Nat) (ov nv : Value) (c : Int) (A : List AT) : Prop := ∃ av, RSt s w d x y z j ov nv av c ∧ RRow w av A ∧ ∀ b, av.ownBlock = some b → M b
/-- a store behind one act more -/
theorem RA.push {M : Nat → Prop} {s d x y z j : Nat} {w w7 : World} {ov nv av v7 : Value} {c : Int} {A : List AT} {a : AT} (hs : RSt s w d x y z j ov nv av c) (hR : RRow w av A) (hM : ∀ b, av.ownBlock = some b → M b) (hsM : M s) (hnew : ∀ k, w.heap.size ≤ k → M k) (h7 : RRow w7 v7 (A ++ [a])) (hg : w.grownBy w7 av.ownBlock) (hn : v7.ownBlock = av.ownBlock ∨ ∃ k, v7.ownBlock = some k ∧ w.heap.size ≤ k) :
    RSt s w7 d x y z j ov nv av c ∧ RA M s (w7.setCell ⟨s, 7, none⟩ v7) d x y z j ov nv c (A ++ [a]) ∧ Keep M w (w7.setCell ⟨s, 7, none⟩ v7) := by
  have hsa : av.ownBlock ≠ some s := fun e => by
    obtain ⟨cur, hc⟩ := hR.own s e
    unfold RSt at hs
    rw [hs] at hc; cases hc
  have h2 : RSt s w7 d x y z j ov nv av c := (hg.block s hs.lt (fun e => hsa e.symm)).trans hs
  have hs7 : v7.ownBlock ≠ some s := by
    rcases hn with e | ⟨k, e, hk⟩
    · rw [e]; exact hsa
    · intro e2
      rw [e2] at e
      have := hs.lt
      injection e with e
      omega
  refine ⟨h2, ⟨v7, h2.acts v7, h7.same (fun b hb => Below.heap_setCell _ _ _ _ (fun e => hs7 (by rw [hb]; exact congrArg some e))), fun b hb => ?_⟩, (Keep.grown hg hM).trans (Keep.set _ hsM)⟩
  rcases hn with e | ⟨k, e, hk⟩
  · exact hM b (e ▸ hb)
  · rw [hb] at e; cases e; exact hnew _ hk
end Go.Proofs.YtopebghandojbaaGreat
namespace Go.Proofs.YtopebghandojbaaGreat
open Go.RowKit Go.Maps

/-- what the document's store answers of a block -/
def ansR (x : Nat) (M : List Chg) (f : Nat → Option ByteArray) (Q : List (Nat × ByteArray)) (k : Int) : ByteArray × Int := match Um.lookL M k with
  | some c => (c.d, 0)
  | none => if 0 ≤ k ∧ k < x then ((Dv.seen f Q k.toNat).getD Dv.Z, 0) else (ByteArray.empty, 6)
theorem look_first (M : List Chg) (k : Int) (q : Nat) (h : q < M.length) (hn : ∀ i (hi : i < M.length), i < q → M[i].b ≠ k) (he : M[q].b = k) : Um.lookL M k = some M[q] := by
  unfold Um.lookL
  rw [List.find?_eq_some_iff_getElem]
  refine ⟨by simp [he], q, h, rfl, fun i hi => ?_⟩
  have := hn i (by omega) hi
  simp [this]
theorem look_not (M : List Chg) (k : Int) (hn : ∀ i (hi : i < M.length), M[i].b ≠ k) : Um.lookL M k = none := by
  rw [look_none]
  intro c hc e
  obtain ⟨i, hi, rfl⟩ := List.mem_iff_getElem.1 hc
  exact hn i hi e
set_option maxRecDepth 100000 in
set_option maxHeartbeats 2000000 in
theorem rread_any {B s d x y z j : Nat} {ov nv av : Value} {c : Int} {M : List Chg} {f : Nat → Option ByteArray} {Q : List (Nat × ByteArray)} {fp : List Nat} (k : Int) (hQ : Q.length ≤ 100000) (w : World) (hst : RSt s w d x y z j ov nv av c) (hM : CLie w ov M) (hD : Dv.XD B d w x f Q fp) :
    Calls Tryz.prog 24 #[.pointer (some ⟨s, 0, none⟩), .int .i64 k] w fun e w' => e = .returned (.tuple #[.string (ansR x M f Q k).1, .int .i64 (ansR x M f Q k).2]) ∧ Below w.heap.size w w' := by
  obtain ⟨D, hDD⟩ : ∃ D : ByteArray × Int, D = if 0 ≤ k ∧ k < x then ((Dv.seen f Q k.toNat).getD Dv.Z, 0) else (ByteArray.empty, 6) := ⟨_, rfl⟩
  have HDR : Hid (∀ w', Below w.heap.size w w' → Calls Tryz.prog 26 #[.pointer (some ⟨d, 0, none⟩), .int .i64 k] w' fun e w'' => e = .returned (.tuple #[.string D.1, .int .i64 D.2]) ∧ Below w'.heap.size w' w'') := hid (fun w' kb => by
    rw [hDD]
    by_cases h : 0 ≤ k ∧ k < x
    · rw [if_pos h]
      obtain ⟨n, rfl⟩ := Int.eq_ofNat_of_zero_le h.1
      exact (hD.below kb).read n (by omega) hQ w'
    · rw [if_neg h]
      exact (hD.below kb).read_none k h hQ w')
  have HN : Hid ((∀ i (hi : i < M.length), M[i].b ≠ k) → ansR x M f Q k = D) := hid (fun h => by unfold ansR; rw [look_not M k h]; exact hDD.symm)
  have HY : Hid (∀ q (h : q < M.length), (∀ i (hi : i < M.length), i < q → M[i].b ≠ k) → M[q].b = k → ansR x M f Q k = (M[q].d, 0)) := hid (fun q h h1 h2 => by unfold ansR; rw [look_first M k q h h1 h2])
  clear hDD
  obtain ⟨R, hR⟩ : ∃ R, R = ansR x M f Q k := ⟨_, rfl⟩
  rw [← hR] at HN HY ⊢
  clear hR
  obtain ⟨D1, D2⟩ := D
  obtain ⟨oo, oc, rfl, hl, hoc, hcell⟩ := hM
  unfold maxLen at hoc
  have HC := hid hcell
  obtain ⟨c0, _, _, _, _, c5, _, _, _⟩ := hst.cells
  have HST := hid hst
  have hsl := hst.lt
  clear hcell hst hD
  go_enter Tryz.func24, Tryz.ntmps24
  go_wp2
  clear c0 c5
  go_loopw [13] (fun i wr => ∃ q : Nat, i = .int .i64 q ∧ q ≤ M.length ∧ (∀ i (hi : i < M.length), i < q → M[i].b ≠ k) ∧ Below w.heap.size w wr) (fun i _ => M.length - (intOf i).toNat)
  case atStart => exact ⟨0, rfl, Nat.zero_le _, (fun i hi h => by omega), Below.refl _ _⟩
  case round =>
    obtain ⟨q, rfl, hq, hno, hb⟩ := hrel
    have HNO := hid hno
    have HB := hid hb
    have hsz := hb.size
    clear hno hb
    by_cases hqk : q < M.length
    · obtain ⟨gb, of2, e, hgl, d0, d1⟩ := HC.out q hqk
      subst e
      have HY2 := hid (HY.out q hqk HNO.out)
      have HN2 : Hid (M[q].b ≠ k → ∀ i (hi : i < M.length), i < q + 1 → M[i].b ≠ k) := hid (fun hn i hi h => by
        by_cases e : i = q
        · subst e; exact hn
        · exact HNO.out i hi (by omega))
      obtain ⟨cc, hcc⟩ : ∃ cc, cc = M[q] := ⟨_, rfl⟩
      rw [← hcc] at d0 d1 HY2 HN2
      clear hcc
      replace d0 := (HB.out.cell (p := ⟨gb, of2 + q * 2, none⟩) hgl).trans d0
      replace d1 := (HB.out.cell (p := ⟨gb, of2 + q * 2 + 1, none⟩) hgl).trans d1
      have hgr : gb < wr.heap.size := by omega
      by_cases he : cc.b = k
      · have hR := HY2.out he
        subst hR
        have heb : (cc.b == k) = true := by simp [he]
        clear he HY2 HN2
        go_wp2
        go_ret2
        exact ⟨rfl, HB.out.next (below_alloc _ _)⟩
      · have heb : (cc.b == k) = false := by simp [he]
        have HN3 := hid (HN2.out he)
        clear he HY2 HN2
        go_wp2
        go_roundw
        case rel => exact ⟨q + 1, by go_num, by omega, HN3.out, HB.out.next (below_alloc _ _)⟩
        case measure => simp only [intOf] at *; omega
    · have hqe : q = M.length := by omega
      subst hqe
      have hR := HN.out (fun i hi => HNO.out i hi hi)
      subst hR
      have c0 := ((HST.out.below HB.out).cells).1
      go_wp2_with (first
        | (go_at_call 26; refine (HDR.out _ HB.out).mono ?_; rintro e w2 ⟨rfl, hb2⟩))
      go_ret2
      exact ⟨rfl, HB.out.next hb2⟩
set_option maxRecDepth 100000 in
theorem rcheck_none {s d x y z j : Nat} {ov nv av : Value} {c : Int} {r : Option Nat} {P : Int} {T F : Nat} (w : World) (hst : RSt s w d x y z j ov nv av c) (hA : RRow w av []) (hK : RK j r w P T F 0 []) :
    Calls Tryz.prog 17 #[.pointer (some ⟨s, 0, none⟩)] w fun e w' => e = .returned (.int .i64 0) ∧ w' = w := by
  obtain ⟨ao, cap, rfl, _, _⟩ := hA.len
  obtain ⟨_, _, _, _, c4, _, _, c7, _⟩ := hst.cells
  have c7 : w.cell? ⟨s, 7, none⟩ = some (.slice ao 0 cap) := c7
  obtain ⟨Lv, _, k2, k3, _⟩ := hK
  obtain ⟨lo, lc, rfl, _, _⟩ := k3.len
  obtain ⟨_, _, _, _, d4⟩ := k2.cells
  have d4 : w.cell? ⟨j, 4, none⟩ = some (.slice lo 0 lc) := d4
  have hjl := k2.lt
  have hsl := hst.lt
  clear hst hA k2 k3
  go_enter Tryz.func17, Tryz.ntmps17
  go_wp2
  go_ret
  exact ⟨rfl, rfl⟩
set_option maxRecDepth 100000 in
theorem rcheck_lay {Po : World → Prop} {s d x y z j : Nat} {ov nv av : Value} {c : Int} {r : Option Nat} {P : Int} {T F S : Nat} {v : Value} {vs : List Value} (_ : vs.length ≤ 300) (w : World) (hst : RSt s w d x y z j ov nv av c) (hA : RRow w av []) (hK : RK j r w P T F S (v :: vs))
    (hset : Calls Tryz.prog 71 #[.pointer (some ⟨s, 0, none⟩)] w fun e w' => e = .returned (.tuple #[]) ∧ Po w') :
    Calls Tryz.prog 17 #[.pointer (some ⟨s, 0, none⟩)] w fun e w' => e = .returned (.int .i64 0) ∧ Po w' := by
  obtain ⟨ao, cap, rfl, _, _⟩ := hA.len
  obtain ⟨_, _, _, _, c4, _, _, c7, _⟩ := hst.cells
  have c7 : w.cell? ⟨s, 7, none⟩ = some (.slice ao 0 cap) := c7
  obtain ⟨Lv, _, k2, k3, _⟩ := hK
  obtain ⟨lo, lc, rfl, _, _⟩ := k3.len
  obtain ⟨_, _, _, _, d4⟩ := k2.cells
  have d4 : w.cell? ⟨j, 4, none⟩ = some (.slice lo (vs.length + 1) lc) := d4
  have hjl := k2.lt
  have hsl := hst.lt
  have HSE := hid hset
  clear hst hA k2 k3 hset
  go_enter Tryz.func17, Tryz.ntmps17
  go_wp2_with (first
    | (go_at_call 71; refine HSE.out.mono ?_; rintro e w2 ⟨rfl, hp⟩))
  go_ret
  exact ⟨rfl, hp⟩
end Go.Proofs.YtopebghandojbaaGreat
