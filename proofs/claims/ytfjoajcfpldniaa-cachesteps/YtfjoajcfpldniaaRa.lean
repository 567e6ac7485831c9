import Derived.Test.YtfjoajcfpldniaaKc
import Derived.Test.YtfjoajcfpldniaaOs
namespace Go.Proofs.Ytfjoajcfpldniaa
open Go.RowKit Go.Maps

/-- a block that is held, as the reference's cells -/
def encP (f : Fm) : List Value := [.int .i64 f.b, .int .i64 f.p, .string f.d, .bool f.y]
def cp (P : List Fm) : List Value := P.flatMap encP
theorem cp_append (a b : List Fm) : cp (a ++ b) = cp a ++ cp b := by simp [cp]
theorem cp_one (x : Fm) : cp [x] = encP x := by simp [cp]
theorem cp_cons (x : Fm) (l : List Fm) : cp (x :: l) = encP x ++ cp l := by simp [cp]
theorem cp_len : ∀ l : List Fm, (cp l).length = l.length * 4
  | [] => rfl
  | x :: l => by
    rw [cp_cons, List.length_append, cp_len l]
    simp [encP]
    omega
theorem cp_get : ∀ (l : List Fm) (i : Nat) (hi : i < l.length), (cp l)[i * 4]? = some (.int .i64 l[i].b) ∧ (cp l)[i * 4 + 1]? = some (.int .i64 l[i].p) ∧ (cp l)[i * 4 + 2]? = some (.string l[i].d) ∧ (cp l)[i * 4 + 3]? = some (.bool l[i].y)
  | [], i, hi => by simp at hi
  | x :: l, 0, _ => ⟨rfl, rfl, rfl, rfl⟩
  | x :: l, i + 1, hi => by
    have ih := cp_get l i (by simpa using hi)
    rw [cp_cons]
    have e : ∀ t, (encP x ++ cp l)[t + 4]? = (cp l)[t]? := fun t => rfl
    rw [show (i + 1) * 4 = i * 4 + 4 by omega, show i * 4 + 4 + 1 = i * 4 + 1 + 4 by omega, show i * 4 + 4 + 2 = i * 4 + 2 + 4 by omega, show i * 4 + 4 + 3 = i * 4 + 3 + 4 by omega, e, e, e, e]
    exact ih
theorem Try.infoF75 : (Try.prog.info? 75).map (fun i => (i.zero, i.size, i.bytes)) = some (some (.agg #[.int .i64 0, .int .i64 0, .string ⟨#[]⟩, .bool false]), 4, 40) := by kernel_rfl
/-- a row of the reference's own -/
def FRow (base : Nat) (w : World) (v : Value) (P : List Fm) : Prop := w.ownsRow base 75 4 v P.length (cp P)
theorem FRow.nil (base : Nat) (w : World) : FRow base w (.slice none 0 0) [] := ⟨rfl, .inl ⟨rfl, rfl⟩⟩
section
variable {base : Nat} {w w' : World} {v : Value} {P : List Fm}
theorem FRow.same (h : FRow base w v P) (k : ∀ x, v.ownBlock = some x → w'.heap[x]? = w.heap[x]?) : FRow base w' v P := by
  obtain ⟨e1, e2 | ⟨x, cap, cur, rfl, e4, e5, e6⟩⟩ := h
  · exact ⟨e1, .inl e2⟩
  · exact ⟨e1, .inr ⟨x, cap, cur, rfl, e4, (k x rfl).trans e5, e6⟩⟩
theorem FRow.own (h : FRow base w v P) : ∀ x, v.ownBlock = some x → base ≤ x ∧ ∃ cur, w.heap[x]? = some (.cells cur 75 (0, 0)) := by
  obtain ⟨e1, ⟨rfl, _⟩ | ⟨x, cap, cur, rfl, e4, e5, e6⟩⟩ := h
  · intro x hx; cases hx
  · intro y hy; cases hy; exact ⟨e4, _, e5⟩
theorem FRow.below (h : FRow base w v P) (k : Below w.heap.size w w') : FRow base w' v P := h.same fun x hx => by
  obtain ⟨_, cur, hc⟩ := h.own x hx
  exact k.block x (lt_of_block hc)
theorem FRow.len (h : FRow base w v P) : ∃ ao cap, v = .slice ao P.length cap ∧ P.length ≤ cap ∧ cap ≤ maxLen := by
  rcases h.2 with ⟨rfl, hz⟩ | ⟨gb, cap, cur, rfl, _, _, r1, r2, _⟩
  · exact ⟨none, 0, by rw [hz], by omega, by decide⟩
  · exact ⟨_, cap, rfl, r1, r2⟩
theorem FRow.cell {ao : Option Addr} {n cap : Nat} (h : FRow base w (.slice ao n cap) P) (i : Nat) (hi : i < P.length) : ∃ gb, ao = some ⟨gb, 0, none⟩ ∧ gb < w.heap.size ∧ base ≤ gb ∧ w.cell? ⟨gb, i * 4, none⟩ = some (.int .i64 P[i].b) ∧ w.cell? ⟨gb, i * 4 + 1, none⟩ = some (.int .i64 P[i].p) ∧ w.cell? ⟨gb, i * 4 + 2, none⟩ = some (.string P[i].d) ∧ w.cell? ⟨gb, i * 4 + 3, none⟩ = some (.bool P[i].y) ∧ ∀ t, w.frozen? ⟨gb, t, none⟩ = false := by
  rcases h.2 with ⟨e, hz⟩ | ⟨gb, cap', cur, e, hb, hg, r1, r2, r3, r4⟩
  · omega
  · injection e with e1 e2 e3
    subst e1
    have ce : ∀ t, t < P.length * 4 → w.cell? ⟨gb, t, none⟩ = (cp P)[t]? := fun t ht => by
      rw [cell_of hg, ← Array.getElem?_toList, ← r4, List.getElem?_take_of_lt ht]
    obtain ⟨q0, q1, q2, q3⟩ := cp_get P i hi
    exact ⟨gb, rfl, lt_of_block hg, hb, (ce _ (by omega)).trans q0, (ce _ (by omega)).trans q1, (ce _ (by omega)).trans q2, (ce _ (by omega)).trans q3, frees hg⟩
end
/-- nothing but the reference's memory has changed -/
structure OR (w w' : World) : Prop where
  os : w'.os = w.os
  tape : w'.tape = w.tape
  output : w'.output = w.output
  size : w.heap.size ≤ w'.heap.size
  block : ∀ (k : Nat) (o : Obj), w.heap[k]? = some o → (∀ cs fz, o ≠ .cells cs 60 fz ∧ o ≠ .cells cs 75 fz) → w'.heap[k]? = w.heap[k]?
theorem OR.refl (w : World) : OR w w := ⟨rfl, rfl, rfl, Nat.le_refl _, fun _ _ _ _ => rfl⟩
theorem OR.of_below {w w' : World} (h : Below w.heap.size w w') : OR w w' := ⟨h.os, h.tape, h.output, h.size, fun k _ hk _ => h.block k (lt_of_block hk)⟩
theorem OR.trans {w w1 w2 : World} (h : OR w w1) (k : OR w1 w2) : OR w w2 :=
  ⟨k.os.trans h.os, k.tape.trans h.tape, k.output.trans h.output, Nat.le_trans h.size k.size, fun x o hx hn => (k.block x o ((h.block x o hx hn).trans hx) hn).trans (h.block x o hx hn)⟩
theorem CC.or {B g : Nat} {w w' : World} {N J : Nat} {P : List Fm} (h : CC B g w N J P) (k : OR w w') : CC B g w' N J P := by
  obtain ⟨m, L, U, hC, e⟩ := h
  refine ⟨m, L, U, hC.same (k.block g _ hC.c (fun cs fz => ⟨by simp, by simp⟩)) ?_ (fun f hf => ?_), e⟩
  · obtain ⟨es, cl, hm⟩ := hC.mp.isMap
    exact k.block m _ hm (fun cs fz => ⟨by simp, by simp⟩)
  · exact k.block f.a _ (hC.fr f hf) (fun cs fz => ⟨by simp, by simp⟩)
theorem pushF {ops : Array Oper} {rest : List Oper} {o : Oper} {a : Act} {Q : Exit → Act → World → Prop} {w0 : World} (hgd : o.guard = none) (s x : Operand)
    (ho : o.op = .call { callee := .builtin .append, args := #[s, x], argTypes := #[58, 58] }) (B1 bb : Nat) (v : Value) (T : List Fm) (y : Fm)
    (hs : a.eval s = v) (hx : a.eval x = .slice (some ⟨bb, 0, none⟩) 1 1) (hbb : bb = w0.heap.size) (hA : FRow B1 w0 v T) (hn : T.length ≤ 2000) (hbase : B1 ≤ w0.heap.size)
    (h : ∀ v' w', FRow B1 w' v' (T ++ [y]) → Below B1 w0 w' → OR w0 w' → (∀ k, k < w0.heap.size → some k ≠ v.ownBlock → w'.heap[k]? = w0.heap[k]?) → wpList Try.prog ops Q rest (a.put o.dst v') w') :
    wpList Try.prog ops Q (o :: rest) a (w0.alloc (.cells #[.int .i64 y.b, .int .i64 y.p, .string y.d, .bool y.y] 75)) := by
  subst hbb
  obtain ⟨i0, hi, hz0, hz1, hz2⟩ := info_parts Try.infoF75
  have ho2 := hA.own
  refine wpList_append_own _ hgd s x 58 ho B1 75 i0 (.agg #[.int .i64 0, .int .i64 0, .string ⟨#[]⟩, .bool false]) 4 40 Try.underlying58 hi hz0 hz1 hz2 rfl (by decide) v T.length (cp T) hs (World.ownsRow.alloc hA _) ⟨w0.heap.size, 0, none⟩ 1 1 (encP y) hx rfl (by
      intro j u hu
      match j, hu with
      | 0, hu => simp [encP] at hu; subst hu; simp [Addr.add]
      | 1, hu => simp [encP] at hu; subst hu; simp [Addr.add]
      | 2, hu => simp [encP] at hu; subst hu; simp [Addr.add]
      | 3, hu => simp [encP] at hu; subst hu; simp [Addr.add]
      | j + 4, hu => simp [encP] at hu) (by intro u hu; simp [encP] at hu; rcases hu with rfl | rfl | rfl | rfl <;> rfl) (by unfold maxLen; omega) (by omega) (by simp; omega) ?_
  intro v' w' hown hg _
  have hk : ∀ k, k < w0.heap.size → some k ≠ v.ownBlock → w'.heap[k]? = w0.heap[k]? := fun k hk hne => (hg.block k (by simp; omega) hne).trans (Below.heap_alloc _ _ k hk)
  have hsz : w0.heap.size ≤ w'.heap.size := by have := hg.size; simp at this; omega
  refine h v' w' ?_ ?_ ⟨hg.os, hg.tape, hg.output, hsz, fun k o hko hno => hk k (lt_of_block hko) (fun e => ?_)⟩ hk
  · unfold FRow
    rw [cp_append, cp_one, List.length_append]
    exact hown
  · exact ⟨hg.os, hg.tape, hg.output, hsz, fun k hk' => hk k (by omega) (fun e => by have := (ho2 k e.symm).1; omega)⟩
  · obtain ⟨_, cur, hc⟩ := ho2 k e.symm
    rw [hc] at hko
    exact (hno cur (0, 0)).2 (Option.some.inj hko).symm
/-- the reference's cache -/
structure RC (B g : Nat) (w : World) (N : Nat) (P : List Fm) (lv : Value) : Prop where
  c : w.heap[g]? = some (.cells #[.int .i64 (N : Int), lv] 60 (0, 0))
  r : FRow B w lv P
  b : B ≤ g
section
variable {B g : Nat} {w w' : World} {N : Nat} {P : List Fm} {lv : Value}
theorem RC.lt (h : RC B g w N P lv) : g < w.heap.size := lt_of_block h.c
theorem RC.cells (h : RC B g w N P lv) : w.cell? ⟨g, 0, none⟩ = some (.int .i64 (N : Int)) ∧ w.cell? ⟨g, 1, none⟩ = some lv := by
  have := h.c
  refine ⟨?_, ?_⟩ <;> simp [World.cell?, this]
theorem RC.below (h : RC B g w N P lv) (k : Below w.heap.size w w') : RC B g w' N P lv := ⟨(k.block g h.lt).trans h.c, h.r.below k, h.b⟩
theorem RC.ne (h : RC B g w N P lv) : some g ≠ lv.ownBlock := by
  intro e
  obtain ⟨_, cur, hc⟩ := h.r.own g e.symm
  rw [h.c] at hc
  cases hc
theorem RC.oc (h : RC B g w N P lv) (k : OC w w') : RC B g w' N P lv :=
  ⟨(k.block g _ _ h.c (by decide) (by decide)).trans h.c, h.r.same (fun x hx => by obtain ⟨_, cur, hc⟩ := h.r.own x hx; exact k.block x _ _ hc (by decide) (by decide)), h.b⟩
/-- where a block stands; -1: nowhere -/
def idxP (P : List Fm) (k : Int) : Int := match P.findIdx? (fun x => x.b == k) with
  | some i => (i : Int)
  | none => -1
theorem rnew_bad (n : Int) (hn : ¬ (1 ≤ n ∧ n ≤ 64)) (w : World) : Calls Try.prog 9 #[.int .i64 n] w fun e w' => e = .returned (.tuple #[.pointer none, .int .i64 1]) ∧ w' = w := by
  by_cases h1 : n < 1
  · go_enter Try.func9, Try.ntmps9
    go_wp2
    go_ret2
    exact ⟨rfl, rfl⟩
  · have h2 : 64 < n := by omega
    go_enter Try.func9, Try.ntmps9
    go_wp2
    go_ret2
    exact ⟨rfl, rfl⟩
theorem rnew (N : Nat) (h1 : 1 ≤ N) (h2 : N ≤ 64) (B : Nat) (w : World) (hB : B ≤ w.heap.size) : Calls Try.prog 9 #[.int .i64 (N : Int)] w fun e w' => e = .returned (.tuple #[.pointer (some ⟨w.heap.size, 0, none⟩), .int .i64 0]) ∧ RC B w.heap.size w' N [] (.slice none 0 0) ∧ Below w.heap.size w w' := by
  go_enter Try.func9, Try.ntmps9
  go_wp2
  go_ret2
  exact ⟨rfl, ⟨box_at _ _, FRow.nil _ _, hB⟩, below_alloc _ _⟩
theorem right_any (k : Int) (d : ByteArray) (w : World) : Calls Try.prog 40 #[.int .i64 k, .string d] w fun e w' => e = .returned (.bool (isB k d)) ∧ w' = w := by
  unfold isB
  by_cases h1 : 0 ≤ k
  · by_cases h2 : k < 1024
    · by_cases h3 : d.size = 128
      · rw [decide_eq_true ⟨h1, h2, h3⟩]
        go_enter Try.func40, Try.ntmps40
        go_wp2
        go_ret
        exact ⟨by simp, rfl⟩
      · rw [decide_eq_false (fun h => h3 h.2.2)]
        have h4 : ((d.size : Int) == 128) = false := by simp; omega
        go_enter Try.func40, Try.ntmps40
        go_wp2
        go_ret
        exact ⟨by simp, rfl⟩
    · rw [decide_eq_false (fun h => h2 h.2.1)]
      go_enter Try.func40, Try.ntmps40
      go_wp2
      go_ret
      exact ⟨by simp, rfl⟩
  · rw [decide_eq_false (fun h => h1 h.1)]
    go_enter Try.func40, Try.ntmps40
    go_wp2
    go_ret
    exact ⟨by simp, rfl⟩
end
end Go.Proofs.Ytfjoajcfpldniaa
