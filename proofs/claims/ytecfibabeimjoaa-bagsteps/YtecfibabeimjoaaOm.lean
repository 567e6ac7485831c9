import Derived.Test.YtecfibabeimjoaaSu
import Derived.Deep.RegionHeld3
namespace Go.Proofs.Ytecfibabeimjoaa
open Go.RowKit Go.Maps Go.Sort Go.Shelf

theorem cnt_nil (m : Msg) : cnt m [] = 0 := rfl
theorem cnt_append (m : Msg) (b : List Msg) : ∀ a : List Msg, cnt m (a ++ b) = cnt m a + cnt m b
  | [] => by rw [List.nil_append, cnt_nil]; omega
  | x :: a => by
    have := cnt_append m b a
    by_cases h : x = m
    · subst h; rw [List.cons_append, cnt_cons_same, cnt_cons_same]; omega
    · rw [List.cons_append, cnt_cons_other h, cnt_cons_other h]; omega
theorem del_not {m : Msg} : ∀ {l : List Msg}, m ∉ l → del m l = l
  | [], _ => rfl
  | x :: l, h => by
    have h1 : x ≠ m := fun e => h (by simp [e])
    rw [del_neg h1, del_not (fun e => h (by simp [e]))]
theorem del_append_in {m : Msg} (b : List Msg) : ∀ {l : List Msg}, m ∈ l → del m (l ++ b) = del m l ++ b
  | [], h => by cases h
  | x :: l, h => by
    by_cases e : x = m
    · subst e; rw [List.cons_append, del_pos, del_pos]
    · rw [List.cons_append, del_neg e, del_neg e, del_append_in b (by simpa [Ne.symm e] using h)]; rfl
theorem del_append_not {m : Msg} (b : List Msg) : ∀ {l : List Msg}, m ∉ l → del m (l ++ b) = l ++ del m b
  | [], _ => rfl
  | x :: l, h => by
    have h1 : x ≠ m := fun e => h (by simp [e])
    rw [List.cons_append, del_neg h1, del_append_not b (fun e => h (by simp [e]))]; rfl
theorem cnt_del_le (m y : Msg) (l : List Msg) : cnt y (del m l) ≤ cnt y l := by
  by_cases h : m ∈ l
  · by_cases e : y = m
    · subst e; have := cnt_del_same h; omega
    · rw [cnt_del_other h e]; omega
  · rw [del_not h]; omega
theorem LIs.only {B1 : Nat} {w w' : World} {v : Value} {l : List Msg} {g b : Nat} (h : LIs B1 w v l) (k : Only [g, b] w w') (h1 : g < B1) (h2 : b < B1) : LIs B1 w' v l := by
  obtain ⟨e1, e2 | ⟨x, cap, cur, e3, e4, e5, e6⟩⟩ := h
  · exact ⟨e1, .inl e2⟩
  · exact ⟨e1, .inr ⟨x, cap, cur, e3, e4, (k.block x (lt_of_block e5) (by simp; omega)).trans e5, e6⟩⟩
theorem LIs.base {B1 B2 : Nat} {w : World} {v : Value} {l : List Msg} (h : LIs B2 w v l) (k : B1 ≤ B2) : LIs B1 w v l := by
  obtain ⟨e1, e2 | ⟨x, cap, cur, e3, e4, e5, e6⟩⟩ := h
  · exact ⟨e1, .inl e2⟩
  · exact ⟨e1, .inr ⟨x, cap, cur, e3, by omega, e5, e6⟩⟩
theorem LIs.own {B1 : Nat} {w : World} {v : Value} {l : List Msg} (h : LIs B1 w v l) : ∀ x, v.ownBlock = some x → B1 ≤ x := by
  obtain ⟨e1, ⟨rfl, _⟩ | ⟨x, cap, cur, rfl, e4, e5, e6⟩⟩ := h
  · intro x hx; cases hx
  · intro y hy; cases hy; exact e4
theorem LIs.nil (B1 : Nat) (w : World) : LIs B1 w (.slice none 0 0) [] := ⟨rfl, .inl ⟨rfl, rfl⟩⟩
/-- one message more in a row -/
theorem push_msg {ops : Array Oper} {rest : List Oper} {o : Oper} {a : Act} {Q : Exit → Act → World → Prop} {w0 : World} (hgd : o.guard = none) (s x : Operand)
    (ho : o.op = .call { callee := .builtin .append, args := #[s, x], argTypes := #[46, 46] }) (B1 : Nat) (v : Value) (T : List Msg) (f t : Int) (sx : ByteArray)
    (hs : a.eval s = v) (hx : a.eval x = .slice (some ⟨w0.heap.size, 0, none⟩) 1 1) (hA : LIs B1 w0 v T) (hn : T.length ≤ 1000) (hbase : B1 ≤ w0.heap.size)
    (h : ∀ v' w', LIs B1 w' v' (T ++ [⟨f, t, sx⟩]) → Below B1 w0 w' → wpList Try.prog ops Q rest (a.put o.dst v') w') :
    wpList Try.prog ops Q (o :: rest) a (w0.alloc (.cells #[.int .i64 f, .int .i64 t, .string sx] 32)) := by
  obtain ⟨i0, hi, hz0, hz1, hz2⟩ := info_parts Try.info32
  have ho2 := hA.own
  refine wpList_append_own _ hgd s x 46 ho B1 32 i0 (.agg #[.int .i64 0, .int .i64 0, .string ⟨#[]⟩]) 3 32 Try.underlying46 hi hz0 hz1 hz2 rfl (by decide) v T.length (mc T) hs (World.ownsRow.alloc hA _) ⟨w0.heap.size, 0, none⟩ 1 1 (encM ⟨f, t, sx⟩) hx rfl (news_cells _ _) (by intro u hu; simp [encM] at hu; rcases hu with rfl | rfl | rfl <;> rfl) (by unfold maxLen; omega) (by omega) (by simp; omega) ?_
  intro v' w' hown hg _
  refine h v' w' ?_ ?_
  · unfold LIs
    have e : mc (T ++ [⟨f, t, sx⟩]) = mc T ++ encM ⟨f, t, sx⟩ := by simp [mc]
    rw [e, List.length_append]
    exact hown
  · refine (below_alloc w0 (.cells #[.int .i64 f, .int .i64 t, .string sx] 32)).mono hbase |>.trans ⟨hg.os, hg.tape, hg.output, hg.size, fun k hk => hg.block k ?_ ?_⟩
    · simp; omega
    · intro e
      have := ho2 k e.symm
      omega
/-- a bag and the row of what may be delivered, behind j steps -/
structure OJ (base B1 g b : Nat) (w : World) (j : Nat) (v : Value) (L T : List Msg) : Prop where
  bag : Bag base g b w j 3 L
  row : LIs B1 w v T
  len : T.length ≤ j
  lenL : L.length ≤ j
  cn : ∀ m, cnt m L ≤ cnt m T
  gB : g < B1 ∧ b < B1 ∧ base ≤ B1 ∧ B1 ≤ w.heap.size
def OX (base B1 g b : Nat) (w : World) (j : Nat) (v : Value) : Prop := ∃ L T, OJ base B1 g b w j v L T
theorem OJ.below {base B1 g b j : Nat} {w w' : World} {v : Value} {L T : List Msg} (h : OJ base B1 g b w j v L T) (k : Below w.heap.size w w') : OJ base B1 g b w' j v L T :=
  ⟨h.bag.below k, h.row.below k, h.len, h.lenL, h.cn, h.gB.1, h.gB.2.1, h.gB.2.2.1, Nat.le_trans h.gB.2.2.2 k.size⟩
theorem OJ.more {base B1 g b j : Nat} {w : World} {v : Value} {L T : List Msg} (h : OJ base B1 g b w j v L T) : OJ base B1 g b w (j + 1) v L T :=
  ⟨h.bag.mono (by omega), h.row, Nat.le_succ_of_le h.len, Nat.le_succ_of_le h.lenL, h.cn, h.gB⟩
theorem OJ.ne {base B1 g b j : Nat} {w : World} {v : Value} {L T : List Msg} (h : OJ base B1 g b w j v L T) {k : Nat} (hk : B1 ≤ k) : k ∉ [g, b] := by
  have := h.gB
  simp; omega
/-- .. the bag has one more, the row not yet -/
structure OH (base B1 g b : Nat) (w : World) (j : Nat) (v : Value) (m : Msg) (L T : List Msg) : Prop where
  bag : Bag base g b w (j + 1) 3 L
  row : LIs B1 w v T
  len : T.length ≤ j
  lenL : L.length ≤ j + 1
  cn : ∀ x, cnt x L ≤ cnt x (T ++ [m])
  gB : g < B1 ∧ b < B1 ∧ base ≤ B1 ∧ B1 ≤ w.heap.size
theorem OH.full {base B1 g b j : Nat} {w w' : World} {v v' : Value} {m : Msg} {L T : List Msg} (h : OH base B1 g b w j v m L T) (h1 : LIs B1 w' v' (T ++ [m])) (h2 : Below B1 w w') : OX base B1 g b w' (j + 1) v' :=
  ⟨L, T ++ [m], h.bag.other (fp := (List.range w.heap.size).filter (fun k => decide (B1 ≤ k))) ⟨h2.os, h2.tape, h2.output, h2.size, fun k hk hn => h2.block k (by simp at hn; have := hn hk; omega)⟩ (by have := h.gB; simp; omega) (by have := h.gB; simp; omega), h1, by have := h.len; simp; omega, h.lenL, h.cn, h.gB.1, h.gB.2.1, h.gB.2.2.1, Nat.le_trans h.gB.2.2.2 h2.size⟩
theorem cnt_ins_le {m : Msg} {L T : List Msg} (h : ∀ x, cnt x L ≤ cnt x T) (x : Msg) : cnt x (ins m L) ≤ cnt x (T ++ [m]) := by
  have := h x
  rw [cnt_append]
  by_cases e : x = m
  · subst e; rw [cnt_ins_same, cnt_cons_same]; omega
  · rw [cnt_ins_other e, cnt_cons_other (Ne.symm e)]; omega
theorem oj_put {base B1 g b j : Nat} {v : Value} {L T : List Msg} (m : Msg) (hm : okM m) (hg : isN 3 m.f = true ∧ isN 3 m.t = true ∧ m.s.size ≤ 65535) (hj : j ≤ 300) (w : World) (h : OJ base B1 g b w j v L T) :
    Calls Try.prog 17 #[.pointer (some ⟨g, 0, none⟩), valM m] w fun e w' => e = .returned (.int .i64 0) ∧ OH base B1 g b w' j v m (ins m L) T ∧ Only [g, b] w w' := by
  have hl := h.lenL
  refine (bag_put m hm hg.1 hg.2.1 hg.2.2 (by omega) (by omega) w h.bag).mono fun e w' q => ⟨q.1, ⟨q.2.1, h.row.only q.2.2 h.gB.1 h.gB.2.1, h.len, by rw [ins_len]; omega, cnt_ins_le h.cn, h.gB.1, h.gB.2.1, h.gB.2.2.1, Nat.le_trans h.gB.2.2.2 q.2.2.size⟩, q.2.2⟩
theorem oj_put_no {base B1 g b j : Nat} {v : Value} {L T : List Msg} (m : Msg) (hg : ¬ (isN 3 m.f = true ∧ isN 3 m.t = true ∧ m.s.size ≤ 65535)) (w : World) (h : OJ base B1 g b w j v L T) :
    Calls Try.prog 17 #[.pointer (some ⟨g, 0, none⟩), valM m] w fun e w' => ∃ r : Int, e = .returned (.int .i64 r) ∧ (r == 0) = false ∧ OX base B1 g b w' (j + 1) v ∧ Below w.heap.size w w' := by
  by_cases h1 : isN 3 m.f = true ∧ isN 3 m.t = true
  · exact (put_long m h1.1 h1.2 (by have : ¬ m.s.size ≤ 65535 := fun e => hg ⟨h1.1, h1.2, e⟩; omega) w h.bag).mono fun e w' q => ⟨2, q.1, rfl, ⟨L, T, (h.below q.2).more⟩, q.2⟩
  · exact (put_node m h1 w h.bag).mono fun e w' q => ⟨1, q.1, rfl, ⟨L, T, (h.below q.2).more⟩, q.2⟩
theorem oj_twice {base B1 g b j : Nat} {v : Value} {L T : List Msg} (i : Nat) (hi : i < (dd L).length) (hj : j ≤ 300) (w : World) (h : OJ base B1 g b w j v L T) :
    Calls Try.prog 15 #[.pointer (some ⟨g, 0, none⟩), .int .i64 i] w fun e w' => e = .returned (.int .i64 0) ∧ OH base B1 g b w' j v (dd L)[i] (ins (dd L)[i] L) T ∧ Only [g, b] w w' := by
  have hl := h.lenL
  refine (twice_ok i hi (by omega) w h.bag (by omega)).mono fun e w' q => ⟨q.1, ⟨q.2.1, h.row.only q.2.2 h.gB.1 h.gB.2.1, h.len, by rw [ins_len]; omega, cnt_ins_le h.cn, h.gB.1, h.gB.2.1, h.gB.2.2.1, Nat.le_trans h.gB.2.2.2 q.2.2.size⟩, q.2.2⟩
theorem oj_twice_no {base B1 g b j : Nat} {v : Value} {L T : List Msg} (i : Int) (hi : ¬ inL L i) (hj : j ≤ 300) (w : World) (h : OJ base B1 g b w j v L T) :
    Calls Try.prog 15 #[.pointer (some ⟨g, 0, none⟩), .int .i64 i] w fun e w' => e = .returned (.int .i64 6) ∧ OX base B1 g b w' (j + 1) v ∧ Below w.heap.size w w' :=
  (twice_none i hi (by omega) w h.bag).mono fun e w' q => ⟨q.1, ⟨L, T, (h.below q.2).more⟩, q.2⟩
theorem OJ.del {base B1 g b j : Nat} {w w' : World} {v : Value} {L T : List Msg} (h : OJ base B1 g b w j v L T) {m : Msg} (hm : m ∈ L) (hB : Bag base g b w' (j + 1) 3 (del m L)) (k : Only [g, b] w w') : OJ base B1 g b w' (j + 1) v (del m L) T :=
  ⟨hB, h.row.only k h.gB.1 h.gB.2.1, Nat.le_succ_of_le h.len, by have := del_len hm; have := h.lenL; omega, fun x => Nat.le_trans (cnt_del_le m x L) (h.cn x), h.gB.1, h.gB.2.1, h.gB.2.2.1, Nat.le_trans h.gB.2.2.2 k.size⟩
theorem oj_drop {base B1 g b j : Nat} {v : Value} {L T : List Msg} (i : Int) (hj : j ≤ 300) (w : World) (h : OJ base B1 g b w j v L T) :
    Calls Try.prog 14 #[.pointer (some ⟨g, 0, none⟩), .int .i64 i] w fun e w' => (∃ v', e = .returned v') ∧ OX base B1 g b w' (j + 1) v ∧ Below base w w' := by
  have hbw : base ≤ w.heap.size := Nat.le_trans h.gB.2.2.1 h.gB.2.2.2
  by_cases hi : inL L i
  · obtain ⟨a, ha⟩ := Int.eq_ofNat_of_zero_le hi.1
    subst ha
    have hi' : a < (dd L).length := by have := hi.2; omega
    exact (drop_some a hi' (by omega) w h.bag).mono fun e w' q => ⟨⟨_, q.1⟩, ⟨_, T, h.del (mem_dd.1 (List.getElem_mem hi')) q.2.1 q.2.2⟩, h.bag.belowOf hbw q.2.2⟩
  · exact (drop_none i hi (by omega) w h.bag).mono fun e w' q => ⟨⟨_, q.1⟩, ⟨L, T, (h.below q.2).more⟩, q.2.mono hbw⟩
theorem oj_deliver_no {base B1 g b j : Nat} {v : Value} {L T : List Msg} (i : Int) (hi : ¬ inL L i) (hj : j ≤ 300) (w : World) (h : OJ base B1 g b w j v L T) :
    Calls Try.prog 11 #[.pointer (some ⟨g, 0, none⟩), .int .i64 i] w fun e w' => e = .returned (.tuple #[.agg #[.int .i64 0, .int .i64 0, .string ByteArray.empty], .int .i64 6]) ∧ OX base B1 g b w' (j + 1) v ∧ Below w.heap.size w w' :=
  (deliver_none i hi (by omega) w h.bag).mono fun e w' q => ⟨q.1, ⟨L, T, (h.below q.2).more⟩, q.2⟩
/-- .. one is taken from the bag, the row has it still -/
structure OD (base B1 g b : Nat) (w : World) (j : Nat) (v : Value) (m : Msg) (L T : List Msg) : Prop where
  bag : Bag base g b w (j + 1) 3 L
  row : LIs B1 w v T
  len : T.length ≤ j
  lenL : L.length ≤ j + 1
  has : m ∈ T
  cn : ∀ x, cnt x L ≤ cnt x (del m T)
  gB : g < B1 ∧ b < B1 ∧ base ≤ B1 ∧ B1 ≤ w.heap.size
theorem OD.below {base B1 g b j : Nat} {w w' : World} {v : Value} {m : Msg} {L T : List Msg} (h : OD base B1 g b w j v m L T) (k : Below w.heap.size w w') : OD base B1 g b w' j v m L T :=
  ⟨h.bag.below k, h.row.below k, h.len, h.lenL, h.has, h.cn, h.gB.1, h.gB.2.1, h.gB.2.2.1, Nat.le_trans h.gB.2.2.2 k.size⟩
theorem OD.full {base B1 B2 g b j : Nat} {w : World} {v v' : Value} {m : Msg} {L T : List Msg} (h : OD base B1 g b w j v m L T) (h1 : LIs B2 w v' (del m T)) (h2 : B1 ≤ B2) : OX base B1 g b w (j + 1) v' :=
  ⟨L, _, h.bag, h1.base h2, by have := del_len h.has; have := h.len; omega, h.lenL, h.cn, h.gB⟩
theorem oj_deliver {base B1 g b j : Nat} {v : Value} {L T : List Msg} (i : Nat) (hi : i < (dd L).length) (hj : j ≤ 300) (w : World) (h : OJ base B1 g b w j v L T) :
    Calls Try.prog 11 #[.pointer (some ⟨g, 0, none⟩), .int .i64 i] w fun e w' => e = .returned (.tuple #[valM (dd L)[i], .int .i64 0]) ∧ OD base B1 g b w' j v (dd L)[i] (del (dd L)[i] L) T ∧ Only [g, b] w w' := by
  have hm : (dd L)[i] ∈ L := mem_dd.1 (List.getElem_mem hi)
  have hT : (dd L)[i] ∈ T := cnt_pos.2 (Nat.lt_of_lt_of_le (cnt_pos.1 hm) (h.cn _))
  refine (deliver_some i hi (by omega) w h.bag).mono fun e w' q => ⟨q.1, ⟨q.2.1, h.row.only q.2.2 h.gB.1 h.gB.2.1, h.len, by have := del_len hm; have := h.lenL; omega, hT, fun x => ?_, h.gB.1, h.gB.2.1, h.gB.2.2.1, Nat.le_trans h.gB.2.2.2 q.2.2.size⟩, q.2.2⟩
  have hc := h.cn x
  by_cases e : x = (dd L)[i]
  · subst e
    have h1 := cnt_del_same hm
    have h2 := cnt_del_same hT
    omega
  · rw [cnt_del_other hm e, cnt_del_other hT e]; exact hc
end Go.Proofs.Ytecfibabeimjoaa
