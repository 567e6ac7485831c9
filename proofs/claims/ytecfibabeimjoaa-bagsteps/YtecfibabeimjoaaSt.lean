import Derived.Test.YtecfibabeimjoaaBy
import Derived.Test.YtecfibabeimjoaaOp
namespace Go.Proofs.Ytecfibabeimjoaa
open Go.RowKit Go.Maps Go.Sort Go.Shelf Classical

theorem Bag.mono {base g b N N' : Nat} {w : World} {n : Int} {L : List Msg} (h : Bag base g b w N n L) (hn : N ≤ N') : Bag base g b w N' n L := ⟨⟨h.is.cell, h.is.map.mono hn, h.is.ne, h.is.lo⟩, h.ok, h.le, h.so⟩
theorem st_deliver {base g b N : Nat} {n : Int} {L : List Msg} (i : Int) (hN : N < 1000000) (w : World) (h : Bag base g b w N n L) (hb : base ≤ w.heap.size) : Calls Try.prog 11 #[.pointer (some ⟨g, 0, none⟩), .int .i64 i] w fun e w' => ∃ (a1 a2 r : Int) (a3 : ByteArray) (L' : List Msg), e = .returned (.tuple #[.agg #[.int .i64 a1, .int .i64 a2, .string a3], .int .i64 r]) ∧ Bag base g b w' (N + 1) n L' ∧ Below base w w' := by
  by_cases hi : inL L i
  · obtain ⟨k, rfl⟩ := Int.eq_ofNat_of_zero_le hi.1
    have hk : k < (dd L).length := by have := hi.2; omega
    exact (deliver_some k hk hN w h).mono fun _ _ q => ⟨_, _, _, _, _, q.1, q.2.1, h.belowOf hb q.2.2⟩
  · exact (deliver_none i hi (by omega) w h).mono fun _ _ q => ⟨_, _, _, _, L, q.1, (h.below q.2).mono (by omega), q.2.mono hb⟩
theorem st_drop {base g b N : Nat} {n : Int} {L : List Msg} (i : Int) (hN : N < 1000000) (w : World) (h : Bag base g b w N n L) (hb : base ≤ w.heap.size) : Calls Try.prog 14 #[.pointer (some ⟨g, 0, none⟩), .int .i64 i] w fun e w' => ∃ (r : Int) (L' : List Msg), e = .returned (.int .i64 r) ∧ Bag base g b w' (N + 1) n L' ∧ Below base w w' := by
  by_cases hi : inL L i
  · obtain ⟨k, rfl⟩ := Int.eq_ofNat_of_zero_le hi.1
    have hk : k < (dd L).length := by have := hi.2; omega
    exact (drop_some k hk hN w h).mono fun _ _ q => ⟨_, _, q.1, q.2.1, h.belowOf hb q.2.2⟩
  · exact (drop_none i hi (by omega) w h).mono fun _ _ q => ⟨_, L, q.1, (h.below q.2).mono (by omega), q.2.mono hb⟩
theorem twice_full {base g b N : Nat} {n : Int} {L : List Msg} (i : Nat) (hi : i < (dd L).length) (hN : N < 1000000) (w : World) (h : Bag base g b w N n L) (hf : L.length = 1024) : Calls Try.prog 15 #[.pointer (some ⟨g, 0, none⟩), .int .i64 i] w fun e w' => e = .returned (.int .i64 5) ∧ Below w.heap.size w w' :=
  (twice_go i hi (by omega) 5 (fun w1 w' => Below w1.heap.size w1 w') w h (fun w1 h1 => bag_full _ w1 h1 hf)).mono fun _ _ ⟨_, he, hb, _, hR⟩ => ⟨he, hb.next hR⟩
theorem twice_ok {base g b N : Nat} {n : Int} {L : List Msg} (i : Nat) (hi : i < (dd L).length) (hN : N < 1000000) (w : World) (h : Bag base g b w N n L) (hf : L.length < 1024) : Calls Try.prog 15 #[.pointer (some ⟨g, 0, none⟩), .int .i64 i] w fun e w' => e = .returned (.int .i64 0) ∧ Bag base g b w' (N + 1) n (ins (dd L)[i] L) ∧ Only [g, b] w w' :=
  (twice_go i hi (by omega) 0 (fun w1 w' => Bag base g b w' (N + 1) n (ins (dd L)[i] L) ∧ Only [g, b] w1 w') w h (fun w1 h1 => bag_add _ (h.ok _ (mem_dd.1 (List.getElem_mem hi))) hN w1 h1 hf)).mono fun _ _ ⟨_, he, hb, _, hR⟩ => ⟨he, hR.1, (Only.of_below hb).trans hR.2⟩
theorem st_twice {base g b N : Nat} {n : Int} {L : List Msg} (i : Int) (hN : N < 1000000) (w : World) (h : Bag base g b w N n L) (hb : base ≤ w.heap.size) : Calls Try.prog 15 #[.pointer (some ⟨g, 0, none⟩), .int .i64 i] w fun e w' => ∃ (r : Int) (L' : List Msg), e = .returned (.int .i64 r) ∧ Bag base g b w' (N + 1) n L' ∧ Below base w w' := by
  by_cases hi : inL L i
  · obtain ⟨k, rfl⟩ := Int.eq_ofNat_of_zero_le hi.1
    have hk : k < (dd L).length := by have := hi.2; omega
    by_cases hf : L.length = 1024
    · exact (twice_full k hk hN w h hf).mono fun _ _ q => ⟨_, L, q.1, (h.below q.2).mono (by omega), q.2.mono hb⟩
    · exact (twice_ok k hk hN w h (by have := h.le; omega)).mono fun _ _ q => ⟨_, _, q.1, q.2.1, h.belowOf hb q.2.2⟩
  · exact (twice_none i hi (by omega) w h).mono fun _ _ q => ⟨_, L, q.1, (h.below q.2).mono (by omega), q.2.mono hb⟩
theorem st_put {base g b N : Nat} {n : Int} {L : List Msg} (m : Msg) (hm : okM m) (hN : N < 1000000) (w : World) (h : Bag base g b w N n L) (hb : base ≤ w.heap.size) : Calls Try.prog 17 #[.pointer (some ⟨g, 0, none⟩), valM m] w fun e w' => ∃ (r : Int) (L' : List Msg), e = .returned (.int .i64 r) ∧ Bag base g b w' (N + 1) n L' ∧ Below base w w' := by
  by_cases h1 : isN n m.f = true ∧ isN n m.t = true
  · by_cases h2 : 65535 < m.s.size
    · exact (put_long m h1.1 h1.2 h2 w h).mono fun _ _ q => ⟨_, L, q.1, (h.below q.2).mono (by omega), q.2.mono hb⟩
    · by_cases hf : L.length = 1024
      · exact (bag_put_full m h1.1 h1.2 (by omega) hf w h).mono fun _ _ q => ⟨_, L, q.1, (h.below q.2).mono (by omega), q.2.mono hb⟩
      · exact (bag_put m hm h1.1 h1.2 (by omega) hN (by have := h.le; omega) w h).mono fun _ _ q => ⟨_, _, q.1, q.2.1, h.belowOf hb q.2.2⟩
  · exact (put_node m h1 w h).mono fun _ _ q => ⟨_, L, q.1, (h.below q.2).mono (by omega), q.2.mono hb⟩
theorem five_cells {w : World} {g : Nat} {a b c d e : Value} {t : TypeId} (hh : w.heap[g]? = some (.cells #[a, b, c, d, e] t (0, 0))) : w.cell? ⟨g, 0, none⟩ = some a ∧ w.cell? ⟨g, 1, none⟩ = some b ∧ w.cell? ⟨g, 2, none⟩ = some c ∧ w.cell? ⟨g, 3, none⟩ = some d ∧ w.cell? ⟨g, 4, none⟩ = some e := by
  refine ⟨?_, ?_, ?_, ?_, ?_⟩ <;> simp [World.cell?, hh]
theorem kinds (K : Int) : K = 2 ∨ K = 3 ∨ K = 4 ∨ ((K == 2) = false ∧ (K == 3) = false ∧ (K == 4) = false) := by
  by_cases h0 : K = 2
  · exact .inl h0
  · by_cases h1 : K = 3
    · exact .inr (.inl h1)
    · by_cases h2 : K = 4
      · exact .inr (.inr (.inl h2))
      · exact .inr (.inr (.inr ⟨by simp [h0], by simp [h1], by simp [h2]⟩))
/-- a row of messages lies on -/
theorem LIs.below {base : Nat} {w w' : World} {v : Value} {l : List Msg} (h : LIs base w v l) (k : Below w.heap.size w w') : LIs base w' v l := by
  unfold LIs at *
  have hlt := h.lt
  obtain ⟨e1, e2 | ⟨b, cap, cur, rfl, e3, e4, e5⟩⟩ := h
  · exact ⟨e1, .inl e2⟩
  · exact ⟨e1, .inr ⟨b, cap, cur, rfl, e3, (k.block b (hlt b rfl).2).trans e4, e5⟩⟩
/-- how often those of a list are there, together -/
noncomputable def sumC (L : List Msg) : List Msg → Nat
  | [] => 0
  | x :: l => cnt x L + sumC L l
theorem sumC_append (L a b : List Msg) : sumC L (a ++ b) = sumC L a + sumC L b := by
  induction a with
  | nil => simp [sumC]
  | cons x a ih => simp [sumC, ih]; omega
theorem sumC_nil : ∀ l : List Msg, sumC [] l = 0
  | [] => rfl
  | x :: l => by simp [sumC, sumC_nil l, cnt]
theorem sumC_cons (x : Msg) (L : List Msg) : ∀ l : List Msg, l.Nodup → sumC (x :: L) l = sumC L l + (if x ∈ l then 1 else 0)
  | [], _ => by simp [sumC]
  | y :: l, h => by
    obtain ⟨h1, h2⟩ := List.nodup_cons.1 h
    have ih := sumC_cons x L l h2
    show cnt y (x :: L) + sumC (x :: L) l = cnt y L + sumC L l + _
    rw [ih]
    by_cases e : x = y
    · subst e
      rw [cnt_cons_same, if_neg h1, if_pos (by simp)]; omega
    · rw [cnt_cons_other e]
      by_cases hm : x ∈ l
      · rw [if_pos hm, if_pos (by simp [hm])]; omega
      · rw [if_neg hm, if_neg (by simp [hm, e])]; omega
theorem sumC_all : ∀ (L l : List Msg), l.Nodup → (∀ x ∈ L, x ∈ l) → sumC L l = L.length
  | [], l, _, _ => sumC_nil l
  | x :: L, l, hn, hm => by
    rw [sumC_cons x L l hn, if_pos (hm x (by simp)), sumC_all L l hn (fun y hy => hm y (by simp [hy]))]
    rfl
theorem dd_nodup {L : List Msg} (h : SortedR L) : (dd L).Nodup := List.Pairwise.imp (R := ltP) (fun {x y} (hxy : ltP x y) (e : x = y) => ltP_irr y (by rw [e] at hxy; exact hxy)) (dd_sorted h)
theorem sumC_dd {L : List Msg} (h : SortedR L) : sumC L (dd L) = L.length := sumC_all L (dd L) (dd_nodup h) (fun _ hx => mem_dd.2 hx)
theorem sumC_le (L : List Msg) : ∀ l : List Msg, sumC L l ≤ l.length * L.length
  | [] => by simp [sumC]
  | x :: l => by
    have := sumC_le L l
    have := cnt_le x L
    simp [sumC, Nat.succ_mul]
    omega
end Go.Proofs.Ytecfibabeimjoaa
