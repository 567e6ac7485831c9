import Derived.Test.YtcaedajbkdploaaGe
namespace Go.Proofs.Ytcaedajbkdploaa
open Go.RowKit Go.Maps

/-- the last one's view, or another one -/
def lastD (v : Int) (l : List Ent) : Int := match l.getLast? with | some x => x.V | none => v
theorem lastD_zero (l : List Ent) : lastD 0 l = lastV l := rfl
theorem lastD_cons (v : Int) (y : Ent) (l : List Ent) : lastD v (y :: l) = lastD y.V l := by
  unfold lastD
  cases l with
  | nil => rfl
  | cons z l => rw [List.getLast?_cons_cons]; cases h : (z :: l).getLast? with
    | none => simp at h
    | some q => rfl
theorem fall_append : ∀ (l m : List Ent) (v : Int), fallB v (l ++ m) = (fallB v l || fallB (lastD v l) m)
  | [], m, v => by simp [fallB, lastD]
  | y :: l, m, v => by rw [List.cons_append, fallB, fallB, fall_append l m, lastD_cons, Bool.or_assoc]
/-- what a log may be -/
structure Val (l : List Ent) : Prop where
  right : l.all rgt = true
  rise : fallB 0 l = false
  len : l.length ≤ 4096
theorem Val.nil : Val [] := ⟨rfl, rfl, by decide⟩
theorem Val.left {l m : List Ent} (h : Val (l ++ m)) : Val l := by
  refine ⟨?_, ?_, ?_⟩
  · have := h.right; rw [List.all_append] at this; simp at this; simpa using this.1
  · have := h.rise; rw [fall_append] at this; simp at this; exact this.1
  · have := h.len; rw [List.length_append] at this; omega
theorem Val.take {l : List Ent} (h : Val l) (n : Nat) : Val (l.take n) := by
  have : Val (l.take n ++ l.drop n) := by rw [List.take_append_drop]; exact h
  exact this.left
theorem Val.ap {l : List Ent} (h : Val l) (x : Ent) : Val (apL l x) := by
  unfold apL
  split
  · rename_i he
    unfold apE at he
    cases hr : rgt x with
    | false => rw [hr] at he; simp at he
    | true =>
      rw [hr, if_pos rfl] at he
      by_cases h2 : x.V < lastV l
      · rw [if_pos h2] at he; simp at he
      · rw [if_neg h2] at he
        by_cases h3 : 4096 ≤ l.length
        · rw [if_pos h3] at he; simp at he
        · refine ⟨?_, ?_, ?_⟩
          · rw [List.all_append, h.right]; simp [hr]
          · rw [fall_append, h.rise, lastD_zero]; simp [fallB]; omega
          · rw [List.length_append]; simp; omega
  · exact h
/-- a log of those that may stand behind one another -/
def madeL (l : List Ent) : List Ent := l.foldl apL []
theorem made_val : ∀ (l acc : List Ent), Val acc → Val (l.foldl apL acc)
  | [], _, h => h
  | x :: l, _, h => made_val l _ (h.ap x)
theorem made_same : ∀ (l acc : List Ent), Val (acc ++ l) → l.foldl apL acc = acc ++ l
  | [], acc, _ => by simp
  | x :: l, acc, h => by
    have h1 : Val (acc ++ [x]) := by rw [show acc ++ x :: l = acc ++ [x] ++ l by simp] at h; exact h.left
    have e : apL acc x = acc ++ [x] := by
      have r1 := h1.right
      have r2 := h1.rise
      have r3 := h1.len
      rw [List.all_append] at r1
      rw [fall_append, lastD_zero] at r2
      rw [List.length_append] at r3
      simp [fallB] at r1 r2 r3
      exact (ap_ok (by simpa using r1.2) (by omega) (by omega)).2.2
    rw [List.foldl_cons, e, made_same l _ (by rw [List.append_assoc]; exact h), List.append_assoc]
    rfl
theorem madeL_val (l : List Ent) : Val (madeL l) := made_val l [] Val.nil
theorem madeL_take (l : List Ent) (n : Nat) : madeL ((madeL l).take n) = (madeL l).take n := made_same _ [] (by rw [List.nil_append]; exact (madeL_val l).take n)
theorem from_all {l : List Ent} (h : l.length ≤ 4096) : fromL l 1 5000 = l := by
  unfold fromL
  rw [show ((1 : Int) - 1).toNat = 0 from rfl, List.drop_zero, List.take_of_length_le (by rw [show (5000 : Int).toNat = 5000 from rfl]; omega)]
theorem bgs_take (l : List Ent) (n : Nat) (h : n ≤ l.length) : bgs l (l.take n) = true := by
  unfold bgs
  rw [List.length_take, Nat.min_eq_left h]
  simp [h]
theorem bgs_both {l m : List Ent} (h1 : bgs l m = true) (h2 : bgs m l = true) : l = m := by
  unfold bgs at h1 h2
  simp at h1 h2
  have hl : l.length = m.length := by omega
  have := h1.2
  rw [← hl, List.take_of_length_le (Nat.le_refl _)] at this
  exact this
set_option maxRecDepth 100000 in
set_option maxHeartbeats 1000000 in
theorem made_any {w : World} {u : Value} {l : List Ent} (h : ELie w u l) : Calls Try.prog 27 #[u] w fun e w' => e = .returned (.pointer (some ⟨w.heap.size, 0, none⟩)) ∧ SL w.heap.size w.heap.size w' (madeL l) ∧ Below w.heap.size w w' := by
  obtain ⟨ao, cap, rfl, hlc, hcm, hcell⟩ := h
  have HC := hid hcell
  unfold maxLen at hcm
  have HA := hid (fun B g w acc x (h : SL B g w acc) => h.app x)
  clear hcell
  go_enter Try.func27, Try.ntmps27
  go_wp2_with (first
    | (go_at_call 14; refine (lnew_any _).mono ?_; rintro e w1 ⟨rfl, hw1⟩; have HS1 := hid (SL.new w); have HB1 := hid (below_alloc w (.cells #[.slice none 0 0] 78)); rw [← hw1] at HS1 HB1; clear hw1))
  go_loopw [9] (fun i wr => ∃ j : Nat, i = .int .i64 j ∧ j ≤ l.length ∧ Hid (SL w.heap.size w.heap.size wr ((l.take j).foldl apL [])) ∧ Hid (Below w.heap.size w wr)) (fun i _ => l.length - (intOf i).toNat)
  case atStart => exact ⟨0, rfl, Nat.zero_le _, HS1, HB1⟩
  case round =>
    obtain ⟨j, rfl, hj, HT, HB⟩ := hrel
    rename World => wr
    by_cases hlt : j < l.length
    · obtain ⟨gb, off, ea, hgb, hat⟩ := HC.out j hlt
      subst ea
      have hat' := hat.same (HB.out.block gb hgb)
      have hgr : gb < wr.heap.size := Nat.lt_of_lt_of_le hgb HB.out.size
      obtain ⟨x, hx⟩ : ∃ x, x = l[j] := ⟨_, rfl⟩
      have HX : Hid ((l.take (j + 1)).foldl apL [] = apL ((l.take j).foldl apL []) x) := hid (by rw [List.take_succ_eq_append_getElem hlt, List.foldl_append, hx]; rfl)
      rw [← hx] at hat'
      clear hat hx
      have HA2 := hid (HA.out _ _ _ _ x (HT.out.below (below_alloc wr (.cells x.cs.toArray 25))))
      obtain ⟨acc, hacc⟩ : ∃ acc, acc = (l.take j).foldl apL [] := ⟨_, rfl⟩
      rw [← hacc] at HA2 HX
      clear hacc
      obtain ⟨c0, c1, c2, c3, c4, c5, c6, c7, c8⟩ := hat'
      obtain ⟨V, C, R, K, A, N, p, t, d⟩ := x
      simp only [Ent.v, Ent.cs] at HA2 c0 c1 c2 c3 c4 c5 c6 c7 c8
      go_wp2_with (first | (go_at_call 15; refine (HA2.out).mono ?_; rintro e w2 ⟨rfl, hs2, hb2⟩; have HS2 := hid hs2; have HB2 : Hid (Below w.heap.size w w2) := hid ((HB.out.trans ((below_alloc wr _).mono HB.out.size)).trans hb2); clear hs2 hb2))
      go_roundw
      case rel => exact ⟨j + 1, by go_num, by omega, hid (by rw [HX.out]; exact HS2.out), HB2⟩
      case measure => simp [intOf]; omega
    · have hjn : j = l.length := by omega
      have HT2 : Hid (SL w.heap.size w.heap.size wr (madeL l)) := by
        have e := HT.out
        rw [hjn, List.take_of_length_le (Nat.le_refl _)] at e
        exact hid e
      clear hjn
      go_wp2
      go_ret
      exact ⟨rfl, HT2.out, HB.out⟩
end Go.Proofs.Ytcaedajbkdploaa
