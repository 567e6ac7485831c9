import Derived.Test.YtcaedajbkdploaaFb
namespace Go.Proofs.Ytcaedajbkdploaa
open Go.RowKit Go.Maps

/-- what Append answers -/
def apE (l : List Ent) (x : Ent) : Int := if rgt x then (if x.V < lastV l then 7 else if 4096 ≤ l.length then 5 else 0) else 4
def apN (l : List Ent) (x : Ent) : Int := if apE l x = 0 then (l.length : Int) + 1 else 0
def apL (l : List Ent) (x : Ent) : List Ent := if apE l x = 0 then l ++ [x] else l
theorem ap_form {l : List Ent} {x : Ent} (h : rgt x = false) : apE l x = 4 ∧ apN l x = 0 ∧ apL l x = l := by
  unfold apN apL apE; rw [h]; exact ⟨rfl, rfl, rfl⟩
theorem ap_state {l : List Ent} {x : Ent} (h : rgt x = true) (h2 : x.V < lastV l) : apE l x = 7 ∧ apN l x = 0 ∧ apL l x = l := by
  unfold apN apL apE; rw [h, if_pos rfl, if_pos h2]; exact ⟨rfl, rfl, rfl⟩
theorem ap_full {l : List Ent} {x : Ent} (h : rgt x = true) (h2 : ¬ x.V < lastV l) (h3 : 4096 ≤ l.length) : apE l x = 5 ∧ apN l x = 0 ∧ apL l x = l := by
  unfold apN apL apE; rw [h, if_pos rfl, if_neg h2, if_pos h3]; exact ⟨rfl, rfl, rfl⟩
theorem ap_ok {l : List Ent} {x : Ent} (h : rgt x = true) (h2 : ¬ x.V < lastV l) (h3 : ¬ 4096 ≤ l.length) : apE l x = 0 ∧ apN l x = (l.length : Int) + 1 ∧ apL l x = l ++ [x] := by
  unfold apN apL apE; rw [h, if_pos rfl, if_neg h2, if_neg h3]; exact ⟨rfl, rfl, rfl⟩
/-- behind a step on a log -/
def After (ty : TypeId) (B g : Nat) (v : Value) (w : World) (l : List Ent) (w' : World) : Prop :=
  ∃ v', LI ty B g w' v' l ∧ LF g v.ownBlock w w' ∧ ∀ b, v'.ownBlock = some b → v.ownBlock = some b ∨ w.heap.size ≤ b
theorem After.same {ty : TypeId} {B g : Nat} {v : Value} {w w' : World} {l : List Ent} (h : LI ty B g w v l) (k : Below w.heap.size w w') : After ty B g v w l w' :=
  ⟨v, h.below k, LF.of_below k, fun _ hb => .inl hb⟩
theorem after_push {ty : TypeId} {B g r cap : Nat} {w W w3 : World} {v : Value} {l : List Ent} {y : Ent} {o : Obj} (h : LI ty B g w v l) (hW : Below w.heap.size w W) (_hB : B ≤ w.heap.size) (hown : ERow B w3 (.slice (some ⟨r, 0, none⟩) (l.length + 1) cap) (l ++ [y])) (hgr : ((W.alloc o).drew).grownBy w3 v.ownBlock) (hr : v.ownBlock = some r ∨ ((W.alloc o).drew).heap.size ≤ r) (hl : ¬ 4096 ≤ l.length) :
    After ty B g v w (l ++ [y]) (w3.setCell ⟨g, 0, none⟩ (.slice (some ⟨r, 0, none⟩) (l.length + 1) cap)) := by
  have hI := h.below hW
  have hglt := hI.lt
  have hsz : ((W.alloc o).drew).heap.size = W.heap.size + 1 := by show (W.heap.push _).size = _; simp
  have hrg : r ≠ g := by
    rcases hr with e | e
    · intro e'; subst e'; exact hI.ne e
    · omega
  have hg3 : w3.heap[g]? = some (.cells #[v] ty (0, 0)) := (hgr.block g (by omega) (fun e => hI.ne e.symm)).trans (((below_alloc W o).block g hglt).trans hI.hd)
  refine ⟨_, ⟨one_setCell hg3, hown.frame fun b hb => ?_, ?_, h.gB, by simp; omega⟩, ⟨hgr.os.trans hW.os, hgr.tape.trans hW.tape, hgr.output.trans hW.output, ?_, fun k hk hkg hko => ?_⟩, fun b hb => ?_⟩
  · cases hb
    exact set_off _ _ hrg
  · intro e; cases e; exact hrg rfl
  · have h1 := hW.size
    have h2 := hgr.size
    rw [World.size_setCell]
    omega
  · rw [set_off _ _ hkg]
    have h1 := hW.size
    exact (hgr.block k (by omega) hko).trans (((below_alloc W o).block k (by omega)).trans (hW.block k hk))
  · obtain rfl : r = b := Option.some.inj hb
    rcases hr with e | e
    · exact .inl e
    · have h1 := hW.size
      exact .inr (by omega)
theorem drewN_below (w : World) (n : Nat) : Below w.heap.size w (w.drewN n) := ⟨rfl, rfl, rfl, Nat.le_refl _, fun _ _ => rfl⟩
set_option maxRecDepth 100000 in
set_option maxHeartbeats 1000000 in
theorem append_no {g : Nat} {w : World} (x : Ent) (hx : rgt x = false) : Calls Try.prog 15 #[.pointer (some ⟨g, 0, none⟩), x.v] w fun e w' => e = .returned (.tuple #[.int .i64 0, .int .i64 4]) ∧ Below w.heap.size w w' := by
  have HR := hid (isRight_any x)
  rw [hx] at HR
  clear hx
  obtain ⟨V, C, R, K, A, N, p, t, d⟩ := x
  simp only [Ent.v] at HR ⊢
  go_enter Try.func15, Try.ntmps15
  go_wp2_with (first | (go_at_call 31; refine (HR.out _).mono ?_; rintro e w1 ⟨rfl, b1⟩))
  go_ret2
  exact ⟨rfl, (below_alloc _ _).next b1⟩
theorem append_nil_no (x : Ent) (hx : rgt x = false) (w : World) : Calls Try.prog 15 #[.pointer none, x.v] w fun e w' => e = .returned (.tuple #[.int .i64 0, .int .i64 4]) ∧ Below w.heap.size w w' := by
  have HR := hid (isRight_any x)
  rw [hx] at HR
  clear hx
  obtain ⟨V, C, R, K, A, N, p, t, d⟩ := x
  simp only [Ent.v] at HR ⊢
  go_enter Try.func15, Try.ntmps15
  go_wp2_with (first | (go_at_call 31; refine (HR.out _).mono ?_; rintro e w1 ⟨rfl, b1⟩))
  go_ret2
  exact ⟨rfl, (below_alloc _ _).next b1⟩
set_option maxRecDepth 100000 in
set_option maxHeartbeats 1000000 in
theorem append_nil_ok (x : Ent) (hx : rgt x = true) (w : World) : Calls Try.prog 15 #[.pointer none, x.v] w fun e w' => e = .returned (.tuple #[.int .i64 0, .int .i64 5]) ∧ Below w.heap.size w w' := by
  have HR := hid (isRight_any x)
  have hv := (rgt_parts hx).1.1
  rw [hx] at HR
  clear hx
  obtain ⟨V, C, R, K, A, N, p, t, d⟩ := x
  simp only [Ent.v] at HR ⊢
  simp only [] at hv
  go_enter Try.func15, Try.ntmps15
  go_wp2_with (first | (go_at_call 31; refine (HR.out _).mono ?_; rintro e w1 ⟨rfl, b1⟩; have HB1 : Hid (Box w.heap.size w1 ⟨V, C, R, K, A, N, p, t, d⟩) := hid ((show Box w.heap.size _ ⟨V, C, R, K, A, N, p, t, d⟩ from box_at w _).below b1 (by simp)); have HL1 : Hid (Below w.heap.size w w1) := hid ((below_alloc w _).next b1); clear b1))
  have c0 := HB1.out.cells.1
  go_quiet ((go_at_call 22; exact Calls.quiet_of_same (view_nil _)))
  go_wp2
  go_ret2
  exact ⟨rfl, HL1.out.next (drewN_below _ _)⟩
set_option maxRecDepth 100000 in
set_option maxHeartbeats 1000000 in
theorem append_state {B g : Nat} {w : World} {v : Value} {l : List Ent} (x : Ent) (h : LI 78 B g w v l) (hx : rgt x = true) (h2 : x.V < lastV l) : Calls Try.prog 15 #[.pointer (some ⟨g, 0, none⟩), x.v] w fun e w' => e = .returned (.tuple #[.int .i64 0, .int .i64 7]) ∧ Below w.heap.size w w' := by
  have HR := hid (isRight_any x)
  rw [hx] at HR
  clear hx
  have HV := hid (fun w' (k : Below w.heap.size w w') => view_any (h.below k))
  clear h
  obtain ⟨V, C, R, K, A, N, p, t, d⟩ := x
  simp only [Ent.v] at HR ⊢
  simp only [] at h2
  obtain ⟨q, hq⟩ : ∃ q, q = lastV l := ⟨_, rfl⟩
  rw [← hq] at h2 HV
  clear hq
  go_enter Try.func15, Try.ntmps15
  go_wp2_with (first | (go_at_call 31; refine (HR.out _).mono ?_; rintro e w1 ⟨rfl, b1⟩; have HB1 : Hid (Box w.heap.size w1 ⟨V, C, R, K, A, N, p, t, d⟩) := hid ((show Box w.heap.size _ ⟨V, C, R, K, A, N, p, t, d⟩ from box_at w _).below b1 (by simp)); have HL1 : Hid (Below w.heap.size w w1) := hid ((below_alloc w _).next b1); clear b1))
  have c0 := HB1.out.cells.1
  go_quiet ((go_at_call 22; exact Calls.quiet_of_same (HV.out _ (by exact HL1.out.next (drewN_below _ _)))))
  go_wp2
  go_ret2
  exact ⟨rfl, HL1.out.next (drewN_below _ _)⟩
set_option maxRecDepth 100000 in
set_option maxHeartbeats 1000000 in
theorem append_full {B g : Nat} {w : World} {v : Value} {l : List Ent} (x : Ent) (h : LI 78 B g w v l) (hx : rgt x = true) (h2 : ¬ x.V < lastV l) (h3 : 4096 ≤ l.length) : Calls Try.prog 15 #[.pointer (some ⟨g, 0, none⟩), x.v] w fun e w' => e = .returned (.tuple #[.int .i64 0, .int .i64 5]) ∧ Below w.heap.size w w' := by
  have HR := hid (isRight_any x)
  rw [hx] at HR
  clear hx
  have HV := hid (fun w' (k : Below w.heap.size w w') => view_any (h.below k))
  have HN := hid (fun w' (k : Below w.heap.size w w') => len_any (h.below k))
  clear h
  obtain ⟨V, C, R, K, A, N, p, t, d⟩ := x
  simp only [Ent.v] at HR ⊢
  simp only [] at h2
  obtain ⟨q, hq⟩ : ∃ q, q = lastV l := ⟨_, rfl⟩
  rw [← hq] at h2 HV
  clear hq
  go_enter Try.func15, Try.ntmps15
  go_wp2_with (first | (go_at_call 31; refine (HR.out _).mono ?_; rintro e w1 ⟨rfl, b1⟩; have HB1 : Hid (Box w.heap.size w1 ⟨V, C, R, K, A, N, p, t, d⟩) := hid ((show Box w.heap.size _ ⟨V, C, R, K, A, N, p, t, d⟩ from box_at w _).below b1 (by simp)); have HL1 : Hid (Below w.heap.size w w1) := hid ((below_alloc w _).next b1); clear b1))
  have c0 := HB1.out.cells.1
  go_quiet ((go_at_call 22; exact Calls.quiet_of_same (HV.out _ (by exact HL1.out.next (drewN_below _ _)))))
  go_wp2_with (first | (go_at_call 21; refine (HN.out _ (by exact HL1.out.next (drewN_below _ _))).mono ?_; rintro e w2 ⟨rfl, hw⟩; subst hw))
  go_ret2
  exact ⟨rfl, HL1.out.next (drewN_below _ _)⟩
set_option maxRecDepth 100000 in
set_option maxHeartbeats 1000000 in
theorem append_ok {B g : Nat} {w : World} {v : Value} {l : List Ent} (x : Ent) (h : LI 78 B g w v l) (hx : rgt x = true) (h2 : ¬ x.V < lastV l) (h3 : ¬ 4096 ≤ l.length) (hB : B ≤ w.heap.size) : Calls Try.prog 15 #[.pointer (some ⟨g, 0, none⟩), x.v] w fun e w' => e = .returned (.tuple #[.int .i64 ((l.length : Int) + 1), .int .i64 0]) ∧ After 78 B g v w (l ++ [x]) w' := by
  have HR := hid (isRight_any x)
  rw [hx] at HR
  clear hx
  have HV := hid (fun w' (k : Below w.heap.size w w') => view_any (h.below k))
  have HN := hid (fun w' (k : Below w.heap.size w w') => len_any (h.below k))
  have HH := hid h
  clear h
  obtain ⟨V, C, R, K, A, N, p, t, d⟩ := x
  simp only [Ent.v] at HR ⊢
  simp only [] at h2
  obtain ⟨q, hq⟩ : ∃ q, q = lastV l := ⟨_, rfl⟩
  rw [← hq] at h2 HV
  clear hq
  go_enter Try.func15, Try.ntmps15
  go_wp2_with (first | (go_at_call 31; refine (HR.out _).mono ?_; rintro e w1 ⟨rfl, b1⟩; have HB1 : Hid (Box w.heap.size w1 ⟨V, C, R, K, A, N, p, t, d⟩) := hid ((show Box w.heap.size _ ⟨V, C, R, K, A, N, p, t, d⟩ from box_at w _).below b1 (by simp)); have HL1 : Hid (Below w.heap.size w w1) := hid ((below_alloc w _).next b1); clear b1))
  have c0 := HB1.out.cells.1
  go_quiet ((go_at_call 22; exact Calls.quiet_of_same (HV.out _ (by exact HL1.out.next (drewN_below _ _)))))
  go_wp2_with (first | (go_at_call 21; refine (HN.out _ (by exact HL1.out.next (drewN_below _ _))).mono ?_; rintro e w2 ⟨rfl, hw⟩; subst hw))
  obtain ⟨W, hW⟩ : ∃ W, W = w1.drewN nq := ⟨_, rfl⟩
  have HLW : Hid (Below w.heap.size w W) := by rw [hW]; exact hid (HL1.out.next (drewN_below _ _))
  have HBW : Hid (Box w.heap.size W ⟨V, C, R, K, A, N, p, t, d⟩) := by rw [hW]; exact hid (HB1.out.below (drewN_below _ _) HB1.out.lt)
  rw [← hW]
  clear hW HL1 HB1 c0
  have HIW := hid (HH.out.below HLW.out)
  obtain ⟨c0, c1, c2, c3, c4, c5, c6, c7, c8⟩ := HBW.out.cells
  have e0 := HIW.out.c0
  have hgl := HIW.out.lt
  have HNB : Hid (Box W.heap.size ((W.alloc (.cells #[.int .i64 V, .int .i64 C, .int .i64 R, .int .i64 K, .int .i64 A, .int .i64 N, .string p, .string t, .string d] 25)).drew) ⟨V, C, R, K, A, N, p, t, d⟩) := hid (box_at W _)
  have HRW : Hid (ERow B ((W.alloc (.cells #[.int .i64 V, .int .i64 C, .int .i64 R, .int .i64 K, .int .i64 A, .int .i64 N, .string p, .string t, .string d] 25)).drew) v l) := hid (HIW.out.row.below (below_alloc W _).drew)
  have HBS : Hid (B ≤ ((W.alloc (.cells #[.int .i64 V, .int .i64 C, .int .i64 R, .int .i64 K, .int .i64 A, .int .i64 N, .string p, .string t, .string d] 25)).drew).heap.size) := hid (Nat.le_trans hB (Nat.le_trans HLW.out.size (below_alloc W _).size))
  have HG3 : Hid (∀ w3, ((W.alloc (.cells #[.int .i64 V, .int .i64 C, .int .i64 R, .int .i64 K, .int .i64 A, .int .i64 N, .string p, .string t, .string d] 25)).drew).grownBy w3 v.ownBlock → w3.heap[g]? = some (.cells #[v] 78 (0, 0))) := hid fun w3 hg => (hg.block g (Nat.lt_of_lt_of_le HIW.out.lt (below_alloc W _).size) (fun e => HIW.out.ne e.symm)).trans (((below_alloc W _).block g HIW.out.lt).trans HIW.out.hd)
  have HH3 := hid h3
  go_cut [] (fun wx => After 78 B g v w (l ++ [⟨V, C, R, K, A, N, p, t, d⟩]) wx)
  case first =>
    go_region_law (refine stepE rfl (.tmp 28) (.tmp 30) rfl B v l ⟨V, C, R, K, A, N, p, t, d⟩ (by simp [Act.eval]) W.heap.size (by simp [Act.eval]) HNB.out HRW.out (by omega) HBS.out ?_; intro r cap w3 hown3 hgrow3 hr3; have hg3 := HG3.out w3 hgrow3; have f3 := free_of_one hg3; have k3 := cell_of_one hg3)
    all_goals
      have hmid := hid (after_push HH.out HLW.out hB hown3 hgrow3 hr3 HH3.out)
      clear hown3 hgrow3 hr3 hg3
      go_wp2
      go_meet
      exact hmid.out
  case rest =>
    rename World => w4
    have HA := hid hcut
    clear hcut
    obtain ⟨v4, h4, hf4, ho4⟩ := HA.out
    have HN4 := hid (len_any h4)
    clear h4 hf4 ho4
    go_wp2_with (first | (go_at_call 21; refine (HN4.out).mono ?_; rintro e w5 ⟨rfl, hw⟩; subst hw))
    go_ret2
    exact ⟨by simp, HA.out⟩
end Go.Proofs.Ytcaedajbkdploaa
