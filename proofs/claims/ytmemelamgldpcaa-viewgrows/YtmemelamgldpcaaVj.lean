import Derived.Test.YtmemelamgldpcaaVh
import Derived.Test.YtmemelamgldpcaaVi
namespace Go.Proofs.Ytmemelamgldpcaa
open Go.RowKit

theorem below_alloc (w : World) (o : Obj) : Below w.heap.size w (w.alloc o) := (Below.refl _ _).alloc (Nat.le_refl _) _
theorem _root_.Go.RowKit.Below.next {B : Nat} {a b c : World} (h : Below B a b) (k : Below b.heap.size b c) (hB : B ≤ b.heap.size) : Below B a c := h.trans (k.mono hB)
theorem olie_new (w : World) (q : Nat) (hq : q = w.heap.size) (e : TypeId) (f a p : Int) : OLie (w.alloc (.cells #[.int .i64 f, .int .i64 a, .int .i64 p] e)) (.slice (some ⟨q, 0, none⟩) 1 1) [⟨f, a, p⟩] := by
  subst hq
  refine ⟨_, 1, rfl, Nat.le_refl _, by decide, fun i hi => ⟨w.heap.size, 0, rfl, by simp, ?_⟩⟩
  rw [World.cell?_alloc_at _ _ _ _ rfl, World.cell?_alloc_at _ _ _ _ rfl, World.cell?_alloc_at _ _ _ _ rfl]
  match i, hi with
  | 0, _ => exact ⟨rfl, rfl, rfl⟩
set_option maxRecDepth 100000 in
set_option maxHeartbeats 2000000 in
theorem commits_walk {v u : Value} {l : List Int} {m : List Off} {w : World} (h : ILie w v l) (hm : OLie w u m) (_ : l.length < 140737488355328) (hz : m.length * 24 < 140737488355328) : Calls Try.prog 4 #[v, u] w fun e w' => e = .returned (.bool true) ∧ Below w.heap.size w w' := by
  obtain ⟨a, ha⟩ : ∃ a, a = comR l := ⟨_, rfl⟩
  obtain ⟨e0, he0⟩ : ∃ a, a = comE l := ⟨_, rfl⟩
  obtain ⟨c, hc⟩ : ∃ a, a = besR m := ⟨_, rfl⟩
  obtain ⟨g0, hg0⟩ : ∃ a, a = besE m := ⟨_, rfl⟩
  have C1 := hid (fun (W : World) (hi : ILie W v l) => commit_any hi)
  have C2 := hid (fun (W : World) (hi : ILie W v l) => rcommit_any hi)
  have C3 := hid (fun (W : World) (hi : OLie W u m) => best_any hi)
  have C4 := hid (fun (W : World) (x : Value) (hi : OLie W x m) => rbest_any hi)
  rw [← ha, ← he0] at C1 C2
  rw [← hc, ← hg0] at C3 C4
  clear ha he0 hc hg0
  have HI := hid h
  have HM := hid hm
  obtain ⟨ao, cap, rfl, h1, h2, h3⟩ := h
  obtain ⟨ao', cap', rfl, m1, m2, m3⟩ := hm
  have hml := m2
  unfold maxLen at hml
  obtain ⟨n, hn⟩ : ∃ n, n = m.length := ⟨_, rfl⟩
  rw [← hn] at m1 hz HM C3 ⊢
  replace hn := hid hn
  replace m3 := hid m3
  clear h1 h2 h3 m2
  go_enter Try.func4, Try.ntmps4
  go_wp2_with (first
    | (go_at_call 15; refine (C1.out _ HI.out).mono ?_; rintro e w1 ⟨rfl, hb1⟩; have HI1 := hid (HI.out.below hb1))
    | (go_at_call 16; refine (C2.out _ HI1.out).mono ?_; rintro e w2 ⟨rfl, hb2⟩))
  have HB := hid (hb1.next hb2 hb1.size)
  clear hb1 hb2 HI1
  go_loopw [28, 9] (fun i x wr => ∃ k : Nat, k ≤ n ∧ i = .int .i64 k ∧ Hid (ORow 39 w2.heap.size wr x (m.take k)) ∧ Hid (Below w2.heap.size w2 wr)) (fun i _ _ => n - (intOf i).toNat)
  case atStart => exact ⟨0, Nat.zero_le _, rfl, hid (ORow.nil _ _ _), hid (Below.refl _ _)⟩
  case round =>
    obtain ⟨k, hk, rfl, HR, HW⟩ := hrel
    by_cases hlt : k < n
    · have hk' : k < m.length := by rw [← hn.out]; exact hlt
      obtain ⟨gb, off, ea, hgb, a0, a1, a2⟩ := m3.out k hk'
      subst ea
      have HBr : Below w.heap.size w wr := HB.out.next HW.out HB.out.size
      obtain ⟨x, hx⟩ : ∃ x, x = m[k]'hk' := ⟨_, rfl⟩
      rw [← hx] at a0 a1 a2
      rw [← HBr.cell (p := ⟨gb, off + k * 3, none⟩) hgb] at a0
      rw [← HBr.cell (p := ⟨gb, off + k * 3 + 1, none⟩) hgb] at a1
      rw [← HBr.cell (p := ⟨gb, off + k * 3 + 2, none⟩) hgb] at a2
      have hgr : gb < wr.heap.size := Nat.lt_of_lt_of_le hgb HBr.size
      have HT : Hid (m.take (k + 1) = m.take k ++ [x]) := hid (by rw [hx]; exact List.take_succ_eq_append_getElem hk')
      have hlen : Hid ((m.take k).length ≤ k) := hid (by rw [List.length_take]; omega)
      clear hx hk' HBr
      obtain ⟨x1, x2, x3⟩ := x
      simp only at a0 a1 a2
      have HR1 := hid (HR.out.below (below_alloc wr (.cells #[.int .i64 x1, .int .i64 x2, .int .i64 x3] 38)))
      have HW1 := hid (HW.out.next (below_alloc wr (.cells #[.int .i64 x1, .int .i64 x2, .int .i64 x3] 38)) HW.out.size)
      go_wp2_with (first
        | (at_builtin; refine appR rfl (.tmp 32) (.tmp 40) rfl w2.heap.size _ _ (m.take k) [⟨x1, x2, x3⟩] rfl rfl (HR1.out.below (below_alloc _ _)) (olie_new _ _ (by simp) 39 x1 x2 x3) (by simp) (by have := hlen.out; simp only [List.length_cons, List.length_nil]; omega) (HW1.out.next (below_alloc _ _) HW1.out.size).size ?_; intro v3 w3 r3 b3 _ _; have HR3 := hid r3; have HW3 := hid ((HW1.out.next (below_alloc _ _) HW1.out.size).trans b3); clear r3 b3))
      go_roundw
      case rel => exact ⟨k + 1, hlt, by simp, hid (by rw [HT.out]; exact HR3.out), HW3⟩
      case measure => simp [intOf]; omega
    · have hkn : k = n := by omega
      have HR2 : Hid (∀ x, ORow 39 w2.heap.size wr x (m.take k) → OLie wr x m) := hid (fun x hr => by
        rw [hkn, hn.out, List.take_length] at hr
        exact hr.lie)
      have HL := hid (HR2.out _ HR.out)
      have HBr := hid (HB.out.next HW.out HB.out.size)
      have HMr := hid (HM.out.below (HBr.out))
      clear HR HR2
      replace hkn := hid hkn
      go_wp2_with (first
        | (go_at_call 17; refine (C3.out _ HMr.out).mono ?_; rintro e w4 ⟨rfl, hb4⟩; have HL4 := hid (HL.out.below hb4))
        | (go_at_call 18; refine (C4.out _ _ HL4.out).mono ?_; rintro e w5 ⟨rfl, hb5⟩)
        | (go_at_call 14; refine (speaks_any _).mono ?_; rintro e w6 ⟨rfl, hb6⟩))
      go_ret
      have B4 := HBr.out.next hb4 HBr.out.size
      have B5 := B4.next hb5 B4.size
      exact ⟨rfl, B5.next hb6 B5.size⟩
end Go.Proofs.Ytmemelamgldpcaa
