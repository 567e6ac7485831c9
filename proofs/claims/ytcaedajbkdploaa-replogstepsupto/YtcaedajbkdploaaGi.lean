import Derived.Test.YtcaedajbkdploaaGf
namespace Go.Proofs.Ytcaedajbkdploaa
open Go.RowKit Go.Maps

set_option maxRecDepth 100000 in
theorem replace_full {B g : Nat} {w : World} {v0 : Value} {l m : List Ent} (k : Nat) (v : Value) (h : LI 78 B g w v0 l) (hm : ELie w v m) (hk : k ≤ l.length) (hr : m.all rgt = true) (hf : fallB (lastV (l.take k)) m = false) (h5 : (4096 : Int) - k < m.length) : Calls Try.prog 17 #[.pointer (some ⟨g, 0, none⟩), .int .i64 k, v] w fun e w' => e = .returned (.int .i64 5) ∧ Below w.heap.size w w' := by
  have hLN : LN (.pointer (some ⟨g, 0, none⟩)) w l := .inr ⟨B, g, v0, rfl, h⟩
  have hlen := h.len
  have HL := hid (len_g hLN)
  have HR := hid (allRight_any hm)
  rw [hr] at HR
  have HC := hid (fun w' (b : Below w.heap.size w w') => cut_g (hLN.below b) 0 k (Nat.zero_le _) hk)
  have HV := hid (fun w' u (hu : ELie w' u (l.take k)) => lastView_any hu)
  have HF := hid (fun q w' (b : Below w.heap.size w w') => fall_any q (hm.below b))
  obtain ⟨q, hq⟩ : ∃ q, q = lastV (l.take k) := ⟨_, rfl⟩
  rw [← hq] at HV hf
  have HF2 := hid (HF.out q)
  rw [hf] at HF2
  obtain ⟨ao, cap, rfl, hlc, hcm, _⟩ := hm
  unfold maxLen at hcm
  clear h hLN hr hf HF hq
  simp only [List.drop_zero] at HC
  have h1 : ¬ (l.length : Int) < k := by omega
  go_enter Try.func17, Try.ntmps17
  go_wp2_with (first
    | (go_at_call 21; refine (HL.out).mono ?_; rintro e w1 ⟨rfl, hw⟩; subst hw)
    | (go_at_call 44; refine (HR.out).mono ?_; rintro e w2 ⟨rfl, hb2⟩; have HB2 := hid hb2; clear hb2)
    | (go_at_call 47; refine (HC.out _ HB2.out).mono ?_; rintro e w3 ⟨u3, rfl, hu3, hw⟩; subst hw)
    | (go_at_call 46; refine (HV.out _ _ hu3).mono ?_; rintro e w4 ⟨rfl, hw⟩; subst hw)
    | (go_at_call 45; refine (HF2.out _ HB2.out).mono ?_; rintro e w5 ⟨rfl, hb5⟩; have HB5 := hid (HB2.out.next hb5); clear hb5))
  go_ret
  exact ⟨rfl, HB5.out⟩
theorem after_set {ty : TypeId} {B g : Nat} {w W w3 : World} {v v' : Value} {l m : List Ent} (h : LI ty B g w v l) (hW : Below w.heap.size w W) (hB : B ≤ w.heap.size) (hown : ERow W.heap.size w3 v' m) (hb3 : Below W.heap.size W w3) (hl : m.length ≤ 4096) :
    After ty B g v w m (w3.setCell ⟨g, 0, none⟩ v') := by
  have hI := h.below hW
  have hglt := hI.lt
  have hs1 := hW.size
  have hg3 : w3.heap[g]? = some (.cells #[v] ty (0, 0)) := (hb3.block g hglt).trans hI.hd
  have hrow : ERow B w3 v' m := by
    obtain ⟨e1, e2 | ⟨x, cap, cur, e3, e4, e5⟩⟩ := hown
    · exact ⟨e1, .inl e2⟩
    · exact ⟨e1, .inr ⟨x, cap, cur, e3, by omega, e5⟩⟩
  have hne : v'.ownBlock ≠ some g := fun e => by have := (hown.own g e).1; omega
  refine ⟨v', ⟨one_setCell hg3, hrow.frame fun b hb => set_off _ _ (fun e => hne (e ▸ hb)), hne, h.gB, hl⟩, ⟨hb3.os.trans hW.os, hb3.tape.trans hW.tape, hb3.output.trans hW.output, ?_, fun k hk hkg _ => ?_⟩, fun b hb => .inr ?_⟩
  · have h2 := hb3.size
    rw [World.size_setCell]
    omega
  · rw [set_off _ _ hkg]
    exact (hb3.block k (by omega)).trans (hW.block k hk)
  · have := (hown.own b hb).1
    omega
set_option maxRecDepth 100000 in
set_option maxHeartbeats 1000000 in
theorem replace_ok {B g : Nat} {w : World} {v0 : Value} {l m : List Ent} (k : Nat) (v : Value) (h : LI 78 B g w v0 l) (hm : ELie w v m) (hk : k ≤ l.length) (hr : m.all rgt = true) (hf : fallB (lastV (l.take k)) m = false) (h5 : ¬ (4096 : Int) - k < m.length) (hB : B ≤ w.heap.size) : Calls Try.prog 17 #[.pointer (some ⟨g, 0, none⟩), .int .i64 k, v] w fun e w' => e = .returned (.int .i64 0) ∧ After 78 B g v0 w (l.take k ++ m) w' := by
  have hLN : LN (.pointer (some ⟨g, 0, none⟩)) w l := .inr ⟨B, g, v0, rfl, h⟩
  have hlen := h.len
  have HH := hid h
  have HL := hid (len_g hLN)
  have HR := hid (allRight_any hm)
  rw [hr] at HR
  have HC := hid (fun w' (b : Below w.heap.size w w') => cut_g (hLN.below b) 0 k (Nat.zero_le _) hk)
  have HV := hid (fun w' u (hu : ELie w' u (l.take k)) => lastView_any hu)
  have HF := hid (fun q w' (b : Below w.heap.size w w') => fall_any q (hm.below b))
  obtain ⟨q, hq⟩ : ∃ q, q = lastV (l.take k) := ⟨_, rfl⟩
  rw [← hq] at HV hf
  have HF2 := hid (HF.out q)
  rw [hf] at HF2
  have HKL : Hid ((l.take k).length = k) := hid (by rw [List.length_take]; omega)
  have HM := hid hm
  have HTL : Hid ((l.take k).length ≤ 4096 ∧ m.length ≤ 4096 ∧ (l.take k ++ m).length ≤ 4096) := hid (by rw [List.length_append, List.length_take]; omega)
  obtain ⟨ao, cap, rfl, hlc, hcm, _⟩ := hm
  unfold maxLen at hcm
  have HCC := hid (fun (w : World) (b : Nat) (u : Value) (hb : w.heap[b]? = some (.cells #[u, .slice ao m.length cap] 41 (0, 0))) (hu : ELie w u (l.take k)) (hv : ELie w (.slice ao m.length cap) m) => concat_any hb hu hv HTL.out.1 HTL.out.2.1)
  clear h hLN hr hf HF hq
  simp only [List.drop_zero] at HC
  have h1 : ¬ (l.length : Int) < k := by omega
  go_enter Try.func17, Try.ntmps17
  go_wp2_with (first
    | (go_at_call 21; refine (HL.out).mono ?_; rintro e w1 ⟨rfl, hw⟩; subst hw)
    | (go_at_call 44; refine (HR.out).mono ?_; rintro e w2 ⟨rfl, hb2⟩; have HB2 := hid hb2; clear hb2)
    | (go_at_call 47; (fail_if_success (have hk := HU3)); refine (HC.out _ HB2.out).mono ?_; rintro e w3 ⟨u3, rfl, hu3, hw⟩; subst hw; have HU3 := hid hu3; clear hu3)
    | (go_at_call 46; refine (HV.out _ _ HU3.out).mono ?_; rintro e w4 ⟨rfl, hw⟩; subst hw)
    | (go_at_call 45; refine (HF2.out _ HB2.out).mono ?_; rintro e w5 ⟨rfl, hb5⟩; have HB5 := hid (HB2.out.next hb5); clear hb5)
    | (go_at_call 47; refine (HC.out _ HB5.out).mono ?_; rintro e w6 ⟨u6, rfl, hu6, hw⟩; subst hw; have HU6 := hid hu6; obtain ⟨a6, c6, hv6, _⟩ := hu6; rw [HKL.out] at hv6; subst hv6)
    | (go_at_call 48; refine (HCC.out _ _ _ (box_at w6 _) (HU6.out.below (below_alloc w6 _)) ((HM.out.below HB5.out).below (below_alloc w6 _))).mono ?_
       rintro e w7 ⟨v7, rfl, hr7, hb7⟩
       have HA := hid (after_set HH.out (HB5.out.next (below_alloc w6 (.cells #[.slice a6 k c6, .slice ao m.length cap] 41))) hB hr7 hb7 HTL.out.2.2)
       obtain ⟨a7, c7, hv7, _, _⟩ := hr7.len
       rw [List.length_append, HKL.out] at hv7
       subst hv7
       have hg7 := ((HH.out.below HB5.out).below (below_alloc w6 (.cells #[.slice a6 k c6, .slice ao m.length cap] 41))).below hb7
       have k7 := hg7.c0
       have f7 := hg7.fr
       clear hr7 hb7 hg7))
  go_ret
  exact ⟨rfl, HA.out⟩
/-- Replace, whatever it answers -/
theorem replace_any {B g : Nat} {w : World} {v0 : Value} {l m : List Ent} (k : Int) (v : Value) (h : LI 78 B g w v0 l) (hm : ELie w v m) (hB : B ≤ w.heap.size) : Calls Try.prog 17 #[.pointer (some ⟨g, 0, none⟩), .int .i64 k, v] w fun e w' => e = .returned (.int .i64 (rpE l k m)) ∧ After 78 B g v0 w (rpL l k m) w' := by
  have hLN : LN (.pointer (some ⟨g, 0, none⟩)) w l := .inr ⟨B, g, v0, rfl, h⟩
  by_cases h1 : k < 0 ∨ (l.length : Int) < k
  · have e : rpE l k m = 1 := by unfold rpE; rw [if_pos h1]
    unfold rpL
    rw [e, if_neg (by decide)]
    exact (replace_arg k v hLN h1).mono fun e w' ⟨a, b⟩ => ⟨a, by rw [b]; exact After.same h (Below.refl _ _)⟩
  · obtain ⟨n, rfl⟩ := Int.eq_ofNat_of_zero_le (show 0 ≤ k by omega)
    have hk : n ≤ l.length := by omega
    by_cases h2 : m.all rgt = false
    · have e : rpE l n m = 4 := by unfold rpE; rw [if_neg h1, if_pos h2]
      unfold rpL
      rw [e, if_neg (by decide)]
      exact (replace_form n v hLN hm hk h2).mono fun e w' ⟨a, b⟩ => ⟨a, After.same h b⟩
    · have h2' : m.all rgt = true := by simpa using h2
      cases h3 : fallB (lastV (l.take n)) m with
      | true =>
        have e : rpE l n m = 7 := by unfold rpE; rw [if_neg h1, if_neg h2, Int.toNat_natCast, if_pos h3]
        unfold rpL
        rw [e, if_neg (by decide)]
        exact (replace_state n v hLN hm hk h2' h3).mono fun e w' ⟨a, b⟩ => ⟨a, After.same h b⟩
      | false =>
        by_cases h4 : (4096 : Int) - n < m.length
        · have e : rpE l n m = 5 := by unfold rpE; rw [if_neg h1, if_neg h2, Int.toNat_natCast, h3, if_neg (by decide), if_pos h4]
          unfold rpL
          rw [e, if_neg (by decide)]
          exact (replace_full n v h hm hk h2' h3 h4).mono fun e w' ⟨a, b⟩ => ⟨a, After.same h b⟩
        · have e : rpE l n m = 0 := by unfold rpE; rw [if_neg h1, if_neg h2, Int.toNat_natCast, h3, if_neg (by decide), if_neg h4]
          unfold rpL
          rw [e, if_pos rfl, Int.toNat_natCast]
          exact replace_ok n v h hm hk h2' h3 h4 hB
theorem SL.rep {B g : Nat} {w : World} {l m : List Ent} (h : SL B g w l) (k : Int) (v : Value) (hm : ELie w v m) : Calls Try.prog 17 #[.pointer (some ⟨g, 0, none⟩), .int .i64 k, v] w fun e w' => e = .returned (.int .i64 (rpE l k m)) ∧ SL B g w' (rpL l k m) ∧ Below B w w' := by
  obtain ⟨v0, hv⟩ := h.li
  refine (replace_any k v hv hm h.sz).mono fun e w' ⟨h1, v', h2, h3, h4⟩ => ⟨h1, ⟨⟨v', h2⟩, Nat.le_trans h.sz h3.size⟩, h3.below hv.gB (fun b hb => (hv.row.own b hb).1) h.sz⟩
end Go.Proofs.Ytcaedajbkdploaa
