import Derived.Carry
import Derived.Test.YtabkfmmbjjchdaaTe
namespace Go.Proofs.Ytabkfmmbjjchdaa
open Go.RowKit Go.Maps

theorem eq_map (mb : Option Nat) (w : World) : (binOp .eql 58 (.map mb) (.map none)).run Try.prog w = .ok (.bool mb.isNone) w := by
  have u := run_underlying (P := Try.prog) Try.underlying58
  have h : ∀ d : Nat, (Op.equalIn (d + 1) 58 (.map mb) (.map none)).run Try.prog w = .ok mb.isNone w := fun d => by
    cases mb <;> simp [Op.equalIn, u]
  simp only [binOp]
  simp [Op.equal, Op.maxDepth, h 9999]
theorem TB.ne {g N b : Nat} {w : World} {L : List Kx} (h : TB g (some b) w N L) : g ≠ b := fun e => by
  obtain ⟨n, D, ⟨es, clock, h1, _⟩, _⟩ := h.map b rfl
  have := h.box
  rw [e, h1] at this
  cases this
/-- a table behind a store -/
theorem TB.put {g N b : Nat} {w w' : World} {L : List Kx} (h : TB g (some b) w N L) (x : Kx) (hx : SLie w x.nv x.ns) (hm : MIs b w' (N + 1) (withL L x)) (hg : w.grownBy w' (some b)) : TB g (some b) w' (N + 1) (withL L x) ∧ KQ g (some b) w w' := by
  have hK : KQ g (some b) w w' := ⟨hg.os, hg.tape, hg.output, hg.size, fun j hj _ h2 => hg.block j hj h2⟩
  refine ⟨⟨(hg.block g h.lt (fun e => h.ne (Option.some.inj e))).trans h.box, (fun e => by cases e), (fun c hc => by cases hc; exact hm), fun y hy => ?_⟩, hK⟩
  rcases (withL_mem h.rise x y).1 hy with rfl | ⟨hy, _⟩
  · exact hx.kq h hK
  · exact (h.nv y hy).kq h hK
theorem okc_in {c r : Int} (h : okc c r = true) : inI c := by have := (okc_iff c r).1 h; unfold inI; omega
set_option maxRecDepth 100000 in
set_option maxHeartbeats 1000000 in
theorem begin_some {g N b : Nat} {w : World} {L : List Kx} (h : TB g (some b) w N L) (hN : N < 1000000000000000) (c r : Int) (ho : okc c r = true) (hs : stt (at_ L c).n (at_ L c).d r = 1) (hlen : L.length ≤ 1000000000000) (hr : room L c = true) : Calls Try.prog 8 #[.pointer (some ⟨g, 0, none⟩), .int .i64 c, .int .i64 r] w fun e w' => e = .returned (.int .i64 0) ∧ TB g (some b) w' (N + 1) (withL L (mkK c r false rz)) ∧ KQ g (some b) w w' := by
  have hc := okc_in ho
  have HF := hid (fun (W : World) (hW : Below w.heap.size w W) => find_any (h.below hW) c hc)
  have HM := hid (fun (W : World) (hW : Below w.heap.size w W) => hasRoom_any (h.below hW) c hc hlen)
  have HT := hid (fun (W : World) (hW : Below w.heap.size w W) => h.below hW)
  have HS := hid (fun W => state_any (at_ L c) r W)
  rw [hs] at HS
  rw [hr] at HM
  have hq := eq_map (some b)
  clear hs hr h
  go_enter Try.func8, Try.ntmps8
  go_wp2_with (first
    | (go_at_call 20; refine (isRight_any _ _ _).mono ?_; rintro e w' ⟨rfl, he⟩; have he := he.symm; subst he; rw [ho])
    | (go_at_call 21; refine (HF.out _ (Below.refl _ _)).mono ?_; rintro e w1 ⟨rfl, hb1⟩; have HB1 := hid hb1; clear hb1)
    | (go_at_call 22; refine (HS.out _).mono ?_; rintro e w2 ⟨rfl, hb2⟩; have HB2 := hid (HB1.out.next hb2); clear hb2)
    | (go_at_call 23; refine (HM.out _ HB2.out).mono ?_; rintro e w3 ⟨rfl, hb3⟩; have HB3 := hid (HB2.out.next hb3); have HT3 := hid (HT.out _ HB3.out); have c0 : w3.cell? ⟨g, 0, none⟩ = some (.map (some b)) := (by simp [World.cell?, HT3.out.box]); obtain ⟨w4, hrun, hm4, hg4, _⟩ := (HT3.out.map b rfl).store hN (mkK c r false rz) hc; simp only [Kx.v, mkK, rz] at hrun; have HM4 := hid hm4; have HG4 := hid hg4; clear hb3 hm4 hg4))
  go_ret
  obtain ⟨t1, t2⟩ := HT3.out.put (mkK c r false rz) (SLie.nil _) HM4.out HG4.out
  exact ⟨rfl, t1, KQ.after HB3.out t2⟩
set_option maxRecDepth 100000 in
set_option maxHeartbeats 1000000 in
theorem begin_none {g N : Nat} {w : World} {L : List Kx} (h : TB g none w N L) (hN : N < 1000000000000000) (c r : Int) (ho : okc c r = true) (hs : stt (at_ L c).n (at_ L c).d r = 1) (hr : room L c = true) : Calls Try.prog 8 #[.pointer (some ⟨g, 0, none⟩), .int .i64 c, .int .i64 r] w fun e w' => e = .returned (.int .i64 0) ∧ ∃ b, w.heap.size ≤ b ∧ TB g (some b) w' (N + 1) (withL L (mkK c r false rz)) ∧ KQ g none w w' := by
  have hc := okc_in ho
  have hL := h.non rfl
  have HF := hid (fun (W : World) (hW : Below w.heap.size w W) => find_any (h.below hW) c hc)
  have HM := hid (fun (W : World) (hW : Below w.heap.size w W) => hasRoom_any (h.below hW) c hc (by rw [hL]; simp))
  have HT := hid (fun (W : World) (hW : Below w.heap.size w W) => h.below hW)
  have HS := hid (fun W => state_any (at_ L c) r W)
  rw [hs] at HS
  rw [hr] at HM
  have HLn := hid hL
  have hglt := h.lt
  have hq := eq_map none
  have hmm := fun w => run_makeMap (P := Try.prog) 58 w
  clear hs hr h hL
  go_enter Try.func8, Try.ntmps8
  go_upto_region 9 with (first
    | (go_at_call 20; refine (isRight_any _ _ _).mono ?_; rintro e w' ⟨rfl, he⟩; have he := he.symm; subst he; rw [ho])
    | (go_at_call 21; refine (HF.out _ (Below.refl _ _)).mono ?_; rintro e w1 ⟨rfl, hb1⟩; have HB1 := hid hb1; clear hb1)
    | (go_at_call 22; refine (HS.out _).mono ?_; rintro e w2 ⟨rfl, hb2⟩; have HB2 := hid (HB1.out.next hb2); clear hb2)
    | (go_at_call 23; refine (HM.out _ HB2.out).mono ?_; rintro e w3 ⟨rfl, hb3⟩; have HB3 := hid (HB2.out.next hb3); have HT3 := hid (HT.out _ HB3.out); have c0 : w3.cell? ⟨g, 0, none⟩ = some (.map none) := (by simp [World.cell?, HT3.out.box]); have cf : w3.frozen? ⟨g, 0, none⟩ = false := (by simp [World.frozen?, HT3.out.box]); have hg3 := HT3.out.lt; clear hb3))
  obtain ⟨wS, hwS⟩ : ∃ wS, wS = w3.setCell ⟨g, 0, none⟩ (.map (some w3.heap.size)) := ⟨_, rfl⟩
  have hKS : KP g w3 wS := by rw [hwS]; exact setCell_kp _ _ _ _
  have hsS : wS.heap.size = w3.heap.size := by rw [hwS]; show (w3.heap.modify _ _).size = _; simp
  have hbS : wS.heap[g]? = some (.cells #[.map (some w3.heap.size)] 60 (0, 0)) := by
    rw [hwS]
    simp [World.setCell, Array.getElem?_modify, HT3.out.box]
  rw [← hwS]
  obtain ⟨w4, hw4⟩ : ∃ w4, w4 = wS.alloc (.map #[] 0) := ⟨_, rfl⟩
  have hbx : w4.heap[g]? = some (.cells #[.map (some w3.heap.size)] 60 (0, 0)) := by
    rw [hw4]
    exact (Below.heap_alloc wS _ g (by omega)).trans hbS
  have hm4 : MIs w3.heap.size w4 N L := by
    rw [HLn.out, hw4, ← hsS]
    obtain ⟨n, D, h1, h2, h3⟩ := MIs.made wS
    exact ⟨n, D, h1, by omega, h3⟩
  have hT4 : TB g (some w3.heap.size) w4 N L := ⟨hbx, (fun e => by cases e), (fun b hb => by cases hb; exact hm4), (fun x hx => by rw [HLn.out] at hx; cases hx)⟩
  have hBS : Below wS.heap.size wS w4 := by rw [hw4]; exact below_alloc _ _
  have hK : KQ g none w3 w4 := ⟨hBS.os.trans hKS.os, hBS.tape.trans hKS.tape, hBS.output.trans hKS.output, Nat.le_trans hKS.size hBS.size, fun j hj h1 _ => (hBS.block j (by omega)).trans (hKS.block j hj h1)⟩
  rw [← hw4]
  obtain ⟨b, hb⟩ : ∃ b, b = w3.heap.size := ⟨_, rfl⟩
  rw [← hb] at hT4 hm4 ⊢
  have d0 : w4.cell? ⟨g, 0, none⟩ = some (.map (some b)) := by simp [World.cell?, hT4.box]
  obtain ⟨w5, hrun, hm5, hg5, _⟩ := hm4.store hN (mkK c r false rz) hc
  simp only [Kx.v, mkK, rz] at hrun
  have HM5 := hid hm5
  have HG5 := hid hg5
  have HT4 := hid hT4
  have HK := hid hK
  have HBb := hid hb
  clear hw4 hwS hbx hbS hKS hBS hm4 hT4 hK hb c0 cf hm5 hg5 hsS
  go_wp2
  go_ret
  obtain ⟨t1, t2⟩ := HT4.out.put (mkK c r false rz) (SLie.nil _) HM5.out HG5.out
  refine ⟨rfl, b, by rw [HBb.out]; exact HB3.out.size, t1, KQ.after HB3.out ⟨t2.os.trans HK.out.os, t2.tape.trans HK.out.tape, t2.output.trans HK.out.output, Nat.le_trans HK.out.size t2.size, fun j hj h1 h2 => ?_⟩⟩
  exact (t2.block j (Nat.lt_of_lt_of_le hj HK.out.size) h1 (by rw [HBb.out]; intro e; have := Option.some.inj e; omega)).trans (HK.out.block j hj h1 h2)
set_option maxRecDepth 100000 in
theorem begin_far {p : Value} (c r : Int) (w : World) (ho : okc c r = false) : Calls Try.prog 8 #[p, .int .i64 c, .int .i64 r] w fun e w' => e = .returned (.int .i64 1) ∧ Below w.heap.size w w' := by
  go_enter Try.func8, Try.ntmps8
  go_wp2_with (first
    | (go_at_call 20; refine (isRight_any _ _ _).mono ?_; rintro e w' ⟨rfl, he⟩; have he := he.symm; subst he; rw [ho]))
  go_ret
  exact ⟨rfl, Below.refl _ _⟩
/-- what may have come of a table's map -/
def Mb (w : World) (mb mb' : Option Nat) : Prop := mb' = mb ∨ (mb = none ∧ ∃ b, mb' = some b ∧ w.heap.size ≤ b)
theorem begin_any {g N : Nat} {mb : Option Nat} {w : World} {L : List Kx} (h : TB g mb w N L) (hN : N < 1000000000000000) (hlen : L.length ≤ 1000000000000) (c r : Int) : Calls Try.prog 8 #[.pointer (some ⟨g, 0, none⟩), .int .i64 c, .int .i64 r] w fun e w' => e = .returned (.int .i64 (begE L c r)) ∧ ∃ mb', TB g mb' w' (N + 1) (begL L c r) ∧ Mb w mb mb' ∧ KQ g mb w w' := by
  by_cases hy : okc c r = true ∧ stt (at_ L c).n (at_ L c).d r = 1 ∧ room L c = true
  · obtain ⟨ho, hs, hr⟩ := hy
    have e0 : begE L c r = 0 := by unfold begE; rw [if_pos ho, if_pos hs, if_pos hr]
    have e1 : begL L c r = withL L (mkK c r false rz) := by unfold begL; rw [if_pos e0]
    rw [e0, e1]
    cases mb with
    | none => exact (begin_none h hN c r ho hs hr).mono fun e w' ⟨he, b, hb, ht, hk⟩ => ⟨he, some b, ht, .inr ⟨rfl, b, rfl, hb⟩, hk⟩
    | some b => exact (begin_some h hN c r ho hs hlen hr).mono fun e w' ⟨he, ht, hk⟩ => ⟨he, some b, ht, .inl rfl, hk⟩
  · have e0 : begE L c r = if okc c r then (if stt (at_ L c).n (at_ L c).d r = 1 then 5 else 7) else 1 := by
      unfold begE
      by_cases ho : okc c r = true
      · rw [if_pos ho, if_pos ho]
        by_cases hs : stt (at_ L c).n (at_ L c).d r = 1
        · rw [if_pos hs, if_pos hs, if_neg (fun hr => hy ⟨ho, hs, hr⟩)]
        · rw [if_neg hs, if_neg hs]
      · rw [if_neg ho, if_neg ho]
    have e1 : begL L c r = L := by
      unfold begL
      rw [e0, if_neg]
      split
      · split <;> decide
      · decide
    rw [e0, e1]
    by_cases hc : inI c
    · refine (begin_no c r w (x := at_ L c) (rm := room L c) (hid fun W hW => find_any (h.below hW) c hc) (hid fun W hW => hasRoom_any (h.below hW) c hc hlen) hy).mono fun e w' ⟨he, hb⟩ => ⟨he, mb, ?_, .inl rfl, KQ.of hb⟩
      have ht := h.below hb
      exact ⟨ht.box, ht.non, fun b hb => by obtain ⟨n, D, h1, h2, h3⟩ := ht.map b hb; exact ⟨n, D, h1, by omega, h3⟩, ht.nv⟩
    · have ho : okc c r = false := by cases hh : okc c r with | false => rfl | true => exact absurd (okc_in hh) hc
      rw [ho]
      simp only [Bool.false_eq_true, if_false]
      refine (begin_far c r w ho).mono fun e w' ⟨he, hb⟩ => ⟨he, mb, ?_, .inl rfl, KQ.of hb⟩
      have ht := h.below hb
      exact ⟨ht.box, ht.non, fun b hb => by obtain ⟨n, D, h1, h2, h3⟩ := ht.map b hb; exact ⟨n, D, h1, by omega, h3⟩, ht.nv⟩
end Go.Proofs.Ytabkfmmbjjchdaa
