import Derived.Test.YtopebghandojbaaGreatNc
namespace Go.Proofs.YtopebghandojbaaGreat
open Go.RowKit Go.Maps

set_option maxRecDepth 100000 in
theorem run_upto69 {ao : Option Addr} {n cap k : Nat} (hk : k ≤ cap) (w : World) : (Instr.slice 69 (.slice ao n cap) none (some (.int .i64 (k : Int))) none).run Tryz.prog w = .ok (.slice ao k cap) w := by
  have := run_slice_h (P := Tryz.prog) w 69 ao n cap under54 .i64 (k : Int) (by omega) (by omega)
  rw [this, run_size31]
  have e : (ao.map fun x : Addr => x.add 0) = ao := by cases ao <;> simp [Addr.add]
  simp [Result.andThen, sliced, e]
set_option maxRecDepth 100000 in
set_option maxHeartbeats 4000000 in
/-- the blocks that transactions may change, behind the first commits -/
theorem state_any (x y z n : Nat) (hx : x ≤ 1024) (lv : Value) (DL : List (Value × List Chg)) (hn : n ≤ DL.length) (hD : ∀ X ∈ DL.map (·.2), okX y x X) (w : World) (hl : VLie w lv DL) :
    Calls Tryz.prog 38 #[.agg #[.int .i64 x, .int .i64 y, .int .i64 z], lv, .int .i64 (n : Int)] w fun e w' => ∃ gb, e = .returned (.slice (some ⟨gb, 0, none⟩) x x) ∧ Fis gb x x w' (stD ((DL.map (·.2)).take n)) ∧ Below w.heap.size w w' ∧ w.heap.size ≤ gb := by
  obtain ⟨cs, hmk, hmF⟩ := mkSk x hx
  have HBK : Hid (∀ w, Calls Tryz.prog 49 #[.int .u8 0] w fun e w' => e = .returned (.string Dv.Z) ∧ Below w.heap.size w w') := hid (fun w => by rw [← Z_eq]; exact Dv.block_any 0 w)
  have HVL := hid hl
  have HDD := hid hD
  obtain ⟨ao, cap, rfl, hlc, hcm, hcell⟩ := hl
  unfold maxLen at hcm
  have HC := hid hcell
  clear hcell hD
  have HMF := hid hmF
  clear hmF
  have hmk1 := hmk (w.alloc (.cells #[.int .i64 (x : Int), .int .i64 (y : Int), .int .i64 (z : Int)] 23))
  have hsl : ∀ w' : World, (Instr.slice 69 (.slice ao DL.length cap) none (some (.int .i64 (n : Int))) none).run Tryz.prog w' = .ok (.slice ao n cap) w' := fun w' => run_upto69 (by omega) w'
  have hB0 : Below w.heap.size w ((w.alloc (.cells #[.int .i64 (x : Int), .int .i64 (y : Int), .int .i64 (z : Int)] 23)).alloc (.cells cs 9)) := (below_alloc _ _).next (below_alloc _ _)
  have hF0 := HMF.out (w.alloc (.cells #[.int .i64 (x : Int), .int .i64 (y : Int), .int .i64 (z : Int)] 23)) (fun _ => Dv.Z)
  have HB0 := hid hB0
  have HF0 := hid hF0
  clear hB0 hF0 hmk
  have hgb : (w.alloc (.cells #[.int .i64 (x : Int), .int .i64 (y : Int), .int .i64 (z : Int)] 23)).heap.size = w.heap.size + 1 := by simp
  have hgw : w.heap.size ≤ w.heap.size + 1 := Nat.le_succ _
  rw [hgb] at HF0
  go_enter Tryz.func38, Tryz.ntmps38
  go_wp2
  clear hmk1
  obtain ⟨w0, hw0⟩ : ∃ w0, w0 = (w.alloc (.cells #[.int .i64 (x : Int), .int .i64 (y : Int), .int .i64 (z : Int)] 23)).alloc (.cells cs 9) := ⟨_, rfl⟩
  rw [← hw0] at HF0 HB0 ⊢
  clear hw0 hgb
  go_loopw [18] (fun i wr => ∃ q : Nat, i = .int .i64 q ∧ q ≤ x ∧ Fis (w.heap.size + 1) x q wr (fun _ => Dv.Z) ∧ Below w.heap.size w wr) (fun i _ => x - (intOf i).toNat)
  case atStart => exact ⟨0, rfl, Nat.zero_le _, HF0.out, HB0.out⟩
  case round =>
    obtain ⟨q, rfl, hq, hFi, hB⟩ := hrel
    have HFi := hid hFi
    have HB := hid hB
    clear hFi hB
    by_cases hqc : q < x
    · go_wp2_with (go_at_call 49; refine (HBK.out _).mono ?_; rintro e w1 ⟨rfl, hb1⟩; have hb2 : Below wr.heap.size wr w1 := ⟨hb1.os, hb1.tape, hb1.output, hb1.size, hb1.block⟩; have HF1 := hid (HFi.out.below hb2); have HB1 := hid (HB.out.next hb2); obtain ⟨x1, hx1⟩ := HF1.out.get q hqc; have hf1 := HF1.out.free q)
      go_roundw
      case rel => exact ⟨q + 1, by go_num, by omega, HF1.out.set hqc, HB1.out.setCell hgw _⟩
      case measure => simp only [intOf] at *; omega
    · have hqe : q = x := by omega
      subst hqe
      go_wp2
      go_loopw [30] (fun i wr => ∃ p : Nat, i = .int .i64 p ∧ p ≤ n ∧ Fis (w.heap.size + 1) q q wr (stD ((DL.map (·.2)).take p)) ∧ Below w.heap.size w wr) (fun i _ => n - (intOf i).toNat)
      case atStart => exact ⟨0, rfl, Nat.zero_le _, HFi.out, HB.out⟩
      case round =>
        clear HFi HB
        obtain ⟨p, rfl, hp, hFi, hB⟩ := hrel
        have HFi := hid hFi
        have HB := hid hB
        clear hFi hB
        by_cases hpn : p < n
        · have hpl : p < DL.length := by omega
          obtain ⟨ga, off, e, hga, c0, hcl⟩ := HC.out p hpl
          subst e
          have HST := hid (stD_take (DL.map (·.2)) p (by simpa using hpl))
          have hmem : DL[p].2 ∈ DL.map (·.2) := List.mem_map.2 ⟨_, List.getElem_mem hpl, rfl⟩
          have hok := HDD.out _ hmem
          rw [List.getElem_map] at HST
          replace c0 := (HB.out.cell (p := ⟨ga, off + p, none⟩) hga).trans c0
          have hgr : ga < wr.heap.size := Nat.lt_of_lt_of_le hga HB.out.size
          obtain ⟨cv, hcv⟩ : ∃ cv, cv = DL[p] := ⟨_, rfl⟩
          rw [← hcv] at c0 hcl HST hok
          obtain ⟨cv, L⟩ := cv
          clear hcv hmem
          have hcl : CLie w cv L := hcl
          obtain ⟨x1, x2, _⟩ := hok.rise
          have HPH := hid (put_hom L (stD ((DL.map (·.2)).take p)) x1 (fun c hc => by have := x2 c hc; omega))
          have HX2 := hid x2
          clear x1 x2 hok
          obtain ⟨bo, bc, rfl, hbl, hbm, hbcell⟩ := hcl
          have HCL := hid hbcell
          unfold maxLen at hbm
          clear hbcell
          go_wp2
          go_loopw [36] (fun i wx => ∃ u : Nat, i = .int .i64 u ∧ u ≤ L.length ∧ Fis (w.heap.size + 1) q q wx ((L.take u).foldl putF (stD ((DL.map (·.2)).take p))) ∧ Below w.heap.size w wx) (fun i _ => L.length - (intOf i).toNat)
          case atStart => exact ⟨0, rfl, Nat.zero_le _, HFi.out, HB.out⟩
          case round =>
            clear HFi HB c0 hgr
            obtain ⟨u, rfl, hu, hFi, hB⟩ := hrel
            rename World => wx
            have HFi := hid hFi
            have HB := hid hB
            clear hFi hB
            by_cases hul : u < L.length
            · obtain ⟨g2, o2, e, hg2, c1, c2⟩ := HCL.out u hul
              subst e
              have hc3 := HX2.out _ (List.getElem_mem hul)
              have HTK : Hid ((L.take (u + 1)).foldl putF (stD ((DL.map (·.2)).take p)) = putF ((L.take u).foldl putF (stD ((DL.map (·.2)).take p))) L[u]) := hid (by rw [List.take_succ_eq_append_getElem hul, List.foldl_append]; rfl)
              replace c1 := (HB.out.cell (p := ⟨g2, o2 + u * 2, none⟩) hg2).trans c1
              replace c2 := (HB.out.cell (p := ⟨g2, o2 + u * 2 + 1, none⟩) hg2).trans c2
              have hg3 : g2 < wx.heap.size := Nat.lt_of_lt_of_le hg2 HB.out.size
              obtain ⟨c, hc⟩ : ∃ c, c = L[u] := ⟨_, rfl⟩
              rw [← hc] at c1 c2 HTK hc3
              obtain ⟨cb, cd⟩ := c
              clear hc
              have hc3 : 1 + (y : Int) ≤ cb ∧ cb < q ∧ cd.size = 128 := hc3
              obtain ⟨b, rfl⟩ : ∃ b : Nat, cb = b := ⟨cb.toNat, by omega⟩
              have hbq : b < q := by omega
              have HB2 := hid (HB.out.next (below_alloc wx (.cells #[.int .i64 (b : Int), .string cd] 94)))
              have HF2 := hid (HFi.out.below (below_alloc wx (.cells #[.int .i64 (b : Int), .string cd] 94)))
              obtain ⟨x1, hx1⟩ := HF2.out.get b hbq
              have hf1 := HF2.out.free b
              have HP := hid (HF2.out.put ⟨(b : Int), cd⟩ (by show (b : Int).toNat < q; omega))
              rw [← HTK.out] at HP
              have eb : (⟨(b : Int), cd⟩ : Chg).b.toNat = b := by show (b : Int).toNat = b; omega
              rw [eb] at HP
              have HV := hid (box_at wx (.cells #[.int .i64 (b : Int), .string cd] 94))
              clear hc3
              go_wp2
              go_roundw
              case rel => exact ⟨u + 1, by go_num, by omega, HP.out, HB2.out.setCell hgw _⟩
              case measure => simp only [intOf] at *; omega
            · have hue : u = L.length := by omega
              subst hue
              go_wp2
              go_roundw
              case rel => exact ⟨p + 1, by go_num, by omega, by rw [HST.out, ← HPH.out]; have := HFi.out; rw [List.take_length] at this; exact this, HB.out⟩
              case measure => simp only [intOf] at *; omega
        · have hpe : p = n := by omega
          subst hpe
          go_wp2
          go_ret
          exact ⟨_, rfl, HFi.out, HB.out, hgw⟩
/-- the two states that a mended device may have, so far as they are compared -/
noncomputable def isB (x y : Nat) (st st' : Nat → ByteArray) : Bool := @decide (∀ k, 1 + y ≤ k → k < x → st k = st' k) (Classical.propDecidable _)
theorem isB_self (x y : Nat) (st : Nat → ByteArray) : isB x y st st = true := by unfold isB; exact @decide_eq_true _ (Classical.propDecidable _) (fun _ _ _ => rfl)
set_option maxRecDepth 100000 in
set_option maxHeartbeats 4000000 in
/-- are a store's blocks a state? -/
theorem is_any {B s g x y z j m k gb : Nat} {W2 : World} {st st' : Nat → ByteArray} (hx : x ≤ 1024) (hy : y ≤ 1024) (w : World) (h : MendD B s g x y z j m W2 st k w) (hB : B ≤ W2.heap.size) (hF : Fis gb x x w st') :
    Calls Tryz.prog 37 #[.pointer (some ⟨s, 0, none⟩), .agg #[.int .i64 x, .int .i64 y, .int .i64 z], .slice (some ⟨gb, 0, none⟩) x x] w fun e w' => e = .returned (.bool (isB x y st st')) ∧ Below w.heap.size w w' := by
  have HM : Hid (∀ w', Below w.heap.size w w' → ∀ i, 1 + y ≤ i → i < x → Calls Tryz.prog 23 #[.pointer (some ⟨s, 0, none⟩), .int .i64 (i : Int)] w' fun e w'' => e = .returned (.tuple #[.string (st i), .int .i64 0]) ∧ Below w'.heap.size w' w'') := hid (fun w' kb i h1 h2 => (h.below kb hB).read i h1 h2)
  have HF := hid hF
  have hgl : gb < w.heap.size := by obtain ⟨cur, h1, _⟩ := hF; exact lt_of_block h1
  obtain ⟨R, hR⟩ : ∃ R, R = isB x y st st' := ⟨_, rfl⟩
  rw [← hR]
  have HR := hid hR
  clear hR h hF
  go_enter Tryz.func37, Tryz.ntmps37
  go_wp2
  go_loopw [7] (fun i wr => ∃ p : Nat, i = .int .i64 p ∧ 1 + y ≤ p ∧ p ≤ 2000 ∧ (∀ k, 1 + y ≤ k → k < p → st k = st' k) ∧ Below w.heap.size w wr ∧ wr.heap[w.heap.size]? = some (.cells #[.int .i64 (x : Int), .int .i64 (y : Int), .int .i64 (z : Int)] 23 (0, 0))) (fun i _ => x - (intOf i).toNat)
  case atStart => exact ⟨1 + y, by go_num, Nat.le_refl _, by omega, fun k h1 h2 => by omega, below_alloc _ _, box_at _ _⟩
  case round =>
    obtain ⟨p, rfl, hp1, hp2, hr, hb, hX⟩ := hrel
    have HRR := hid hr
    have HB := hid hb
    have HX := hid hX
    obtain ⟨d0, d1, d2⟩ := three_cells hX
    clear hr hb hX
    by_cases hpx : p < x
    · have HRD := hid (HM.out wr HB.out p hp1 hpx)
      have hc0 : wr.cell? ⟨gb, p, none⟩ = some (.string (st' p)) := by
        obtain ⟨cur, h1, h2, h3⟩ := HF.out
        have e := (HB.out.block _ hgl).trans h1
        simp [World.cell?, e, h3 p hpx]
      have hgr : gb < wr.heap.size := Nat.lt_of_lt_of_le hgl HB.out.size
      by_cases he : st p = st' p
      · have HRR2 : Hid (∀ k, 1 + y ≤ k → k < p + 1 → st k = st' k) := hid (fun k h1 h2 => by
          by_cases e : k = p
          · rw [e]; exact he
          · exact HRR.out k h1 (by omega))
        rw [he] at HRD
        obtain ⟨u, hu⟩ : ∃ u, u = st' p := ⟨_, rfl⟩
        rw [← hu] at HRD hc0
        clear hu he
        go_wp2_with (first
          | (go_at_call 23; refine HRD.out.mono ?_; rintro e w2 ⟨rfl, hb2⟩
             have HB2 := hid hb2
             have hc2 := (hb2.cell (p := ⟨gb, p, none⟩) hgr).trans hc0
             clear hb2))
        go_roundw
        case rel => exact ⟨p + 1, by go_num, by omega, by omega, HRR2.out, HB.out.next HB2.out, (HB2.out.block _ (lt_of_block HX.out)).trans HX.out⟩
        case measure => simp only [intOf] at *; omega
      · have hRf : R = false := by
          rw [HR.out]
          unfold isB
          exact @decide_eq_false _ (Classical.propDecidable _) (fun hh => he (hh p hp1 hpx))
        subst hRf
        obtain ⟨u, hu⟩ : ∃ u, u = st p := ⟨_, rfl⟩
        obtain ⟨v, hv⟩ : ∃ v, v = st' p := ⟨_, rfl⟩
        rw [← hu] at HRD he
        rw [← hv] at hc0 he
        have hl : u.toList ≠ v.toList := fun e => he (by
          rw [Lib.toList_data, Lib.toList_data] at e
          exact ByteArray.ext (Array.toList_inj.1 e))
        have hne : (u.toList == v.toList) = false := by simp [hl]
        have hne2 : (u.toList != v.toList) = true := by simp [hl]
        clear hl
        clear hu hv he
        go_wp2_with (first
          | (go_at_call 23; refine HRD.out.mono ?_; rintro e w2 ⟨rfl, hb2⟩
             have HB2 := hid hb2
             have hc2 := (hb2.cell (p := ⟨gb, p, none⟩) hgr).trans hc0
             clear hb2))
        go_ret
        exact ⟨rfl, HB.out.next HB2.out⟩
    · have hRt : R = true := by
        rw [HR.out]
        unfold isB
        exact @decide_eq_true _ (Classical.propDecidable _) (fun k h1 h2 => HRR.out k h1 (by omega))
      subst hRt
      go_wp2
      go_ret
      exact ⟨rfl, HB.out⟩
end Go.Proofs.YtopebghandojbaaGreat
