import Derived.Test.YtjnhibpebikkmaaGreatGe
import Derived.Test.YtjnhibpebikkmaaGreatFw
namespace Go.Proofs.YtjnhibpebikkmaaGreat
open Go.RowKit Go.Maps Go.Shelf

set_option maxRecDepth 100000 in
set_option maxHeartbeats 1000000 in
/-- Read of an inode that is there and not free -/
theorem read_ok {G : Geo} {p q cap m : Nat} {w : World} {F B : List ByteArray} (i : Int) (x k z : Nat) (hk : k ≤ 1024) (hx : x ≤ 9000000000000000000) (hu : usdE G B i = 0) (hz : (usdI G B i).z = (z : Int)) (hz1 : z ≤ 533248) (h : VI G p q cap m w F B) :
    Calls Tryz.prog 17 #[.pointer (some ⟨p, 0, none⟩), .int .i64 i, .int .i64 (x : Int), .int .i64 (k : Int)] w fun e w' => e = .returned (.tuple #[.string (st (bys G B (usdI G B i) (min x z) (min (min x z + k) z - min x z))), .int .i64 0]) ∧ Below w.heap.size w w' := by
  have HV := hid h
  have HN := hid (vnone_any h)
  have HU := hid (used_any i h)
  rw [hu] at HU
  obtain ⟨fr, hfr⟩ : ∃ fr, fr = min x z := ⟨_, rfl⟩
  obtain ⟨tt, htt⟩ : ∃ tt, tt = min (fr + k) z := ⟨_, rfl⟩
  rw [← hfr, ← htt]
  have HB := hid (fun w' (hv : VI G p q cap m w' F B) => bytes_any (w := w') (usdI G B i) fr (tt - fr) (by omega) (by omega) hv)
  rw [show fr + (tt - fr) = tt by omega] at HB
  have hm1 : min (x : Int) (z : Int) = (fr : Int) := by omega
  have hw1 : IntKind.i64.wrap ((fr : Int) + (k : Int)) = (fr : Int) + (k : Int) := by rw [IntKind.wrap_i64]; omega
  have hm2 : min ((fr : Int) + (k : Int)) (z : Int) = (tt : Int) := by omega
  have hk1 : decide ((1024 : Int) < (k : Int)) = false := by simp; omega
  have hk2 : ¬ 1024 < k := by omega
  obtain ⟨n, hn⟩ : ∃ n, n = usdI G B i := ⟨_, rfl⟩
  rw [← hn] at HU HB hz ⊢
  obtain ⟨rs, hrs⟩ : ∃ rs, rs = st (bys G B n fr (tt - fr)) := ⟨_, rfl⟩
  rw [← hrs] at HB ⊢
  clear h hu hn hrs hfr htt hk hx hz1
  obtain ⟨nk, nl, nz, na, nb, nc, nd, ne, nf, ns, nt⟩ := n
  simp only at hz
  subst hz
  simp only [Ino.v] at HU HB
  go_enter Tryz.func17, Tryz.ntmps17
  go_wp2_with (first
    | (go_at_call 26; refine HN.out.mono ?_; rintro e w0 ⟨rfl, hw⟩; have hw := hw.symm; subst hw)
    | (go_at_call 29; refine HU.out.mono ?_; rintro e w1 ⟨rfl, hb1⟩; have HB1 := hid hb1; clear hb1)
    | (go_at_call 38; refine (HB.out _ (by exact (HV.out.below HB1.out).below (below_alloc w1 _))).mono ?_; rintro e w2 ⟨rfl, hb2⟩))
  go_ret2
  exact ⟨rfl, (HB1.out.next (below_alloc _ _)).next hb2⟩
/-- a row of the call's own: texts -/
def SRow (base : Nat) (w : World) (v : Value) (l : List ByteArray) : Prop := w.ownsRow base 9 1 v l.length (l.map Value.string)
theorem SRow.nil (base : Nat) (w : World) : SRow base w (.slice none 0 0) [] := ⟨rfl, .inl ⟨rfl, rfl⟩⟩
theorem SRow.below {base : Nat} {w w' : World} {v : Value} {l : List ByteArray} (h : SRow base w v l) (k : Below w.heap.size w w') : SRow base w' v l := by
  obtain ⟨e1, e2 | ⟨x, cap, cur, e3, e4, e5, e6⟩⟩ := h
  · exact ⟨e1, .inl e2⟩
  · exact ⟨e1, .inr ⟨x, cap, cur, e3, e4, (k.block x (lt_of_block e5)).trans e5, e6⟩⟩
theorem SRow.own {base : Nat} {w : World} {v : Value} {l : List ByteArray} (h : SRow base w v l) : ∀ x, v.ownBlock = some x → base ≤ x ∧ x < w.heap.size := by
  obtain ⟨e1, ⟨rfl, _⟩ | ⟨x, cap, cur, rfl, e4, e5, e6⟩⟩ := h
  · intro x hx; cases hx
  · intro y hy; cases hy; exact ⟨e4, lt_of_block e5⟩
theorem SRow.len {base : Nat} {w : World} {v : Value} {l : List ByteArray} (h : SRow base w v l) : ∃ ao cap, v = .slice ao l.length cap := by
  rcases h.2 with ⟨rfl, hz⟩ | ⟨gb, cap, cur, rfl, _, _, r1, r2, _⟩
  · exact ⟨none, 0, by rw [hz]⟩
  · exact ⟨_, cap, rfl⟩
theorem pushS {ops : Array Oper} {rest : List Oper} {o : Oper} {a : Act} {Q : Exit → Act → World → Prop} {w0 : World} (hgd : o.guard = none) (s x : Operand)
    (ho : o.op = .call { callee := .builtin .append, args := #[s, x], argTypes := #[24, 24] }) (B1 bb : Nat) (v : Value) (T : List ByteArray) (y : ByteArray)
    (hs : a.eval s = v) (hx : a.eval x = .slice (some ⟨bb, 0, none⟩) 1 1) (hbb : bb = w0.heap.size) (hA : SRow B1 w0 v T) (hn : T.length ≤ 2000) (hbase : B1 ≤ w0.heap.size)
    (h : ∀ v' w', SRow B1 w' v' (T ++ [y]) → Below B1 w0 w' → wpList Tryz.prog ops Q rest (a.put o.dst v') w') :
    wpList Tryz.prog ops Q (o :: rest) a (w0.alloc (.cells #[.string y] 9)) := by
  subst hbb
  obtain ⟨i0, hi, hz0, hz1, hz2⟩ := info_parts Tryz.info9
  have ho2 := hA.own
  refine wpList_append_own _ hgd s x 24 ho B1 9 i0 (.string ⟨#[]⟩) 1 16 Tryz.underlying24 hi hz0 hz1 hz2 rfl (by decide) v T.length (T.map Value.string) hs (World.ownsRow.alloc hA _) ⟨w0.heap.size, 0, none⟩ 1 1 [.string y] hx rfl (by
      intro j u hu
      match j, hu with
      | 0, hu => simp at hu; subst hu; simp [Addr.add]
      | j + 1, hu => simp at hu) (by intro u hu; simp at hu; subst hu; rfl) (by unfold maxLen; omega) (by omega) (by simp; omega) ?_
  intro v' w' hown hg _
  refine h v' w' ?_ ?_
  · unfold SRow
    rw [List.map_append, List.length_append]
    exact hown
  · refine (below_alloc w0 (.cells #[.string y] 9)).mono hbase |>.trans ⟨hg.os, hg.tape, hg.output, hg.size, fun k hk => hg.block k ?_ ?_⟩
    · simp; omega
    · intro e
      have := (ho2 k e.symm).1
      omega
set_option maxRecDepth 100000 in
theorem little_any (w : World) : Calls Tryz.prog 15 #[] w fun e w' => e = .returned (.agg #[.int .i64 40, .int .i64 20, .int .i64 4]) ∧ Below w.heap.size w w' := by
  go_enter Tryz.func15, Tryz.ntmps15
  go_wp2
  refine bodyPost_ret (v := .agg #[.int .i64 40, .int .i64 20, .int .i64 4]) (by simp [results, Tryz.results15, go_sem]) rfl ⟨rfl, ?_⟩
  first
    | exact below_alloc _ _
    | exact (((below_alloc w _).setCell (by simp) _).setCell (by simp) _).setCell (by simp) _
set_option maxRecDepth 100000 in
set_option maxHeartbeats 1000000 in
theorem blank_any (w : World) : Calls Tryz.prog 16 #[.agg #[.int .i64 40, .int .i64 20, .int .i64 4]] w fun e w' => ∃ v, e = .returned v ∧ SRow w.heap.size w' v sF ∧ Below w.heap.size w w' := by
  have hmk := mk_n 128 (Nat.le_refl _)
  have HZ0 : Hid (Zs 128 = st (List.replicate 128 0)) := hid rfl
  go_enter Tryz.func16, Tryz.ntmps16
  go_wp2
  obtain ⟨w1, hw1⟩ : ∃ w1, w1 = w.alloc (.cells #[.int .i64 40, .int .i64 20, .int .i64 4] 23) := ⟨_, rfl⟩
  have hA1 : w1.heap[w.heap.size]? = some (.cells #[.int .i64 40, .int .i64 20, .int .i64 4] 23 (0, 0)) := by rw [hw1]; exact box_at _ _
  have hB1 : Below w.heap.size w w1 := by rw [hw1]; exact below_alloc w _
  rw [← hw1]
  have HA1 := hid hA1
  have HB1 := hid hB1
  clear hw1 hA1 hB1
  go_loopw [3, 4] (fun lv iv wr => ∃ j : Nat, iv = .int .i64 (j : Int) ∧ j ≤ 40 ∧ SRow w1.heap.size wr lv (List.replicate j (Zs 128)) ∧ Below w1.heap.size w1 wr) (fun _ iv _ => 40 - (intOf iv).toNat)
  case atStart => exact ⟨0, rfl, Nat.zero_le _, SRow.nil _ _, Below.refl _ _⟩
  case round =>
    obtain ⟨j, rfl, hj, hR, hB⟩ := hrel
    have HR := hid hR
    have HB := hid hB
    obtain ⟨ao, cl, rfl⟩ := hR.len
    rw [List.length_replicate] at HR ⊢
    have hAr := (hB.block _ (lt_of_block HA1.out)).trans HA1.out
    obtain ⟨a0, a1, a2⟩ := three_cells hAr
    clear hR hB hAr
    by_cases hjl : j < 40
    · have hmk1 := hmk wr
      obtain ⟨wm, hwm⟩ : ∃ wm, wm = wr.alloc (.cells (bc (List.replicate 128 0)).toArray 5) := ⟨_, rfl⟩
      have hcv : (convert 45 9 (.slice (some ⟨wr.heap.size, 0, none⟩) 128 128)).run Tryz.prog wm = .ok (.string (Zs 128)) wm := by rw [hwm]; exact (CIs.made wr (List.replicate 128 0)).conv 128 128 (by rw [List.length_replicate])
      have hBm : Below wr.heap.size wr wm := by rw [hwm]; exact below_alloc wr _
      rw [← hwm] at hmk1
      have HRm := hid (HR.out.below hBm)
      have HBm := hid (HB.out.next hBm)
      have HSm : Hid (w1.heap.size ≤ wm.heap.size) := hid HBm.out.size
      obtain ⟨zz, hzz⟩ : ∃ zz, zz = Zs 128 := ⟨_, rfl⟩
      rw [← hzz] at hcv HRm
      have HRP : Hid (List.replicate (j + 1) zz = List.replicate j zz ++ [zz]) := hid List.replicate_succ'
      have HZZ := hid hzz
      clear hwm hBm hzz hmk
      have hj2 : decide ((j : Int) < 1024) = true := by simp; omega
      have hm0 : (Instr.makeSlice 45 (.int .i64 128) (.int .i64 128)).run Tryz.prog wr = .ok (.slice (some ⟨wr.heap.size, 0, none⟩) 128 128) wm := hmk1
      clear hmk1
      go_wp2_with (first
        | (refine pushS rfl (.tmp 15) (.tmp 18) rfl w1.heap.size wm.heap.size _ (List.replicate j zz) zz rfl rfl rfl HRm.out (by simp; omega) HSm.out ?_
           intro v' w7 hr7 hb7
           have HR7 := hid hr7
           have HB7 := hid (HBm.out.trans hb7)
           clear hr7 hb7))
      go_roundw
      case rel =>
        refine ⟨j + 1, by go_num, by omega, ?_, HB7.out⟩
        have k := HR7.out
        rw [← HRP.out, HZZ.out] at k
        exact k
      case measure => simp only [intOf] at *; omega
    · have hje : j = 40 := by omega
      subst hje
      go_wp2
      go_ret
      refine ⟨.slice ao 40 cl, rfl, ?_, HB1.out.next HB.out⟩
      have k := HR.out
      obtain ⟨e1, e2 | ⟨x, cp, cur, e3, e4, e5⟩⟩ := k
      · exact ⟨e1, .inl e2⟩
      · exact ⟨e1, .inr ⟨x, cp, cur, e3, Nat.le_trans HB1.out.size e4, e5⟩⟩
end Go.Proofs.YtjnhibpebikkmaaGreat
