import Derived.Test.YtogiiefaakejlaaRa
import Derived.Deep.CutBlock
import Derived.Deep.DeepCutAuto
namespace Go.Proofs.Ytogiiefaakejlaa
open Go.RowKit Go.Maps

/-- one chunk more at the end of the document's row -/
theorem step_k {ops : Array Oper} {o : Oper} {a : Act} {w : World} {K : Act → World → Prop} {Q : Exit → Act → World → Prop} {E : Prop} (hg : o.guard = none) (s x : Operand)
    (hop : o.op = .call { callee := .builtin .append, args := #[s, x], argTypes := #[30, 30] }) (base : Nat) (v : Value) (l : List Ck) (c : Ck)
    (hs : a.eval s = v) (g : Nat) (hx : a.eval x = .slice (some ⟨g, 0, none⟩) 1 1) (hc : KBox 35 g w c) (hown : KRow base w v l) (hn : l.length ≤ 1000000) (hbase : base ≤ w.heap.size)
    (h : ∀ r cap w', KRow base w' (.slice (some ⟨r, 0, none⟩) (l.length + 1) cap) (l ++ [c]) → w.grownBy w' v.ownBlock → (v.ownBlock = some r ∨ w.heap.size ≤ r) → K (a.put o.dst (.slice (some ⟨r, 0, none⟩) (l.length + 1) cap)) w') :
    if Region.wanted o (yielded ops a.tmps) = true then Oper.wp Try.prog o a w K Q else E := by
  have hw : Region.wanted o (yielded ops a.tmps) = true := by simp [Region.wanted, hg]
  rw [if_pos hw]
  obtain ⟨i0, hi, hz0, hz1, hz2⟩ := info_parts Kinfo
  obtain ⟨c0, c1, c2, c3, c4⟩ := hc.cell
  obtain ⟨v', w', hr, h1, h2, _, h5⟩ := run_append_own_at (P := Try.prog) w base 30 o.type 35 i0 _ 5 48 Try.underlying30 hi hz0 hz1 hz2 rfl (by decide) v l.length (l.flatMap Ck.cs) hown ⟨g, 0, none⟩ 1 1 c.cs rfl
    (by
      intro j u hj
      match j, hj with
      | 0, hj => simp [Ck.cs] at hj; subst hj; simpa [Addr.add] using c0
      | 1, hj => simp [Ck.cs] at hj; subst hj; simpa [Addr.add] using c1
      | 2, hj => simp [Ck.cs] at hj; subst hj; simpa [Addr.add] using c2
      | 3, hj => simp [Ck.cs] at hj; subst hj; simpa [Addr.add] using c3
      | 4, hj => simp [Ck.cs] at hj; subst hj; simpa [Addr.add] using c4
      | j + 5, hj => simp [Ck.cs] at hj)
    (one_ck c) (by unfold maxLen; omega) (by omega) hbase
  obtain ⟨r, cap, rfl⟩ : ∃ r cap, v' = .slice (some ⟨r, 0, none⟩) (l.length + 1) cap := by
    obtain ⟨_, e | ⟨g', cap, cur, e, _⟩⟩ := h1
    · exact absurd e.2 (by omega)
    · exact ⟨g', cap, e⟩
  unfold Oper.wp execOp
  simp only [hop, resolve, invoke, builtin, Sem.run_bind, Sem.run_pure, Result.andThen_ok, List.map_toArray, List.map_cons, List.map_nil, hs, hx, hr]
  refine h r cap w' (by unfold KRow; rw [List.flatMap_append, List.length_append]; simpa using h1) h2 ?_
  rcases h5 with h5 | h5
  · exact .inl h5.symm
  · right
    have : r = w.heap.size := Option.some.inj h5
    omega
theorem push_done {base r rr cap4 : Nat} {w3 w4 : World} {L : List Ck} {c : Ck} {v2 : Value} {o : Obj} (hm2 : w3.heap[r]? = some (.cells #[v2] 42 (0, 0))) (hr2 : KRow base w3 v2 L) (hown4 : KRow base w4 (.slice (some ⟨rr, 0, none⟩) (L.length + 1) cap4) (L ++ [c])) (hgrow : ((w3.alloc o).drew).grownBy w4 v2.ownBlock) (hne : v2.ownBlock ≠ some r) (hbr : base ≤ r) (_hbz : base ≤ w3.heap.size) :
    ∃ v', (w4.setCell ⟨r, 0, none⟩ (.slice (some ⟨rr, 0, none⟩) (L.length + 1) cap4)).heap[r]? = some (.cells #[v'] 42 (0, 0)) ∧ KRow base (w4.setCell ⟨r, 0, none⟩ (.slice (some ⟨rr, 0, none⟩) (L.length + 1) cap4)) v' (L ++ [c]) ∧ Below base w3 (w4.setCell ⟨r, 0, none⟩ (.slice (some ⟨rr, 0, none⟩) (L.length + 1) cap4)) ∧ RFr base r w3 (w4.setCell ⟨r, 0, none⟩ (.slice (some ⟨rr, 0, none⟩) (L.length + 1) cap4)) := by
  have hsz : ((w3.alloc o).drew).heap.size = w3.heap.size + 1 := by show (w3.heap.push _).size = _; simp
  have hrl := lt_of_block hm2
  have hk : ∀ k, k < w3.heap.size → some k ≠ v2.ownBlock → w4.heap[k]? = w3.heap[k]? := fun k hk hn => (hgrow.block k (by rw [hsz]; omega) hn).trans (Below.heap_alloc _ _ _ hk)
  have hg4 := (hk r hrl (fun e => hne e.symm)).trans hm2
  have hs4 : w3.heap.size ≤ w4.heap.size := by have := hgrow.size; rw [hsz] at this; omega
  refine ⟨_, cells_set hg4 _, ?_, ?_, ?_⟩
  · refine hown4.frame fun b cs fz hb => Below.heap_setCell _ _ _ _ (fun e => ?_)
    have e2 : b = r := e
    rw [e2, hg4] at hb
    cases hb
  · have hB : Below base w3 w4 := ⟨hgrow.os, hgrow.tape, hgrow.output, hs4, fun k hkb => hk k (by omega) (fun e => by
      have := (hr2.own k e.symm).1
      omega)⟩
    exact hB.setCell (p := ⟨r, 0, none⟩) hbr _
  · refine ⟨by simp [World.setCell]; exact hs4, fun k hkl hkr hkn => ?_⟩
    refine (Below.heap_setCell _ _ _ _ hkr).trans (hk k hkl (fun e => ?_))
    obtain ⟨q1, cur, q2⟩ := hr2.own k e.symm
    rcases hkn with q | q
    · omega
    · exact q _ _ q2
/-- what the document's Add tells -/
def RAddR (base r : Nat) (w : World) (L : List Ck) (c : Ck) (e : Ending) (w' : World) : Prop :=
  e = .returned (.tuple #[.bool (addB L c), .int .i64 (addE L c)]) ∧ RI base r w' (addL L c) ∧ Below base w w' ∧ RFr base r w w'
set_option maxRecDepth 100000 in
set_option maxHeartbeats 1000000 in
theorem radd_bad {base r : Nat} {w : World} {L : List Ck} (h : RI base r w L) (c : Ck) (hs : c.dat.size ≤ maxLen) (hbw : base ≤ w.heap.size) (hr : rgt c = false) : Calls Try.prog 16 #[.pointer (some ⟨r, 0, none⟩), c.v] w (RAddR base r w L c) := by
  have hA : addB L c = false ∧ addE L c = 4 ∧ addL L c = L := by unfold addL addE addB; rw [hr]; exact ⟨rfl, rfl, rfl⟩
  have HCK := hid (right_any c hs)
  rw [hr] at HCK
  obtain ⟨dg, t, n, d, sm⟩ := c
  have HB := hid (below_alloc w (.cells #[.int .i64 dg, .int .i64 t, .int .i64 n, .string d, .int .i64 sm] 35))
  have HK := hid (KBox.made 35 w ⟨dg, t, n, d, sm⟩)
  unfold RAddR
  rw [hA.1, hA.2.1, hA.2.2]
  have H := hid h
  clear hA h hr hs
  go_enter Try.func16, Try.ntmps16
  go_wp2_with (go_at_call 12; fail)
  refine (HCK.out _).mono ?_
  rintro e w1 ⟨rfl, hb1⟩
  have HB1 := hid (HB.out.next hb1)
  have hk1 : KBox 35 w.heap.size w1 ⟨dg, t, n, d, sm⟩ := KBox.same HK.out (hb1.block _ (by simp))
  have HK1 := hid hk1
  clear hb1 hk1
  go_wp2
  go_ret2
  exact ⟨rfl, H.out.below HB1.out, HB1.out.mono hbw, RFr.of_below HB1.out⟩
set_option maxRecDepth 100000 in
set_option maxHeartbeats 1000000 in
theorem radd_other {base r : Nat} {w : World} {x : Ck} {rs : List Ck} (h : RI base r w (x :: rs)) (c : Ck) (hs : c.dat.size ≤ maxLen) (hbw : base ≤ w.heap.size) (hr : rgt c = true) (ho : okIn (x :: rs) c = false) : Calls Try.prog 16 #[.pointer (some ⟨r, 0, none⟩), c.v] w (RAddR base r w (x :: rs) c) := by
  have hA : addB (x :: rs) c = false ∧ addE (x :: rs) c = 7 ∧ addL (x :: rs) c = x :: rs := by unfold addL addE addB; rw [hr, ho]; exact ⟨rfl, rfl, rfl⟩
  have HCK := hid (right_any c hs)
  rw [hr] at HCK
  have HO2 : Hid (¬ (c.dg = x.dg ∧ c.tot = x.tot)) := by
    show ¬ _
    simpa [okIn] using ho
  obtain ⟨dg, t, n, d, sm⟩ := c
  have HB := hid (below_alloc w (.cells #[.int .i64 dg, .int .i64 t, .int .i64 n, .string d, .int .i64 sm] 35))
  have HK := hid (KBox.made 35 w ⟨dg, t, n, d, sm⟩)
  unfold RAddR
  rw [hA.1, hA.2.1, hA.2.2]
  have H := hid h
  clear hA h hr hs ho
  go_enter Try.func16, Try.ntmps16
  go_wp2_with (go_at_call 12; fail)
  refine (HCK.out _).mono ?_
  rintro e w1 ⟨rfl, hb1⟩
  have HB1 := hid (HB.out.next hb1)
  have hk1 : KBox 35 w.heap.size w1 ⟨dg, t, n, d, sm⟩ := KBox.same HK.out (hb1.block _ (by simp))
  have HK1 := hid hk1
  have h1 := H.out.below HB1.out
  obtain ⟨v1, hm1, hr1⟩ := h1.mem
  obtain ⟨k0, k1, k2, k3, k4⟩ := KBox.cell hk1
  simp only at k0 k1 k2 k3 k4
  have HR1 := hid h1
  obtain ⟨gx, cap, rfl, hgx, hcx⟩ := hr1.at (by simp)
  have c0 : w1.cell? ⟨r, 0, none⟩ = some (.slice (some ⟨gx, 0, none⟩) (x :: rs).length cap) := by rw [cell_of hm1]; rfl
  have q0 : w1.cell? ⟨gx, 0, none⟩ = some (.int .i64 x.dg) := hcx 0 (by simp) 0 (by omega)
  have q1 : w1.cell? ⟨gx, 1, none⟩ = some (.int .i64 x.tot) := hcx 0 (by simp) 1 (by omega)
  obtain ⟨lc1, lc2⟩ : (x :: rs).length ≤ cap ∧ cap ≤ maxLen := by
    obtain ⟨ao, cp, e, l1, l2⟩ := hr1.len
    cases e
    exact ⟨l1, l2⟩
  unfold maxLen at lc2
  obtain ⟨N, hN⟩ : ∃ N, N = (x :: rs).length := ⟨_, rfl⟩
  have hN0 : 0 < N := by rw [hN]; simp
  have eN : decide ((N : Int) > 0) = true := by simp; omega
  have HNN := hid hN
  rw [← hN] at c0 lc1
  obtain ⟨xd, hxd⟩ : ∃ xd, xd = x.dg := ⟨_, rfl⟩
  obtain ⟨xt, hxt⟩ : ∃ xt, xt = x.tot := ⟨_, rfl⟩
  rw [← hxd] at q0
  rw [← hxt] at q1
  have ho2 : ¬ (dg = x.dg ∧ t = x.tot) := HO2.out
  rw [← hxd, ← hxt] at ho2
  clear hb1 hk1 h1 hm1 hr1 hcx hN hxd hxt HO2
  by_cases hd : xd = dg
  · have hd2 : (xd != dg) = false := by simpa using hd
    have ht2 : (xt != t) = true := by simp; exact fun e => ho2 ⟨hd.symm, e.symm⟩
    clear hd ho2
    go_wp2
    go_quiet (fail)
    go_wp2
    go_ret2
    exact ⟨rfl, H.out.below (HB1.out.dN _), (HB1.out.dN _).mono hbw, RFr.of_below (HB1.out.dN _)⟩
  · have hd2 : (xd != dg) = true := by simpa using hd
    clear hd ho2
    go_wp2
    go_quiet (fail)
    go_wp2
    go_ret2
    exact ⟨rfl, H.out.below (HB1.out.dN _), (HB1.out.dN _).mono hbw, RFr.of_below (HB1.out.dN _)⟩
set_option maxRecDepth 100000 in
set_option maxHeartbeats 1000000 in
theorem radd_same {base r : Nat} {w : World} {x : Ck} {rs : List Ck} (h : RI base r w (x :: rs)) (c : Ck) (hs : c.dat.size ≤ maxLen) (hbw : base ≤ w.heap.size) (hr : rgt c = true) (ho : okIn (x :: rs) c = true) (hh : hasN (x :: rs) c.num = true) : Calls Try.prog 16 #[.pointer (some ⟨r, 0, none⟩), c.v] w (RAddR base r w (x :: rs) c) := by
  have hA : addB (x :: rs) c = false ∧ addE (x :: rs) c = 0 ∧ addL (x :: rs) c = x :: rs := by unfold addL addE addB; rw [hr, ho, hh]; exact ⟨rfl, rfl, rfl⟩
  have HCK := hid (right_any c hs)
  rw [hr] at HCK
  have HO2 : Hid (c.dg = x.dg ∧ c.tot = x.tot) := by
    show _ ∧ _
    simpa [okIn] using ho
  have HHA := hid (fun (w' : World) (h' : RI base r w' (x :: rs)) => rhas_any h' c.num)
  rw [hh] at HHA
  obtain ⟨dg, t, n, d, sm⟩ := c
  have HB := hid (below_alloc w (.cells #[.int .i64 dg, .int .i64 t, .int .i64 n, .string d, .int .i64 sm] 35))
  have HK := hid (KBox.made 35 w ⟨dg, t, n, d, sm⟩)
  unfold RAddR
  rw [hA.1, hA.2.1, hA.2.2]
  have H := hid h
  clear hA h hr hs ho hh
  go_enter Try.func16, Try.ntmps16
  go_wp2_with (go_at_call 12; fail)
  refine (HCK.out _).mono ?_
  rintro e w1 ⟨rfl, hb1⟩
  have HB1 := hid (HB.out.next hb1)
  have hk1 : KBox 35 w.heap.size w1 ⟨dg, t, n, d, sm⟩ := KBox.same HK.out (hb1.block _ (by simp))
  have HK1 := hid hk1
  have h1 := H.out.below HB1.out
  obtain ⟨v1, hm1, hr1⟩ := h1.mem
  obtain ⟨k0, k1, k2, k3, k4⟩ := KBox.cell hk1
  simp only at k0 k1 k2 k3 k4
  have HR1 := hid h1
  obtain ⟨gx, cap, rfl, hgx, hcx⟩ := hr1.at (by simp)
  have c0 : w1.cell? ⟨r, 0, none⟩ = some (.slice (some ⟨gx, 0, none⟩) (x :: rs).length cap) := by rw [cell_of hm1]; rfl
  have q0 : w1.cell? ⟨gx, 0, none⟩ = some (.int .i64 x.dg) := hcx 0 (by simp) 0 (by omega)
  have q1 : w1.cell? ⟨gx, 1, none⟩ = some (.int .i64 x.tot) := hcx 0 (by simp) 1 (by omega)
  obtain ⟨lc1, lc2⟩ : (x :: rs).length ≤ cap ∧ cap ≤ maxLen := by
    obtain ⟨ao, cp, e, l1, l2⟩ := hr1.len
    cases e
    exact ⟨l1, l2⟩
  unfold maxLen at lc2
  obtain ⟨N, hN⟩ : ∃ N, N = (x :: rs).length := ⟨_, rfl⟩
  have hN0 : 0 < N := by rw [hN]; simp
  have eN : decide ((N : Int) > 0) = true := by simp; omega
  have HNN := hid hN
  rw [← hN] at c0 lc1
  obtain ⟨xd, hxd⟩ : ∃ xd, xd = x.dg := ⟨_, rfl⟩
  obtain ⟨xt, hxt⟩ : ∃ xt, xt = x.tot := ⟨_, rfl⟩
  rw [← hxd] at q0
  rw [← hxt] at q1
  have hd2 : (xd != dg) = false := by rw [hxd, ← HO2.out.1]; simp
  have ht2 : (xt != t) = false := by rw [hxt, ← HO2.out.2]; simp
  clear hb1 hk1 h1 hm1 hr1 hcx hN hxd hxt HO2
  go_wp2
  go_quiet (fail)
  go_wp2_with (go_at_call 33; fail)
  refine (HHA.out _ (HR1.out.drew _)).mono ?_
  rintro e w2 ⟨rfl, hb2⟩
  generalize findC (x :: rs) n = fc
  obtain ⟨fd, ft, fn, fs, fm⟩ := fc
  have HB2 := hid (((HB1.out.dN _).next hb2).next (below_alloc w2 (.cells #[.int .i64 fd, .int .i64 ft, .int .i64 fn, .string fs, .int .i64 fm] 35)))
  clear hb2
  go_wp2
  go_ret2
  exact ⟨rfl, H.out.below HB2.out, HB2.out.mono hbw, RFr.of_below HB2.out⟩
set_option maxRecDepth 100000 in
set_option maxHeartbeats 1000000 in
theorem radd_new {base r : Nat} {w : World} {x : Ck} {rs : List Ck} (h : RI base r w (x :: rs)) (hok : LOk (x :: rs)) (c : Ck) (hs : c.dat.size ≤ maxLen) (hbw : base ≤ w.heap.size) (hr : rgt c = true) (ho : okIn (x :: rs) c = true) (hh : hasN (x :: rs) c.num = false) : Calls Try.prog 16 #[.pointer (some ⟨r, 0, none⟩), c.v] w (RAddR base r w (x :: rs) c) := by
  have hA : addB (x :: rs) c = true ∧ addE (x :: rs) c = 0 := by unfold addE addB; rw [hr, ho, hh]; exact ⟨rfl, rfl⟩
  have hAL : addL (x :: rs) c = (x :: rs) ++ [c] := by unfold addL; rw [hA.1]; rfl
  have HLEN : Hid ((x :: rs).length ≤ 128) := hok.len
  have HCK := hid (right_any c hs)
  rw [hr] at HCK
  have HO2 : Hid (c.dg = x.dg ∧ c.tot = x.tot) := by
    show _ ∧ _
    simpa [okIn] using ho
  have HHA := hid (fun (w' : World) (h' : RI base r w' (x :: rs)) => rhas_any h' c.num)
  rw [hh] at HHA
  obtain ⟨dg, t, n, d, sm⟩ := c
  have HB := hid (below_alloc w (.cells #[.int .i64 dg, .int .i64 t, .int .i64 n, .string d, .int .i64 sm] 35))
  have HK := hid (KBox.made 35 w ⟨dg, t, n, d, sm⟩)
  unfold RAddR
  rw [hA.1, hA.2]
  have H := hid h
  have HAL := hid hAL
  have HBR := hid h.br
  clear hA h hr hs ho hh hAL
  go_enter Try.func16, Try.ntmps16
  go_wp2_with (go_at_call 12; fail)
  refine (HCK.out _).mono ?_
  rintro e w1 ⟨rfl, hb1⟩
  have HB1 := hid (HB.out.next hb1)
  have hk1 : KBox 35 w.heap.size w1 ⟨dg, t, n, d, sm⟩ := KBox.same HK.out (hb1.block _ (by simp))
  have HK1 := hid hk1
  have h1 := H.out.below HB1.out
  obtain ⟨v1, hm1, hr1⟩ := h1.mem
  obtain ⟨k0, k1, k2, k3, k4⟩ := KBox.cell hk1
  simp only at k0 k1 k2 k3 k4
  have HR1 := hid h1
  obtain ⟨gx, cap, rfl, hgx, hcx⟩ := hr1.at (by simp)
  have c0 : w1.cell? ⟨r, 0, none⟩ = some (.slice (some ⟨gx, 0, none⟩) (x :: rs).length cap) := by rw [cell_of hm1]; rfl
  have q0 : w1.cell? ⟨gx, 0, none⟩ = some (.int .i64 x.dg) := hcx 0 (by simp) 0 (by omega)
  have q1 : w1.cell? ⟨gx, 1, none⟩ = some (.int .i64 x.tot) := hcx 0 (by simp) 1 (by omega)
  obtain ⟨lc1, lc2⟩ : (x :: rs).length ≤ cap ∧ cap ≤ maxLen := by
    obtain ⟨ao, cp, e, l1, l2⟩ := hr1.len
    cases e
    exact ⟨l1, l2⟩
  unfold maxLen at lc2
  obtain ⟨N, hN⟩ : ∃ N, N = (x :: rs).length := ⟨_, rfl⟩
  have hN0 : 0 < N := by rw [hN]; simp
  have eN : decide ((N : Int) > 0) = true := by simp; omega
  have HNN := hid hN
  rw [← hN] at c0 lc1
  obtain ⟨xd, hxd⟩ : ∃ xd, xd = x.dg := ⟨_, rfl⟩
  obtain ⟨xt, hxt⟩ : ∃ xt, xt = x.tot := ⟨_, rfl⟩
  rw [← hxd] at q0
  rw [← hxt] at q1
  have hd2 : (xd != dg) = false := by rw [hxd, ← HO2.out.1]; simp
  have ht2 : (xt != t) = false := by rw [hxt, ← HO2.out.2]; simp
  clear hb1 hk1 h1 hm1 hr1 hcx hN hxd hxt HO2
  go_wp2
  go_quiet (fail)
  go_wp2_with (go_at_call 33; fail)
  refine (HHA.out _ (HR1.out.drew _)).mono ?_
  rintro e w2 ⟨rfl, hb2⟩
  generalize findC (x :: rs) n = fc
  obtain ⟨fd, ft, fn, fs, fm⟩ := fc
  have HB2 := hid (((HB1.out.dN _).next hb2).next (below_alloc w2 (.cells #[.int .i64 fd, .int .i64 ft, .int .i64 fn, .string fs, .int .i64 fm] 35)))
  have hk2 : KBox 35 w.heap.size (w2.alloc (.cells #[.int .i64 fd, .int .i64 ft, .int .i64 fn, .string fs, .int .i64 fm] 35)) ⟨dg, t, n, d, sm⟩ := KBox.same (show KBox 35 w.heap.size (w1.drewN _) ⟨dg, t, n, d, sm⟩ from HK1.out) ((Below.heap_alloc _ _ _ (Nat.lt_of_lt_of_le (KBox.lt HK1.out) hb2.size)).trans (hb2.block _ (KBox.lt HK1.out)))
  clear hb2
  go_upto_region 8 with fail
  obtain ⟨w3, hw3⟩ : ∃ w3, w3 = w2.alloc (.cells #[.int .i64 fd, .int .i64 ft, .int .i64 fn, .string fs, .int .i64 fm] 35) := ⟨_, rfl⟩
  rw [← hw3] at HB2 hk2 ⊢
  clear hw3
  have h2 := H.out.below HB2.out
  obtain ⟨p0, p1, p2, p3, p4⟩ := KBox.cell hk2
  simp only at p0 p1 p2 p3 p4
  obtain ⟨v2, hm2, hr2⟩ := h2.mem
  have d0 : w3.cell? ⟨r, 0, none⟩ = some v2 := by rw [cell_of hm2]; rfl
  have HM2 := hid hm2
  have HR2 := hid hr2
  have hrl := lt_of_block hm2
  have hkl := KBox.lt hk2
  have hown : v2.ownBlock ≠ some r := by
    intro e
    obtain ⟨_, cur, hc⟩ := hr2.own r e
    rw [hm2] at hc
    cases hc
  have HOW := hid hown
  obtain ⟨ao2, cap2, hv2, l1, l2⟩ := hr2.len
  have hlen : (x :: rs).length ≤ 128 := HLEN.out
  have hbz : base ≤ w3.heap.size := by have := HB2.out.size; omega
  have hnew : KBox 35 w3.heap.size ((w3.alloc (.cells #[.int .i64 dg, .int .i64 t, .int .i64 n, .string d, .int .i64 sm] 35)).drew) ⟨dg, t, n, d, sm⟩ := by
    show (w3.heap.push _)[w3.heap.size]? = _
    simp [Ck.cs]
  have HNW := hid hnew
  have hszn : ((w3.alloc (.cells #[.int .i64 dg, .int .i64 t, .int .i64 n, .string d, .int .i64 sm] 35)).drew).heap.size = w3.heap.size + 1 := by show (w3.heap.push _).size = _; simp
  have HSZ := hid hszn
  have hone : v2.oneCell' = true := by rw [hv2]; rfl
  clear hk2 h2 hm2 hr2 hown hnew hszn l1 l2
  subst hv2
  go_cut [] (fun wx => ∃ v', wx.heap[r]? = some (.cells #[v'] 42 (0, 0)) ∧ KRow base wx v' ((x :: rs) ++ [⟨dg, t, n, d, sm⟩]) ∧ Below base w3 wx ∧ RFr base r w3 wx)
  case first =>
    go_region_law (refine step_k rfl (.tmp 53) (.tmp 55) rfl base _ (x :: rs) ⟨dg, t, n, d, sm⟩ (by simp [Act.eval]) w3.heap.size (by simp [Act.eval]) HNW.out (World.ownsRow.alloc HR2.out _) (by omega) (by rw [HSZ.out]; omega) ?_; intro rr cap4 w4 hown4 hgrow4 hr4; have hg4 : w4.heap[r]? = some (.cells #[.slice ao2 (x :: rs).length cap2] 42 (0, 0)) := (hgrow4.block r (by rw [HSZ.out]; omega) (fun e => HOW.out e.symm)).trans ((Below.heap_alloc _ _ _ hrl).trans HM2.out); have z0 : w4.cell? ⟨r, 0, none⟩ = some (.slice ao2 (x :: rs).length cap2) := cell_of hg4 0; have z1 := frees hg4 0)
    all_goals
      go_wp2
      go_meet
      exact push_done HM2.out HR2.out hown4 hgrow4 HOW.out HBR.out hbz
  case rest =>
    obtain ⟨v', hm5, hr5, hb5, hf5⟩ := hcut
    rename World => w5
    have HM5 := hid hm5
    have HR5 := hid hr5
    have HB5 := hid hb5
    have HF5 := hid hf5
    clear hm5 hr5 hb5 hf5
    go_wp2
    go_ret2
    refine ⟨rfl, ?_, (HB2.out.mono hbw).trans HB5.out, (RFr.of_below HB2.out).trans HF5.out⟩
    rw [HAL.out]
    exact ⟨HBR.out, v', HM5.out, HR5.out⟩
set_option maxRecDepth 100000 in
set_option maxHeartbeats 1000000 in
theorem radd_first {base r : Nat} {w : World} (h : RI base r w []) (c : Ck) (hs : c.dat.size ≤ maxLen) (hbw : base ≤ w.heap.size) (hr : rgt c = true) : Calls Try.prog 16 #[.pointer (some ⟨r, 0, none⟩), c.v] w (RAddR base r w [] c) := by
  have hA : addB [] c = true ∧ addE [] c = 0 := by unfold addE addB; rw [hr]; exact ⟨rfl, rfl⟩
  have hAL : addL [] c = [] ++ [c] := by unfold addL; rw [hA.1]; rfl
  have HCK := hid (right_any c hs)
  rw [hr] at HCK
  have HHA := hid (fun (w' : World) (h' : RI base r w' []) => rhas_any h' c.num)
  obtain ⟨dg, t, n, d, sm⟩ := c
  have HB := hid (below_alloc w (.cells #[.int .i64 dg, .int .i64 t, .int .i64 n, .string d, .int .i64 sm] 35))
  have HK := hid (KBox.made 35 w ⟨dg, t, n, d, sm⟩)
  unfold RAddR
  rw [hA.1, hA.2]
  have H := hid h
  have HAL := hid hAL
  have HBR := hid h.br
  clear hA h hr hs hAL
  go_enter Try.func16, Try.ntmps16
  go_wp2_with (go_at_call 12; fail)
  refine (HCK.out _).mono ?_
  rintro e w1 ⟨rfl, hb1⟩
  have HB1 := hid (HB.out.next hb1)
  have hk1 : KBox 35 w.heap.size w1 ⟨dg, t, n, d, sm⟩ := KBox.same HK.out (hb1.block _ (by simp))
  have HK1 := hid hk1
  have h1 := H.out.below HB1.out
  obtain ⟨v1, hm1, hr1⟩ := h1.mem
  obtain ⟨k0, k1, k2, k3, k4⟩ := KBox.cell hk1
  simp only at k0 k1 k2 k3 k4
  have HR1 := hid h1
  obtain ⟨ao1, cap1, hv1, l1, l2⟩ := hr1.len
  subst hv1
  have c0 : w1.cell? ⟨r, 0, none⟩ = some (.slice ao1 0 cap1) := by rw [cell_of hm1]; rfl
  clear hb1 hk1 h1 hm1 hr1
  go_wp2
  go_quiet (fail)
  go_wp2_with (go_at_call 33; fail)
  refine (HHA.out _ (HR1.out.drew _)).mono ?_
  rintro e w2 ⟨rfl, hb2⟩
  rw [show hasN [] n = false from rfl]
  generalize findC [] n = fc
  obtain ⟨fd, ft, fn, fs, fm⟩ := fc
  have HB2 := hid (((HB1.out.dN _).next hb2).next (below_alloc w2 (.cells #[.int .i64 fd, .int .i64 ft, .int .i64 fn, .string fs, .int .i64 fm] 35)))
  have hk2 : KBox 35 w.heap.size (w2.alloc (.cells #[.int .i64 fd, .int .i64 ft, .int .i64 fn, .string fs, .int .i64 fm] 35)) ⟨dg, t, n, d, sm⟩ := KBox.same (show KBox 35 w.heap.size (w1.drewN _) ⟨dg, t, n, d, sm⟩ from HK1.out) ((Below.heap_alloc _ _ _ (Nat.lt_of_lt_of_le (KBox.lt HK1.out) hb2.size)).trans (hb2.block _ (KBox.lt HK1.out)))
  clear hb2
  go_upto_region 8 with fail
  obtain ⟨w3, hw3⟩ : ∃ w3, w3 = w2.alloc (.cells #[.int .i64 fd, .int .i64 ft, .int .i64 fn, .string fs, .int .i64 fm] 35) := ⟨_, rfl⟩
  rw [← hw3] at HB2 hk2 ⊢
  clear hw3
  have h2 := H.out.below HB2.out
  obtain ⟨p0, p1, p2, p3, p4⟩ := KBox.cell hk2
  simp only at p0 p1 p2 p3 p4
  obtain ⟨v2, hm2, hr2⟩ := h2.mem
  have d0 : w3.cell? ⟨r, 0, none⟩ = some v2 := by rw [cell_of hm2]; rfl
  have HM2 := hid hm2
  have HR2 := hid hr2
  have hrl := lt_of_block hm2
  have hkl := KBox.lt hk2
  have hown : v2.ownBlock ≠ some r := by
    intro e
    obtain ⟨_, cur, hc⟩ := hr2.own r e
    rw [hm2] at hc
    cases hc
  have HOW := hid hown
  obtain ⟨ao2, cap2, hv2, l1, l2⟩ := hr2.len
  have hbz : base ≤ w3.heap.size := by have := HB2.out.size; omega
  have hnew : KBox 35 w3.heap.size ((w3.alloc (.cells #[.int .i64 dg, .int .i64 t, .int .i64 n, .string d, .int .i64 sm] 35)).drew) ⟨dg, t, n, d, sm⟩ := by
    show (w3.heap.push _)[w3.heap.size]? = _
    simp [Ck.cs]
  have HNW := hid hnew
  have hszn : ((w3.alloc (.cells #[.int .i64 dg, .int .i64 t, .int .i64 n, .string d, .int .i64 sm] 35)).drew).heap.size = w3.heap.size + 1 := by show (w3.heap.push _).size = _; simp
  have HSZ := hid hszn
  have hone : v2.oneCell' = true := by rw [hv2]; rfl
  clear hk2 h2 hm2 hr2 hown hnew hszn l1 l2
  subst hv2
  go_cut [] (fun wx => ∃ v', wx.heap[r]? = some (.cells #[v'] 42 (0, 0)) ∧ KRow base wx v' ([] ++ [⟨dg, t, n, d, sm⟩]) ∧ Below base w3 wx ∧ RFr base r w3 wx)
  case first =>
    go_region_law (refine step_k rfl (.tmp 53) (.tmp 55) rfl base _ [] ⟨dg, t, n, d, sm⟩ (by simp [Act.eval]) w3.heap.size (by simp [Act.eval]) HNW.out (World.ownsRow.alloc HR2.out _) (by simp) (by rw [HSZ.out]; omega) ?_; intro rr cap4 w4 hown4 hgrow4 hr4; have hg4 : w4.heap[r]? = some (.cells #[.slice ao2 0 cap2] 42 (0, 0)) := (hgrow4.block r (by rw [HSZ.out]; omega) (fun e => HOW.out e.symm)).trans ((Below.heap_alloc _ _ _ hrl).trans HM2.out); have z0 : w4.cell? ⟨r, 0, none⟩ = some (.slice ao2 0 cap2) := cell_of hg4 0; have z1 := frees hg4 0)
    all_goals
      go_wp2
      go_meet
      exact push_done HM2.out HR2.out hown4 hgrow4 HOW.out HBR.out hbz
  case rest =>
    obtain ⟨v', hm5, hr5, hb5, hf5⟩ := hcut
    rename World => w5
    have HM5 := hid hm5
    have HR5 := hid hr5
    have HB5 := hid hb5
    have HF5 := hid hf5
    clear hm5 hr5 hb5 hf5
    go_wp2
    go_ret2
    refine ⟨rfl, ?_, (HB2.out.mono hbw).trans HB5.out, (RFr.of_below HB2.out).trans HF5.out⟩
    rw [HAL.out]
    exact ⟨HBR.out, v', HM5.out, HR5.out⟩
/-- the document's Add -/
theorem radd_any {base r : Nat} {w : World} {L : List Ck} (h : RI base r w L) (hok : LOk L) (c : Ck) (hs : c.dat.size ≤ maxLen) (hbw : base ≤ w.heap.size) : Calls Try.prog 16 #[.pointer (some ⟨r, 0, none⟩), c.v] w (RAddR base r w L c) := by
  cases hr : rgt c with
  | false => exact radd_bad h c hs hbw hr
  | true =>
    cases L with
    | nil => exact radd_first h c hs hbw hr
    | cons x rs =>
      cases ho : okIn (x :: rs) c with
      | false => exact radd_other h c hs hbw hr ho
      | true =>
        cases hh : hasN (x :: rs) c.num with
        | true => exact radd_same h c hs hbw hr ho hh
        | false => exact radd_new h hok c hs hbw hr ho hh
end Go.Proofs.Ytogiiefaakejlaa
