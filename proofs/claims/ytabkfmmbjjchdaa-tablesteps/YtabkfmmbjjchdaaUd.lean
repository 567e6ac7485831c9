import Derived.Test.YtabkfmmbjjchdaaUc
namespace Go.Proofs.Ytabkfmmbjjchdaa
open Go.RowKit Go.Maps

theorem withL_app : ∀ (A B : List Kx) (y : Kx), (∀ a ∈ A, a.k < y.k) → withL (A ++ B) y = A ++ withL B y
  | [], _, _, _ => rfl
  | a :: A, B, y, h => by
    have h1 := h a (by simp)
    rw [List.cons_append, withL, if_pos h1, withL_app A B y (fun x hx => h x (by simp [hx]))]
    rfl
theorem withL_end (A : List Kx) (y : Kx) (h : ∀ a ∈ A, a.k < y.k) : withL A y = A ++ [y] := by
  have := withL_app A [] y h
  rwa [List.append_nil] at this
theorem withL_one_eq {x y : Kx} (h : x.k = y.k) : withL [x] y = [y] := by rw [withL, if_neg (by omega), if_pos h]
theorem withL_one_gt {x y : Kx} (h : y.k < x.k) : withL [x] y = [y, x] := by rw [withL, if_neg (by omega), if_neg (by omega)]
theorem withL_snoc : ∀ (A : List Kx) (x y : Kx), (∃ a ∈ A, y.k ≤ a.k) → withL (A ++ [x]) y = withL A y ++ [x]
  | [], x, y, ⟨a, ha, _⟩ => by cases ha
  | a :: A, x, y, ⟨b, hb, hy⟩ => by
    rw [List.cons_append, withL, withL]
    by_cases h1 : a.k < y.k
    · rw [if_pos h1, if_pos h1]
      have : ∃ b ∈ A, y.k ≤ b.k := by
        rcases List.mem_cons.1 hb with rfl | hb
        · omega
        · exact ⟨b, hb, hy⟩
      rw [withL_snoc A x y this]
      rfl
    · rw [if_neg h1, if_neg h1]
      split <;> rfl
theorem one_ks {x : Kx} (h : ∃ ao n cap, x.nv = .slice ao n cap) : ∀ u ∈ Kx.ks x, u.oneCell' = true := by
  obtain ⟨ao, n, cap, hv⟩ := h
  intro u hu
  simp only [Kx.ks, hv, List.mem_cons, List.not_mem_nil, or_false] at hu
  rcases hu with rfl | rfl | rfl | rfl | rfl | rfl | rfl | rfl | rfl <;> rfl
/-- where only the document's table changes -/
structure RFr (W : World) (r : Nat) (w w' : World) : Prop where
  size : w.heap.size ≤ w'.heap.size
  block : ∀ k, k < w.heap.size → k ≠ r → (k < W.heap.size ∨ ∀ cs fz, w.heap[k]? ≠ some (.cells cs 46 fz)) → w'.heap[k]? = w.heap[k]?
theorem RFr.of_below {W : World} {r : Nat} {w w' : World} (h : Below w.heap.size w w') : RFr W r w w' := ⟨h.size, fun k hk _ _ => h.block k hk⟩
theorem RFr.trans {W : World} {r : Nat} {w w1 w2 : World} (h : RFr W r w w1) (k : RFr W r w1 w2) : RFr W r w w2 :=
  ⟨Nat.le_trans h.size k.size, fun i hi hn hm => by
    have e := h.block i hi hn hm
    rw [k.block i (Nat.lt_of_lt_of_le hi h.size) hn (by rw [e]; exact hm), e]⟩
theorem ask_slice {W : World} {r : Nat} {w : World} {R : List Kx} (h : RT W r w R) (c q : Int) : ∃ ao n cap, (askR (at_ R c) c q).nv = .slice ao n cap := by
  unfold askR
  split
  · unfold at_
    cases hl : lookL R c with
    | none => exact ⟨none, 0, 0, rfl⟩
    | some y => exact h.slice (at_some hl).1
  · exact ⟨none, 0, 0, rfl⟩
def RBR (W : World) (r : Nat) (w : World) (R' : List Kx) (E : Int) (e : Ending) (w' : World) : Prop := e = .returned (.int .i64 E) ∧ RT W r w' R' ∧ RFr W r w w'
set_option maxRecDepth 100000 in
set_option maxHeartbeats 1000000 in
theorem rbegin_no {W : World} {r : Nat} {w : World} {R : List Kx} (h : RT W r w R) (c q : Int) (he : ¬ (okc c q = true ∧ stt (at_ R c).n (at_ R c).d q = 1)) : Calls Try.prog 9 #[.pointer (some ⟨r, 0, none⟩), .int .i64 c, .int .i64 q] w (RBR W r w R (if okc c q then 7 else 1)) := by
  have HAS := hid (rask_any h c q)
  obtain ⟨so, sn, sc, hsv⟩ := ask_slice h c q
  generalize askR (at_ R c) c q = aR at HAS hsv
  obtain ⟨re, rt, ra, rb, rc, rnv, rns⟩ := aR
  simp only at hsv
  subst hsv
  have H := hid h
  unfold askS askE at HAS
  unfold RBR
  cases ho : okc c q with
  | false =>
    rw [ho] at HAS
    clear h ho he
    go_enter Try.func9, Try.ntmps9
    go_wp2_with (go_at_call 13; fail)
    refine HAS.out.mono ?_
    rintro e w1 ⟨rfl, hb1⟩
    have HB1 := hid (hb1.next (below_alloc w1 (.cells #[.int .i64 re, .string rt, .int .i64 ra, .int .i64 rb, .int .i64 rc, .slice so sn sc] 32)))
    clear hb1
    simp only [Rs.v, Bool.false_eq_true, if_false]
    go_wp2
    go_ret
    exact ⟨rfl, H.out.below HB1.out, RFr.of_below HB1.out⟩
  | true =>
    rw [ho] at HAS he
    obtain ⟨s, hs⟩ : ∃ s, s = stt (at_ R c).n (at_ R c).d q := ⟨_, rfl⟩
    rw [← hs] at HAS he
    have hs1 : (s != 1) = true := by simpa using he
    clear h ho he hs
    go_enter Try.func9, Try.ntmps9
    go_wp2_with (go_at_call 13; fail)
    refine HAS.out.mono ?_
    rintro e w1 ⟨rfl, hb1⟩
    have HB1 := hid (hb1.next (below_alloc w1 (.cells #[.int .i64 re, .string rt, .int .i64 ra, .int .i64 rb, .int .i64 rc, .slice so sn sc] 32)))
    clear hb1
    simp only [Rs.v, if_true]
    go_wp2
    go_ret
    exact ⟨rfl, H.out.below HB1.out, RFr.of_below HB1.out⟩
set_option maxRecDepth 100000 in
set_option maxHeartbeats 1000000 in
theorem rbegin_full {W : World} {r : Nat} {w : World} {R : List Kx} (h : RT W r w R) (hlen : R.length ≤ 1000) (c q : Int) (ho : okc c q = true) (hst : stt (at_ R c).n (at_ R c).d q = 1) (hrm : room R c = false) : Calls Try.prog 9 #[.pointer (some ⟨r, 0, none⟩), .int .i64 c, .int .i64 q] w (RBR W r w R 5) := by
  have hp : pl R c = none := by
    cases hp : pl R c with
    | none => rfl
    | some j =>
      obtain ⟨hj, h1, h2⟩ := pl_some hp
      unfold room at hrm
      rw [h2] at hrm
      cases hrm
  have hbig : 256 ≤ R.length := by
    unfold room at hrm
    rw [pl_none hp] at hrm
    simpa using hrm
  have hs1 : askS (at_ R c) c q = 1 := by unfold askS; rw [ho]; exact hst
  have he1 : askE c q = 0 := by unfold askE; rw [ho]; rfl
  have HAS := hid (rask_any h c q)
  obtain ⟨so, sn, sc, hsv⟩ := ask_slice h c q
  generalize askR (at_ R c) c q = aR at HAS hsv
  obtain ⟨re, rt, ra, rb, rc, rnv, rns⟩ := aR
  simp only at hsv
  subst hsv
  have H := hid h
  rw [hs1, he1] at HAS
  have HFI := hid (fun (w' : World) (h' : RT W r w' R) => rfind_any h' c)
  rw [hp] at HFI
  unfold RBR
  clear h ho hst hs1 he1 hrm hp
  go_enter Try.func9, Try.ntmps9
  go_wp2_with (go_at_call 13; fail)
  refine HAS.out.mono ?_
  rintro e w1 ⟨rfl, hb1⟩
  have HB1 := hid (hb1.next (below_alloc w1 (.cells #[.int .i64 re, .string rt, .int .i64 ra, .int .i64 rb, .int .i64 rc, .slice so sn sc] 32)))
  clear hb1
  simp only [Rs.v]
  go_wp2_with (go_at_call 24; fail)
  refine (HFI.out _ (H.out.below HB1.out)).mono ?_
  rintro e w2 ⟨rfl, hb2⟩
  have HB2 := hid (HB1.out.next hb2)
  clear hb2
  have h2 := H.out.below HB2.out
  obtain ⟨v2, hm, hr2⟩ := H.out.mem
  have hrl := lt_of_block hm
  have hm2 : w2.heap[r]? = some (.cells #[v2] 28 (0, 0)) := (HB2.out.block r hrl).trans hm
  obtain ⟨ro, rcap, rfl, lc1, lc2⟩ := hr2.len
  unfold maxLen at lc2
  have c0 : w2.cell? ⟨r, 0, none⟩ = some (.slice ro R.length rcap) := by simp [World.cell?, hm2]
  have HM2 := hid hm2
  have HR2 := hid hr2
  have HH2 := hid h2
  obtain ⟨N, hN⟩ : ∃ N, N = R.length := ⟨_, rfl⟩
  rw [← hN] at c0 lc1 hlen
  have HN := hid hN
  rw [← hN] at hbig
  have eN : decide ((N : Int) ≥ 256) = true := by simp; omega
  clear h2 hm2 hr2 hN hm
  simp only [plI]
  go_wp2
  go_ret
  exact ⟨rfl, H.out.below HB2.out, RFr.of_below HB2.out⟩
theorem NRow.wide {b b' : Nat} {w : World} {v : Value} {l : List Kx} (h : NRow b w v l) (hb : b' ≤ b) : NRow b' w v l := by
  obtain ⟨e1, e2 | ⟨x, cap, cur, e3, e4, e5⟩⟩ := h
  · exact ⟨e1, .inl e2⟩
  · exact ⟨e1, .inr ⟨x, cap, cur, e3, by omega, e5⟩⟩
set_option maxRecDepth 100000 in
set_option maxHeartbeats 4000000 in
theorem rbegin_yes {W : World} {r : Nat} {w : World} {R : List Kx} (h : RT W r w R) (hlen : R.length ≤ 1000) (c q : Int) (ho : okc c q = true) (hst : stt (at_ R c).n (at_ R c).d q = 1) (hrm : room R c = true) : Calls Try.prog 9 #[.pointer (some ⟨r, 0, none⟩), .int .i64 c, .int .i64 q] w (RBR W r w (withL R (mkK c q false rz)) 0) := by
  have hs1 : askS (at_ R c) c q = 1 := by unfold askS; rw [ho]; exact hst
  have he1 : askE c q = 0 := by unfold askE; rw [ho]; rfl
  have HAS := hid (rask_any h c q)
  obtain ⟨so, sn, sc, hsv⟩ := ask_slice h c q
  generalize askR (at_ R c) c q = aR at HAS hsv
  obtain ⟨re, rt, ra, rb, rc, rnv, rns⟩ := aR
  simp only at hsv
  subst hsv
  have H := hid h
  rw [hs1, he1] at HAS
  have HFI := hid (fun (w' : World) (h' : RT W r w' R) => rfind_any h' c)
  unfold RBR
  have HRS := hid (withL_rise h.rise (mkK c q false rz))
  have HWM := hid (fun x => withL_mem h.rise (mkK c q false rz) x)
  have hg : ∀ (n : Nat), n = R.length → ∀ j : Int, j = plI (pl R c) → (if j < 0 then decide ((n : Int) ≥ 256) else false) = false := by
    intro n hn j hj
    cases hp : pl R c with
    | none =>
      unfold room at hrm
      rw [pl_none hp] at hrm
      have : R.length < 256 := by simpa using hrm
      split
      · simp; omega
      · rfl
    | some k =>
      rw [hp] at hj
      rw [if_neg (by rw [hj]; show ¬ ((k : Int) < 0); omega)]
  obtain ⟨pj, hpj⟩ : ∃ pj, pj = plI (pl R c) := ⟨_, rfl⟩
  rw [← hpj] at HFI
  have HGP := hid (fun n hn => hg n hn pj hpj)
  clear ho hst hs1 he1 hrm hg hpj h
  go_enter Try.func9, Try.ntmps9
  go_wp2_with (go_at_call 13; fail)
  refine HAS.out.mono ?_
  rintro e w1 ⟨rfl, hb1⟩
  have HB1 := hid (hb1.next (below_alloc w1 (.cells #[.int .i64 re, .string rt, .int .i64 ra, .int .i64 rb, .int .i64 rc, .slice so sn sc] 32)))
  clear hb1
  simp only [Rs.v]
  go_wp2_with (go_at_call 24; fail)
  refine (HFI.out _ (H.out.below HB1.out)).mono ?_
  rintro e w2 ⟨rfl, hb2⟩
  have HB2 := hid (HB1.out.next hb2)
  clear hb2
  have h2 := H.out.below HB2.out
  obtain ⟨v2, hm, hr2⟩ := H.out.mem
  have hrl := lt_of_block hm
  have hm2 : w2.heap[r]? = some (.cells #[v2] 28 (0, 0)) := (HB2.out.block r hrl).trans hm
  obtain ⟨ro, rcap, rfl, lc1, lc2⟩ := hr2.len
  unfold maxLen at lc2
  have c0 : w2.cell? ⟨r, 0, none⟩ = some (.slice ro R.length rcap) := by simp [World.cell?, hm2]
  have HM2 := hid hm2
  have HR2 := hid hr2
  have HH2 := hid h2
  obtain ⟨N, hN⟩ : ∃ N, N = R.length := ⟨_, rfl⟩
  rw [← hN] at c0 lc1 hlen
  have HN := hid hN
  have hgn := HGP.out N hN
  clear h2 hm2 hr2 hN hm
  have HOD := hid (one_ks (x := mkK c q false rz) ⟨none, 0, 0, rfl⟩)
  have htail : True := trivial
  by_cases hpn : pj < 0
  all_goals
    first | rw [if_pos hpn] at hgn | rw [if_neg hpn] at hgn
    first | (have hdp : decide (pj < 0) = true := by simpa using hpn) | (have hdp : decide (pj < 0) = false := by simpa using hpn)
    go_wp2
    go_loopw [11, 12, 46] (fun s p i wr => ∃ (j : Nat) (pt : Bool) (O : List Kx), j ≤ N ∧ i = .int .i64 j ∧ p = .bool pt ∧ Hid (NRow w.heap.size wr s O) ∧ Hid (Below w.heap.size w wr) ∧ Hid (O.length ≤ j + 1) ∧ Hid ((pt = false ∧ O = R.take j ∧ ∀ a ∈ R.take j, a.k < c) ∨ (pt = true ∧ O = withL (R.take j) (mkK c q false rz) ∧ ∃ a ∈ R.take j, c ≤ a.k))) (fun _ _ i _ => N - (intOf i).toNat)
    case atStart => exact ⟨0, false, [], Nat.zero_le _, rfl, rfl, NRow.nil _ _, HB2, by show _ ≤ _; simp, .inl ⟨rfl, rfl, by simp⟩⟩
    case round =>
      obtain ⟨j, pt, O, hj, rfl, rfl, HR, HB, HOL, HI⟩ := hrel
      rename World => wr
      obtain ⟨oo, oc, rfl, ol1, ol2⟩ := HR.out.len
      by_cases hlt : j < N
      · have hj' : j < R.length := by rw [← HN.out]; exact hlt
        obtain ⟨gx, cx, ex, hgx, hcx⟩ := HR2.out.at (by omega)
        rw [← HN.out] at ex
        cases ex
        have hat := hcx j hj'
        have hsl := H.out.slice (List.getElem_mem hj')
        have HTK : Hid (R.take (j + 1) = R.take j ++ [R[j]]) := List.take_succ_eq_append_getElem hj'
        have HGT : Hid (∀ a ∈ R.take j, a.k < R[j].k) := by
          intro a ha
          obtain ⟨i, hi, rfl⟩ := List.getElem_of_mem ha
          rw [List.length_take] at hi
          rw [List.getElem_take]
          exact List.pairwise_iff_getElem.1 H.out.rise i j (by omega) hj' (by omega)
        obtain ⟨yo, ym, yq, hyv⟩ := hsl
        obtain ⟨y, hy⟩ : ∃ y, y = R[j]'hj' := ⟨_, rfl⟩
        rw [← hy] at hat hyv HTK HGT
        obtain ⟨yk, yn, yd, ye, yt, ya, yb, yc, ynv, yns⟩ := y
        simp only at hyv HGT
        subst hyv
        have hcl : ∀ q, q < 9 → wr.cell? ⟨gx, j * 9 + q, none⟩ = _ := fun q hq => (HB.out.cell (p := ⟨gx, j * 9 + q, none⟩) hgx).trans (hat q hq)
        have a0 : wr.cell? ⟨gx, j * 9, none⟩ = some (.int .i64 yk) := hcl 0 (by omega)
        have a1 : wr.cell? ⟨gx, j * 9 + 1, none⟩ = some (.int .i64 yn) := hcl 1 (by omega)
        have a2 : wr.cell? ⟨gx, j * 9 + 2, none⟩ = some (.bool yd) := hcl 2 (by omega)
        have a3 : wr.cell? ⟨gx, j * 9 + 3, none⟩ = some (.int .i64 ye) := hcl 3 (by omega)
        have a4 : wr.cell? ⟨gx, j * 9 + 4, none⟩ = some (.string yt) := hcl 4 (by omega)
        have a5 : wr.cell? ⟨gx, j * 9 + 5, none⟩ = some (.int .i64 ya) := hcl 5 (by omega)
        have a6 : wr.cell? ⟨gx, j * 9 + 6, none⟩ = some (.int .i64 yb) := hcl 6 (by omega)
        have a7 : wr.cell? ⟨gx, j * 9 + 7, none⟩ = some (.int .i64 yc) := hcl 7 (by omega)
        have a8 : wr.cell? ⟨gx, j * 9 + 8, none⟩ = some (.slice yo ym yq) := hcl 8 (by omega)
        have HOX := hid (one_ks (x := ⟨yk, yn, yd, ye, yt, ya, yb, yc, .slice yo ym yq, yns⟩) ⟨yo, ym, yq, rfl⟩)
        have HR3 := hid (HR.out.below (below_alloc wr (.cells #[.int .i64 yk, .int .i64 yn, .bool yd, .int .i64 ye, .string yt, .int .i64 ya, .int .i64 yb, .int .i64 yc, .slice yo ym yq] 46)))
        have HB3 := hid (HB.out.next (below_alloc wr (.cells #[.int .i64 yk, .int .i64 yn, .bool yd, .int .i64 ye, .string yt, .int .i64 ya, .int .i64 yb, .int .i64 yc, .slice yo ym yq] 46)))
        have hsz := HB3.out.size
        have hol := HOL.out
        have HOWN : Hid (Value.ownBlock (.slice oo O.length oc) ≠ some wr.heap.size) := by
          intro e
          obtain ⟨_, cur, hc⟩ := HR.out.own _ e
          have := lt_of_block hc
          omega
        clear hcl hat hcx hy
        cases pt with
        | false =>
          rcases HI.out with ⟨_, hO, hall⟩ | ⟨e, _⟩
          rotate_left
          · cases e
          have HO := hid hO
          have HALL := hid hall
          clear hO hall
          by_cases hge : c ≤ yk
          · have hd1 : decide (yk ≥ c) = true := by simpa using hge
            by_cases heq : yk = c
            · have hd2 : (yk != c) = false := by simpa using heq
              have HNEW : Hid (withL (R.take (j + 1)) (mkK c q false rz) = O ++ [(mkK c q false rz)]) := by
                show _ = _
                rw [HTK.out, withL_app _ _ _ HALL.out, HO.out]
                rw [withL_one_eq (show yk = c from heq)]
              clear heq
              go_wp2_with (at_builtin; refine pushN rfl (.tmp 58) (.tmp 62) rfl w.heap.size _ _ O (mkK c q false rz) rfl rfl (by simp) HR3.out HOD.out (by omega) hsz ?_; intro v' w3 hv3 hb3 hk3 _; have HV3 := hid hv3; have HBB := hid (HB3.out.trans hb3); have hbx : w3.heap[wr.heap.size]? = some (.cells #[.int .i64 yk, .int .i64 yn, .bool yd, .int .i64 ye, .string yt, .int .i64 ya, .int .i64 yb, .int .i64 yc, .slice yo ym yq] 46 (0, 0)) := (hk3 wr.heap.size (by simp) (fun e => HOWN.out e.symm)).trans (box_at _ _); clear hv3 hb3 hk3; have z0 : w3.cell? ⟨wr.heap.size, 0, none⟩ = some (.int .i64 yk) := (by simp [World.cell?, hbx]); have z1 : w3.cell? ⟨wr.heap.size, 1, none⟩ = some (.int .i64 yn) := (by simp [World.cell?, hbx]); have z2 : w3.cell? ⟨wr.heap.size, 2, none⟩ = some (.bool yd) := (by simp [World.cell?, hbx]); have z3 : w3.cell? ⟨wr.heap.size, 3, none⟩ = some (.int .i64 ye) := (by simp [World.cell?, hbx]); have z4 : w3.cell? ⟨wr.heap.size, 4, none⟩ = some (.string yt) := (by simp [World.cell?, hbx]); have z5 : w3.cell? ⟨wr.heap.size, 5, none⟩ = some (.int .i64 ya) := (by simp [World.cell?, hbx]); have z6 : w3.cell? ⟨wr.heap.size, 6, none⟩ = some (.int .i64 yb) := (by simp [World.cell?, hbx]); have z7 : w3.cell? ⟨wr.heap.size, 7, none⟩ = some (.int .i64 yc) := (by simp [World.cell?, hbx]); have z8 : w3.cell? ⟨wr.heap.size, 8, none⟩ = some (.slice yo ym yq) := (by simp [World.cell?, hbx]); clear hbx)
              obtain ⟨ao3, cap3, rfl, hd3, hd4⟩ := HV3.out.len
              have hl3 : (O ++ [(mkK c q false rz)]).length = O.length + 1 := by simp
              rw [hl3] at hd3 ⊢
              go_wp2
              go_roundw
              case rel =>
                refine ⟨j + 1, true, O ++ [(mkK c q false rz)], hlt, by simp, rfl, ?_, HBB, by show _ ≤ _; rw [hl3]; omega, .inr ⟨rfl, HNEW.out.symm, ⟨yk, yn, yd, ye, yt, ya, yb, yc, .slice yo ym yq, yns⟩, by rw [HTK.out]; simp, hge⟩⟩
                have := HV3.out
                rw [hl3] at this
                exact this
              case measure => simp [intOf]; omega
            · have hd2 : (yk != c) = true := by simpa using heq
              have HNEW : Hid (withL (R.take (j + 1)) (mkK c q false rz) = O ++ [(mkK c q false rz)] ++ [⟨yk, yn, yd, ye, yt, ya, yb, yc, .slice yo ym yq, yns⟩]) := by
                show _ = _
                rw [HTK.out, withL_app _ _ _ HALL.out, HO.out]
                rw [withL_one_gt (show c < yk by omega)]
                simp
              clear heq
              go_wp2_with (first
                | (at_builtin; refine pushN rfl (.tmp 58) (.tmp 62) rfl w.heap.size _ _ O (mkK c q false rz) rfl rfl (by simp) HR3.out HOD.out (by omega) hsz ?_; intro v' w3 hv3 hb3 hk3 _; have HV3 := hid hv3; have HBB := hid (HB3.out.trans hb3); have hbx : w3.heap[wr.heap.size]? = some (.cells #[.int .i64 yk, .int .i64 yn, .bool yd, .int .i64 ye, .string yt, .int .i64 ya, .int .i64 yb, .int .i64 yc, .slice yo ym yq] 46 (0, 0)) := (hk3 wr.heap.size (by simp) (fun e => HOWN.out e.symm)).trans (box_at _ _); clear hv3 hb3 hk3; have z0 : w3.cell? ⟨wr.heap.size, 0, none⟩ = some (.int .i64 yk) := (by simp [World.cell?, hbx]); have z1 : w3.cell? ⟨wr.heap.size, 1, none⟩ = some (.int .i64 yn) := (by simp [World.cell?, hbx]); have z2 : w3.cell? ⟨wr.heap.size, 2, none⟩ = some (.bool yd) := (by simp [World.cell?, hbx]); have z3 : w3.cell? ⟨wr.heap.size, 3, none⟩ = some (.int .i64 ye) := (by simp [World.cell?, hbx]); have z4 : w3.cell? ⟨wr.heap.size, 4, none⟩ = some (.string yt) := (by simp [World.cell?, hbx]); have z5 : w3.cell? ⟨wr.heap.size, 5, none⟩ = some (.int .i64 ya) := (by simp [World.cell?, hbx]); have z6 : w3.cell? ⟨wr.heap.size, 6, none⟩ = some (.int .i64 yb) := (by simp [World.cell?, hbx]); have z7 : w3.cell? ⟨wr.heap.size, 7, none⟩ = some (.int .i64 yc) := (by simp [World.cell?, hbx]); have z8 : w3.cell? ⟨wr.heap.size, 8, none⟩ = some (.slice yo ym yq) := (by simp [World.cell?, hbx]); clear hbx; have hv3' := HV3.out; obtain ⟨ao3, cap3, hvv, hd3, hd4⟩ := HV3.out.len; subst hvv; rw [List.length_append, List.length_singleton] at hv3' hd3 ⊢; have HV3' := hid hv3'; clear hv3')
                | (at_builtin; refine pushN rfl (.tmp 68) (.tmp 70) rfl w.heap.size _ _ (O ++ [(mkK c q false rz)]) ⟨yk, yn, yd, ye, yt, ya, yb, yc, .slice yo ym yq, yns⟩ rfl rfl (by simp) HV3'.out HOX.out (by simp; omega) (by have := HBB.out.size; omega) ?_; intro v'' w4 hv4 hb4 _ _; have HV4 := hid hv4; have HB4 := hid (HBB.out.trans hb4); clear hv4 hb4))
              obtain ⟨ao4, cap4, rfl, hd5, hd6⟩ := HV4.out.len
              have hl3 : (O ++ [(mkK c q false rz)]).length = O.length + 1 := by simp
              have hl4 : (O ++ [(mkK c q false rz)] ++ [(⟨yk, yn, yd, ye, yt, ya, yb, yc, .slice yo ym yq, yns⟩ : Kx)]).length = (O ++ [(mkK c q false rz)]).length + 1 := by simp
              rw [hl4, hl3] at hd5 ⊢
              go_wp2
              go_roundw
              case rel =>
                refine ⟨j + 1, true, O ++ [(mkK c q false rz)] ++ [⟨yk, yn, yd, ye, yt, ya, yb, yc, .slice yo ym yq, yns⟩], hlt, by simp, rfl, ?_, HB4, by
                  show _ ≤ _
                  have hOj : O.length ≤ j := by rw [HO.out, List.length_take]; omega
                  rw [hl4, hl3]; omega, .inr ⟨rfl, HNEW.out.symm, ⟨yk, yn, yd, ye, yt, ya, yb, yc, .slice yo ym yq, yns⟩, by rw [HTK.out]; simp, hge⟩⟩
                have := HV4.out
                rw [hl4, hl3] at this
                exact this
              case measure => simp [intOf]; omega
          · have hd1 : decide (yk ≥ c) = false := by simpa using hge
            have hd2 : (yk != c) = true := by simp; omega
            have HNEW : Hid (R.take (j + 1) = O ++ [⟨yk, yn, yd, ye, yt, ya, yb, yc, .slice yo ym yq, yns⟩]) := by show _ = _; rw [HTK.out, HO.out]
            have HALL2 : Hid (∀ a ∈ R.take (j + 1), a.k < c) := by
              intro a ha
              rw [HTK.out] at ha
              rcases List.mem_append.1 ha with ha | ha
              · exact HALL.out a ha
              · rw [List.mem_singleton.1 ha]; show yk < c; omega
            go_wp2_with (at_builtin; refine pushN rfl (.tmp 68) (.tmp 70) rfl w.heap.size _ _ O ⟨yk, yn, yd, ye, yt, ya, yb, yc, .slice yo ym yq, yns⟩ rfl rfl (by simp) HR3.out HOX.out (by first | omega | (simp; omega)) (by have := HB3.out.size; omega) ?_; intro v'' w4 hv4 hb4 _ _; have HV4 := hid hv4; have HB4 := hid (HB3.out.trans hb4); clear hv4 hb4)
            obtain ⟨ao4, cap4, rfl, hd5, hd6⟩ := HV4.out.len
            have hl4 : (O ++ [(⟨yk, yn, yd, ye, yt, ya, yb, yc, .slice yo ym yq, yns⟩ : Kx)]).length = O.length + 1 := by simp
            rw [hl4] at hd5 ⊢
            go_wp2
            go_roundw
            case rel =>
              refine ⟨j + 1, false, O ++ [⟨yk, yn, yd, ye, yt, ya, yb, yc, .slice yo ym yq, yns⟩], hlt, by simp, rfl, ?_, HB4, by show _ ≤ _; rw [hl4]; omega, .inl ⟨rfl, HNEW.out.symm, HALL2.out⟩⟩
              have := HV4.out
              rw [hl4] at this
              exact this
            case measure => simp [intOf]; omega
        | true =>
          rcases HI.out with ⟨e, _⟩ | ⟨_, hO, hex⟩
          · cases e
          have hgt : c < yk := by
            obtain ⟨a, ha, hac⟩ := hex
            have := HGT.out a ha
            omega
          have hd2 : (yk != c) = true := by simp; omega
          have HNEW : Hid (withL (R.take (j + 1)) (mkK c q false rz) = O ++ [⟨yk, yn, yd, ye, yt, ya, yb, yc, .slice yo ym yq, yns⟩]) := by
            show _ = _
            rw [HTK.out, withL_snoc _ _ _ hex, hO]
          have HEX : Hid (∃ a ∈ R.take (j + 1), c ≤ a.k) := ⟨⟨yk, yn, yd, ye, yt, ya, yb, yc, .slice yo ym yq, yns⟩, by rw [HTK.out]; simp, by show c ≤ yk; omega⟩
          clear hO hex hgt
          go_wp2_with (at_builtin; refine pushN rfl (.tmp 68) (.tmp 70) rfl w.heap.size _ _ O ⟨yk, yn, yd, ye, yt, ya, yb, yc, .slice yo ym yq, yns⟩ rfl rfl (by simp) HR3.out HOX.out (by first | omega | (simp; omega)) (by have := HB3.out.size; omega) ?_; intro v'' w4 hv4 hb4 _ _; have HV4 := hid hv4; have HB4 := hid (HB3.out.trans hb4); clear hv4 hb4)
          obtain ⟨ao4, cap4, rfl, hd5, hd6⟩ := HV4.out.len
          have hl4 : (O ++ [(⟨yk, yn, yd, ye, yt, ya, yb, yc, .slice yo ym yq, yns⟩ : Kx)]).length = O.length + 1 := by simp
          rw [hl4] at hd5 ⊢
          go_wp2
          go_roundw
          case rel =>
            refine ⟨j + 1, true, O ++ [⟨yk, yn, yd, ye, yt, ya, yb, yc, .slice yo ym yq, yns⟩], hlt, by simp, rfl, ?_, HB4, by show _ ≤ _; rw [hl4]; omega, .inr ⟨rfl, HNEW.out.symm, HEX.out⟩⟩
            have := HV4.out
            rw [hl4] at this
            exact this
          case measure => simp [intOf]; omega
      · have hTR : R.take j = R := List.take_of_length_le (by rw [← HN.out]; omega)
        have hI := HI.out
        rw [hTR] at hI
        have hrb : wr.heap[r]? = some (.cells #[.slice ro R.length rcap] 28 (0, 0)) := (HB.out.block r hrl).trans ((HB2.out.block r hrl).symm.trans HM2.out)
        have d0 : wr.cell? ⟨r, 0, none⟩ = some (.slice ro R.length rcap) := by simp [World.cell?, hrb]
        have d1 : wr.frozen? ⟨r, 0, none⟩ = false := by simp [World.frozen?, hrb]
        have hfin : ∀ (O' : List Kx) (s : Value) (wz : World), NRow w.heap.size wz s O' → Below w.heap.size w wz → O' = withL R (mkK c q false rz) → RT W r (wz.setCell ⟨r, 0, none⟩ s) (withL R (mkK c q false rz)) ∧ RFr W r w (wz.setCell ⟨r, 0, none⟩ s) := by
          intro O' s wz hn hb he
          subst he
          have hrz := (hb.block r hrl).trans ((HB2.out.block r hrl).symm.trans HM2.out)
          have hbr := H.out.br
          have hWw := H.out.bel.size
          have hr2 : (wz.setCell ⟨r, 0, none⟩ s).heap[r]? = some (.cells #[s] 28 (0, 0)) := by rw [cells_set hrz]; rfl
          refine ⟨⟨hbr, ?_, HRS.out, ⟨s, hr2, ?_⟩, ?_⟩, ?_⟩
          · exact (H.out.bel.trans (hb.mono hWw)).setCell (p := ⟨r, 0, none⟩) hbr _
          · refine (hn.wide hWw).frame fun b cs fz hc => Below.heap_setCell _ _ _ _ (fun e => ?_)
            rw [show b = r from e, hrz] at hc
            cases hc
          · intro x hx
            rcases (HWM.out x).1 hx with rfl | ⟨hx, _⟩
            · exact SLie.nil W
            · exact H.out.nv x hx
          · refine ⟨by simp [World.setCell]; exact hb.size, fun k hk hkr _ => (Below.heap_setCell _ _ _ _ hkr).trans (hb.block k hk)⟩
        have HFIN := hid hfin
        clear hfin
        cases pt with
        | false =>
          rcases hI with ⟨_, hO, hall⟩ | ⟨e, _⟩
          rotate_left
          · cases e
          have HW2 : Hid (O ++ [(mkK c q false rz)] = withL R (mkK c q false rz)) := by show _ = _; rw [withL_end R _ hall, hO]
          have hsz := HB.out.size
          have hol := HOL.out
          have HRB := hid hrb
          clear hO hall hTR hrb d0 d1
          go_wp2_with (at_builtin; refine pushN rfl (.tmp 75) (.tmp 79) rfl w.heap.size _ _ O (mkK c q false rz) rfl rfl rfl HR.out HOD.out (by omega) hsz ?_; intro v' w3 hv3 hb3 _ _; have HV3 := hid hv3; have HBB := hid (HB.out.trans hb3); obtain ⟨ao3, cap3, hvv, hd3, hd4⟩ := hv3.len; subst hvv; clear hv3 hb3; have hr3 : w3.heap[r]? = some (.cells #[.slice ro R.length rcap] 28 (0, 0)) := (HBB.out.block r hrl).trans ((HB2.out.block r hrl).symm.trans HM2.out); have d0 : w3.cell? ⟨r, 0, none⟩ = some (.slice ro R.length rcap) := (by simp [World.cell?, hr3]); have d1 : w3.frozen? ⟨r, 0, none⟩ = false := (by simp [World.frozen?, hr3]); clear hr3)
          go_ret
          exact ⟨rfl, HFIN.out _ _ _ (by have := HV3.out; rw [List.length_append, List.length_singleton] at this; exact this) HBB.out HW2.out⟩
        | true =>
          rcases hI with ⟨e, _⟩ | ⟨_, hO, _⟩
          · cases e
          have HW2 : Hid (O = withL R (mkK c q false rz)) := hO
          clear hO hTR hrb
          go_wp2
          go_ret
          exact ⟨rfl, HFIN.out _ _ _ HR.out HB.out HW2.out⟩
/-- the document's Begin -/
theorem rbegin_any {W : World} {r : Nat} {w : World} {R : List Kx} (h : RT W r w R) (hlen : R.length ≤ 1000) (c q : Int) : Calls Try.prog 9 #[.pointer (some ⟨r, 0, none⟩), .int .i64 c, .int .i64 q] w (RBR W r w (begL R c q) (begE R c q)) := by
  by_cases hy : okc c q = true ∧ stt (at_ R c).n (at_ R c).d q = 1
  · obtain ⟨ho, hs⟩ := hy
    cases hr : room R c with
    | true =>
      have e1 : begE R c q = 0 := by unfold begE; rw [ho, hs, hr]; rfl
      have e2 : begL R c q = withL R (mkK c q false rz) := by unfold begL; rw [if_pos e1]
      rw [e1, e2]
      exact rbegin_yes h hlen c q ho hs hr
    | false =>
      have e1 : begE R c q = 5 := by unfold begE; rw [ho, hs, hr]; rfl
      have e2 : begL R c q = R := by unfold begL; rw [if_neg (by rw [e1]; decide)]
      rw [e1, e2]
      exact rbegin_full h hlen c q ho hs hr
  · have e1 : begE R c q = if okc c q then 7 else 1 := by
      unfold begE
      cases ho : okc c q with
      | false => rfl
      | true =>
        rw [ho] at hy
        simp only [if_true]
        rw [if_neg (fun e => hy ⟨rfl, e⟩)]
    have e2 : begL R c q = R := by
      unfold begL
      rw [if_neg]
      rw [e1]
      split <;> decide
    rw [e1, e2]
    exact rbegin_no h c q hy
end Go.Proofs.Ytabkfmmbjjchdaa
