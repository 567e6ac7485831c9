import Derived.Test.YtokjlgebkihimaaGreatYb
namespace Go.Proofs.YtokjlgebkihimaaGreat
open Go.RowKit Go.Maps Go.Shelf

/-- the view and its directory 0, above W, beside rows of the law's own from g0 on -/
structure FV (W : World) (p q cap g0 : Nat) (B : List ByteArray) (S : List (List UInt8)) (wr : World) : Prop where
  rv : RV W p q cap g0 B wr
  ti : TI sG B
  fd : FD B 0 S
theorem FV.next {W w1 w2 : World} {p q cap g0 : Nat} {B : List ByteArray} {S : List (List UInt8)} (h : FV W p q cap g0 B S w1) (k : Below w1.heap.size w1 w2) : FV W p q cap g0 B S w2 := ⟨h.rv.next k, h.ti, h.fd⟩
theorem FV.grow {W wr w' : World} {p q cap g0 : Nat} {B : List ByteArray} {S : List (List UInt8)} {v : Value} {L : List (ByteArray × Nat)} {base : Nat} (h : FV W p q cap g0 B S wr) (hr : NRow base wr v L) (hb : g0 ≤ base) (k : wr.grownBy w' v.ownBlock) : FV W p q cap g0 B S w' :=
  ⟨h.rv.grow k (fun x hx => by obtain ⟨h1, cur, h2⟩ := hr.own x hx; exact ⟨Nat.le_trans hb h1, cur, 63, h2⟩), h.ti, h.fd⟩
theorem SB4.grow {q base : Nat} {w w' : World} {s : Stp} {v : Value} {L : List (ByteArray × Nat)} (h : SB4 q w s) (hr : NRow base w v L) (k : w.grownBy w' v.ownBlock) : SB4 q w' s := by
  refine (k.block q (lt_of_block h) fun e => ?_).trans h
  obtain ⟨_, cur, h2⟩ := hr.own q e.symm
  unfold SB4 at h
  rw [h] at h2; cases h2
theorem put_fv {W w1 : World} {p q cap g0 : Nat} {B : List ByteArray} {S : List (List UInt8)} (t : ByteArray) (tn : Int) (h : FV W p q cap g0 B S w1) (hl : S.length < 400) :
    ∃ r B' S', PutR B 0 S t tn r B' S' ∧ Calls Tryz.prog 11 #[.pointer (some ⟨p, 0, none⟩), .int .i64 0, .string t, .int .i64 tn] w1 fun e w' => e = .returned (.int .i64 r) ∧ FV W p q cap g0 B' S' w' ∧ KT 63 w1 w' ∧ KT 40 w1 w' := by
  obtain ⟨m, hv, hm⟩ := h.rv.vi
  obtain ⟨r, B', S', h1, h2⟩ := put_dir (i := 0) t tn h.ti h.fd (by decide) hl hv
  exact ⟨r, B', S', h1, h2.mono fun e w' ⟨k1, k2⟩ => ⟨k1, ⟨h.rv.vpd hm k2, h1.ti, h1.fd⟩, k2.kt (by decide) hv, k2.kt (by decide) hv⟩⟩
theorem take_fv {W w1 : World} {p q cap g0 : Nat} {B : List ByteArray} {S : List (List UInt8)} (t : ByteArray) (h : FV W p q cap g0 B S w1) (hl : S.length < 400) :
    ∃ B' S', TakR B 0 S t B' S' ∧ Calls Tryz.prog 13 #[.pointer (some ⟨p, 0, none⟩), .int .i64 0, .string t] w1 fun e w' => e = .returned (.tuple #[.int .i64 (tkN S t : Int), .int .i64 (tkE S t)]) ∧ FV W p q cap g0 B' S' w' ∧ KT 63 w1 w' ∧ KT 40 w1 w' := by
  obtain ⟨m, hv, hm⟩ := h.rv.vi
  obtain ⟨B', S', h1, h2⟩ := take_dir (i := 0) t h.ti h.fd (by decide) hl hv
  exact ⟨B', S', h1, h2.mono fun e w' ⟨k1, k2⟩ => ⟨k1, ⟨h.rv.vpd hm k2, h1.ti, h1.fd⟩, k2.kt (by decide) hv, k2.kt (by decide) hv⟩⟩
theorem find_fv {W w1 : World} {p q cap g0 : Nat} {B : List ByteArray} {S : List (List UInt8)} (t : ByteArray) (h : FV W p q cap g0 B S w1) :
    Calls Tryz.prog 15 #[.pointer (some ⟨p, 0, none⟩), .int .i64 0, .string t] w1 fun e w' => e = .returned (.tuple #[.int .i64 (tkN S t : Int), .int .i64 (tkE S t)]) ∧ Below w1.heap.size w1 w' := by
  obtain ⟨m, hv, hm⟩ := h.rv.vi
  exact find_dir (i := 0) t h.ti h.fd (by decide) hv
theorem names_fv {W w1 : World} {p q cap g0 : Nat} {B : List ByteArray} {S : List (List UInt8)} (h : FV W p q cap g0 B S w1) :
    Calls Tryz.prog 17 #[.pointer (some ⟨p, 0, none⟩), .int .i64 0] w1 fun e w' => ∃ v, e = .returned (.tuple #[v, .int .i64 0]) ∧ SRow w1.heap.size w' v (sortN (namesL S)) ∧ Below w1.heap.size w1 w' := by
  obtain ⟨m, hv, hm⟩ := h.rv.vi
  exact names_fd (i := 0) h.ti h.fd (by decide) hv
theorem pdE_cases {S : List (List UInt8)} {t : ByteArray} {tn : Int} (h : pdE S t tn = 0) : nmB t = 0 ∧ S.any (hsN · t) = false ∧ 1 ≤ tn ∧ tn < 64 := by
  unfold pdE at h
  by_cases hn : nmB t ≠ 0
  · rw [if_pos hn] at h; exact absurd h hn
  · rw [if_neg hn] at h
    by_cases h1 : tn < 1 ∨ 63 < tn
    · rw [if_pos h1] at h; exact absurd h (by decide)
    · rw [if_neg h1] at h
      cases ha : S.any (hsN · t) with
      | true => rw [ha] at h; exact absurd h (by decide)
      | false => exact ⟨by omega, rfl, by omega, by omega⟩
theorem pdE_302 {S : List (List UInt8)} {t : ByteArray} {tn : Int} (h : pdE S t tn = 302) : S.any (hsN · t) = true := by
  unfold pdE at h
  by_cases hn : nmB t ≠ 0
  · rw [if_pos hn] at h; exact absurd h (nmB_302 t)
  · rw [if_neg hn] at h
    by_cases h1 : tn < 1 ∨ 63 < tn
    · rw [if_pos h1] at h; exact absurd h (by decide)
    · rw [if_neg h1] at h
      cases ha : S.any (hsN · t) with
      | true => rfl
      | false => rw [ha] at h; exact absurd h (by decide)
set_option maxRecDepth 100000 in
set_option maxHeartbeats 8000000 in
theorem finds_walk (v : Value) (l : List Stp) (w : World) (hT : TLie w v l) : Calls Tryz.prog 4 #[v] w fun e w' => e = .returned (.bool true) ∧ Below w.heap.size w w' := by
  obtain ⟨ao, cap0, rfl, h1, h2, h3⟩ := hT
  have HC := hid h3
  unfold maxLen at h2
  obtain ⟨n, hn⟩ : ∃ n, n = l.length := ⟨_, rfl⟩
  rw [← hn] at h1 ⊢
  have HN := hid hn
  clear h3 hn
  have q26 : ∀ (w : World) (g : Nat), (binOp .eql 26 (.pointer (some ⟨g, 0, none⟩)) (.pointer none)).run Tryz.prog w = .ok (.bool false) w := fun w g => by kernel_rfl
  have q26n : ∀ (w : World) (g : Nat), (binOp .neq 26 (.pointer (some ⟨g, 0, none⟩)) (.pointer none)).run Tryz.prog w = .ok (.bool true) w := fun w g => by kernel_rfl
  go_enter Tryz.func4, Tryz.ntmps4
  go_wp2_with (go_at_call 25; fail)
  refine (start_any _).mono ?_
  rintro e w1 ⟨p, rfl, hd1⟩
  obtain ⟨q, cap, m, hv, hq, hm⟩ := hd1.sv.ex
  obtain ⟨g0, hg0⟩ : ∃ g0, g0 = w1.heap.size := ⟨_, rfl⟩
  have HD : Hid (FV w p q cap g0 B0 [] w1) := hid ⟨⟨⟨m, hv, hm⟩, ⟨by rw [hg0]; exact hv.pl, by rw [hg0]; exact hv.ql, hd1.sv.le⟩, hd1.sv.bel, by rw [hg0]; exact hd1.sv.bel.size, by omega⟩, hd1.ti, hd1.fd⟩
  have HB1 := hid hd1.sv.bel
  clear hd1 hv hq hm hg0
  by_cases hbig : 200 < n
  · have hb : decide (200 < (n : Int)) = true := decide_eq_true (by omega)
    go_wp2_with (go_at_call 9; refine (speaks_any _).mono ?_; rintro e w2 ⟨rfl, b2⟩; have HB2 := hid (HB1.out.next b2); clear b2)
    go_ret
    exact ⟨rfl, HB2.out⟩
  · have hb : decide (200 < (n : Int)) = false := decide_eq_false (by omega)
    go_wp2
    go_loopw [4, 36] (fun hv ix wr => ∃ (j : Nat) (B : List ByteArray) (S : List (List UInt8)) (H : List (ByteArray × Nat)), ix = .int .i64 (j : Int) ∧ j ≤ n ∧ S.length ≤ j ∧ H.length ≤ j ∧ Hid (FV w p q cap g0 B S wr) ∧ Hid (NRow g0 wr hv H) ∧ Hid (HR S H)) (fun _ ix _ => n - (intOf ix).toNat)
    case atStart => exact ⟨0, B0, [], [], rfl, Nat.zero_le _, Nat.le_refl _, Nat.le_refl _, HD, NRow.nil _ _, HR.nil⟩
    case round =>
      obtain ⟨j, B, S, H, rfl, hj, hSj, hHj, HV, HR0, HH⟩ := hrel
      rename World => wr
      clear HD HB1
      obtain ⟨ah, ch, rfl, hch, hcm⟩ := HR0.out.sl
      obtain ⟨hN, hhN⟩ : ∃ hN, hN = H.length := ⟨_, rfl⟩
      rw [← hhN] at hHj HR0 hch ⊢
      have HHN := hid hhN
      clear hhN
      unfold maxLen at hcm
      by_cases hlt : j < n
      · have hj' : j < l.length := by rw [← HN.out]; exact hlt
        obtain ⟨gb, off, ea, hgb, hat, hsz⟩ := HC.out j hj'
        subst ea
        obtain ⟨⟨sk, sd, st', sn⟩, hs⟩ : ∃ s, s = l[j]'hj' := ⟨_, rfl⟩
        rw [← hs] at hat hsz
        clear hs
        obtain ⟨c0, c1, c2, c3⟩ := hat.same (HV.out.rv.bel.block gb hgb)
        simp only at c0 c1 c2 c3
        have HSZ := hid hsz
        have hgr : gb < wr.heap.size := Nat.lt_of_lt_of_le hgb HV.out.rv.bel.size
        clear hat hsz
        go_upto_region 8 with fail
        obtain ⟨wa, hwa⟩ : ∃ wa, wa = wr.alloc (.cells #[.int .i64 sk, .int .i64 sd, .int .i64 st', .string sn] 40) := ⟨_, rfl⟩
        have hka : Below wr.heap.size wr wa := by rw [hwa]; exact below_alloc wr _
        have hB4 : SB4 wr.heap.size wa ⟨sk, sd, st', sn⟩ := by rw [hwa]; exact box_at _ _
        have HVa := hid (HV.out.next hka)
        have HRa := hid (HR0.out.below hka)
        rw [← hwa]
        obtain ⟨rb, hrb⟩ : ∃ rb, rb = wr.heap.size := ⟨_, rfl⟩
        rw [← hrb] at hB4 ⊢
        have HB4 := hid hB4
        clear hwa hB4 hrb c0 c1 c2 c3 hgb hgr HV HR0 hka
        go_wp2
        go_loopw [7, 42] (fun av ix wx => ∃ i : Nat, av = .int .i64 (atN H sn i) ∧ ix = .int .i64 (i : Int) ∧ i ≤ hN ∧ Hid (Below wa.heap.size wa wx)) (fun _ ix _ => hN - (intOf ix).toNat)
        case atStart => exact ⟨0, rfl, rfl, Nat.zero_le _, hid (Below.refl _ _)⟩
        case round =>
          obtain ⟨i, rfl, rfl, hi, HX⟩ := hrel
          rename World => wx
          by_cases hil : i < hN
          · have hi' : i < H.length := by rw [← HHN.out]; exact hil
            obtain ⟨x, cx, ex, _, _, hxl, _, hxc⟩ := HRa.out.at (by omega)
            injection ex with e1 e2 e3
            subst e1
            clear e2 e3
            obtain ⟨k0, k1⟩ := hxc i hi'
            have k0x := (HX.out.cell (p := ⟨x, i * 2, none⟩) hxl).trans k0
            have k1x := (HX.out.cell (p := ⟨x, i * 2 + 1, none⟩) hxl).trans k1
            have hxlx : x < wx.heap.size := Nat.lt_of_lt_of_le hxl HX.out.size
            have HU : Hid (atN H sn (i + 1) = if ((H[i]'hi').1.toList == sn.toList) then (i : Int) else atN H sn i) := hid (by
              have hg : H.getD i (ByteArray.empty, 0) = H[i]'hi' := by rw [List.getD_eq_getElem?_getD, List.getElem?_eq_getElem hi']; rfl
              rw [atN, hg])
            obtain ⟨d0, d1, d2, d3⟩ := (HB4.out.kt (KT.of_below HX.out)).cells
            have hrbl := Nat.lt_of_lt_of_le (lt_of_block HB4.out) HX.out.size
            simp only at d0 d1 d2 d3
            obtain ⟨⟨ht, hm⟩, hy⟩ : ∃ y, y = H[i]'hi' := ⟨_, rfl⟩
            rw [← hy] at k0x k1x HU
            simp only at k0x k1x HU
            obtain ⟨A0, hA0⟩ : ∃ A0, A0 = atN H sn i := ⟨_, rfl⟩
            rw [← hA0] at HU ⊢
            clear hxc k0 k1 hy hA0 d0 d1 d2
            have HXN := hid (HX.out.next (below_alloc wx (.cells #[.string ht, .int .i64 (hm : Int)] 63)))
            cases hq : (ht.toList == sn.toList) with
            | true =>
              rw [hq] at HU
              simp only [if_true] at HU
              go_wp2
              go_roundw
              case rel => exact ⟨i + 1, by rw [HU.out], by go_num, by omega, HXN⟩
              case measure => simp [intOf]; omega
            | false =>
              rw [hq] at HU
              simp only [Bool.false_eq_true, if_false] at HU
              go_wp2
              go_roundw
              case rel => exact ⟨i + 1, by rw [HU.out], by go_num, by omega, HXN⟩
              case measure => simp [intOf]; omega
          · have hie : i = hN := by omega
            subst hie
            have HVx := hid (HVa.out.next HX.out)
            have HRx := hid (HRa.out.below HX.out)
            have HBx := hid (HB4.out.kt (KT.of_below HX.out))
            have HAC : Hid ((atN H sn i = -1 ∧ ∀ n, (sn, n) ∉ H) ∨ ∃ (j : Nat) (hj : j < H.length), atN H sn i = (j : Int) ∧ (H[j]'hj).1 = sn) := hid (by rw [HHN.out]; exact at_cases H sn)
            obtain ⟨A, hA⟩ : ∃ A, A = atN H sn i := ⟨_, rfl⟩
            rw [← hA] at HAC ⊢
            clear hA HVa HRa HB4 HX
            obtain ⟨d0, d1, d2, d3⟩ := HBx.out.cells
            have hrbl := lt_of_block HBx.out
            simp only at d0 d1 d2 d3
            have HRN := hid (fun W => rname_any sn W HSZ.out)
            obtain ⟨E, hE⟩ : ∃ E, E = nmB sn := ⟨_, rfl⟩
            rw [← hE] at HRN
            have HE := hid hE
            clear hE
            have hdec : decide ((i : Int) < (i : Int)) = false := by simp
            go_upto_if 60 with (go_at_call 26; refine (HRN.out _).mono ?_; rintro e w2 ⟨rfl, hw⟩; have hw := hw.symm; subst hw)
            obtain ⟨rt, hrt⟩ : ∃ rt, rt = (E == 0) := ⟨_, rfl⟩
            rw [← hrt]
            have HRT := hid hrt
            clear hrt
            have HSi : Hid (S.length ≤ j ∧ H.length ≤ j) := hid ⟨hSj, by have := HHN.out; omega⟩
            go_cut [4, 11, 36] from 36 to 167 (fun hv' ev ix wx => ix = .int .i64 (j : Int) ∧ ∃ (B1 : List ByteArray) (S1 : List (List UInt8)) (H1 : List (ByteArray × Nat)), FV w p q cap g0 B1 S1 wx ∧ NRow g0 wx hv' H1 ∧ HR S1 H1 ∧ S1.length ≤ j + 1 ∧ H1.length ≤ j + 1 ∧ SB4 rb wx ⟨sk, sd, st', sn⟩ ∧ (¬ sk < 2 → hv' = .slice ah i ch ∧ H1 = H ∧ S1 = S))
            case first =>
              by_cases hk : sk < 2
              · have hkd : decide (sk < 2) = true := decide_eq_true hk
                obtain ⟨r, B', S', hP, hC⟩ := put_fv sn st' HVx.out (by have := HSi.out; omega)
                have HCp := hid hC
                have HG := hid hP.grow.2
                have HRES := hid hP.res
                clear hC hP
                by_cases hr : r = 0
                · subst hr
                  obtain ⟨tn, hw1, hw2, hno, hHR, etn⟩ : ∃ (tn : Nat), rt = true ∧ A = -1 ∧ (∀ n, (sn, n) ∉ H) ∧ HR S' (H ++ [(sn, tn)]) ∧ st' = (tn : Int) := by
                    rcases HRES.out with ⟨h, _⟩ | ⟨_, hp, eS, _⟩
                    · exact absurd rfl h
                    · obtain ⟨n0, hany, t1, t2⟩ := pdE_cases hp
                      have hno : ∀ n, (sn, n) ∉ H := fun n hn => by
                        obtain ⟨s, hs1, hs2⟩ := (HH.out.any sn).2 ⟨n, hn⟩
                        rw [List.any_eq_false] at hany
                        exact hany s hs1 hs2
                      refine ⟨st'.toNat, by rw [HRT.out, HE.out, n0]; rfl, ?_, hno, ?_, by omega⟩
                      · rcases HAC.out with ⟨hA, _⟩ | ⟨jj, hjj, _, hx⟩
                        · exact hA
                        · exact absurd (by rw [← hx]; exact List.getElem_mem hjj) (hno (H[jj]'hjj).2)
                      · rw [eS]
                        exact HH.out.put hno n0 (by omega) (by omega)
                  clear HAC HRES
                  clear HRT
                  subst hw2 etn hw1
                  have HHR := hid hHR
                  clear hHR hno
                  go_wp2_with (go_at_call 11; fail)
                  refine HCp.out.mono ?_
                  rintro e w3 ⟨rfl, hv3, k63, k40⟩
                  have HV3 := hid hv3
                  have HR3 := hid (HRx.out.frame k63)
                  have HB3 := hid (HBx.out.kt k40)
                  obtain ⟨b0, b1, b2, b3⟩ := HB3.out.cells
                  have hrb3 := lt_of_block HB3.out
                  have hkn := below_alloc w3 (.cells #[.string sn, .int .i64 (tn : Int)] 63)
                  have HRn := hid (HR3.out.below hkn)
                  have HVn := hid (HV3.out.next hkn)
                  have HBn := hid (HB3.out.kt (KT.of_below hkn))
                  have HCL : Hid (∀ q, q < 2 → (w3.alloc (.cells #[.string sn, .int .i64 (tn : Int)] 63)).cell? ⟨w3.heap.size, q, none⟩ = (nC (sn, tn))[q]?) := hid (fun q _ => by
                    have := box_at w3 (.cells #[.string sn, .int .i64 (tn : Int)] 63)
                    simp only [World.cell?, this]
                    simp [nC])
                  simp only at b0 b1 b2 b3
                  clear hv3 k63 k40 hkn d0 d1 d2 d3
                  go_wp2_with (first
                    | (at_builtin; refine appN rfl (.tmp 75) (.tmp 81) rfl g0 _ H rfl HRn.out w3.heap.size 0 1 1 [(sn, tn)] rfl rfl (by intro q hq; have : q = 0 := (by simpa using hq); subst this; exact ⟨HCL.out 0 (by decide), HCL.out 1 (by decide)⟩) (by have := HSi.out; omega) (by simp) HVn.out.rv.gl ?_; intro v5 w5 hr5 hg5; have HR5 := hid hr5; have HG5 := hid hg5; clear hr5 hg5))
                  go_meet
                  exact ⟨rfl, B', S', H ++ [(sn, tn)], HVn.out.grow HRn.out (Nat.le_refl _) HG5.out, HR5.out, HHR.out, by have := HG.out; have := HSi.out; omega, by have := HSi.out; simp; omega, HBn.out.grow HRn.out HG5.out, fun h => absurd hk (by omega)⟩
                · have eS : Hid (S' = S) := hid (by
                    rcases HRES.out with ⟨_, e, _⟩ | ⟨h, _⟩
                    · exact e
                    · exact absurd h hr)
                  have hr0 : (r == 0) = false := by simpa using hr
                  by_cases h302 : r = 302
                  · obtain ⟨jj, hjj⟩ : ∃ jj : Nat, A = (jj : Int) := by
                      rcases HAC.out with ⟨_, hno⟩ | ⟨jj, _, hA, _⟩
                      · exfalso
                        rcases HRES.out with ⟨_, _, _, h4, h5⟩ | ⟨h, _⟩
                        · by_cases hp : pdE S sn st' = 0
                          · have := (h5 hp).1; omega
                          · have h6 := pdE_302 ((h4 hp).symm.trans h302)
                            rw [HH.out.notin hno] at h6; cases h6
                        · exact hr h
                      · exact ⟨jj, hA⟩
                    subst hjj
                    have h3 : (r == 302) = true := by simpa using h302
                    have hA0 : decide ((jj : Int) < 0) = false := decide_eq_false (by omega)
                    clear HAC HRES hr h302
                    go_wp2_with (first
                      | (go_at_call 11; refine HCp.out.mono ?_; rintro e w3 ⟨rfl, hv3, k63, k40⟩; have HV3 := hid hv3; have HR3 := hid (HRx.out.frame k63); have HB3 := hid (HBx.out.kt k40); clear hv3 k63 k40))
                    go_meet
                    exact ⟨rfl, B', S', H, HV3.out, HR3.out, by rw [eS.out]; exact HH.out, by rw [eS.out]; have := HSi.out; omega, by have := HSi.out; omega, HB3.out, fun h => absurd hk (by omega)⟩
                  · have h3 : (r == 302) = false := by simpa using h302
                    clear HAC HRES hr h302
                    go_wp2_with (first
                      | (go_at_call 11; refine HCp.out.mono ?_; rintro e w3 ⟨rfl, hv3, k63, k40⟩; have HV3 := hid hv3; have HR3 := hid (HRx.out.frame k63); have HB3 := hid (HBx.out.kt k40); clear hv3 k63 k40))
                    go_meet
                    exact ⟨rfl, B', S', H, HV3.out, HR3.out, by rw [eS.out]; exact HH.out, by rw [eS.out]; have := HSi.out; omega, by have := HSi.out; omega, HB3.out, fun h => absurd hk (by omega)⟩
              · have hkd : decide (sk < 2) = false := decide_eq_false hk
                go_wp2
                go_meet
                exact ⟨rfl, B, S, H, HVx.out, HRx.out, HH.out, by have := HSi.out; omega, by have := HSi.out; omega, HBx.out, fun _ => ⟨rfl, rfl, rfl⟩⟩
            case rest =>
              obtain ⟨rfl, B1, S1, H1, hfv, hrow, hhr, hs1, hs2, hb4, himp⟩ := hcut
              rename World => W2
              have HVy := hid hfv
              have HRy := hid hrow
              have HHy := hid hhr
              have HBy := hid hb4
              have HSy : Hid (S1.length ≤ j + 1 ∧ H1.length ≤ j + 1) := hid ⟨hs1, hs2⟩
              have HIM := hid himp
              clear hfv hrow hhr hb4 himp d0 d1 d2 d3 HVx HRx HBx hs1 hs2 hrbl
              obtain ⟨d0, d1, d2, d3⟩ := HBy.out.cells
              have hrbl := lt_of_block HBy.out
              simp only at d0 d1 d2 d3
              go_upto_if 91 with fail
              go_cut [4, 12, 13, 14, 36] from 36 to 167 (fun hv' a1 a2 a3 ix wx => ix = .int .i64 (j : Int) ∧ ∃ (B1 : List ByteArray) (S1 : List (List UInt8)) (H1 : List (ByteArray × Nat)), FV w p q cap g0 B1 S1 wx ∧ NRow g0 wx hv' H1 ∧ HR S1 H1 ∧ S1.length ≤ j + 1 ∧ H1.length ≤ j + 1)
              case first =>
                by_cases hk2 : sk = 2
                · have hkd : (sk == 2) = true := by simpa using hk2
                  obtain ⟨ev, eH, eS⟩ := HIM.out (by omega)
                  clear HIM
                  subst ev
                  subst eH
                  subst eS
                  obtain ⟨B', S', hP, hC⟩ := take_fv sn HVy.out (by have := HSy.out; omega)
                  have HRES := hid hP.res
                  have HGR := hid hP.grow.2
                  rcases HAC.out with ⟨hA, hno⟩ | ⟨jj, hjj, hA, hx⟩
                  · have ht0 := HHy.out.tk_none hno
                    have eS : Hid (S' = S1) := hid (by
                      rcases HRES.out with ⟨_, e, _⟩ | ⟨h, _⟩
                      · exact e
                      · exact absurd h ht0)
                    obtain ⟨te, hte⟩ : ∃ te, te = tkE S1 sn := ⟨_, rfl⟩
                    obtain ⟨tn, htn⟩ : ∃ tn, tn = tkN S1 sn := ⟨_, rfl⟩
                    rw [← hte] at ht0
                    rw [← hte, ← htn] at hC
                    have h0 : (te == 0) = false := by simpa using ht0
                    have HCp := hid hC
                    clear hC hP HRES HAC hno hte htn ht0
                    subst hA
                    go_wp2_with (go_at_call 13; fail)
                    refine HCp.out.mono ?_
                    rintro e w3 ⟨rfl, hv3, k63, k40⟩
                    have HV3 := hid hv3
                    have HR3 := hid (HRy.out.frame k63)
                    clear hv3 k63 k40 d0 d1 d2 d3
                    go_wp2
                    go_meet
                    exact ⟨rfl, B', S', H1, HV3.out, HR3.out, by rw [eS.out]; exact HHy.out, by rw [eS.out]; exact HSy.out.1, HSy.out.2⟩
                  · obtain ⟨nn, hnn⟩ : ∃ nn, nn = (H1[jj]'hjj).2 := ⟨_, rfl⟩
                    have hmem : (sn, nn) ∈ H1 := by rw [← hx, hnn]; exact List.getElem_mem hjj
                    obtain ⟨f1, f2, _⟩ := HHy.out.find hmem
                    have HT : Hid (HR S' (H1.take jj ++ H1.drop (jj + 1))) := hid (by
                      rcases HRES.out with ⟨h, _⟩ | ⟨_, e, _⟩
                      · exact absurd f1 h
                      · have := HHy.out.take hjj
                        rw [hx] at this
                        rw [e]; exact this)
                    rw [f1, f2] at hC
                    have HCp := hid hC
                    have HX := hid (show (H1[jj]'hjj).2 = nn from hnn.symm)
                    have HJJ := hid hjj
                    have hji : jj < i := by rw [HHN.out]; exact hjj
                    have hA0 : decide ((0 : Int) ≤ (jj : Int)) = true := decide_eq_true (by omega)
                    have hne : ((nn : Int) != (nn : Int)) = false := by simp
                    have hj200 : i ≤ 201 := by have := HSy.out.2; rw [← HHN.out] at this; omega
                    clear hC hP HRES HAC hnn hmem f1 f2 hx
                    subst hA
                    go_wp2_with (go_at_call 13; fail)
                    refine HCp.out.mono ?_
                    rintro e w3 ⟨rfl, hv3, k63, k40⟩
                    have HV3 := hid hv3
                    have HR3 := hid (HRy.out.frame k63)
                    clear hv3 k63 k40 d0 d1 d2 d3
                    obtain ⟨x, cx, ex, _, _, hxl, hgx, hxc⟩ := HR3.out.at (by have := HJJ.out; omega)
                    injection ex with e1 e2 e3
                    subst e1
                    clear e2 e3
                    have HXC := hid hxc
                    have k1 : w3.cell? ⟨x, jj * 2 + 1, none⟩ = some (.int .i64 (nn : Int)) := by rw [← HX.out]; exact (hxc jj HJJ.out).2
                    have hpre := run_pre61 x i ch jj (by omega)
                    have hsuf : ∀ W : World, (Instr.slice 61 (.slice (some ⟨x, 0, none⟩) i ch) (some (.int .i64 ((jj : Int) + 1))) none none).run Tryz.prog W = .ok (.slice (some ⟨x, sufO ch (jj + 1), none⟩) (i - (jj + 1)) (ch - (jj + 1))) W := fun W => by
                      have := run_suf61 x i ch (jj + 1) (by omega) (by omega) W
                      rw [show (((jj + 1 : Nat)) : Int) = (jj : Int) + 1 by omega] at this
                      exact this
                    have HU1 : Hid (∀ z (hz : z < (H1.take jj).length), w3.cell? ⟨x, 0 + z * 2, none⟩ = some (.string ((H1.take jj)[z]'hz).1) ∧ w3.cell? ⟨x, 0 + z * 2 + 1, none⟩ = some (.int .i64 (((H1.take jj)[z]'hz).2 : Int))) := hid (fun z hz => by
                      rw [List.getElem_take, Nat.zero_add]
                      exact HXC.out z (by rw [List.length_take] at hz; omega))
                    have HU2 : Hid (∀ (W : World), W.heap[x]? = w3.heap[x]? → ∀ z (hz : z < (H1.drop (jj + 1)).length), W.cell? ⟨x, sufO ch (jj + 1) + z * 2, none⟩ = some (.string ((H1.drop (jj + 1))[z]'hz).1) ∧ W.cell? ⟨x, sufO ch (jj + 1) + z * 2 + 1, none⟩ = some (.int .i64 (((H1.drop (jj + 1))[z]'hz).2 : Int))) := hid (fun W hW z hz => by
                      rw [List.length_drop] at hz
                      have hso : sufO ch (jj + 1) = (jj + 1) * 2 := by unfold sufO; rw [if_neg (by have := HHN.out; omega)]
                      rw [List.getElem_drop, hso, show (jj + 1) * 2 + z * 2 = (jj + 1 + z) * 2 by omega]
                      obtain ⟨g1, g2⟩ := HXC.out (jj + 1 + z) (by omega)
                      exact ⟨(cell_same hW _).trans g1, (cell_same hW _).trans g2⟩)
                    have HNI : Hid (NRow w3.heap.size w3 (.slice none 0 0) []) := hid (NRow.nil _ _)
                    have HL1 : Hid (jj = (H1.take jj).length) := hid (by rw [List.length_take]; have := HJJ.out; omega)
                    have HL2 : Hid (i - (jj + 1) = (H1.drop (jj + 1)).length) := hid (by rw [List.length_drop, HHN.out])
                    have HL3 : Hid ((H1.take jj).length ≤ 2000 ∧ (H1.drop (jj + 1)).length ≤ 2000) := hid (by rw [List.length_take, List.length_drop]; have := HHN.out; omega)
                    clear hxc hgx
                    go_wp2_with (first
                      | (at_builtin; refine appN rfl (.tmp 119) (.tmp 122) rfl w3.heap.size _ [] rfl HNI.out x 0 jj ch (H1.take jj) rfl HL1.out HU1.out (by simp) HL3.out.1 (Nat.le_refl _) ?_; intro v4 w4 hr4 hg4; have HR4 := hid hr4; have HG4 := hid hg4; clear hr4 hg4)
                      | (at_builtin; refine appN rfl (.tmp 124) (.tmp 128) rfl w3.heap.size v4 _ rfl HR4.out x (sufO ch (jj + 1)) (i - (jj + 1)) (ch - (jj + 1)) (H1.drop (jj + 1)) rfl HL2.out (HU2.out w4 (HG4.out.block x hxl (by intro h; cases h))) HL3.out.1 HL3.out.2 HG4.out.size ?_; intro v5 w5 hr5 hg5; have HR5 := hid hr5; have HG5 := hid hg5; clear hr5 hg5))
                    go_meet
                    have hgl := HV3.out.rv.gl
                    exact ⟨rfl, B', S', H1.take jj ++ H1.drop (jj + 1), (HV3.out.grow HNI.out hgl HG4.out).grow HR4.out hgl HG5.out, HR5.out.wide hgl, HT.out, by rw [HGR.out]; exact HSy.out.1, by rw [List.length_append, List.length_take, List.length_drop]; have := HSy.out.2; omega⟩
                · have hkd : (sk == 2) = false := by simpa using hk2
                  clear HIM HAC
                  go_wp2
                  go_meet
                  exact ⟨rfl, B1, S1, H1, HVy.out, HRy.out, HHy.out, HSy.out.1, HSy.out.2⟩
              case rest =>
                obtain ⟨rfl, B2, S2, H2, hfv, hrow, hhr, hs1, hs2⟩ := hcut
                rename World => W3
                have HVz := hid hfv
                have HRz := hid hrow
                have HHz := hid hhr
                have HSz : Hid (S2.length ≤ j + 1 ∧ H2.length ≤ j + 1) := hid ⟨hs1, hs2⟩
                clear hfv hhr d0 d1 d2 d3 HVy HRy HBy hs1 hs2 hrbl HIM HAC HHy HSy
                obtain ⟨a2, c2, e2, hc2, hm2⟩ := hrow.sl
                subst e2
                have HLN := hid HHz.out.len
                obtain ⟨n2, hn2⟩ : ∃ n2, n2 = H2.length := ⟨_, rfl⟩
                rw [← hn2] at HLN HRz HSz hc2 ⊢
                have HN2 := hid hn2
                unfold maxLen at hm2
                clear hn2 hrow
                go_wp2
                go_loopw [133] (fun ix wx => ∃ i2 : Nat, ix = .int .i64 (i2 : Int) ∧ i2 ≤ n2 ∧ Hid (Below W3.heap.size W3 wx)) (fun ix _ => n2 - (intOf ix).toNat)
                case atStart => exact ⟨0, rfl, Nat.zero_le _, hid (Below.refl _ _)⟩
                case round =>
                  obtain ⟨i2, rfl, hi2, HX⟩ := hrel
                  rename World => wx
                  by_cases hil : i2 < n2
                  · have hi' : i2 < H2.length := by rw [← HN2.out]; exact hil
                    obtain ⟨x, cx, ex, _, _, hxl, _, hxc⟩ := HRz.out.at (by omega)
                    injection ex with e1 e2 e3
                    subst e1
                    clear e2 e3
                    obtain ⟨k0, k1⟩ := hxc i2 hi'
                    have k0x := (HX.out.cell (p := ⟨x, i2 * 2, none⟩) hxl).trans k0
                    have k1x := (HX.out.cell (p := ⟨x, i2 * 2 + 1, none⟩) hxl).trans k1
                    have hxlx : x < wx.heap.size := Nat.lt_of_lt_of_le hxl HX.out.size
                    obtain ⟨f1, f2, _⟩ := HHz.out.find (t := (H2[i2]'hi').1) (n := (H2[i2]'hi').2) (List.getElem_mem hi')
                    obtain ⟨⟨ht, hm⟩, hy⟩ : ∃ y, y = H2[i2]'hi' := ⟨_, rfl⟩
                    rw [← hy] at k0x k1x f1 f2
                    simp only at k0x k1x f1 f2
                    have hHF := fun (W : World) (h : FV w p q cap g0 B2 S2 W) => find_fv ht h
                    rw [f1, f2] at hHF
                    have HHF := hid hHF
                    clear hxc k0 k1 hy f1 f2 hHF
                    go_upto_region 36 with fail
                    obtain ⟨wb, hwb⟩ : ∃ wb, wb = wx.alloc (.cells #[.string ht, .int .i64 (hm : Int)] 63) := ⟨_, rfl⟩
                    have hkb : Below wx.heap.size wx wb := by rw [hwb]; exact below_alloc wx _
                    have hbb : wb.heap[wx.heap.size]? = some (.cells #[.string ht, .int .i64 (hm : Int)] 63 (0, 0)) := by rw [hwb]; exact box_at _ _
                    rw [← hwb]
                    obtain ⟨tb, htb⟩ : ∃ tb, tb = wx.heap.size := ⟨_, rfl⟩
                    rw [← htb] at hbb ⊢
                    have HBB := hid hbb
                    have HVb := hid ((HVz.out.next HX.out).next hkb)
                    have HXb := hid (HX.out.next hkb)
                    have t0 : wb.cell? ⟨tb, 0, none⟩ = some (.string ht) := by simp [World.cell?, HBB.out]
                    have t1 : wb.cell? ⟨tb, 1, none⟩ = some (.int .i64 (hm : Int)) := by simp [World.cell?, HBB.out]
                    have htl := lt_of_block HBB.out
                    clear hwb hkb hbb htb k0x k1x hxlx
                    go_wp2_with (go_at_call 15; fail)
                    refine (HHF.out _ HVb.out).mono ?_
                    rintro e w5 ⟨rfl, hb5⟩
                    have u1 := (hb5.cell (p := ⟨tb, 1, none⟩) htl).trans t1
                    have htl5 : tb < w5.heap.size := Nat.lt_of_lt_of_le htl hb5.size
                    have HX5 := hid (HXb.out.next hb5)
                    have hne : ((hm : Int) != (hm : Int)) = false := by simp
                    clear hb5 t0 t1
                    go_wp2
                    go_roundw
                    case rel => exact ⟨i2 + 1, by go_num, by omega, HX5⟩
                    case measure => simp [intOf]; omega
                  · have hie : i2 = n2 := by omega
                    subst hie
                    have HVx := hid (HVz.out.next HX.out)
                    have HRx := hid (HRz.out.below HX.out)
                    have HNA := hid (names_fv HVx.out)
                    obtain ⟨SN, hSN⟩ : ∃ SN, SN = sortN (namesL S2) := ⟨_, rfl⟩
                    have HSN : Hid (SN.length = i2) := hid (by rw [hSN, sortN_len]; exact HLN.out)
                    rw [← hSN] at HNA
                    have hdec : decide ((i2 : Int) < (i2 : Int)) = false := by simp
                    have hne : ((i2 : Int) != (i2 : Int)) = false := by simp
                    clear hSN
                    go_wp2_with (go_at_call 17; fail)
                    refine HNA.out.mono ?_
                    rintro e w6 ⟨v6, rfl, hr6, hb6⟩
                    obtain ⟨ao6, cp6, rfl⟩ := hr6.len
                    rw [HSN.out]
                    have HV6 := hid (HVx.out.next hb6)
                    have HR6 := hid (HRx.out.below hb6)
                    clear hr6 hb6
                    go_wp2
                    go_roundw
                    case rel => exact ⟨j + 1, B2, S2, H2, by go_num, by omega, HSz.out.1, by have := HSz.out.2; rw [← HN2.out]; omega, HV6, HR6, HHz⟩
                    case measure => simp [intOf]; omega
      · have hje : decide ((j : Int) < (n : Int)) = false := decide_eq_false (by omega)
        go_wp2_with (go_at_call 9; refine (speaks_any _).mono ?_; rintro e w2 ⟨rfl, b2⟩; have HB2 := hid (HV.out.rv.bel.next b2); clear b2)
        go_ret
        exact ⟨rfl, HB2.out⟩
end Go.Proofs.YtokjlgebkihimaaGreat
