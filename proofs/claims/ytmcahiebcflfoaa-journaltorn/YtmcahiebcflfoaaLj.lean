import Derived.Test.YtmcahiebcflfoaaLi
import Derived.Deep.CutRange
namespace Go.Proofs.Ytmcahiebcflfoaa
open Go.RowKit Go.Maps
theorem hdB_size (T F E : Nat) : (hdB T F E).size = 128 := by
  unfold hdB
  rw [st_size, sealL_len, bodyL_len _ (by rw [hdL_len]; decide)]
theorem encL_size {s : Nat} {L : List Chg} (hr : right L = true) : ∀ b ∈ encL s L, b.size = 128 := by
  intro b hb
  rw [encL_eq] at hb
  rcases List.mem_cons.1 hb with rfl | hb
  · exact headB_size s hr
  · obtain ⟨c, hc, rfl⟩ := List.mem_map.1 hb
    exact ((right_iff.1 hr).2.2 c hc).2.2
theorem run_field42 (a : Value) (u : ByteArray) (w : World) : (Instr.field 42 (.agg #[a, .string u]) 1).run Try.prog w = .ok (.string u) w := by
  simp [Instr.field, run_underlying Try.underlying42, go_sem, asAgg, Result.andThen]
theorem kindq (K : Int) : K = 2 ∨ K = 3 ∨ (K = 0 ∨ K = 1) ∨ (K ≠ 0 ∧ K ≠ 1 ∧ K ≠ 2 ∧ K ≠ 3) := by omega
theorem app_lie {W : World} {vs : List Value} {Ls : List (List Chg)} {v : Value} {L : List Chg} (hl : vs.length = Ls.length) (hc : ∀ i (hi : i < vs.length) (hj : i < Ls.length), CLie W vs[i] Ls[i]) (h : CLie W v L) : ∀ i (hi : i < (vs ++ [v]).length) (hj : i < (Ls ++ [L]).length), CLie W (vs ++ [v])[i] (Ls ++ [L])[i] := by
  intro i hi hj
  by_cases hiq : i < vs.length
  · rw [List.getElem_append_left hiq, List.getElem_append_left (by omega)]
    exact hc i hiq (by omega)
  · have hie : i = vs.length := by simp at hi; omega
    subst hie
    have e1 : (vs ++ [v])[vs.length] = v := by simp
    have e2 : (Ls ++ [L])[vs.length]'hj = L := by simp [hl]
    rw [e1, e2]
    exact h
theorem app_right {Ls : List (List Chg)} {L : List Chg} (h : ∀ K ∈ Ls, right K = true) (k : right L = true) : ∀ K ∈ Ls ++ [L], right K = true := by
  intro K hK
  rcases List.mem_append.1 hK with hK | hK
  · exact h K hK
  · rw [List.mem_singleton] at hK
    rw [hK]; exact k
/-- what 'played' answers -/
def PP (W : World) (p : Nat) (e : Ending) (w' : World) : Prop :=
  ∃ g r rb T F S Ls A hv vs ho hcap, e = .returned (.tuple #[.slice (some ⟨rb, 0, none⟩) (p + 1) (p + 1), .pointer (some ⟨g, 0, none⟩), .slice ho S hcap]) ∧ PB W g r rb w' p T F S (Ls.map szL) (hdB T F (F + S)) A hv vs Ls ∧ JOk p T F S (Ls.map szL) 300 ∧ RV T F S A Ls False ∧ VL w' (.slice ho S hcap) (Ls.take S) ∧ Below W.heap.size W w'
/-- behind so many steps -/
def PJ2 (W : World) (g rb p j : Nat) (la : Int) (hvv sv kv : Value) (w : World) : Prop :=
  ∃ r T F S Ls A vs, ∃ k : Nat, ∃ ho hcap, PB W g r rb w p T F S (Ls.map szL) (hdB T F (F + S)) A hvv vs Ls ∧ JOk p T F S (Ls.map szL) j ∧ RV T F S A Ls ((j : Int) ≤ la + 1) ∧ hvv = .slice ho Ls.length hcap ∧ sv = .int .i64 (S : Int) ∧ kv = .int .i64 (k : Int) ∧ k ≤ 49 * j
set_option maxRecDepth 100000 in
set_option maxHeartbeats 8000000 in
theorem played_go (p : Nat) (hp : 7 ≤ p ∧ p ≤ 255) (v pv : Value) (l : List Stp) (bs : List Bool) (hl3 : l.length ≤ 300) (W : World) (hl : TLie W v l) (hbs : BLie W pv bs) : Calls Try.prog 29 #[.int .i64 ((p : Int) + 1), v, pv] W fun e w' => PP W p e w' := by
  obtain ⟨ao, cap, rfl, hlc, hcm, hcell⟩ := hl
  have HC := hid hcell
  clear hcell
  have HBS := hid hbs
  obtain ⟨po, pc, rfl, hp1, hp2, _⟩ := hbs
  unfold maxLen at hcm hp2
  have HNew := hid (new_j ((p : Int) + 1) W (by omega))
  rw [show (p : Int) + 1 - 1 = (p : Int) by omega] at HNew
  obtain ⟨g, hg⟩ : ∃ g, g = W.heap.size := ⟨_, rfl⟩
  have HG := hid hg
  rw [← hg] at HNew
  clear hg
  have HBI := hid (fun w => block_bi 0 (by decide) (by decide) w)
  have hz0 := Bi_size 0
  obtain ⟨Z, hZ⟩ : ∃ Z, Z = Bi 0 := ⟨_, rfl⟩
  rw [← hZ] at HBI hz0
  clear hZ
  obtain ⟨cs, hmk, hmF⟩ := mkR (p + 1) (by omega)
  rw [show ((p + 1 : Nat) : Int) = (p : Int) + 1 by omega] at hmk
  have HMF := hid hmF
  clear hmF
  go_enter Try.func29, Try.ntmps29
  go_wp2_with (go_at_call 9; fail)
  refine (HNew.out).mono ?_
  rintro e w1 ⟨rfl, hj1, hb1⟩
  have HJ1 := hid hj1
  have HB1 : Hid (Below W.heap.size W w1) := hid (by rw [← HG.out]; exact hb1)
  have hg1 := hj1.lt.1
  clear hj1 hb1
  have hmk1 := hmk w1
  go_upto_region 5 with fail
  clear hmk1 hmk
  have HR2 := hid (HMF.out w1)
  have HJ2 := hid (HJ1.out.below (below_alloc w1 (.cells cs 9)))
  have HB2 := hid (HB1.out.next (below_alloc w1 (.cells cs 9)))
  obtain ⟨rb, hrb⟩ : ∃ rb, rb = w1.heap.size := ⟨_, rfl⟩
  rw [← hrb] at HR2 ⊢
  have hrg : rb ≠ g := by omega
  have hrB : W.heap.size ≤ rb := by have := HB1.out.size; omega
  obtain ⟨w2, hw2⟩ : ∃ w2, w2 = w1.alloc (.cells cs 9) := ⟨_, rfl⟩
  rw [← hw2] at HR2 HJ2 HB2 ⊢
  clear hw2 hrb HJ1 HB1 hg1
  go_wp2
  go_loopw [43] (fun i wr => ∃ (q : Nat) (X : List ByteArray), i = .int .i64 q ∧ q ≤ p + 1 ∧ X.length = p + 1 ∧ RG wr rb X ∧ (∀ i (hi : i < X.length), i < q → X[i] = Z) ∧ JS g none wr p 0 1 0 [] ∧ Below W.heap.size W wr) (fun i _ => p + 1 - (intOf i).toNat)
  case atStart => exact ⟨0, _, rfl, Nat.zero_le _, by simp, HR2.out, fun i hi h => by omega, HJ2.out, HB2.out⟩
  case round =>
    obtain ⟨q, X, rfl, hq, hXl, hX, hXz, hJ, hB⟩ := hrel
    have HX := hid hX
    have HXz := hid hXz
    have HJ := hid hJ
    have HB := hid hB
    clear hX hXz hJ hB HR2 HJ2 HB2
    by_cases hqk : q < p + 1
    · have hrl := HX.out.lt
      go_wp2_with (first
        | (go_at_call 32; refine (HBI.out _).mono ?_; rintro e w3 ⟨rfl, hb3⟩; have HX3 := hid (HX.out.same (hb3.block _ hrl)); have HJ3 := hid (HJ.out.below hb3); have HB3 := hid (HB.out.next hb3); have c0 := HX3.out.cell q (by omega); have hf0 := HX3.out.free q; have hl3' := HX3.out.lt; clear hb3))
      go_roundw
      case rel =>
        refine ⟨q + 1, X.set q Z, by go_num, by omega, by simp [hXl], HX3.out.set (by omega) _, fun i hi h => ?_, HJ3.out.set hrg (by simp) _ _, HB3.out.setCell hrB _⟩
        rw [List.getElem_set]
        split
        · rfl
        · rw [List.length_set] at hi
          exact HXz.out i hi (by omega)
      case measure => simp [intOf]; omega
    · have hqe : q = p + 1 := by omega
      subst hqe
      have hXe : X = Z :: List.replicate p Z := by
        apply List.ext_getElem
        · simp [hXl]
        · intro i h1 h2
          rw [HXz.out i h1 (by omega)]
          cases i with
          | zero => rfl
          | succ i => simp
      subst hXe
      have HHd := hid (jheader g none p 0 1 0 [] (by omega) (by decide) (by decide))
      have hrl := HX.out.lt
      go_wp2_with (first
        | (go_at_call 20; refine (HHd.out _ HJ.out).mono ?_; rintro e w3 ⟨rfl, hb3⟩; have HX3 := hid (HX.out.same (hb3.block _ hrl)); have HJ3 := hid (HJ.out.below hb3); have HB3 := hid (HB.out.next hb3); have c0 := HX3.out.cell 0 (by simp); have hf0 := HX3.out.free 0; have hl3' := HX3.out.lt; clear hb3))
      have HP4 : Hid (PB W g none rb (w3.setCell ⟨rb, 0, none⟩ (.string (hdB 0 1 (1 + 0)))) p 0 1 0 [] (hdB 0 1 (1 + 0)) (List.replicate p Z) (.slice none 0 0) [] []) := by
        have hr := HX3.out.set (i := 0) (by simp) (hdB 0 1 (1 + 0))
        exact hid ⟨HJ3.out.set hrg (by simp) _ _, hr, VRow.nil _, rfl, fun i hi => by simp at hi, by simp, (fun b hb => by rw [List.eq_of_mem_replicate hb]; exact hz0), (by intro L hL; cases hL), hrg, by simp, (by intro x hx; cases hx), Nat.le_of_eq HG.out.symm, (by intro x hx; cases hx), hrB, (by intro x hx; cases hx)⟩
      have HB4 : Hid (Below W.heap.size W (w3.setCell ⟨rb, 0, none⟩ (.string (hdB 0 1 (1 + 0))))) := hid (HB3.out.setCell hrB _)
      obtain ⟨w4, hw4⟩ : ∃ w4, w4 = w3.setCell ⟨rb, 0, none⟩ (.string (hdB 0 1 (1 + 0))) := ⟨_, rfl⟩
      rw [← hw4] at HP4 HB4
      have HOk : Hid (JOk p 0 1 0 [] 0) := hid ⟨by omega, by omega, by omega, Nat.le_refl _, by simp, Nat.le_refl _, by simp, by show (0 : Int) ≤ p; omega⟩
      have HRV : Hid (∀ q : Prop, RV 0 1 0 (List.replicate p Z) [] q) := fun q => ⟨fun _ => rfl, rfl⟩
      first
        | rw [← hw4]
        | (rw [show (1 : Nat) + 0 = 1 from rfl] at hw4; rw [← hw4])
      clear hw4 HX3 HJ3 HB3 c0 hf0 hl3' HX HXz HJ HB hrl HHd
      go_loopw [13, 57] (fun la i wr => ∃ (q : Nat) (a : Int), i = .int .i64 q ∧ q ≤ l.length ∧ la = .int .i64 a ∧ -1 ≤ a ∧ a < q ∧ (∀ i (hi : i < l.length), i < q → (l[i].k = 2 ∨ l[i].k = 3) → (i : Int) ≤ a) ∧ PB W g none rb wr p 0 1 0 [] (hdB 0 1 (1 + 0)) (List.replicate p Z) (.slice none 0 0) [] [] ∧ Below W.heap.size W wr) (fun _ i _ => l.length - (intOf i).toNat)
      case atStart => exact ⟨0, -1, rfl, Nat.zero_le _, rfl, by decide, by decide, fun i hi h => by omega, HP4.out, HB4.out⟩
      case round =>
        obtain ⟨q, a, rfl, hq, rfl, ha1, ha2, hal, hP, hB⟩ := hrel
        have HAl := hid hal
        have HP := hid hP
        have HB := hid hB
        clear hal hP hB HP4 HB4
        by_cases hqk : q < l.length
        · obtain ⟨bb, off, rfl, hbW, s0, s1, s2, s3⟩ := HC.out q hqk
          obtain ⟨y, hy⟩ : ∃ y, y = l[q] := ⟨_, rfl⟩
          rw [← hy] at s0 s1 s2 s3
          have HY := hid hy
          clear hy
          obtain ⟨K, N, lv, L⟩ := y
          simp only at s0 s1 s2 s3
          obtain ⟨la, lcap, rfl, _, _, _⟩ := s3
          have t0 := (HB.out.cell (p := ⟨bb, off + q * 3, none⟩) hbW).trans s0
          have t1 := (HB.out.cell (p := ⟨bb, off + q * 3 + 1, none⟩) hbW).trans s1
          have t2 := (HB.out.cell (p := ⟨bb, off + q * 3 + 2, none⟩) hbW).trans s2
          have hbr : bb < wr.heap.size := Nat.lt_of_lt_of_le hbW HB.out.size
          clear s0 s1 s2
          have HPx := hid (HP.out.keep (below_alloc wr (.cells #[.int .i64 K, .int .i64 N, .slice la L.length lcap] 33)))
          have HBx := hid (HB.out.next (below_alloc wr (.cells #[.int .i64 K, .int .i64 N, .slice la L.length lcap] 33)))
          have grow : ∀ a' : Int, a ≤ a' → ((K = 2 ∨ K = 3) → (q : Int) ≤ a') → ∀ i (hi : i < l.length), i < q + 1 → (l[i].k = 2 ∨ l[i].k = 3) → (i : Int) ≤ a' := by
            intro a' h1 h2 i hi h3 h4
            by_cases hiq : i < q
            · have := HAl.out i hi hiq h4
              omega
            · have e : i = q := by omega
              subst e
              rw [← HY.out] at h4
              exact h2 h4
          have HGr := hid grow
          clear grow
          by_cases hk2 : K = 2
          · subst hk2
            go_wp2
            go_roundw
            case rel => exact ⟨q + 1, q, by go_num, by omega, rfl, by omega, by omega, HGr.out _ (by omega) (fun _ => Int.le_refl _), HPx.out, HBx.out⟩
            case measure => simp [intOf]; omega
          · by_cases hk3 : K = 3
            · subst hk3
              go_wp2
              go_roundw
              case rel => exact ⟨q + 1, q, by go_num, by omega, rfl, by omega, by omega, HGr.out _ (by omega) (fun _ => Int.le_refl _), HPx.out, HBx.out⟩
              case measure => simp [intOf]; omega
            · have e2 : (K == 2) = false := by simp [hk2]
              have e3 : (K == 3) = false := by simp [hk3]
              go_wp2
              go_roundw
              case rel => exact ⟨q + 1, a, by go_num, by omega, rfl, ha1, by omega, HGr.out _ (Int.le_refl _) (fun h => by rcases h with h | h; exact absurd h hk2; exact absurd h hk3), HPx.out, HBx.out⟩
              case measure => simp [intOf]; omega
        · have hqe : q = l.length := by omega
          subst hqe
          have HL : Hid (∀ i (hi : i < l.length), (l[i].k = 2 ∨ l[i].k = 3) → (i : Int) ≤ a) := fun i hi h => HAl.out i hi hi h
          have HPJ : Hid (PJ2 W g rb p 0 a (.slice none 0 0) (.int .i64 0) (.int .i64 0) wr) := hid ⟨none, 0, 1, 0, [], List.replicate p Z, [], 0, none, 0, HP.out, HOk.out, HRV.out _, rfl, rfl, rfl, Nat.le_refl _⟩
          clear HAl HP HOk HRV HBI HNew HMF
          go_wp2
          go_loopw [16, 17, 18, 74] (fun hvv sv kv i wz => ∃ j : Nat, i = .int .i64 j ∧ j ≤ l.length ∧ PJ2 W g rb p j a hvv sv kv wz ∧ Below W.heap.size W wz) (fun _ _ _ i _ => l.length - (intOf i).toNat)
          case atStart => exact ⟨0, rfl, Nat.zero_le _, HPJ.out, HB.out⟩
          case round =>
            obtain ⟨j, rfl, hj, hJ, hB⟩ := hrel
            have HBz := hid hB
            obtain ⟨r, T, F, S, Ls, A, vs, k, ho, hcap, hP, hO, hR, rfl, rfl, rfl, hk49⟩ := hJ
            have HP := hid hP
            have HO := hid hO
            have HR := hid hR
            have o1 := hO.p0
            have o2 := hO.p1
            have o3 := hO.t
            have o4 := hO.f
            have o5 := hO.fm
            have o6 := hO.s
            have o7 := hO.len
            have o8 := hO.sum
            have HNN := hid hO.nn
            rw [List.length_map] at o5 o6 o7
            have o9 := sum_used Ls
            rw [o9] at o8
            clear hP hO hR hB HPJ
            by_cases hlt : j < l.length
            · obtain ⟨bb, off, rfl, hbW, s0, s1, s2, s3⟩ := HC.out j hlt
              obtain ⟨y, hy⟩ : ∃ y, y = l[j] := ⟨_, rfl⟩
              have HLj := hid (HL.out j hlt)
              rw [← hy] at s0 s1 s2 s3 HLj
              clear hy
              obtain ⟨K, N, lv, L⟩ := y
              simp only at s0 s1 s2 s3 HLj
              have HLW := hid s3
              obtain ⟨la, lcap, rfl, _, _, _⟩ := s3
              have t0 := (HBz.out.cell (p := ⟨bb, off + j * 3, none⟩) hbW).trans s0
              have t1 := (HBz.out.cell (p := ⟨bb, off + j * 3 + 1, none⟩) hbW).trans s1
              have t2 := (HBz.out.cell (p := ⟨bb, off + j * 3 + 2, none⟩) hbW).trans s2
              have hbr : bb < wr.heap.size := Nat.lt_of_lt_of_le hbW HBz.out.size
              clear s0 s1 s2
              have HBx := hid (below_alloc wr (.cells #[.int .i64 K, .int .i64 N, .slice la L.length lcap] 33))
              have HX := hid (box_at wr (.cells #[.int .i64 K, .int .i64 N, .slice la L.length lcap] 33))
              go_upto_block 6 with fail
              have HPx := hid (HP.out.keep HBx.out)
              have HWx := hid (HBz.out.next HBx.out)
              have hzx : (wr.alloc (.cells #[.int .i64 K, .int .i64 N, .slice la L.length lcap] 33)).heap.size = wr.heap.size + 1 := by simp
              obtain ⟨x0, hx0⟩ : ∃ x0, x0 = wr.alloc (.cells #[.int .i64 K, .int .i64 N, .slice la L.length lcap] 33) := ⟨_, rfl⟩
              rw [← hx0] at HPx HWx HX hzx ⊢
              clear hx0 t0 t1 t2 hbr HBx
              have HGX : Hid (JApart g r x0 wr.heap.size) := by
                have a1 := HP.out.js.lt
                refine hid ⟨by omega, by omega, fun e => ?_⟩
                have := (a1.2 _ e.symm).1
                omega
              have hwrb : wr.heap.size ≠ rb := by have := HP.out.rg.lt; omega
              obtain ⟨q0, q1, q2⟩ := three_cells HX.out
              have hlx0 := lt_of_block HX.out
              rcases kindq K with rfl | rfl | hk | ⟨k0, k1, k2, k3⟩
              · have hja : (j : Int) ≤ a := HLj.out (.inl rfl)
                have HRT : Hid (RV T F S A Ls True) := hid ⟨fun _ => HR.out.a (by omega), HR.out.s⟩
                by_cases hN : 0 ≤ N ∧ N ≤ S
                · obtain ⟨m, rfl⟩ : ∃ m : Nat, N = m := ⟨N.toNat, by omega⟩
                  have hmS : m ≤ S := by omega
                  have hT' : (((T + used (Ls.take m)) % p : Nat) : Int) = ((T : Int) + sumI ((Ls.map szL).take m)) % p := by
                    rw [map_szL_take, Int.natCast_emod, Int.natCast_add]
                  have HA := hid (jdone g r p T F S (Ls.map szL) m _ o1 (by omega) o3 (by omega) hmS (by rw [List.length_map]; exact o6) (by rw [List.length_map]; omega) HNN.out (by rw [o9]; exact o8) hT' x0 HPx.out.js)
                  have HO' := hid (HO.out.done hmS hT')
                  have HR' := hid (HRT.out.done HP.out.al (by omega) hmS o6 (by omega))
                  clear hT' hN
                  obtain ⟨T', hT'⟩ : ∃ T', T' = (T + used (Ls.take m)) % p := ⟨_, rfl⟩
                  rw [← hT'] at HA HO' HR'
                  clear hT'
                  have hUz := hdB_size T' (F + m) (F + S)
                  have HUe : Hid (hdB T' (F + m) (F + m + (S - m)) = hdB T' (F + m) (F + S)) := by rw [show F + m + (S - m) = F + S by omega]; exact hid rfl
                  obtain ⟨U, hU⟩ : ∃ U, U = hdB T' (F + m) (F + S) := ⟨_, rfl⟩
                  rw [← hU] at HA hUz HUe
                  clear hU
                  obtain ⟨ca, cm, cm', hcut, hcown, hcrow⟩ := VRow.cut (k := m) (l := vs) (w0 := x0) (ao := ho) (cap := hcap) (by rw [HPx.out.hl]; exact HPx.out.hr) (by obtain ⟨_, _, e, k1, _⟩ := HPx.out.hr.len; injection e with e1 e2 e3; omega) (by obtain ⟨_, _, e, _, k1⟩ := HPx.out.hr.len; injection e with e1 e2 e3; omega) (by rw [HPx.out.hl]; omega)
                  rw [HPx.out.hl] at hcut hcown hcrow
                  have HCO := hid hcown
                  have HCR := hid hcrow
                  clear hcown hcrow
                  go_wp2_with (go_at_call 15; fail)
                  refine (HA.out).mono ?_
                  rintro e w2 ⟨rfl, hj2, hf2⟩
                  have HX2 := hid ((HGX.out.next (.inl rfl) hf2).2.trans HX.out)
                  obtain ⟨hP2, hB2⟩ := HPx.out.jstep hj2 (.inl rfl) hf2
                  have HP3 := hid (hP2.keep (below_alloc w2 (.cells #[.int .i64 0, .string U] 42)))
                  have HB3 := hid ((HWx.out.trans hB2).next (below_alloc w2 (.cells #[.int .i64 0, .string U] 42)))
                  have HX3 := hid ((Below.heap_alloc w2 (.cells #[.int .i64 0, .string U] 42) _ (lt_of_block HX2.out)).trans HX2.out)
                  have HY3 := hid (box_at w2 (.cells #[.int .i64 0, .string U] 42))
                  have hne2 : w2.heap.size ≠ rb := by have := hP2.rg.lt; omega
                  clear hP2 hB2 hj2 hf2 q0 q1 q2
                  obtain ⟨hP4, hB4⟩ := HP3.out.rset (i := 0) (x := U) (by omega) rfl hUz
                  have HP4 := hid hP4
                  have HB4 := hid (HB3.out.trans hB4)
                  have HX4 := hid ((Below.heap_setCell (w2.alloc (.cells #[.int .i64 0, .string U] 42)) ⟨rb, 0, none⟩ (.string U) _ hwrb).trans HX3.out)
                  have HP5 := hid (HP4.out.hslice (HCR.out _ HP4.out.hr) HCO.out)
                  clear hP4 hB4
                  obtain ⟨w3, hw3⟩ : ∃ w3, w3 = w2.alloc (.cells #[.int .i64 0, .string U] 42) := ⟨_, rfl⟩
                  obtain ⟨q0, q1, q2⟩ := three_cells HX3.out
                  have hlx := lt_of_block HX2.out
                  obtain ⟨y0, y1⟩ := two_cells HY3.out
                  have c9 := HP3.out.rg.cell 0 (by simp)
                  have f9 := HP3.out.rg.free 0
                  have l9 := HP3.out.rg.lt
                  go_wp2
                  go_roundw
                  case rel =>
                    refine ⟨j + 1, by go_num, by omega, ⟨r, T', F + m, S - m, Ls.drop m, A, vs.drop m, k, ca, cm', ?_, ?_, HR'.out.weaken (fun _ => trivial), ?_, ?_, rfl, by omega⟩, HB4.out⟩
                    · have := HP5.out
                      rw [HUe.out, List.map_drop]
                      exact this
                    · rw [List.map_drop]
                      exact HO'.out.more (by omega)
                    · obtain ⟨_, _, e, _⟩ := HP5.out.hr.len
                      injection e with e1 e2 e3
                      rw [← HP5.out.hl, ← e2]
                    · congr 1
                      omega
                  case measure => simp [intOf]; omega
                · have HA := hid (jdone_no g r p T F S (Ls.map szL) N o1 hN x0 HPx.out.js)
                  clear hN
                  go_wp2_with (first
                    | (go_at_call 15; refine (HA.out).mono ?_; rintro e w2 ⟨rfl, hb2⟩; have HP3 := hid ((HPx.out.keep hb2).keep (below_alloc w2 (.cells #[.int .i64 0, .string ⟨#[]⟩] 42))); have HB3 := hid ((HWx.out.next hb2).next (below_alloc w2 (.cells #[.int .i64 0, .string ⟨#[]⟩] 42))); clear hb2))
                  go_roundw
                  case rel => exact ⟨j + 1, by go_num, by omega, ⟨r, T, F, S, Ls, A, vs, k, ho, hcap, HP3.out, HO.out.more (by omega), HR.out.weaken (by omega), rfl, rfl, rfl, by omega⟩, HB3.out⟩
                  case measure => simp [intOf]; omega
              · have hja : (j : Int) ≤ a := HLj.out (.inr rfl)
                have HRT : Hid (RV T F S A Ls True) := hid ⟨fun _ => HR.out.a (by omega), HR.out.s⟩
                have HA := hid (jseal g r p T F S (Ls.map szL) o1 (by omega) (by rw [List.length_map]; omega) x0 HPx.out.js)
                rw [List.length_map] at HA
                have hUz := hdB_size T F (F + Ls.length)
                obtain ⟨U, hU⟩ : ∃ U, U = hdB T F (F + Ls.length) := ⟨_, rfl⟩
                rw [← hU] at HA hUz
                have HU := hid hU
                clear hU
                go_wp2_with (go_at_call 17; fail)
                refine (HA.out).mono ?_
                rintro e w2 ⟨rfl, hj2, hf2⟩
                obtain ⟨hP2, hB2⟩ := HPx.out.jstep hj2 (.inl rfl) hf2
                have HP2 := hid hP2
                have HB2 := hid (HWx.out.trans hB2)
                clear hP2 hB2 hj2 hf2 q0 q1 q2
                obtain ⟨hP4, hB4⟩ := HP2.out.rset (i := 0) (x := U) (by omega) rfl hUz
                have HP4 := hid hP4
                have HB4 := hid (HB2.out.trans hB4)
                clear hP4 hB4
                have c9 := HP2.out.rg.cell 0 (by simp)
                have f9 := HP2.out.rg.free 0
                have l9 := HP2.out.rg.lt
                have hfd := run_field42 (.int .i64 0) U
                go_wp2
                go_roundw
                case rel =>
                  refine ⟨j + 1, by go_num, by omega, ⟨r, T, F, Ls.length, Ls, A, vs, k, ho, hcap, ?_, ?_, HRT.out.seal.weaken (fun _ => trivial), rfl, rfl, rfl, by omega⟩, HB4.out⟩
                  · rw [← HU.out]
                    exact HP4.out
                  · have := HO.out.seal
                    rw [List.length_map] at this
                    exact this.more (by omega)
                case measure => simp [intOf]; omega
              · by_cases hr : right L = true
                · by_cases hs : (used Ls : Int) + L.length + 1 ≤ p
                  · have HA := hid (jappend g r p T F S (Ls.map szL) _ L o1 (by omega) o3 o4 (by rw [List.length_map]; omega) (by rw [List.length_map]; omega) HNN.out (by rw [o9]; exact hs) hr x0 HPx.out.js (HLW.out.below HWx.out))
                    rw [o9, List.length_map] at HA
                    have hEl := encL_len (F + Ls.length) L
                    have hEz := encL_size (s := F + Ls.length) hr
                    have HES := hid (encs_snoc F Ls L)
                    obtain ⟨X, hX⟩ : ∃ X, X = encL (F + Ls.length) L := ⟨_, rfl⟩
                    rw [← hX] at HA hEl hEz HES
                    have HEz := hid hEz
                    clear hX hEz
                    have hWl := wrL_len (p : Int) ((T : Int) + (used Ls : Int)) X
                    obtain ⟨n, hnn⟩ : ∃ n, n = L.length + 1 := ⟨_, rfl⟩
                    have h48 := right_len hr
                    rw [← hnn] at HA hEl
                    have hn49 : n ≤ 49 := by omega
                    have hnP : used Ls + n ≤ p := by omega
                    have hn1 : 1 ≤ n := by omega
                    have HOP := hid (HO.out.push (n := L.length) (by rw [o9]; exact hs))
                    have HUS := hid (used_snoc Ls L)
                    rw [← hnn] at HUS
                    have HNN2 : Hid (szL L = (n : Int)) := by unfold szL; rw [hnn]; exact hid (by omega)
                    have HNL : Hid ((L.length : Int) + 1 = (n : Int)) := by rw [hnn]; exact hid (by omega)
                    rw [HNL.out] at HA HOP
                    have e2 : (K == 2) = false := by rcases hk with rfl | rfl <;> rfl
                    have e3 : (K == 3) = false := by rcases hk with rfl | rfl <;> rfl
                    clear hnn
                    go_upto_if 119 with fail
                    go_cut [119] (fun s wx => s = .bool true ∧ x0 = wx)
                    case first =>
                      rcases hk with rfl | rfl
                      all_goals
                        go_wp2
                        go_meet
                        exact ⟨rfl, rfl⟩
                    case rest =>
                      obtain ⟨rfl, hw9⟩ := hcut
                      subst hw9
                      clear hk e2 e3
                      go_wp2_with (go_at_call 12; fail)
                      refine (HA.out).mono ?_
                      rintro e w2 ⟨wb, r1, rfl, hwb, hwr, hcl, hj2, hn2, hf2⟩
                      have HX2 := hid ((HGX.out.next hn2 hf2).2.trans HX.out)
                      obtain ⟨hP2, hB2⟩ := HPx.out.jstep hj2 hn2 hf2
                      have HP2 := hid hP2
                      have HB2 := hid (HWx.out.trans hB2)
                      have HCL := hid hcl
                      have hwb2 : wb < w2.heap.size := by
                        obtain ⟨_, _, e0, _, _, hcc⟩ := hcl
                        injection e0 with e1 e2 e3
                        obtain ⟨gb, of9, e4, hgb, _⟩ := hcc 0 (by omega)
                        rw [← e1] at e4
                        injection e4 with e5
                        injection e5 with e6 e7
                        omega
                      have HWN : Hid (wb ≠ rb ∧ ∀ x, (Value.slice ho Ls.length hcap).ownBlock = some x → x ≠ wb) := by
                        have := HPx.out.rg.lt
                        refine hid ⟨by omega, fun x hx => ?_⟩
                        have := HPx.out.hlt x hx
                        omega
                      clear hP2 hB2 hcl hj2 hn2 hf2 q0 q1 q2
                      obtain ⟨q0, q1, q2⟩ := three_cells HX2.out
                      have hlx := lt_of_block HX2.out
                      go_wp2_with (first
                        | (at_builtin; refine pushV (w0 := w2) rfl (.tmp 131) (.tmp 134) rfl w2.heap.size _ vs (.slice la L.length lcap) rfl rfl rfl rfl (by exact HP2.out.hr) (by rw [HP2.out.hl]; omega) ?_; intro v7 w7 hR7 hg7 hn7; obtain ⟨hP7, hB7⟩ := HP2.out.hstep (Ls' := Ls ++ [L]) hR7 hg7 hn7 (by simp [HP2.out.hl]) (app_lie HP2.out.hl HP2.out.hc HLW.out) (app_right HP2.out.ri hr); have HP7 := hid hP7; have HB7 := hid (HB2.out.trans hB7); have HC7 := hid (HCL.out.same hg7.size (by intro x hx; cases hx; exact hg7.block wb hwb2 (fun e => HWN.out.2 wb e.symm rfl))); obtain ⟨h7, c7, rfl, _, _⟩ := hR7.len; clear hP7 hB7 hR7 hg7 hn7))
                      have hWl2 : (wrL (p : Int) ((T : Int) + (used Ls : Int)) X).length = n := hWl.trans hEl
                      clear q0 q1 q2 HX2 HCL HC HA HLj HLW HL HPx HWx HX HP2 HB2 hlx0 hzx HGX hwb hwr hlx
                      go_loopw [18, 138] (fun kv i wz => ∃ (q k' : Nat) (A' : List ByteArray), i = .int .i64 q ∧ q ≤ n ∧ kv = .int .i64 k' ∧ k' ≤ k + q ∧ PB W g r1 rb wz p T F S (Ls.map szL ++ [(n : Int)]) (hdB T F (F + S)) A' (.slice h7 (vs ++ [Value.slice la L.length lcap]).length c7) (vs ++ [Value.slice la L.length lcap]) (Ls ++ [L]) ∧ CLie wz (.slice (some ⟨wb, 0, none⟩) n n) (wrL (p : Int) ((T : Int) + (used Ls : Int)) X) ∧ (rot A' T).take (used Ls) = (rot A T).take (used Ls) ∧ ((j : Int) ≤ a → rot A' T = over (rot A T) (used Ls) (X.take q)) ∧ Below W.heap.size W wz) (fun _ i _ => n - (intOf i).toNat)
                      case atStart => exact ⟨0, k, A, rfl, Nat.zero_le _, rfl, Nat.le_refl _, HP7.out, HC7.out, rfl, fun _ => by rw [List.take_zero, over_nil], HB7.out⟩
                      case round =>
                        obtain ⟨q, k', A', rfl, hq, rfl, hk', hP, hCl, hr1, hr2, hBz⟩ := hrel
                        have HPq := hid hP
                        have HCq := hid hCl
                        have HR1 := hid hr1
                        have HR2 := hid hr2
                        have HBq := hid hBz
                        clear hP hCl hr1 hr2 hBz HP7 HC7 HB7
                        by_cases hqk : q < n
                        · obtain ⟨zz, hzz⟩ : ∃ zz, zz = (T + used Ls + q) % p := ⟨_, rfl⟩
                          have hzl : zz < p := by rw [hzz]; exact Nat.mod_lt _ (by omega)
                          obtain ⟨d, hd⟩ : ∃ d, d = X[q]'(by omega) := ⟨_, rfl⟩
                          have hdz : d.size = 128 := by rw [hd]; exact HEz.out _ (List.getElem_mem _)
                          have HW : Hid ((wrL (p : Int) ((T : Int) + (used Ls : Int)) X)[q]'(by omega) = ⟨1 + (zz : Int), d⟩) := by
                            show _ = _
                            rw [wrL_get _ _ X q (by omega) (by omega), hd, hzz, Int.natCast_emod]
                            simp
                          obtain ⟨_, _, e0, _, _, hcc⟩ := HCq.out
                          injection e0 with e1 e2 e3
                          obtain ⟨gb, of9, e4, hgb, w0, w1'⟩ := hcc q (by omega)
                          rw [← e1] at e4
                          injection e4 with e5
                          injection e5 with e6 e7 e8
                          subst e6 e7
                          rw [HW.out, Nat.zero_add] at w0 w1'
                          have HD := hid hd
                          have HZ := hid hzz
                          clear hcc e1 e2 e3 hd hzz
                          obtain ⟨ww, hww⟩ : ∃ ww, ww = zz + 1 := ⟨_, rfl⟩
                          rw [show 1 + (zz : Int) = (ww : Int) by omega] at w0
                          have HWW := hid hww
                          clear hww
                          have HBb := hid (below_alloc wr (.cells #[.int .i64 (ww : Int), .string d] 42))
                          have HPb := hid (HPq.out.keep HBb.out)
                          have HCb := hid (HCq.out.below HBb.out)
                          have HWb := hid (HBq.out.next HBb.out)
                          have hV := box_at wr (.cells #[.int .i64 (ww : Int), .string d] 42)
                          have HV := hid hV
                          clear hV
                          have hzb : (wr.alloc (.cells #[.int .i64 (ww : Int), .string d] 42)).heap.size = wr.heap.size + 1 := by simp
                          have hwbl : wb < wr.heap.size := hgb
                          go_upto_region 42 with fail
                          obtain ⟨xb, hxb⟩ : ∃ xb, xb = wr.alloc (.cells #[.int .i64 (ww : Int), .string d] 42) := ⟨_, rfl⟩
                          rw [← hxb] at HPb HCb HWb HV hzb ⊢
                          clear hxb HBb HPq HCq HBq
                          obtain ⟨y0, y1⟩ := two_cells HV.out
                          have hlb : wr.heap.size < xb.heap.size := by omega
                          go_cut [27, 138] from 138 to 181 (fun s s2 wx => ∃ b9 : Bool, s = .bool b9 ∧ s2 = .int .i64 (q : Int) ∧ ((j : Int) ≤ a → b9 = false) ∧ xb = wx)
                          case first =>
                            by_cases hja : (j : Int) ≤ a
                            · go_wp2
                              go_meet
                              exact ⟨false, by simp, rfl, fun _ => rfl, rfl⟩
                            · by_cases hkb : k' < bs.length
                              · obtain ⟨_, _, e9, _, _, hpk⟩ := HBS.out
                                injection e9 with e91 e92 e93
                                obtain ⟨pg, pof, e94, hpg, pcell⟩ := hpk k' hkb
                                rw [← e91] at e94
                                subst e94
                                have pcell := (HWb.out.cell (p := ⟨pg, pof + k', none⟩) hpg).trans pcell
                                have hpg2 : pg < xb.heap.size := Nat.lt_of_lt_of_le hpg HWb.out.size
                                clear hpk e91 e92 e93
                                obtain ⟨bk, hbk⟩ : ∃ bk, bk = bs[k'] := ⟨_, rfl⟩
                                rw [← hbk] at pcell
                                clear hbk
                                go_wp2
                                go_meet
                                exact ⟨bk, by simp, rfl, fun h => absurd h (by omega), rfl⟩
                              · go_wp2
                                go_meet
                                exact ⟨false, by simp, rfl, fun _ => rfl, rfl⟩
                          case rest =>
                            obtain ⟨b9, rfl, rfl, hbj, hw9⟩ := hcut
                            subst hw9
                            have hww := HWW.out
                            have hA' := HPb.out.al
                            obtain ⟨hPs, hBs⟩ := HPb.out.rset (i := zz + 1) (x := d) (hd' := hdB T F (F + S)) (A' := A'.set zz d) (by omega) rfl hdz
                            obtain ⟨y9, c9⟩ : ∃ y9, xb.cell? ⟨rb, ww, none⟩ = some (.string y9) := ⟨_, by rw [hww]; exact HPb.out.rg.cell (zz + 1) (by simp; omega)⟩
                            rw [← hww] at hPs hBs
                            have hw1 : 1 ≤ ww ∧ ww < p + 1 := by omega
                            have HPs := hid hPs
                            have HBs := hid (HWb.out.trans hBs)
                            have hrrb : rb < xb.heap.size := HPb.out.rg.lt
                            have HRS : Hid (rot (A'.set zz d) T = (rot A' T).set (used Ls + q) d) := by
                              rw [HZ.out, ← hA', show T + used Ls + q = T + (used Ls + q) by omega]
                              exact hid (rot_set A' (by omega) (by omega) d)
                            have HTS : Hid ((rot (A'.set zz d) T).take (used Ls) = (rot A T).take (used Ls)) := by
                              show _ = _
                              rw [HRS.out, List.take_set_of_le (by omega)]
                              exact HR1.out
                            have HOS : Hid ((j : Int) ≤ a → rot (A'.set zz d) T = over (rot A T) (used Ls) (X.take (q + 1))) := by
                              intro h
                              have e := HR2.out h
                              have hxl : (X.take q).length = q := by rw [List.length_take]; omega
                              have := over_snoc (R := rot A T) (k := used Ls) (X := X.take q) (x := d) (by rw [hxl, rot_len _ (by have := HP.out.al; omega), HP.out.al]; omega)
                              rw [hxl] at this
                              rw [HRS.out, e, this, List.take_succ_eq_append_getElem (by omega), HD.out]
                            have HCs := hid (HCb.out.same (w' := xb.setCell ⟨rb, ww, none⟩ (.string d)) (by simp) (by intro x hx; cases hx; exact Below.heap_setCell _ _ _ _ HWN.out.1))
                            clear hPs hBs hww HWW hzl HZ HW hA'
                            have f9 := HPb.out.rg.free ww
                            by_cases hja : (j : Int) ≤ a
                            · obtain rfl := hbj hja
                              go_wp2
                              go_roundw
                              case rel => exact ⟨q + 1, k', A'.set zz d, by go_num, by omega, rfl, by omega, HPs.out, HCs.out, HTS.out, HOS.out, HBs.out⟩
                              case measure => simp [intOf]; omega
                            · cases b9 with
                              | false =>
                                go_wp2
                                go_roundw
                                case rel => exact ⟨q + 1, k' + 1, A'.set zz d, by go_num, by omega, by go_num, by omega, HPs.out, HCs.out, HTS.out, HOS.out, HBs.out⟩
                                case measure => simp [intOf]; omega
                              | true =>
                                go_wp2
                                go_roundw
                                case rel => exact ⟨q + 1, k' + 1, A', by go_num, by omega, by go_num, by omega, HPb.out, HCb.out, HR1.out, fun h => absurd h (by omega), HWb.out⟩
                                case measure => simp [intOf]; omega
                        · have hqe : q = n := by omega
                          subst hqe
                          go_wp2
                          go_roundw
                          case rel =>
                            refine ⟨j + 1, by go_num, by omega, ⟨r1, T, F, S, Ls ++ [L], A', vs ++ [Value.slice la L.length lcap], k', h7, c7, ?_, ?_, ⟨fun hja => ?_, ?_⟩, ?_, rfl, rfl, by omega⟩, HBq.out⟩
                            · rw [List.map_append, show [L].map szL = [szL L] from rfl, HNN2.out]
                              have e9 := HPq.out
                              rw [List.length_append, List.length_singleton] at e9
                              exact e9
                            · rw [List.map_append, show [L].map szL = [szL L] from rfl, HNN2.out]
                              exact HOP.out
                            · have e1 := HR2.out (by omega)
                              rw [List.take_of_length_le (by omega)] at e1
                              rw [e1, HUS.out, HES.out, ← HR.out.a (by omega), ← hEl]
                              exact over_all (by rw [rot_len _ (by have := HP.out.al; omega), HP.out.al]; omega)
                            · have hS1 : (Ls ++ [L]).take S = Ls.take S := List.take_append_of_le_length o6
                              have hS2 := used_cut Ls S
                              rw [hS1, ← HR.out.s]
                              have e1 := congrArg (fun x => x.take (used (Ls.take S))) HR1.out
                              simp only [List.take_take] at e1
                              rw [Nat.min_eq_left (by omega)] at e1
                              exact e1
                            · rw [← HPq.out.hl, List.length_append, List.length_singleton]
                          case measure => simp [intOf]; omega
                  · have HA := hid (jappend_full g r p T F S (Ls.map szL) _ L o1 (by omega) o4 (by rw [List.length_map]; omega) (by rw [List.length_map]; omega) HNN.out (by rw [o9]; exact o8) (by rw [o9]; omega) hr x0 HPx.out.js (HLW.out.below HWx.out))
                    rcases hk with rfl | rfl
                    all_goals
                      go_wp2_with (first
                        | (go_at_call 12; refine (HA.out).mono ?_; rintro e w2 ⟨rfl, hb2⟩; have HP2 := hid (HPx.out.keep hb2); have HB2 := hid (HWx.out.next hb2); clear hb2))
                      go_roundw
                      case rel => exact ⟨j + 1, by go_num, by omega, ⟨r, T, F, S, Ls, A, vs, k, ho, hcap, HP2.out, HO.out.more (by omega), HR.out.weaken (by omega), rfl, rfl, rfl, by omega⟩, HB2.out⟩
                      case measure => simp [intOf]; omega
                · have HA := hid (jappend_txn g _ L (by simpa using hr) x0 (HLW.out.below HWx.out))
                  rcases hk with rfl | rfl
                  all_goals
                    go_wp2_with (first
                      | (go_at_call 12; refine (HA.out).mono ?_; rintro e w2 ⟨rfl, hb2⟩; have HP2 := hid (HPx.out.keep hb2); have HB2 := hid (HWx.out.next hb2); clear hb2))
                    go_roundw
                    case rel => exact ⟨j + 1, by go_num, by omega, ⟨r, T, F, S, Ls, A, vs, k, ho, hcap, HP2.out, HO.out.more (by omega), HR.out.weaken (by omega), rfl, rfl, rfl, by omega⟩, HB2.out⟩
                    case measure => simp [intOf]; omega
              · have e0 : (K == 0) = false := by simp [k0]
                have e1 : (K == 1) = false := by simp [k1]
                have e2 : (K == 2) = false := by simp [k2]
                have e3 : (K == 3) = false := by simp [k3]
                go_wp2
                go_roundw
                case rel => exact ⟨j + 1, by go_num, by omega, ⟨r, T, F, S, Ls, A, vs, k, ho, hcap, HPx.out, HO.out.more (by omega), HR.out.weaken (by omega), rfl, rfl, rfl, by omega⟩, HWx.out⟩
                case measure => simp [intOf]; omega
            · have hje : j = l.length := by omega
              subst hje
              have hlc2 : Ls.length ≤ hcap ∧ hcap ≤ maxLen := by
                obtain ⟨_, _, e, k1, k2⟩ := HP.out.hr.len
                injection e with e1 e2 e3
                have := HP.out.hl
                omega
              have hup : ∀ w : World, (Instr.slice 54 (.slice ho Ls.length hcap) none (some (.int .i64 (S : Int))) none).run Try.prog w = .ok (.slice ho S hcap) w := by
                intro w
                have := run_slice_h (P := Try.prog) w 54 ho Ls.length hcap under54 .i64 (S : Int) (by omega) (by omega)
                rw [this, run_size31]
                have e : (ho.map fun x : Addr => x.add 0) = ho := by cases ho <;> simp [Addr.add]
                simp [Result.andThen, sliced, e]
              go_wp2
              go_region
              all_goals
                go_wp2
                refine bodyPost_ret (v := .tuple #[.slice (some ⟨rb, 0, none⟩) (p + 1) (p + 1), .pointer (some ⟨g, 0, none⟩), .slice ho S hcap]) (by simp [results, Try.results29, go_sem]) rfl ?_
                have kd : Below wr.heap.size wr wr.drew := ⟨rfl, rfl, rfl, Nat.le_refl _, fun _ _ => rfl⟩
                have hP9 := HP.out.keep kd
                have hB9 : Below W.heap.size W wr.drew := HBz.out.next kd
                refine ⟨g, r, rb, T, F, S, Ls, A, _, vs, ho, hcap, rfl, hP9, HO.out.more (by omega), ⟨fun h => h.elim, HR.out.s⟩, ?_, hB9⟩
                have hvl : VL wr.drew (.slice ho Ls.length hcap) Ls := hP9.hr.vl hP9.hl fun i hi hj => (hP9.hc i hi hj).below hB9
                obtain ⟨_, _, e, k1, k2, k3⟩ := hvl
                injection e with e1 e2 e3
                subst e1 e3
                refine ⟨ho, hcap, by rw [List.length_take]; congr 1; omega, by rw [List.length_take]; omega, k2, fun i hi => ?_⟩
                rw [List.length_take] at hi
                obtain ⟨gb, off, u, e4, h5, h6, h7⟩ := k3 i (by omega)
                exact ⟨gb, off, u, e4, h5, h6, by rw [List.getElem_take]; exact h7⟩
end Go.Proofs.Ytmcahiebcflfoaa
