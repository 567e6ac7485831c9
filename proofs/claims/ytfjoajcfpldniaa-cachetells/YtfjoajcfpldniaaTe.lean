import Derived.Test.YtfjoajcfpldniaaAe
import Derived.Laws.Rows
namespace Go.Proofs.Ytfjoajcfpldniaa
open Go.RowKit Go.Maps

theorem two_cells {w : World} {g : Nat} {a b : Value} {t : TypeId} (hh : w.heap[g]? = some (.cells #[a, b] t (0, 0))) : w.cell? ⟨g, 0, none⟩ = some a ∧ w.cell? ⟨g, 1, none⟩ = some b := by
  refine ⟨?_, ?_⟩ <;> simp [World.cell?, hh]
theorem kindt (K : Int) : (K = 0 ∨ K = 1) ∨ K = 3 ∨ K = 6 ∨ (K ≠ 0 ∧ K ≠ 1 ∧ K ≠ 3 ∧ K ≠ 6) := by omega
/-- between two steps -/
structure TQ (W : World) (g a1 a2 : Nat) (w : World) (N J : Nat) (P : List Fm) (X Y : List ByteArray) : Prop where
  cc : CC W.heap.size g w N J P
  s1 : SA w a1 X
  s2 : SA w a2 Y
  ne : a1 ≠ a2
  b1 : W.heap.size ≤ a1
  b2 : W.heap.size ≤ a2
  be : Below W.heap.size W w
theorem TQ.below {W : World} {g a1 a2 : Nat} {w w' : World} {N J : Nat} {P : List Fm} {X Y : List ByteArray} (h : TQ W g a1 a2 w N J P X Y) (k : Below w.heap.size w w') : TQ W g a1 a2 w' N J P X Y :=
  ⟨h.cc.below k, h.s1.below k, h.s2.below k, h.ne, h.b1, h.b2, h.be.next k⟩
theorem TQ.step {W : World} {g a1 a2 : Nat} {w w' : World} {N J J' : Nat} {P P' : List Fm} {X Y : List ByteArray} (h : TQ W g a1 a2 w N J P X Y) (hc : CC W.heap.size g w' N J' P') (ho : OC w w') (hb : Below W.heap.size w w') : TQ W g a1 a2 w' N J' P' X Y :=
  ⟨hc, h.s1.oc ho, h.s2.oc ho, h.ne, h.b1, h.b2, h.be.trans hb⟩
theorem TQ.set1 {W : World} {g a1 a2 : Nat} {w : World} {N J : Nat} {P : List Fm} {X Y : List ByteArray} (h : TQ W g a1 a2 w N J P X Y) (k : Nat) (d : ByteArray) : TQ W g a1 a2 (w.setCell ⟨a1, k, none⟩ (.string d)) N J P (X.set k d) Y :=
  ⟨h.cc.sa h.s1 _ _, h.s1.set k d, h.s2.other h.ne.symm _, h.ne, h.b1, h.b2, h.be.setCell h.b1 _⟩
theorem TQ.set2 {W : World} {g a1 a2 : Nat} {w : World} {N J : Nat} {P : List Fm} {X Y : List ByteArray} (h : TQ W g a1 a2 w N J P X Y) (k : Nat) (d : ByteArray) : TQ W g a1 a2 (w.setCell ⟨a2, k, none⟩ (.string d)) N J P X (Y.set k d) :=
  ⟨h.cc.sa h.s2 _ _, h.s1.other h.ne _, h.s2.set k d, h.ne, h.b1, h.b2, h.be.setCell h.b2 _⟩
theorem TQ.more {W : World} {g a1 a2 : Nat} {w : World} {N J J' : Nat} {P : List Fm} {X Y : List ByteArray} (h : TQ W g a1 a2 w N J P X Y) (hj : J ≤ J') (hj2 : J' ≤ 90000) : TQ W g a1 a2 w N J' P X Y :=
  ⟨h.cc.more hj hj2, h.s1, h.s2, h.ne, h.b1, h.b2, h.be⟩
set_option maxRecDepth 100000 in
set_option maxHeartbeats 8000000 in
theorem tells_walk (n : Int) (v : Value) (l : List Stp) (W : World) (hl : TLie W v l) : Calls Try.prog 5 #[.int .i64 n, v] W fun e w' => e = .returned (.bool true) ∧ Below W.heap.size W w' := by
  have HSp := hid (fun w => speaks_any w)
  obtain ⟨ao, cap, rfl, hlc, hcm, hcell⟩ := hl
  have HC0 := hid hcell
  clear hcell
  unfold maxLen at hcm
  by_cases hn : 1 ≤ n ∧ n ≤ 64
  · obtain ⟨N, rfl⟩ : ∃ N : Nat, n = (N : Int) := ⟨n.toNat, by omega⟩
    have hN : 1 ≤ N ∧ N ≤ 64 := by omega
    have HNew := hid (cnew N hN.1 hN.2 W.heap.size W (Nat.le_refl _))
    clear hn
    by_cases hl3 : 500 < l.length
    · go_enter Try.func5, Try.ntmps5
      go_wp2_with (go_at_call 8; fail)
      refine (HNew.out).mono ?_
      rintro e w1 ⟨g, rfl, hC, hB⟩
      go_wp2_with (first
        | (go_at_call 10; refine (HSp.out _).mono ?_; rintro e w2 ⟨rfl, hb2⟩))
      go_ret
      exact ⟨by simp, hB.next hb2⟩
    · go_enter Try.func5, Try.ntmps5
      go_wp2_with (go_at_call 8; fail)
      refine (HNew.out).mono ?_
      rintro e w1 ⟨g, rfl, hC, hB⟩
      have HTQ : Hid (TQ W g w1.heap.size (w1.heap.size + 1) ((w1.alloc (.cells Try.zeroCells53 53)).alloc (.cells Try.zeroCells53 53)) N 0 [] (List.replicate 1024 ⟨#[]⟩) (List.replicate 1024 ⟨#[]⟩)) := by
        have k1 := below_alloc w1 (.cells Try.zeroCells53 53)
        have k2 := below_alloc (w1.alloc (.cells Try.zeroCells53 53)) (.cells Try.zeroCells53 53)
        have e := SA.new (w1.alloc (.cells Try.zeroCells53 53))
        have hz : (w1.alloc (.cells Try.zeroCells53 53)).heap.size = w1.heap.size + 1 := by simp
        rw [hz] at e
        have hsz := hB.size
        exact hid ⟨(hC.below k1).below k2, (SA.new w1).below k2, e, by omega, by omega, by omega, (hB.next k1).next k2⟩
      have HTI : Hid (TInv [] (List.replicate 1024 ⟨#[]⟩) (List.replicate 1024 ⟨#[]⟩)) := hid fun k => ⟨(by intro f hf; cases hf), fun _ => rfl⟩
      clear hC hB HNew
      go_upto_region 6 with fail
      obtain ⟨Z, hZ⟩ : ∃ Z : List ByteArray, Z = List.replicate 1024 ⟨#[]⟩ := ⟨_, rfl⟩
      rw [← hZ] at HTQ HTI
      clear hZ
      obtain ⟨a2, ha2⟩ : ∃ a2, a2 = w1.heap.size + 1 := ⟨_, rfl⟩
      obtain ⟨a1, ha1⟩ : ∃ a1, a1 = w1.heap.size := ⟨_, rfl⟩
      obtain ⟨w3, hw3⟩ : ∃ w3, w3 = (w1.alloc (.cells Try.zeroCells53 53)).alloc (.cells Try.zeroCells53 53) := ⟨_, rfl⟩
      rw [← ha2, ← ha1, ← hw3] at HTQ
      rw [← hw3]
      try rw [← ha2]
      rw [← ha1]
      clear hw3 ha1 ha2
      go_wp2
      go_loopw [41] (fun i wr => ∃ (q : Nat) (P : List Fm) (X Y : List ByteArray), i = .int .i64 q ∧ q ≤ l.length ∧ TQ W g a1 a2 wr N q P X Y ∧ TInv P X Y) (fun i _ => l.length - (intOf i).toNat)
      case atStart => exact ⟨0, [], Z, Z, rfl, Nat.zero_le _, HTQ.out, HTI.out⟩
      case round =>
        obtain ⟨q, P, X, Y, rfl, hq, hT, hI⟩ := hrel
        have HT := hid hT
        have HI := hid hI
        clear hT hI HTQ HTI
        by_cases hlt : q < l.length
        · obtain ⟨bb, off, rfl, hbW, s0, s1, s2, s3⟩ := HC0.out q hlt
          obtain ⟨y, hy⟩ : ∃ y, y = l[q] := ⟨_, rfl⟩
          rw [← hy] at s0 s1 s2 s3
          clear hy
          obtain ⟨K, k, d⟩ := y
          simp only at s0 s1 s2 s3
          have HK := hid s3
          have t0 := (HT.out.be.cell (p := ⟨bb, off + q * 3, none⟩) hbW).trans s0
          have t1 := (HT.out.be.cell (p := ⟨bb, off + q * 3 + 1, none⟩) hbW).trans s1
          have t2 := (HT.out.be.cell (p := ⟨bb, off + q * 3 + 2, none⟩) hbW).trans s2
          have hbr : bb < wr.heap.size := Nat.lt_of_lt_of_le hbW HT.out.be.size
          clear s0 s1 s2 s3
          have HX := hid (box_at wr (.cells #[.int .i64 K, .int .i64 k, .string d] 32))
          have HTx := hid (HT.out.below (below_alloc wr (.cells #[.int .i64 K, .int .i64 k, .string d] 32)))
          go_upto_region 9 with fail
          obtain ⟨x0, hx0⟩ : ∃ x0, x0 = wr.alloc (.cells #[.int .i64 K, .int .i64 k, .string d] 32) := ⟨_, rfl⟩
          rw [← hx0] at HX HTx ⊢
          clear hx0 t0 t1 t2 hbr HT
          obtain ⟨bx, hbx⟩ : ∃ bx, bx = wr.heap.size := ⟨_, rfl⟩
          rw [← hbx] at HX ⊢
          clear hbx
          obtain ⟨q0, q1, q2⟩ := three_cells HX.out
          have hlx := lt_of_block HX.out
          have hJ : q + 1 ≤ 90000 := by omega
          rcases kindt K with hk | rfl | rfl | ⟨k0, k1, k3, k6⟩
          · have HLo := hid (cload k HK.out d x0 HTx.out.cc hJ)
            have HIL := hid (HI.out.load (N := N) HTx.out.cc.nd k d)
            obtain ⟨R, hR⟩ : ∃ R, R = loadR N P k d := ⟨_, rfl⟩
            rw [← hR] at HLo HIL
            clear hR
            obtain ⟨r1, r2, P2⟩ := R
            simp only at HLo HIL
            have hkk : (K == 0) = true ∨ ((K == 0) = false ∧ (K == 1) = true) := by
              rcases hk with rfl | rfl
              · exact .inl rfl
              · exact .inr ⟨rfl, rfl⟩
            clear hk
            rcases hkk with e0 | ⟨e0, e1⟩
            all_goals
              go_wp2_with (first
                | (go_at_call 18; refine (HLo.out).mono ?_; rintro e w2 ⟨rfl, hC2, hO2, hB2⟩))
              go_roundw
              case rel => exact ⟨q + 1, P2, X, Y, by go_num, by omega, HTx.out.step hC2 hO2 hB2, HIL.out⟩
              case measure => simp [intOf]; omega
          · have HLo := hid (cstore k HK.out d x0 HTx.out.cc hJ)
            have HIS := hid (fun hr => HI.out.store (k := k) (d := d) HTx.out.s1.len hr)
            have HSS := hid (fun hr => store_same (P := P) (k := k) (d := d) hr)
            obtain ⟨R, hR⟩ : ∃ R, R = storeR P k d := ⟨_, rfl⟩
            rw [← hR] at HLo HIS HSS
            clear hR
            obtain ⟨r2, P2⟩ := R
            simp only at HLo HIS HSS
            by_cases hz : r2 = 0
            · subst hz
              obtain ⟨hI2, hk0, hk1⟩ := HIS.out rfl
              obtain ⟨kk, rfl⟩ : ∃ kk : Nat, k = kk := ⟨k.toNat, by omega⟩
              rw [Int.toNat_natCast] at hI2
              have HI2 := hid hI2
              clear hI2
              go_wp2_with (go_at_call 20; fail)
              refine (HLo.out).mono ?_
              rintro e w2 ⟨rfl, hC2, hO2, hB2⟩
              have HT2 := hid (HTx.out.step hC2 hO2 hB2)
              have HX2 := hid ((hO2.block _ _ _ HX.out (by decide) (by decide)).trans HX.out)
              have HT3 := hid (HT2.out.set1 kk d)
              clear hC2 hO2 hB2 q0 q1 q2 hlx
              obtain ⟨q0, q1, q2⟩ := three_cells HX2.out
              have hlx := lt_of_block HX2.out
              obtain ⟨sx, hsx, _⟩ := HT2.out.s1.cell kk (by omega)
              have hfz := HT2.out.s1.free kk
              have hal := HT2.out.s1.lt
              go_wp2
              go_roundw
              case rel => exact ⟨q + 1, P2, _, Y, by go_num, by omega, HT3.out, HI2.out⟩
              case measure => simp [intOf]; omega
            · have hzb : (r2 == 0) = false := by simp [hz]
              have hP2 := HSS.out hz
              subst hP2
              go_wp2_with (first
                | (go_at_call 20; refine (HLo.out).mono ?_; rintro e w2 ⟨rfl, hC2, hO2, hB2⟩))
              go_roundw
              case rel => exact ⟨q + 1, _, X, Y, by go_num, by omega, HTx.out.step hC2 hO2 hB2, HI.out⟩
              case measure => simp [intOf]; omega
          · have HTk := hid (ctake x0 HTx.out.cc)
            have HRt := hid HTx.out.cc.rt
            have HS1 : Hid (∀ f ∈ (dirtyP P).take 48, f ∈ P ∧ f.y = true) := hid (fun f hf => dirtyP_mem.1 (List.mem_of_mem_take hf))
            have HI2 := hid (HI.out.take (S := (dirtyP P).take 48) (fun f hf => (HRt.out f hf).1) HTx.out.s2.len HS1.out (((List.take_sublist 48 (dirtyP P)).map _).nodup (dirtyP_nd HTx.out.cc.nd)))
            obtain ⟨S, hS⟩ : ∃ S, S = (dirtyP P).take 48 := ⟨_, rfl⟩
            rw [← hS] at HTk HS1 HI2
            clear hS
            obtain ⟨P2, hP2⟩ : ∃ P2, P2 = clearP P S := ⟨_, rfl⟩
            rw [← hP2] at HTk HI2
            clear hP2
            go_wp2_with (go_at_call 23; fail)
            refine (HTk.out).mono ?_
            rintro e w2 ⟨v2, rfl, hv2, hC2, hO2, hB2⟩
            have HT2 := hid (HTx.out.step hC2 hO2 hB2)
            have HV2 := hid hv2
            obtain ⟨lo, lc, rfl, hl1, hl2, _⟩ := hv2
            rw [List.length_map] at HV2 hl1 ⊢
            unfold maxLen at hl2
            clear hC2 hO2 hB2 q0 q1 q2 hlx HTk HX
            go_wp2
            go_loopw [75] (fun i wz => ∃ t : Nat, i = .int .i64 t ∧ t ≤ S.length ∧ TQ W g a1 a2 wz N q P2 X (setAll Y (S.take t)) ∧ CLie wz (.slice lo S.length lc) (S.map chP)) (fun i _ => S.length - (intOf i).toNat)
            case atStart => exact ⟨0, rfl, Nat.zero_le _, HT2.out, HV2.out⟩
            case round =>
              obtain ⟨t, rfl, ht, hT3, hV3⟩ := hrel
              have HT3 := hid hT3
              have HV3 := hid hV3
              clear hT3 hV3 HT2 HV2
              by_cases htl : t < S.length
              · obtain ⟨cg, co, rfl, hcg, c0, c1⟩ := HV3.out.cell t (by simpa using htl)
                have hfr := (HRt.out S[t] (HS1.out S[t] (List.getElem_mem htl)).1).1
                have hts := List.take_succ_eq_append_getElem htl
                have e9 : ((S.map chP)[t]'(by simpa using htl)) = chP S[t] := by simp
                rw [e9] at c0 c1
                obtain ⟨f, hf⟩ : ∃ f, f = S[t] := ⟨_, rfl⟩
                rw [← hf] at c0 c1 hfr hts
                clear hf e9
                obtain ⟨kk, hkk⟩ : ∃ kk : Nat, f.b = kk := ⟨f.b.toNat, by omega⟩
                have hsn := setAll_snoc Y (S.take t) f
                rw [← hts, hkk, Int.toNat_natCast] at hsn
                unfold chP at c0 c1
                simp only at c0 c1
                rw [hkk] at c0
                have hk2 : kk < 1024 := by omega
                obtain ⟨fd, hfd⟩ : ∃ fd, fd = f.d := ⟨_, rfl⟩
                rw [← hfd] at c1 hsn
                have HSN := hid hsn
                clear hfd hsn hts hfr hkk
                have HX4 := hid (box_at wr (.cells #[.int .i64 (kk : Int), .string fd] 52))
                have HT4 := hid (HT3.out.below (below_alloc wr (.cells #[.int .i64 (kk : Int), .string fd] 52)))
                have HV4 := hid (HV3.out.below (below_alloc wr (.cells #[.int .i64 (kk : Int), .string fd] 52)))
                go_upto_region 20 with fail
                obtain ⟨x4, hx4⟩ : ∃ x4, x4 = wr.alloc (.cells #[.int .i64 (kk : Int), .string fd] 52) := ⟨_, rfl⟩
                rw [← hx4] at HX4 HT4 HV4 ⊢
                clear hx4 c0 c1 hcg HT3 HV3
                obtain ⟨b4, hb4⟩ : ∃ b4, b4 = wr.heap.size := ⟨_, rfl⟩
                rw [← hb4] at HX4 ⊢
                clear hb4
                obtain ⟨z0, z1⟩ := two_cells HX4.out
                have hl4 := lt_of_block HX4.out
                obtain ⟨sx, hsx, _⟩ := HT4.out.s2.cell kk hk2
                have hfz := HT4.out.s2.free kk
                have hal := HT4.out.s2.lt
                have HT5 := hid (HT4.out.set2 kk fd)
                have HV5 : Hid (CLie (x4.setCell ⟨a2, kk, none⟩ (.string fd)) _ (S.map chP)) := hid (HV4.out.sa HT4.out.s2 kk (.string fd))
                rw [← HSN.out] at HT5
                go_wp2
                go_roundw
                case rel => exact ⟨t + 1, by go_num, by omega, HT5.out, HV5.out⟩
                case measure => simp [intOf]; omega
              · have hte : t = S.length := by omega
                subst hte
                rw [List.take_length] at HT3
                go_wp2
                go_roundw
                case rel => exact ⟨q + 1, P2, X, _, by go_num, by omega, HT3.out.more (by omega) (by omega), HI2.out⟩
                case measure => simp [intOf]; omega
          · have e0 : (K == 0) = false := by simp [k0]
            have e1 : (K == 1) = false := by simp [k1]
            have e3 : (K == 3) = false := by simp [k3]
            have e6 : (K == 6) = false := by simp [k6]
            go_wp2
            go_roundw
            case rel => exact ⟨q + 1, P, X, Y, by go_num, by omega, HTx.out.more (by omega) (by omega), HI.out⟩
            case measure => simp [intOf]; omega
        · have HD := hid (cdirty wr HT.out.cc)
          have HDo := hid (HI.out.done HT.out.cc.nd (fun f hf => (HT.out.cc.rt f hf).1) HT.out.s2.len)
          have HRt := hid HT.out.cc.rt
          have HS1 : Hid (∀ f ∈ dirtyP P, f ∈ P ∧ f.y = true) := hid (fun f hf => dirtyP_mem.1 hf)
          obtain ⟨S, hS⟩ : ∃ S, S = dirtyP P := ⟨_, rfl⟩
          rw [← hS] at HD HDo HS1
          clear hS
          have hql : q ≤ 500 := by omega
          go_wp2_with (go_at_call 16; fail)
          refine (HD.out).mono ?_
          rintro e w2 ⟨v2, rfl, hv2, hb2⟩
          have HT2 := hid (HT.out.below hb2)
          have HV2 := hid hv2
          obtain ⟨lo, lc, rfl, hl1, hl2, _⟩ := hv2
          rw [List.length_map] at HV2 hl1 ⊢
          unfold maxLen at hl2
          clear hb2 HD HT
          go_wp2
          go_loopw [97] (fun i wz => ∃ t : Nat, i = .int .i64 t ∧ t ≤ S.length ∧ TQ W g a1 a2 wz N q P X (setAll Y (S.take t)) ∧ CLie wz (.slice lo S.length lc) (S.map chP)) (fun i _ => S.length - (intOf i).toNat)
          case atStart => exact ⟨0, rfl, Nat.zero_le _, HT2.out, HV2.out⟩
          case round =>
            obtain ⟨t, rfl, ht, hT3, hV3⟩ := hrel
            have HT3 := hid hT3
            have HV3 := hid hV3
            clear hT3 hV3 HT2 HV2
            by_cases htl : t < S.length
            · obtain ⟨cg, co, rfl, hcg, c0, c1⟩ := HV3.out.cell t (by simpa using htl)
              have hfr := (HRt.out S[t] (HS1.out S[t] (List.getElem_mem htl)).1).1
              have hts := List.take_succ_eq_append_getElem htl
              have e9 : ((S.map chP)[t]'(by simpa using htl)) = chP S[t] := by simp
              rw [e9] at c0 c1
              obtain ⟨f, hf⟩ : ∃ f, f = S[t] := ⟨_, rfl⟩
              rw [← hf] at c0 c1 hfr hts
              clear hf e9
              obtain ⟨kk, hkk⟩ : ∃ kk : Nat, f.b = kk := ⟨f.b.toNat, by omega⟩
              have hsn := setAll_snoc Y (S.take t) f
              rw [← hts, hkk, Int.toNat_natCast] at hsn
              unfold chP at c0 c1
              simp only at c0 c1
              rw [hkk] at c0
              have hk2 : kk < 1024 := by omega
              obtain ⟨fd, hfd⟩ : ∃ fd, fd = f.d := ⟨_, rfl⟩
              rw [← hfd] at c1 hsn
              have HSN := hid hsn
              clear hfd hsn hts hfr hkk
              have HX4 := hid (box_at wr (.cells #[.int .i64 (kk : Int), .string fd] 52))
              have HT4 := hid (HT3.out.below (below_alloc wr (.cells #[.int .i64 (kk : Int), .string fd] 52)))
              have HV4 := hid (HV3.out.below (below_alloc wr (.cells #[.int .i64 (kk : Int), .string fd] 52)))
              go_upto_region 27 with fail
              obtain ⟨x4, hx4⟩ : ∃ x4, x4 = wr.alloc (.cells #[.int .i64 (kk : Int), .string fd] 52) := ⟨_, rfl⟩
              rw [← hx4] at HX4 HT4 HV4 ⊢
              clear hx4 c0 c1 hcg HT3 HV3
              obtain ⟨b4, hb4⟩ : ∃ b4, b4 = wr.heap.size := ⟨_, rfl⟩
              rw [← hb4] at HX4 ⊢
              clear hb4
              obtain ⟨z0, z1⟩ := two_cells HX4.out
              have hl4 := lt_of_block HX4.out
              obtain ⟨sx, hsx, _⟩ := HT4.out.s2.cell kk hk2
              have hfz := HT4.out.s2.free kk
              have hal := HT4.out.s2.lt
              have HT5 := hid (HT4.out.set2 kk fd)
              have HV5 : Hid (CLie (x4.setCell ⟨a2, kk, none⟩ (.string fd)) _ (S.map chP)) := hid (HV4.out.sa HT4.out.s2 kk (.string fd))
              rw [← HSN.out] at HT5
              go_wp2
              go_roundw
              case rel => exact ⟨t + 1, by go_num, by omega, HT5.out, HV5.out⟩
              case measure => simp [intOf]; omega
            · have hte : t = S.length := by omega
              subst hte
              rw [List.take_length] at HT3
              rw [HDo.out] at HT3
              obtain ⟨cur, g1, g2, gs, gc⟩ := HT3.out.s1.eq HT3.out.s2
              have hi1 : (Try.prog.info? 53).map (·.size) = some cur.size := by rw [gs]; kernel_rfl
              have he := eq53_go gc wr
              go_wp2_with (first
                | (refine wpList_load_row rfl 53 (.tmp 7) rfl a1 rfl 53 cur (0, 0) _ g1 Try.underlying53 rfl hi1 ?_)
                | (refine wpList_load_row rfl 53 (.tmp 8) rfl a2 rfl 53 cur (0, 0) _ g2 Try.underlying53 rfl hi1 ?_)
                | (go_at_call 10; refine (HSp.out _).mono ?_; rintro e w5 ⟨rfl, hb5⟩))
              go_ret
              exact ⟨rfl, HT3.out.be.next hb5⟩
  · have HNew := hid (new_bad n hn W)
    clear hn
    go_enter Try.func5, Try.ntmps5
    go_wp2_with (first
      | (go_at_call 8; refine (HNew.out).mono ?_; rintro e w1 ⟨rfl, hw⟩; have hw := hw.symm; subst hw)
      | (go_at_call 10; refine (HSp.out _).mono ?_; rintro e w2 ⟨rfl, hb2⟩))
    go_ret
    exact ⟨by simp, hb2⟩
end Go.Proofs.Ytfjoajcfpldniaa
