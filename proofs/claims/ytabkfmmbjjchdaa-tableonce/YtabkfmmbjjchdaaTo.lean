import Derived.Test.YtabkfmmbjjchdaaTn
namespace Go.Proofs.Ytabkfmmbjjchdaa
open Go.RowKit Go.Maps

/-- what stands between the steps, with its sizes -/
def OO (w : World) (g k : Nat) (wr : World) (vB vD : Value) : Prop := ∃ mb L N B D, OS w g mb wr N L vB vD B D ∧ L.length ≤ k ∧ N ≤ k ∧ B.length ≤ k ∧ D.length ≤ k
theorem onc_one (y : Onc) : ∀ u ∈ Onc.cs y, u.oneCell' = true := by
  intro u hu
  simp [Onc.cs] at hu
  rcases hu with rfl | rfl <;> rfl
theorem stp_one {K c r re ra rb rc : Int} {rt : ByteArray} {so : Option Addr} {nl scap : Nat} {rns : List ByteArray} : ∀ u ∈ Stp.cs ⟨K, c, r, ⟨re, rt, ra, rb, rc, .slice so nl scap, rns⟩⟩, u.oneCell' = true := by
  intro u hu
  simp [Stp.cs, Rs.cs] at hu
  rcases hu with rfl | rfl | rfl | rfl | rfl | rfl | rfl | rfl | rfl <;> rfl
theorem last_tb {g N : Nat} {mb : Option Nat} {w : World} {L : List Kx} (h : TB g mb w N L) (c : Int) (hc : inI c) : Calls Try.prog 15 #[.pointer (some ⟨g, 0, none⟩), .int .i64 c] w fun e w' => e = .returned (.tuple #[.int .i64 (at_ L c).n, .bool (decide (1 ≤ (at_ L c).n))]) ∧ Below w.heap.size w w' := by
  obtain ⟨ao, cap, e, _⟩ := h.names c
  exact last_any c w (hid fun W hW => find_any (h.below hW) c hc) ⟨ao, _, cap, e⟩
set_option maxRecDepth 100000 in
set_option maxHeartbeats 8000000 in
theorem once_walk {v : Value} {l : List Stp} {w : World} (h : TLie w v l) : Calls Try.prog 4 #[v] w fun e w' => e = .returned (.bool true) ∧ Below w.heap.size w w' := by
  obtain ⟨ao, cap, rfl, h1, h2, h3⟩ := h
  obtain ⟨n, hn⟩ : ∃ n, n = l.length := ⟨_, rfl⟩
  rw [← hn] at h1 ⊢
  have hm : n ≤ 9223372036854775807 := by unfold maxLen at h2; omega
  replace hn := hid hn
  replace h3 := hid h3
  clear h1 h2
  go_enter Try.func4, Try.ntmps4
  go_wp2_with (go_at_call 7; fail)
  refine (new_any _).mono ?_
  rintro e w1 ⟨rfl, ht1, hw1⟩
  have hb1 : Below w.heap.size w w1 := by rw [hw1]; exact below_alloc _ _
  obtain ⟨g, hg⟩ : ∃ g, g = w.heap.size := ⟨_, rfl⟩
  have HA : Hid (OS w g none w1 0 [] (.slice none 0 0) (.slice none 0 0) [] []) := hid ⟨by rw [hg]; exact ht1, by omega, (fun b hb => by cases hb), hb1, BRow.nil _ _, DRow.nil _ _, ⟨(fun x hx => by cases hx), (fun x hx => by cases hx)⟩, (fun x hx => by cases hx), (fun x hx => by cases hx), (fun x hx => by cases hx)⟩
  rw [← hg]
  clear hg ht1 hw1 hb1
  by_cases hbig : 300 < n
  · go_wp2_with (first
      | (go_at_call 18; refine (speaks_any _).mono ?_; rintro e w3 ⟨rfl, hb3⟩))
    go_ret
    exact ⟨rfl, HA.out.be.next hb3⟩
  · have hdb : decide (300 < n) = false := decide_eq_false hbig
    have hdi : decide (300 < (n : Int)) = false := decide_eq_false (by omega)
    go_wp2
    clear hdb hdi
    go_loopw [34, 4, 5] (fun i vB vD wr => ∃ k : Nat, k ≤ n ∧ i = .int .i64 k ∧ Hid (OO w g k wr vB vD)) (fun i _ _ _ => n - (intOf i).toNat)
    case atStart => exact ⟨0, Nat.zero_le _, rfl, hid ⟨none, [], 0, [], [], HA.out, Nat.le_refl _, Nat.le_refl _, Nat.le_refl _, Nat.le_refl _⟩⟩
    case round =>
      obtain ⟨k, hk, rfl, HO⟩ := hrel
      clear HA
      by_cases hlt : k < n
      · have hk' : k < l.length := by rw [← hn.out]; exact hlt
        obtain ⟨mb, L, N, B, D, hOS, hL, hN, hB, hD⟩ := HO.out
        obtain ⟨aB, cB, hvB, _, hmB⟩ := hOS.rb.len
        obtain ⟨aD, cD, hvD, _, hmD⟩ := hOS.rd.len
        subst hvB hvD
        obtain ⟨nB, hnB⟩ : ∃ nB, nB = B.length := ⟨_, rfl⟩
        obtain ⟨nD, hnD⟩ : ∃ nD, nD = D.length := ⟨_, rfl⟩
        rw [← hnB, ← hnD] at hOS ⊢
        have bB : nB ≤ 300 := by omega
        have bD : nD ≤ 300 := by omega
        replace hnB := hid hnB
        replace hnD := hid hnD
        have HSZ := hid (And.intro hL (And.intro hN (And.intro hB hD)))
        have HNb : Hid (N ≤ 300 ∧ L.length ≤ 300) := hid (by omega)
        obtain ⟨gb, off, ea, hgb, hat, hnv, hic⟩ := h3.out k hk'
        subst ea
        obtain ⟨s, hs⟩ : ∃ s, s = l[k]'hk' := ⟨_, rfl⟩
        rw [← hs] at hat hnv hic
        clear hs hk' hmB hmD hL hN hB hD HO
        obtain ⟨K, c, r, R⟩ := s
        obtain ⟨re, rt, ra, rb, rc, rnv, rns⟩ := R
        simp only at hnv hic
        have HNV := hid hnv
        obtain ⟨so, scap, rfl, _⟩ := hnv
        rename World => wr
        have HAt : Hid (∀ q, q < 9 → wr.cell? ⟨gb, off + k * 9 + q, none⟩ = (Stp.cs ⟨K, c, r, ⟨re, rt, ra, rb, rc, .slice so rns.length scap, rns⟩⟩)[q]?) := hid (fun q hq => (hOS.be.cell (p := ⟨gb, off + k * 9 + q, none⟩) hgb).trans (hat q hq))
        obtain ⟨nl, hnl⟩ : ∃ nl, nl = rns.length := ⟨_, rfl⟩
        rw [← hnl] at HAt HNV
        have m0 : wr.cell? ⟨gb, off + k * 9, none⟩ = some (.int .i64 K) := HAt.out 0 (by decide)
        have m1 : wr.cell? ⟨gb, off + k * 9 + 1, none⟩ = some (.int .i64 c) := HAt.out 1 (by decide)
        have m2 : wr.cell? ⟨gb, off + k * 9 + 2, none⟩ = some (.int .i64 r) := HAt.out 2 (by decide)
        have m3 : wr.cell? ⟨gb, off + k * 9 + 3, none⟩ = some (.int .i64 re) := HAt.out 3 (by decide)
        have m4 : wr.cell? ⟨gb, off + k * 9 + 4, none⟩ = some (.string rt) := HAt.out 4 (by decide)
        have m5 : wr.cell? ⟨gb, off + k * 9 + 5, none⟩ = some (.int .i64 ra) := HAt.out 5 (by decide)
        have m6 : wr.cell? ⟨gb, off + k * 9 + 6, none⟩ = some (.int .i64 rb) := HAt.out 6 (by decide)
        have m7 : wr.cell? ⟨gb, off + k * 9 + 7, none⟩ = some (.int .i64 rc) := HAt.out 7 (by decide)
        have m8 : wr.cell? ⟨gb, off + k * 9 + 8, none⟩ = some (.slice so nl scap) := HAt.out 8 (by decide)
        have HOS := hid hOS
        clear hnl hat hOS HAt
        go_upto_region 9 with fail
        clear m0 m1 m2 m3 m4 m5 m6 m7 m8
        obtain ⟨w3, hw3⟩ : ∃ w3, w3 = wr.alloc (.cells #[.int .i64 K, .int .i64 c, .int .i64 r, .int .i64 re, .string rt, .int .i64 ra, .int .i64 rb, .int .i64 rc, .slice so nl scap] 34) := ⟨_, rfl⟩
        obtain ⟨sb, hsb⟩ : ∃ sb, sb = wr.heap.size := ⟨_, rfl⟩
        have HX3 : Hid (w3.heap[sb]? = some (.cells #[.int .i64 K, .int .i64 c, .int .i64 r, .int .i64 re, .string rt, .int .i64 ra, .int .i64 rb, .int .i64 rc, .slice so nl scap] 34 (0, 0))) := hid (by rw [hw3, hsb]; exact box_at _ _)
        have HA3 : Hid (OS w g mb w3 N L (.slice aB nB cB) (.slice aD nD cD) B D) := hid (by rw [hw3]; exact HOS.out.below (below_alloc _ _))
        rw [← hw3, ← hsb]
        clear hw3 hsb HOS
        obtain ⟨n0, n1, n2, n3, n4, n5, n6, n7, n8⟩ := nine HX3.out
        have hsb := lt_of_block HX3.out
        have hK : (K == 0) = true ∨ ((K == 0) = false ∧ (K == 1) = true) ∨ ((K == 0) = false ∧ (K == 1) = false ∧ (K == 2) = true) ∨ ((K == 0) = false ∧ (K == 1) = false ∧ (K == 2) = false) := by simp only [beq_iff_eq, beq_eq_false_iff_ne]; omega
        rcases hK with hK | ⟨hK0, hK⟩ | ⟨hK0, hK1, hK⟩ | ⟨hK0, hK1, hK⟩
        · have HC := hid (begin_any HA3.out.t (by have := HNb.out; omega) (by have := HNb.out; omega) c r)
          go_wp2_with (go_at_call 8; fail)
          refine (HC.out).mono ?_
          rintro e w5 ⟨rfl, mb2, ht5, hm5, hk5⟩
          obtain ⟨ho5, hl5, hb5⟩ := HA3.out.begun ht5 hm5 hk5
          have HO5 := hid ho5
          have HL5 := hid hl5
          have HX5 := hid ((hk5.block sb hsb (HA3.out.t.not34 HX3.out).1 (HA3.out.t.not34 HX3.out).2).trans HX3.out)
          have HB5 := hid hb5
          obtain ⟨L1, hL1⟩ : ∃ L1, L1 = begL L c r := ⟨_, rfl⟩
          obtain ⟨E, hE⟩ : ∃ E, E = begE L c r := ⟨_, rfl⟩
          rw [← hL1] at HO5 HL5 HB5
          rw [← hE] at HB5 ⊢
          clear ho5 hl5 ht5 hm5 hk5 hL1 hE HC HX3 HA3 n0 n1 n2 n3 n4 n5 n6 n7 n8 hb5
          by_cases he : E = 0
          · have HLT := hid (HB5.out he).1
            have HBD := hid (HB5.out he).2
            subst he
            clear HB5
            go_wp2
            go_loopw [52] (fun i wx => ∃ j : Nat, j ≤ nB ∧ i = .int .i64 j ∧ Hid (wx.heap[sb]? = some (.cells #[.int .i64 K, .int .i64 c, .int .i64 r, .int .i64 re, .string rt, .int .i64 ra, .int .i64 rb, .int .i64 rc, .slice so nl scap] 34 (0, 0))) ∧ Hid (OS w g mb2 wx (N + 1) L1 (.slice aB nB cB) (.slice aD nD cD) B D)) (fun i _ => nB - (intOf i).toNat)
            case atStart => exact ⟨0, Nat.zero_le _, rfl, HX5, HO5⟩
            case round =>
              obtain ⟨j, hj, rfl, HX, HQ⟩ := hrel
              rename World => wx
              clear HO5 HX5
              by_cases hjl : j < nB
              · have hj' : j < B.length := by rw [← hnB.out]; exact hjl
                obtain ⟨xb, cc', ex, hxb, hax⟩ := HQ.out.rb.at (Nat.lt_of_le_of_lt (Nat.zero_le _) hj')
                have ea : aB = some ⟨xb, 0, none⟩ := by injection ex
                subst ea
                clear ex
                have hfact := HLT.out _ (List.getElem_mem hj')
                have hax := hax j hj'
                obtain ⟨b, hb⟩ : ∃ b, b = B[j]'hj' := ⟨_, rfl⟩
                rw [← hb] at hfact hax
                clear hb hj'
                obtain ⟨bc, br⟩ := b
                simp only at hfact
                have m0 : wx.cell? ⟨xb, j * 2, none⟩ = some (.int .i64 bc) := hax 0 (by decide)
                have m1 : wx.cell? ⟨xb, j * 2 + 1, none⟩ = some (.int .i64 br) := hax 1 (by decide)
                clear hax
                replace hfact := hid hfact
                go_upto_region 16 with fail
                clear m0 m1
                obtain ⟨u3, hu3⟩ : ∃ u3, u3 = wx.alloc (.cells #[.int .i64 bc, .int .i64 br] 55) := ⟨_, rfl⟩
                obtain ⟨tb, htb⟩ : ∃ tb, tb = wx.heap.size := ⟨_, rfl⟩
                have hU3 : u3.heap[tb]? = some (.cells #[.int .i64 bc, .int .i64 br] 55 (0, 0)) := by rw [hu3, htb]; exact box_at _ _
                have y0 : u3.cell? ⟨tb, 0, none⟩ = some (.int .i64 bc) := by simp [World.cell?, hU3]
                have y1 : u3.cell? ⟨tb, 1, none⟩ = some (.int .i64 br) := by simp [World.cell?, hU3]
                have HB3 : Below wx.heap.size wx u3 := by rw [hu3]; exact below_alloc _ _
                have HXu := hid ((HB3.block sb (lt_of_block HX.out)).trans HX.out)
                have HQu := hid (HQ.out.below HB3)
                obtain ⟨n0, n1, n2, n3, n4, n5, n6, n7, n8⟩ := nine HXu.out
                rw [← hu3, ← htb]
                clear hu3 htb HB3 hU3 n0 n3 n4 n5 n6 n7 n8
                by_cases hcc : bc = c
                · have h1 := hfact.out hcc
                  have hb1 : (bc == c) = true := by simpa using hcc
                  have hb2 : decide (r ≤ br) = false := decide_eq_false (by omega)
                  clear hcc h1
                  go_wp2
                  go_roundw
                  case rel => exact ⟨j + 1, hjl, by simp, HXu, HQu⟩
                  case measure => simp [intOf]; omega
                · have hb1 : (bc == c) = false := by simpa using hcc
                  clear hcc
                  go_wp2
                  go_roundw
                  case rel => exact ⟨j + 1, hjl, by simp, HXu, HQu⟩
                  case measure => simp [intOf]; omega
              · obtain ⟨n0, n1, n2, n3, n4, n5, n6, n7, n8⟩ := nine HX.out
                clear n0 n3 n4 n5 n6 n7 n8
                have HSl : Hid (B.length ≤ 2000000) := hid (by have := HSZ.out; omega)
                go_wp2_with (first
                  | (at_builtin; refine pushB rfl (.tmp 69) (.tmp 75) rfl w.heap.size _ _ B ⟨c, r⟩ rfl rfl rfl HQ.out.rb (onc_one _) HSl.out HQ.out.be.size ?_; intro vB' w7 hr7 hb7 hk7 hf7; have HO7 := hid (HQ.out.putB hr7 hb7 hk7 hf7 HBD.out); clear hr7 hb7 hk7 hf7 n1 n2 HQ HX))
                go_loopw [113] (fun i wx => ∃ j : Nat, j ≤ nD ∧ i = .int .i64 j ∧ Hid (OS w g mb2 wx (N + 1) L1 vB' (.slice aD nD cD) (B ++ [⟨c, r⟩]) D)) (fun i _ => nD - (intOf i).toNat)
                case atStart => exact ⟨0, Nat.zero_le _, rfl, HO7⟩
                case round =>
                  obtain ⟨j, hj, rfl, HQ⟩ := hrel
                  rename World => wx
                  by_cases hjl : j < nD
                  · have hj' : j < (D).length := by rw [← (hnD).out]; exact hjl
                    obtain ⟨xb, cc', ex, hxb, hax⟩ := HQ.out.rd.at (Nat.lt_of_le_of_lt (Nat.zero_le _) hj')
                    have ea : aD = some ⟨xb, 0, none⟩ := by injection ex
                    subst ea
                    clear ex
                    have hmem := List.getElem_mem hj'
                    have hdn := hid (HQ.out.bd.d _ hmem)
                    have hnd := HQ.out.nd _ hmem
                    have hax := hax j hj'
                    obtain ⟨d, hd⟩ : ∃ d, d = (D)[j]'hj' := ⟨_, rfl⟩
                    rw [← hd] at hdn hnd hax
                    clear hd hmem hj'
                    obtain ⟨dK, dc, dr, dR⟩ := d
                    obtain ⟨de, dt, da, db, dcc, dnv, dns⟩ := dR
                    simp only at hnd
                    have HND := hid hnd
                    obtain ⟨dso, dscap, rfl, _⟩ := hnd
                    obtain ⟨dl, hdl⟩ : ∃ dl, dl = dns.length := ⟨_, rfl⟩
                    rw [← hdl] at hdn HND hax
                    replace hdl := hid hdl
                    have m0 : wx.cell? ⟨xb, j * 9, none⟩ = some (.int .i64 dK) := hax 0 (by decide)
                    have m1 : wx.cell? ⟨xb, j * 9 + 1, none⟩ = some (.int .i64 dc) := hax 1 (by decide)
                    have m2 : wx.cell? ⟨xb, j * 9 + 2, none⟩ = some (.int .i64 dr) := hax 2 (by decide)
                    have m3 : wx.cell? ⟨xb, j * 9 + 3, none⟩ = some (.int .i64 de) := hax 3 (by decide)
                    have m4 : wx.cell? ⟨xb, j * 9 + 4, none⟩ = some (.string dt) := hax 4 (by decide)
                    have m5 : wx.cell? ⟨xb, j * 9 + 5, none⟩ = some (.int .i64 da) := hax 5 (by decide)
                    have m6 : wx.cell? ⟨xb, j * 9 + 6, none⟩ = some (.int .i64 db) := hax 6 (by decide)
                    have m7 : wx.cell? ⟨xb, j * 9 + 7, none⟩ = some (.int .i64 dcc) := hax 7 (by decide)
                    have m8 : wx.cell? ⟨xb, j * 9 + 8, none⟩ = some (.slice dso dl dscap) := hax 8 (by decide)
                    clear hax
                    go_upto_region 32 with fail
                    clear m0 m1 m2 m3 m4 m5 m6 m7 m8
                    obtain ⟨u3, hu3⟩ : ∃ u3, u3 = wx.alloc (.cells #[.int .i64 dK, .int .i64 dc, .int .i64 dr, .int .i64 de, .string dt, .int .i64 da, .int .i64 db, .int .i64 dcc, .slice dso dl dscap] 34) := ⟨_, rfl⟩
                    obtain ⟨tb, htb⟩ : ∃ tb, tb = wx.heap.size := ⟨_, rfl⟩
                    have HU3 : Hid (u3.heap[tb]? = some (.cells #[.int .i64 dK, .int .i64 dc, .int .i64 dr, .int .i64 de, .string dt, .int .i64 da, .int .i64 db, .int .i64 dcc, .slice dso dl dscap] 34 (0, 0))) := hid (by rw [hu3, htb]; exact box_at _ _)
                    have HQ3 : Hid (OS w g mb2 u3 (N + 1) L1 vB' (.slice (some ⟨xb, 0, none⟩) nD cD) (B ++ [⟨c, r⟩]) D) := hid (by rw [hu3]; exact HQ.out.below (below_alloc _ _))
                    rw [← hu3, ← htb]
                    clear hu3 htb
                    obtain ⟨y0, y1, y2, y3, y4, y5, y6, y7, y8⟩ := nine HU3.out
                    have htb := lt_of_block HU3.out
                    have C1 := hid (fun (W : World) (hW : Below u3.heap.size u3 W) => last_tb (HQ3.out.t.below hW) dc (okc_in hdn.out.2.2))
                    have C2 := hid (fun (W : World) (hW : Below u3.heap.size u3 W) => ask_tb (HQ3.out.t.below hW) dc dr)
                    obtain ⟨hE, hS⟩ := dn_ask hdn.out
                    simp only at hE hS
                    obtain ⟨A, hA⟩ : ∃ A, A = askR (at_ (L1) dc) dc dr := ⟨_, rfl⟩
                    obtain ⟨S, hSS⟩ : ∃ S, S = askS (at_ (L1) dc) dc dr := ⟨_, rfl⟩
                    obtain ⟨nn, hnn⟩ : ∃ nn, nn = (at_ (L1) dc).n := ⟨_, rfl⟩
                    rw [hE, ← hA, ← hSS] at C2
                    rw [← hA, ← hSS, ← hnn] at hS
                    rw [← hnn] at C1
                    clear hE hA hSS hnn hdn
                    simp only [Rs.v] at C2
                    obtain ⟨Ae, At, Aa, Ab, Ac, Anv, Ans⟩ := A
                    simp only at C2 hS
                    rcases hS with ⟨e1, e2, e3, e4, e5, e6, e7, e8⟩ | ⟨e1, e2⟩
                    · subst e1 e2 e3 e4 e5 e6 e7 e8
                      go_wp2_with (first
                        | (go_at_call 15; refine (C1.out _ (Below.refl _ _)).mono ?_; rintro e u4 ⟨rfl, hb4⟩; have HB4 := hid hb4; have HY4 := (hb4.block tb htb).trans HU3.out; clear y0 y1 y2 y3 y4 y5 y6 y7 y8; obtain ⟨y0, y1, y2, y3, y4, y5, y6, y7, y8⟩ := nine HY4; clear hb4 HY4)
                        | (go_at_call 12; fail))
                      refine (C2.out _ HB4.out).mono ?_
                      rintro e u5 ⟨v5, rfl, hs5, hb5⟩
                      have HS5 := hid hs5
                      obtain ⟨o5, c5, rfl, _⟩ := hs5
                      obtain ⟨an, han⟩ : ∃ an, an = Ans.length := ⟨_, rfl⟩
                      rw [← han] at HS5 ⊢
                      replace han := hid han
                      obtain ⟨u6, hu6⟩ : ∃ u6, u6 = u5.alloc (.cells #[.int .i64 Ae, .string At, .int .i64 Aa, .int .i64 Ab, .int .i64 Ac, .slice o5 an c5] 32) := ⟨_, rfl⟩
                      have B6 : Below u3.heap.size u3 u6 := by rw [hu6]; exact (HB4.out.next hb5).next (below_alloc _ _)
                      have HX6 : u6.heap[u5.heap.size]? = some (.cells #[.int .i64 Ae, .string At, .int .i64 Aa, .int .i64 Ab, .int .i64 Ac, .slice o5 an c5] 32 (0, 0)) := by rw [hu6]; exact box_at _ _
                      have HS6 : Hid (SLie u6 (.slice o5 an c5) Ans) := hid (by rw [hu6]; exact HS5.out.below (below_alloc _ _))
                      have HY6 := (B6.block tb htb).trans HU3.out
                      clear y0 y1 y2 y3 y4 y5 y6 y7 y8
                      obtain ⟨y0, y1, y2, y3, y4, y5, y6, y7, y8⟩ := nine HY6
                      obtain ⟨p0, p1, p2, p3, p4, p5⟩ := (show B32 u5.heap.size u6 ⟨Ae, At, Aa, Ab, Ac, .slice o5 an c5, Ans⟩ from HX6).cells
                      simp only at p0 p1 p2 p3 p4 p5
                      have HB6 := hid B6
                      replace hu6 := hid hu6
                      clear C1 C2 hb5 HS5 HY6 HX6 B6
                      go_upto_region 34 with fail
                      rw [← hu6.out]
                      clear hu6
                      have HC := hid (result_same (e := Ae) (a := Aa) (b := Ab) (c := Ac) (t := At) HS6.out (HND.out.below (HQ3.out.be.next HB6.out)))
                      go_wp2_with (first
                        | (go_at_call 14; refine (HC.out).mono ?_; rintro e u7 ⟨rfl, hb7⟩; have HY6 := (HB6.out.block tb htb).trans HU3.out; have HY7 := (hb7.block tb (lt_of_block HY6)).trans HY6; clear HY6 y0 y1 y2 y3 y4 y5 y6 y7 y8 p0 p1 p2 p3 p4 p5; obtain ⟨y0, y1, y2, y3, y4, y5, y6, y7, y8⟩ := nine HY7; clear HY7))
                      go_roundw
                      case rel => exact ⟨j + 1, hjl, by simp, hid (HQ3.out.below (HB6.out.next hb7))⟩
                      case measure => simp [intOf]; omega
                    · subst e2
                      have hf1 : (nn == dr) = false := by simpa using e1
                      have hf2 : (nn != dr) = true := by simpa using e1
                      clear e1
                      go_wp2_with (first
                        | (go_at_call 15; refine (C1.out _ (Below.refl _ _)).mono ?_; rintro e u4 ⟨rfl, hb4⟩; have HB4 := hid hb4; have HY4 := (hb4.block tb htb).trans HU3.out; clear y0 y1 y2 y3 y4 y5 y6 y7 y8; obtain ⟨y0, y1, y2, y3, y4, y5, y6, y7, y8⟩ := nine HY4; clear hb4 HY4)
                        | (go_at_call 12; fail))
                      refine (C2.out _ HB4.out).mono ?_
                      rintro e u5 ⟨v5, rfl, hs5, hb5⟩
                      have HS5 := hid hs5
                      obtain ⟨o5, c5, rfl, _⟩ := hs5
                      obtain ⟨an, han⟩ : ∃ an, an = Ans.length := ⟨_, rfl⟩
                      rw [← han] at HS5 ⊢
                      replace han := hid han
                      obtain ⟨u6, hu6⟩ : ∃ u6, u6 = u5.alloc (.cells #[.int .i64 Ae, .string At, .int .i64 Aa, .int .i64 Ab, .int .i64 Ac, .slice o5 an c5] 32) := ⟨_, rfl⟩
                      have B6 : Below u3.heap.size u3 u6 := by rw [hu6]; exact (HB4.out.next hb5).next (below_alloc _ _)
                      have HX6 : u6.heap[u5.heap.size]? = some (.cells #[.int .i64 Ae, .string At, .int .i64 Aa, .int .i64 Ab, .int .i64 Ac, .slice o5 an c5] 32 (0, 0)) := by rw [hu6]; exact box_at _ _
                      have HS6 : Hid (SLie u6 (.slice o5 an c5) Ans) := hid (by rw [hu6]; exact HS5.out.below (below_alloc _ _))
                      have HY6 := (B6.block tb htb).trans HU3.out
                      clear y0 y1 y2 y3 y4 y5 y6 y7 y8
                      obtain ⟨y0, y1, y2, y3, y4, y5, y6, y7, y8⟩ := nine HY6
                      obtain ⟨p0, p1, p2, p3, p4, p5⟩ := (show B32 u5.heap.size u6 ⟨Ae, At, Aa, Ab, Ac, .slice o5 an c5, Ans⟩ from HX6).cells
                      simp only at p0 p1 p2 p3 p4 p5
                      have HB6 := hid B6
                      replace hu6 := hid hu6
                      clear C1 C2 hb5 HS5 HY6 HX6 B6
                      go_upto_region 34 with fail
                      rw [← hu6.out]
                      clear hu6
                      go_wp2
                      go_roundw
                      case rel => exact ⟨j + 1, hjl, by simp, hid (HQ3.out.below HB6.out)⟩
                      case measure => simp [intOf]; omega
                  · go_wp2
                    go_roundw
                    case rel => exact ⟨k + 1, hlt, by simp, hid ⟨_, _, _, _, _, HQ.out, by have := HSZ.out; have := HL5.out; simp only [List.length_append, List.length_cons, List.length_nil]; omega⟩⟩
                    case measure => simp [intOf]; omega
          · have hne : (E != 0) = true := by simpa using he
            clear he HB5
            go_wp2
            go_roundw
            case rel => exact ⟨k + 1, hlt, by simp, hid ⟨_, _, _, _, _, HO5.out, by have := HSZ.out; have := HL5.out; omega⟩⟩
            case measure => simp [intOf]; omega
        · have HC := hid (begin_any HA3.out.t (by have := HNb.out; omega) (by have := HNb.out; omega) c r)
          go_wp2_with (go_at_call 8; fail)
          refine (HC.out).mono ?_
          rintro e w5 ⟨rfl, mb2, ht5, hm5, hk5⟩
          obtain ⟨ho5, hl5, hb5⟩ := HA3.out.begun ht5 hm5 hk5
          have HO5 := hid ho5
          have HL5 := hid hl5
          have HX5 := hid ((hk5.block sb hsb (HA3.out.t.not34 HX3.out).1 (HA3.out.t.not34 HX3.out).2).trans HX3.out)
          have HB5 := hid hb5
          obtain ⟨L1, hL1⟩ : ∃ L1, L1 = begL L c r := ⟨_, rfl⟩
          obtain ⟨E, hE⟩ : ∃ E, E = begE L c r := ⟨_, rfl⟩
          rw [← hL1] at HO5 HL5 HB5
          rw [← hE] at HB5 ⊢
          clear ho5 hl5 ht5 hm5 hk5 hL1 hE HC HX3 HA3 n0 n1 n2 n3 n4 n5 n6 n7 n8 hb5
          by_cases he : E = 0
          · have HLT := hid (HB5.out he).1
            have HBD := hid (HB5.out he).2
            subst he
            clear HB5
            go_wp2
            go_loopw [52] (fun i wx => ∃ j : Nat, j ≤ nB ∧ i = .int .i64 j ∧ Hid (wx.heap[sb]? = some (.cells #[.int .i64 K, .int .i64 c, .int .i64 r, .int .i64 re, .string rt, .int .i64 ra, .int .i64 rb, .int .i64 rc, .slice so nl scap] 34 (0, 0))) ∧ Hid (OS w g mb2 wx (N + 1) L1 (.slice aB nB cB) (.slice aD nD cD) B D)) (fun i _ => nB - (intOf i).toNat)
            case atStart => exact ⟨0, Nat.zero_le _, rfl, HX5, HO5⟩
            case round =>
              obtain ⟨j, hj, rfl, HX, HQ⟩ := hrel
              rename World => wx
              clear HO5 HX5
              by_cases hjl : j < nB
              · have hj' : j < B.length := by rw [← hnB.out]; exact hjl
                obtain ⟨xb, cc', ex, hxb, hax⟩ := HQ.out.rb.at (Nat.lt_of_le_of_lt (Nat.zero_le _) hj')
                have ea : aB = some ⟨xb, 0, none⟩ := by injection ex
                subst ea
                clear ex
                have hfact := HLT.out _ (List.getElem_mem hj')
                have hax := hax j hj'
                obtain ⟨b, hb⟩ : ∃ b, b = B[j]'hj' := ⟨_, rfl⟩
                rw [← hb] at hfact hax
                clear hb hj'
                obtain ⟨bc, br⟩ := b
                simp only at hfact
                have m0 : wx.cell? ⟨xb, j * 2, none⟩ = some (.int .i64 bc) := hax 0 (by decide)
                have m1 : wx.cell? ⟨xb, j * 2 + 1, none⟩ = some (.int .i64 br) := hax 1 (by decide)
                clear hax
                replace hfact := hid hfact
                go_upto_region 16 with fail
                clear m0 m1
                obtain ⟨u3, hu3⟩ : ∃ u3, u3 = wx.alloc (.cells #[.int .i64 bc, .int .i64 br] 55) := ⟨_, rfl⟩
                obtain ⟨tb, htb⟩ : ∃ tb, tb = wx.heap.size := ⟨_, rfl⟩
                have hU3 : u3.heap[tb]? = some (.cells #[.int .i64 bc, .int .i64 br] 55 (0, 0)) := by rw [hu3, htb]; exact box_at _ _
                have y0 : u3.cell? ⟨tb, 0, none⟩ = some (.int .i64 bc) := by simp [World.cell?, hU3]
                have y1 : u3.cell? ⟨tb, 1, none⟩ = some (.int .i64 br) := by simp [World.cell?, hU3]
                have HB3 : Below wx.heap.size wx u3 := by rw [hu3]; exact below_alloc _ _
                have HXu := hid ((HB3.block sb (lt_of_block HX.out)).trans HX.out)
                have HQu := hid (HQ.out.below HB3)
                obtain ⟨n0, n1, n2, n3, n4, n5, n6, n7, n8⟩ := nine HXu.out
                rw [← hu3, ← htb]
                clear hu3 htb HB3 hU3 n0 n3 n4 n5 n6 n7 n8
                by_cases hcc : bc = c
                · have h1 := hfact.out hcc
                  have hb1 : (bc == c) = true := by simpa using hcc
                  have hb2 : decide (r ≤ br) = false := decide_eq_false (by omega)
                  clear hcc h1
                  go_wp2
                  go_roundw
                  case rel => exact ⟨j + 1, hjl, by simp, HXu, HQu⟩
                  case measure => simp [intOf]; omega
                · have hb1 : (bc == c) = false := by simpa using hcc
                  clear hcc
                  go_wp2
                  go_roundw
                  case rel => exact ⟨j + 1, hjl, by simp, HXu, HQu⟩
                  case measure => simp [intOf]; omega
              · obtain ⟨n0, n1, n2, n3, n4, n5, n6, n7, n8⟩ := nine HX.out
                clear n0 n3 n4 n5 n6 n7 n8
                have HSl : Hid (B.length ≤ 2000000) := hid (by have := HSZ.out; omega)
                go_wp2_with (first
                  | (at_builtin; refine pushB rfl (.tmp 69) (.tmp 75) rfl w.heap.size _ _ B ⟨c, r⟩ rfl rfl rfl HQ.out.rb (onc_one _) HSl.out HQ.out.be.size ?_; intro vB' w7 hr7 hb7 hk7 hf7; have HO7 := hid (HQ.out.putB hr7 hb7 hk7 hf7 HBD.out); clear hr7 hb7 hk7 hf7 n1 n2 HQ HX))
                go_loopw [113] (fun i wx => ∃ j : Nat, j ≤ nD ∧ i = .int .i64 j ∧ Hid (OS w g mb2 wx (N + 1) L1 vB' (.slice aD nD cD) (B ++ [⟨c, r⟩]) D)) (fun i _ => nD - (intOf i).toNat)
                case atStart => exact ⟨0, Nat.zero_le _, rfl, HO7⟩
                case round =>
                  obtain ⟨j, hj, rfl, HQ⟩ := hrel
                  rename World => wx
                  by_cases hjl : j < nD
                  · have hj' : j < (D).length := by rw [← (hnD).out]; exact hjl
                    obtain ⟨xb, cc', ex, hxb, hax⟩ := HQ.out.rd.at (Nat.lt_of_le_of_lt (Nat.zero_le _) hj')
                    have ea : aD = some ⟨xb, 0, none⟩ := by injection ex
                    subst ea
                    clear ex
                    have hmem := List.getElem_mem hj'
                    have hdn := hid (HQ.out.bd.d _ hmem)
                    have hnd := HQ.out.nd _ hmem
                    have hax := hax j hj'
                    obtain ⟨d, hd⟩ : ∃ d, d = (D)[j]'hj' := ⟨_, rfl⟩
                    rw [← hd] at hdn hnd hax
                    clear hd hmem hj'
                    obtain ⟨dK, dc, dr, dR⟩ := d
                    obtain ⟨de, dt, da, db, dcc, dnv, dns⟩ := dR
                    simp only at hnd
                    have HND := hid hnd
                    obtain ⟨dso, dscap, rfl, _⟩ := hnd
                    obtain ⟨dl, hdl⟩ : ∃ dl, dl = dns.length := ⟨_, rfl⟩
                    rw [← hdl] at hdn HND hax
                    replace hdl := hid hdl
                    have m0 : wx.cell? ⟨xb, j * 9, none⟩ = some (.int .i64 dK) := hax 0 (by decide)
                    have m1 : wx.cell? ⟨xb, j * 9 + 1, none⟩ = some (.int .i64 dc) := hax 1 (by decide)
                    have m2 : wx.cell? ⟨xb, j * 9 + 2, none⟩ = some (.int .i64 dr) := hax 2 (by decide)
                    have m3 : wx.cell? ⟨xb, j * 9 + 3, none⟩ = some (.int .i64 de) := hax 3 (by decide)
                    have m4 : wx.cell? ⟨xb, j * 9 + 4, none⟩ = some (.string dt) := hax 4 (by decide)
                    have m5 : wx.cell? ⟨xb, j * 9 + 5, none⟩ = some (.int .i64 da) := hax 5 (by decide)
                    have m6 : wx.cell? ⟨xb, j * 9 + 6, none⟩ = some (.int .i64 db) := hax 6 (by decide)
                    have m7 : wx.cell? ⟨xb, j * 9 + 7, none⟩ = some (.int .i64 dcc) := hax 7 (by decide)
                    have m8 : wx.cell? ⟨xb, j * 9 + 8, none⟩ = some (.slice dso dl dscap) := hax 8 (by decide)
                    clear hax
                    go_upto_region 32 with fail
                    clear m0 m1 m2 m3 m4 m5 m6 m7 m8
                    obtain ⟨u3, hu3⟩ : ∃ u3, u3 = wx.alloc (.cells #[.int .i64 dK, .int .i64 dc, .int .i64 dr, .int .i64 de, .string dt, .int .i64 da, .int .i64 db, .int .i64 dcc, .slice dso dl dscap] 34) := ⟨_, rfl⟩
                    obtain ⟨tb, htb⟩ : ∃ tb, tb = wx.heap.size := ⟨_, rfl⟩
                    have HU3 : Hid (u3.heap[tb]? = some (.cells #[.int .i64 dK, .int .i64 dc, .int .i64 dr, .int .i64 de, .string dt, .int .i64 da, .int .i64 db, .int .i64 dcc, .slice dso dl dscap] 34 (0, 0))) := hid (by rw [hu3, htb]; exact box_at _ _)
                    have HQ3 : Hid (OS w g mb2 u3 (N + 1) L1 vB' (.slice (some ⟨xb, 0, none⟩) nD cD) (B ++ [⟨c, r⟩]) D) := hid (by rw [hu3]; exact HQ.out.below (below_alloc _ _))
                    rw [← hu3, ← htb]
                    clear hu3 htb
                    obtain ⟨y0, y1, y2, y3, y4, y5, y6, y7, y8⟩ := nine HU3.out
                    have htb := lt_of_block HU3.out
                    have C1 := hid (fun (W : World) (hW : Below u3.heap.size u3 W) => last_tb (HQ3.out.t.below hW) dc (okc_in hdn.out.2.2))
                    have C2 := hid (fun (W : World) (hW : Below u3.heap.size u3 W) => ask_tb (HQ3.out.t.below hW) dc dr)
                    obtain ⟨hE, hS⟩ := dn_ask hdn.out
                    simp only at hE hS
                    obtain ⟨A, hA⟩ : ∃ A, A = askR (at_ (L1) dc) dc dr := ⟨_, rfl⟩
                    obtain ⟨S, hSS⟩ : ∃ S, S = askS (at_ (L1) dc) dc dr := ⟨_, rfl⟩
                    obtain ⟨nn, hnn⟩ : ∃ nn, nn = (at_ (L1) dc).n := ⟨_, rfl⟩
                    rw [hE, ← hA, ← hSS] at C2
                    rw [← hA, ← hSS, ← hnn] at hS
                    rw [← hnn] at C1
                    clear hE hA hSS hnn hdn
                    simp only [Rs.v] at C2
                    obtain ⟨Ae, At, Aa, Ab, Ac, Anv, Ans⟩ := A
                    simp only at C2 hS
                    rcases hS with ⟨e1, e2, e3, e4, e5, e6, e7, e8⟩ | ⟨e1, e2⟩
                    · subst e1 e2 e3 e4 e5 e6 e7 e8
                      go_wp2_with (first
                        | (go_at_call 15; refine (C1.out _ (Below.refl _ _)).mono ?_; rintro e u4 ⟨rfl, hb4⟩; have HB4 := hid hb4; have HY4 := (hb4.block tb htb).trans HU3.out; clear y0 y1 y2 y3 y4 y5 y6 y7 y8; obtain ⟨y0, y1, y2, y3, y4, y5, y6, y7, y8⟩ := nine HY4; clear hb4 HY4)
                        | (go_at_call 12; fail))
                      refine (C2.out _ HB4.out).mono ?_
                      rintro e u5 ⟨v5, rfl, hs5, hb5⟩
                      have HS5 := hid hs5
                      obtain ⟨o5, c5, rfl, _⟩ := hs5
                      obtain ⟨an, han⟩ : ∃ an, an = Ans.length := ⟨_, rfl⟩
                      rw [← han] at HS5 ⊢
                      replace han := hid han
                      obtain ⟨u6, hu6⟩ : ∃ u6, u6 = u5.alloc (.cells #[.int .i64 Ae, .string At, .int .i64 Aa, .int .i64 Ab, .int .i64 Ac, .slice o5 an c5] 32) := ⟨_, rfl⟩
                      have B6 : Below u3.heap.size u3 u6 := by rw [hu6]; exact (HB4.out.next hb5).next (below_alloc _ _)
                      have HX6 : u6.heap[u5.heap.size]? = some (.cells #[.int .i64 Ae, .string At, .int .i64 Aa, .int .i64 Ab, .int .i64 Ac, .slice o5 an c5] 32 (0, 0)) := by rw [hu6]; exact box_at _ _
                      have HS6 : Hid (SLie u6 (.slice o5 an c5) Ans) := hid (by rw [hu6]; exact HS5.out.below (below_alloc _ _))
                      have HY6 := (B6.block tb htb).trans HU3.out
                      clear y0 y1 y2 y3 y4 y5 y6 y7 y8
                      obtain ⟨y0, y1, y2, y3, y4, y5, y6, y7, y8⟩ := nine HY6
                      obtain ⟨p0, p1, p2, p3, p4, p5⟩ := (show B32 u5.heap.size u6 ⟨Ae, At, Aa, Ab, Ac, .slice o5 an c5, Ans⟩ from HX6).cells
                      simp only at p0 p1 p2 p3 p4 p5
                      have HB6 := hid B6
                      replace hu6 := hid hu6
                      clear C1 C2 hb5 HS5 HY6 HX6 B6
                      go_upto_region 34 with fail
                      rw [← hu6.out]
                      clear hu6
                      have HC := hid (result_same (e := Ae) (a := Aa) (b := Ab) (c := Ac) (t := At) HS6.out (HND.out.below (HQ3.out.be.next HB6.out)))
                      go_wp2_with (first
                        | (go_at_call 14; refine (HC.out).mono ?_; rintro e u7 ⟨rfl, hb7⟩; have HY6 := (HB6.out.block tb htb).trans HU3.out; have HY7 := (hb7.block tb (lt_of_block HY6)).trans HY6; clear HY6 y0 y1 y2 y3 y4 y5 y6 y7 y8 p0 p1 p2 p3 p4 p5; obtain ⟨y0, y1, y2, y3, y4, y5, y6, y7, y8⟩ := nine HY7; clear HY7))
                      go_roundw
                      case rel => exact ⟨j + 1, hjl, by simp, hid (HQ3.out.below (HB6.out.next hb7))⟩
                      case measure => simp [intOf]; omega
                    · subst e2
                      have hf1 : (nn == dr) = false := by simpa using e1
                      have hf2 : (nn != dr) = true := by simpa using e1
                      clear e1
                      go_wp2_with (first
                        | (go_at_call 15; refine (C1.out _ (Below.refl _ _)).mono ?_; rintro e u4 ⟨rfl, hb4⟩; have HB4 := hid hb4; have HY4 := (hb4.block tb htb).trans HU3.out; clear y0 y1 y2 y3 y4 y5 y6 y7 y8; obtain ⟨y0, y1, y2, y3, y4, y5, y6, y7, y8⟩ := nine HY4; clear hb4 HY4)
                        | (go_at_call 12; fail))
                      refine (C2.out _ HB4.out).mono ?_
                      rintro e u5 ⟨v5, rfl, hs5, hb5⟩
                      have HS5 := hid hs5
                      obtain ⟨o5, c5, rfl, _⟩ := hs5
                      obtain ⟨an, han⟩ : ∃ an, an = Ans.length := ⟨_, rfl⟩
                      rw [← han] at HS5 ⊢
                      replace han := hid han
                      obtain ⟨u6, hu6⟩ : ∃ u6, u6 = u5.alloc (.cells #[.int .i64 Ae, .string At, .int .i64 Aa, .int .i64 Ab, .int .i64 Ac, .slice o5 an c5] 32) := ⟨_, rfl⟩
                      have B6 : Below u3.heap.size u3 u6 := by rw [hu6]; exact (HB4.out.next hb5).next (below_alloc _ _)
                      have HX6 : u6.heap[u5.heap.size]? = some (.cells #[.int .i64 Ae, .string At, .int .i64 Aa, .int .i64 Ab, .int .i64 Ac, .slice o5 an c5] 32 (0, 0)) := by rw [hu6]; exact box_at _ _
                      have HS6 : Hid (SLie u6 (.slice o5 an c5) Ans) := hid (by rw [hu6]; exact HS5.out.below (below_alloc _ _))
                      have HY6 := (B6.block tb htb).trans HU3.out
                      clear y0 y1 y2 y3 y4 y5 y6 y7 y8
                      obtain ⟨y0, y1, y2, y3, y4, y5, y6, y7, y8⟩ := nine HY6
                      obtain ⟨p0, p1, p2, p3, p4, p5⟩ := (show B32 u5.heap.size u6 ⟨Ae, At, Aa, Ab, Ac, .slice o5 an c5, Ans⟩ from HX6).cells
                      simp only at p0 p1 p2 p3 p4 p5
                      have HB6 := hid B6
                      replace hu6 := hid hu6
                      clear C1 C2 hb5 HS5 HY6 HX6 B6
                      go_upto_region 34 with fail
                      rw [← hu6.out]
                      clear hu6
                      go_wp2
                      go_roundw
                      case rel => exact ⟨j + 1, hjl, by simp, hid (HQ3.out.below HB6.out)⟩
                      case measure => simp [intOf]; omega
                  · go_wp2
                    go_roundw
                    case rel => exact ⟨k + 1, hlt, by simp, hid ⟨_, _, _, _, _, HQ.out, by have := HSZ.out; have := HL5.out; simp only [List.length_append, List.length_cons, List.length_nil]; omega⟩⟩
                    case measure => simp [intOf]; omega
          · have hne : (E != 0) = true := by simpa using he
            clear he HB5
            go_wp2
            go_roundw
            case rel => exact ⟨k + 1, hlt, by simp, hid ⟨_, _, _, _, _, HO5.out, by have := HSZ.out; have := HL5.out; omega⟩⟩
            case measure => simp [intOf]; omega
        · have HC := hid (done_any2 HA3.out.t (by have := HNb.out; omega) c r ⟨re, rt, ra, rb, rc, .slice so nl scap, rns⟩ (HNV.out.below HA3.out.be))
          simp only [Rs.v] at HC
          go_wp2_with (go_at_call 10; fail)
          refine (HC.out).mono ?_
          rintro e w5 ⟨rfl, v5, hf5, ht5, hk5⟩
          obtain ⟨ho5, hl5, hb5⟩ := HA3.out.doned (⟨K, c, r, ⟨re, rt, ra, rb, rc, .slice so nl scap, rns⟩⟩ : Stp) hf5 ht5 hk5
          simp only at ho5 hl5 hb5
          have HO5 := hid ho5
          have HL5 := hid hl5
          have HX5 := hid ((hk5.block sb hsb (HA3.out.t.not34 HX3.out).1 (HA3.out.t.not34 HX3.out).2).trans HX3.out)
          have HB5 := hid hb5
          obtain ⟨L1, hL1⟩ : ∃ L1, L1 = donL L c r ⟨re, rt, ra, rb, rc, v5, rns⟩ := ⟨_, rfl⟩
          obtain ⟨E, hE⟩ : ∃ E, E = donE L c r := ⟨_, rfl⟩
          rw [← hL1] at HO5 HL5 HB5
          rw [← hE] at HB5 ⊢
          clear ho5 hl5 ht5 hk5 hf5 hL1 hE HC HX3 HA3 n0 n1 n2 n3 n4 n5 n6 n7 n8 hb5
          by_cases he : E = 0
          · have HLT := hid (HB5.out he).1
            have HBD := hid (HB5.out he).2
            subst he
            clear HB5
            go_wp2
            go_loopw [90] (fun i wx => ∃ j : Nat, j ≤ nD ∧ i = .int .i64 j ∧ Hid (wx.heap[sb]? = some (.cells #[.int .i64 K, .int .i64 c, .int .i64 r, .int .i64 re, .string rt, .int .i64 ra, .int .i64 rb, .int .i64 rc, .slice so nl scap] 34 (0, 0))) ∧ Hid (OS w g mb wx (N + 1) L1 (.slice aB nB cB) (.slice aD nD cD) B D)) (fun i _ => nD - (intOf i).toNat)
            case atStart => exact ⟨0, Nat.zero_le _, rfl, HX5, HO5⟩
            case round =>
              obtain ⟨j, hj, rfl, HX, HQ⟩ := hrel
              rename World => wx
              clear HO5 HX5
              by_cases hjl : j < nD
              · have hj' : j < D.length := by rw [← hnD.out]; exact hjl
                obtain ⟨xb, cc', ex, hxb, hax⟩ := HQ.out.rd.at (Nat.lt_of_le_of_lt (Nat.zero_le _) hj')
                have ea : aD = some ⟨xb, 0, none⟩ := by injection ex
                subst ea
                clear ex
                have hfact := HLT.out _ (List.getElem_mem hj')
                have hnd := HQ.out.nd _ (List.getElem_mem hj')
                have hax := hax j hj'
                obtain ⟨d, hd⟩ : ∃ d, d = D[j]'hj' := ⟨_, rfl⟩
                rw [← hd] at hfact hax hnd
                clear hd hj'
                obtain ⟨dK, dc, dr, dR⟩ := d
                obtain ⟨de, dt, da, db, dcc, dnv, dns⟩ := dR
                simp only at hfact hnd
                obtain ⟨dso, dscap, rfl, _⟩ := hnd
                obtain ⟨dl, hdl⟩ : ∃ dl, dl = dns.length := ⟨_, rfl⟩
                rw [← hdl] at hax
                clear hdl
                have m0 : wx.cell? ⟨xb, j * 9, none⟩ = some (.int .i64 dK) := hax 0 (by decide)
                have m1 : wx.cell? ⟨xb, j * 9 + 1, none⟩ = some (.int .i64 dc) := hax 1 (by decide)
                have m2 : wx.cell? ⟨xb, j * 9 + 2, none⟩ = some (.int .i64 dr) := hax 2 (by decide)
                have m3 : wx.cell? ⟨xb, j * 9 + 3, none⟩ = some (.int .i64 de) := hax 3 (by decide)
                have m4 : wx.cell? ⟨xb, j * 9 + 4, none⟩ = some (.string dt) := hax 4 (by decide)
                have m5 : wx.cell? ⟨xb, j * 9 + 5, none⟩ = some (.int .i64 da) := hax 5 (by decide)
                have m6 : wx.cell? ⟨xb, j * 9 + 6, none⟩ = some (.int .i64 db) := hax 6 (by decide)
                have m7 : wx.cell? ⟨xb, j * 9 + 7, none⟩ = some (.int .i64 dcc) := hax 7 (by decide)
                have m8 : wx.cell? ⟨xb, j * 9 + 8, none⟩ = some (.slice dso dl dscap) := hax 8 (by decide)
                clear hax
                replace hfact := hid hfact
                go_upto_region 25 with fail
                clear m0 m1 m2 m3 m4 m5 m6 m7 m8
                obtain ⟨u3, hu3⟩ : ∃ u3, u3 = wx.alloc (.cells #[.int .i64 dK, .int .i64 dc, .int .i64 dr, .int .i64 de, .string dt, .int .i64 da, .int .i64 db, .int .i64 dcc, .slice dso dl dscap] 34) := ⟨_, rfl⟩
                obtain ⟨tb, htb⟩ : ∃ tb, tb = wx.heap.size := ⟨_, rfl⟩
                have hU3 : u3.heap[tb]? = some (.cells #[.int .i64 dK, .int .i64 dc, .int .i64 dr, .int .i64 de, .string dt, .int .i64 da, .int .i64 db, .int .i64 dcc, .slice dso dl dscap] 34 (0, 0)) := by rw [hu3, htb]; exact box_at _ _
                obtain ⟨y0, y1, y2, y3, y4, y5, y6, y7, y8⟩ := nine hU3
                have HB3 : Below wx.heap.size wx u3 := by rw [hu3]; exact below_alloc _ _
                have HXu := hid ((HB3.block sb (lt_of_block HX.out)).trans HX.out)
                have HQu := hid (HQ.out.below HB3)
                obtain ⟨n0, n1, n2, n3, n4, n5, n6, n7, n8⟩ := nine HXu.out
                rw [← hu3, ← htb]
                clear hu3 htb HB3 hU3 n0 n3 n4 n5 n6 n7 n8 y0 y3 y4 y5 y6 y7 y8
                by_cases hcc : dc = c
                · have h1 := hfact.out hcc
                  have hb1 : (dc == c) = true := by simpa using hcc
                  have hb2 : (dr == r) = false := by simpa using h1
                  clear hcc h1
                  go_wp2
                  go_roundw
                  case rel => exact ⟨j + 1, hjl, by simp, HXu, HQu⟩
                  case measure => simp [intOf]; omega
                · have hb1 : (dc == c) = false := by simpa using hcc
                  clear hcc
                  go_wp2
                  go_roundw
                  case rel => exact ⟨j + 1, hjl, by simp, HXu, HQu⟩
                  case measure => simp [intOf]; omega
              · obtain ⟨n0, n1, n2, n3, n4, n5, n6, n7, n8⟩ := nine HX.out
                have HSl : Hid (D.length ≤ 2000000) := hid (by have := HSZ.out; omega)
                have HNd : Hid (∀ d ∈ D ++ [(⟨K, c, r, ⟨re, rt, ra, rb, rc, .slice so nl scap, rns⟩⟩ : Stp)], SLie w d.R.nv d.R.ns) := hid (fun d hd => by
                  rcases List.mem_append.1 hd with hd | hd
                  · exact HQ.out.nd d hd
                  · rw [List.mem_singleton] at hd
                    subst hd
                    exact HNV.out)
                go_wp2_with (first
                  | (at_builtin; refine pushD rfl (.tmp 107) (.tmp 109) rfl w.heap.size _ _ D (⟨K, c, r, ⟨re, rt, ra, rb, rc, .slice so nl scap, rns⟩⟩ : Stp) rfl rfl rfl HQ.out.rd stp_one HSl.out HQ.out.be.size ?_; intro vD' w7 hr7 hb7 hk7 hf7; obtain ⟨aD', cD', hv7, _, _⟩ := hr7.len; have HO7 := hid (HQ.out.putD hr7 hb7 hk7 hf7 HBD.out HNd.out); rw [hv7] at HO7 ⊢; obtain ⟨nD', hnD'⟩ : ∃ nD', nD' = (D ++ [(⟨K, c, r, ⟨re, rt, ra, rb, rc, .slice so nl scap, rns⟩⟩ : Stp)]).length := ⟨_, rfl⟩; rw [← hnD'] at HO7 ⊢; have bD' : nD' ≤ 301 := (by rw [hnD']; have := HSZ.out; simp only [List.length_append, List.length_cons, List.length_nil]; omega); replace hnD' := hid hnD'; clear hr7 hb7 hk7 hf7 hv7 n0 n1 n2 n3 n4 n5 n6 n7 n8 HQ HX))
                go_loopw [113] (fun i wx => ∃ j : Nat, j ≤ nD' ∧ i = .int .i64 j ∧ Hid (OS w g mb wx (N + 1) L1 (.slice aB nB cB) (.slice aD' nD' cD') B (D ++ [(⟨K, c, r, ⟨re, rt, ra, rb, rc, .slice so nl scap, rns⟩⟩ : Stp)]))) (fun i _ => nD' - (intOf i).toNat)
                case atStart => exact ⟨0, Nat.zero_le _, rfl, HO7⟩
                case round =>
                  obtain ⟨j, hj, rfl, HQ⟩ := hrel
                  rename World => wx
                  by_cases hjl : j < nD'
                  · have hj' : j < ((D ++ [(⟨K, c, r, ⟨re, rt, ra, rb, rc, .slice so nl scap, rns⟩⟩ : Stp)])).length := by rw [← (hnD').out]; exact hjl
                    obtain ⟨xb, cc', ex, hxb, hax⟩ := HQ.out.rd.at (Nat.lt_of_le_of_lt (Nat.zero_le _) hj')
                    have ea : aD' = some ⟨xb, 0, none⟩ := by injection ex
                    subst ea
                    clear ex
                    have hmem := List.getElem_mem hj'
                    have hdn := hid (HQ.out.bd.d _ hmem)
                    have hnd := HQ.out.nd _ hmem
                    have hax := hax j hj'
                    obtain ⟨d, hd⟩ : ∃ d, d = ((D ++ [(⟨K, c, r, ⟨re, rt, ra, rb, rc, .slice so nl scap, rns⟩⟩ : Stp)]))[j]'hj' := ⟨_, rfl⟩
                    rw [← hd] at hdn hnd hax
                    clear hd hmem hj'
                    obtain ⟨dK, dc, dr, dR⟩ := d
                    obtain ⟨de, dt, da, db, dcc, dnv, dns⟩ := dR
                    simp only at hnd
                    have HND := hid hnd
                    obtain ⟨dso, dscap, rfl, _⟩ := hnd
                    obtain ⟨dl, hdl⟩ : ∃ dl, dl = dns.length := ⟨_, rfl⟩
                    rw [← hdl] at hdn HND hax
                    replace hdl := hid hdl
                    have m0 : wx.cell? ⟨xb, j * 9, none⟩ = some (.int .i64 dK) := hax 0 (by decide)
                    have m1 : wx.cell? ⟨xb, j * 9 + 1, none⟩ = some (.int .i64 dc) := hax 1 (by decide)
                    have m2 : wx.cell? ⟨xb, j * 9 + 2, none⟩ = some (.int .i64 dr) := hax 2 (by decide)
                    have m3 : wx.cell? ⟨xb, j * 9 + 3, none⟩ = some (.int .i64 de) := hax 3 (by decide)
                    have m4 : wx.cell? ⟨xb, j * 9 + 4, none⟩ = some (.string dt) := hax 4 (by decide)
                    have m5 : wx.cell? ⟨xb, j * 9 + 5, none⟩ = some (.int .i64 da) := hax 5 (by decide)
                    have m6 : wx.cell? ⟨xb, j * 9 + 6, none⟩ = some (.int .i64 db) := hax 6 (by decide)
                    have m7 : wx.cell? ⟨xb, j * 9 + 7, none⟩ = some (.int .i64 dcc) := hax 7 (by decide)
                    have m8 : wx.cell? ⟨xb, j * 9 + 8, none⟩ = some (.slice dso dl dscap) := hax 8 (by decide)
                    clear hax
                    go_upto_region 32 with fail
                    clear m0 m1 m2 m3 m4 m5 m6 m7 m8
                    obtain ⟨u3, hu3⟩ : ∃ u3, u3 = wx.alloc (.cells #[.int .i64 dK, .int .i64 dc, .int .i64 dr, .int .i64 de, .string dt, .int .i64 da, .int .i64 db, .int .i64 dcc, .slice dso dl dscap] 34) := ⟨_, rfl⟩
                    obtain ⟨tb, htb⟩ : ∃ tb, tb = wx.heap.size := ⟨_, rfl⟩
                    have HU3 : Hid (u3.heap[tb]? = some (.cells #[.int .i64 dK, .int .i64 dc, .int .i64 dr, .int .i64 de, .string dt, .int .i64 da, .int .i64 db, .int .i64 dcc, .slice dso dl dscap] 34 (0, 0))) := hid (by rw [hu3, htb]; exact box_at _ _)
                    have HQ3 : Hid (OS w g mb u3 (N + 1) L1 (.slice aB nB cB) (.slice (some ⟨xb, 0, none⟩) nD' cD') B (D ++ [(⟨K, c, r, ⟨re, rt, ra, rb, rc, .slice so nl scap, rns⟩⟩ : Stp)])) := hid (by rw [hu3]; exact HQ.out.below (below_alloc _ _))
                    rw [← hu3, ← htb]
                    clear hu3 htb
                    obtain ⟨y0, y1, y2, y3, y4, y5, y6, y7, y8⟩ := nine HU3.out
                    have htb := lt_of_block HU3.out
                    have C1 := hid (fun (W : World) (hW : Below u3.heap.size u3 W) => last_tb (HQ3.out.t.below hW) dc (okc_in hdn.out.2.2))
                    have C2 := hid (fun (W : World) (hW : Below u3.heap.size u3 W) => ask_tb (HQ3.out.t.below hW) dc dr)
                    obtain ⟨hE, hS⟩ := dn_ask hdn.out
                    simp only at hE hS
                    obtain ⟨A, hA⟩ : ∃ A, A = askR (at_ (L1) dc) dc dr := ⟨_, rfl⟩
                    obtain ⟨S, hSS⟩ : ∃ S, S = askS (at_ (L1) dc) dc dr := ⟨_, rfl⟩
                    obtain ⟨nn, hnn⟩ : ∃ nn, nn = (at_ (L1) dc).n := ⟨_, rfl⟩
                    rw [hE, ← hA, ← hSS] at C2
                    rw [← hA, ← hSS, ← hnn] at hS
                    rw [← hnn] at C1
                    clear hE hA hSS hnn hdn
                    simp only [Rs.v] at C2
                    obtain ⟨Ae, At, Aa, Ab, Ac, Anv, Ans⟩ := A
                    simp only at C2 hS
                    rcases hS with ⟨e1, e2, e3, e4, e5, e6, e7, e8⟩ | ⟨e1, e2⟩
                    · subst e1 e2 e3 e4 e5 e6 e7 e8
                      go_wp2_with (first
                        | (go_at_call 15; refine (C1.out _ (Below.refl _ _)).mono ?_; rintro e u4 ⟨rfl, hb4⟩; have HB4 := hid hb4; have HY4 := (hb4.block tb htb).trans HU3.out; clear y0 y1 y2 y3 y4 y5 y6 y7 y8; obtain ⟨y0, y1, y2, y3, y4, y5, y6, y7, y8⟩ := nine HY4; clear hb4 HY4)
                        | (go_at_call 12; fail))
                      refine (C2.out _ HB4.out).mono ?_
                      rintro e u5 ⟨v5, rfl, hs5, hb5⟩
                      have HS5 := hid hs5
                      obtain ⟨o5, c5, rfl, _⟩ := hs5
                      obtain ⟨an, han⟩ : ∃ an, an = Ans.length := ⟨_, rfl⟩
                      rw [← han] at HS5 ⊢
                      replace han := hid han
                      obtain ⟨u6, hu6⟩ : ∃ u6, u6 = u5.alloc (.cells #[.int .i64 Ae, .string At, .int .i64 Aa, .int .i64 Ab, .int .i64 Ac, .slice o5 an c5] 32) := ⟨_, rfl⟩
                      have B6 : Below u3.heap.size u3 u6 := by rw [hu6]; exact (HB4.out.next hb5).next (below_alloc _ _)
                      have HX6 : u6.heap[u5.heap.size]? = some (.cells #[.int .i64 Ae, .string At, .int .i64 Aa, .int .i64 Ab, .int .i64 Ac, .slice o5 an c5] 32 (0, 0)) := by rw [hu6]; exact box_at _ _
                      have HS6 : Hid (SLie u6 (.slice o5 an c5) Ans) := hid (by rw [hu6]; exact HS5.out.below (below_alloc _ _))
                      have HY6 := (B6.block tb htb).trans HU3.out
                      clear y0 y1 y2 y3 y4 y5 y6 y7 y8
                      obtain ⟨y0, y1, y2, y3, y4, y5, y6, y7, y8⟩ := nine HY6
                      obtain ⟨p0, p1, p2, p3, p4, p5⟩ := (show B32 u5.heap.size u6 ⟨Ae, At, Aa, Ab, Ac, .slice o5 an c5, Ans⟩ from HX6).cells
                      simp only at p0 p1 p2 p3 p4 p5
                      have HB6 := hid B6
                      replace hu6 := hid hu6
                      clear C1 C2 hb5 HS5 HY6 HX6 B6
                      go_upto_region 34 with fail
                      rw [← hu6.out]
                      clear hu6
                      have HC := hid (result_same (e := Ae) (a := Aa) (b := Ab) (c := Ac) (t := At) HS6.out (HND.out.below (HQ3.out.be.next HB6.out)))
                      go_wp2_with (first
                        | (go_at_call 14; refine (HC.out).mono ?_; rintro e u7 ⟨rfl, hb7⟩; have HY6 := (HB6.out.block tb htb).trans HU3.out; have HY7 := (hb7.block tb (lt_of_block HY6)).trans HY6; clear HY6 y0 y1 y2 y3 y4 y5 y6 y7 y8 p0 p1 p2 p3 p4 p5; obtain ⟨y0, y1, y2, y3, y4, y5, y6, y7, y8⟩ := nine HY7; clear HY7))
                      go_roundw
                      case rel => exact ⟨j + 1, hjl, by simp, hid (HQ3.out.below (HB6.out.next hb7))⟩
                      case measure => simp [intOf]; omega
                    · subst e2
                      have hf1 : (nn == dr) = false := by simpa using e1
                      have hf2 : (nn != dr) = true := by simpa using e1
                      clear e1
                      go_wp2_with (first
                        | (go_at_call 15; refine (C1.out _ (Below.refl _ _)).mono ?_; rintro e u4 ⟨rfl, hb4⟩; have HB4 := hid hb4; have HY4 := (hb4.block tb htb).trans HU3.out; clear y0 y1 y2 y3 y4 y5 y6 y7 y8; obtain ⟨y0, y1, y2, y3, y4, y5, y6, y7, y8⟩ := nine HY4; clear hb4 HY4)
                        | (go_at_call 12; fail))
                      refine (C2.out _ HB4.out).mono ?_
                      rintro e u5 ⟨v5, rfl, hs5, hb5⟩
                      have HS5 := hid hs5
                      obtain ⟨o5, c5, rfl, _⟩ := hs5
                      obtain ⟨an, han⟩ : ∃ an, an = Ans.length := ⟨_, rfl⟩
                      rw [← han] at HS5 ⊢
                      replace han := hid han
                      obtain ⟨u6, hu6⟩ : ∃ u6, u6 = u5.alloc (.cells #[.int .i64 Ae, .string At, .int .i64 Aa, .int .i64 Ab, .int .i64 Ac, .slice o5 an c5] 32) := ⟨_, rfl⟩
                      have B6 : Below u3.heap.size u3 u6 := by rw [hu6]; exact (HB4.out.next hb5).next (below_alloc _ _)
                      have HX6 : u6.heap[u5.heap.size]? = some (.cells #[.int .i64 Ae, .string At, .int .i64 Aa, .int .i64 Ab, .int .i64 Ac, .slice o5 an c5] 32 (0, 0)) := by rw [hu6]; exact box_at _ _
                      have HS6 : Hid (SLie u6 (.slice o5 an c5) Ans) := hid (by rw [hu6]; exact HS5.out.below (below_alloc _ _))
                      have HY6 := (B6.block tb htb).trans HU3.out
                      clear y0 y1 y2 y3 y4 y5 y6 y7 y8
                      obtain ⟨y0, y1, y2, y3, y4, y5, y6, y7, y8⟩ := nine HY6
                      obtain ⟨p0, p1, p2, p3, p4, p5⟩ := (show B32 u5.heap.size u6 ⟨Ae, At, Aa, Ab, Ac, .slice o5 an c5, Ans⟩ from HX6).cells
                      simp only at p0 p1 p2 p3 p4 p5
                      have HB6 := hid B6
                      replace hu6 := hid hu6
                      clear C1 C2 hb5 HS5 HY6 HX6 B6
                      go_upto_region 34 with fail
                      rw [← hu6.out]
                      clear hu6
                      go_wp2
                      go_roundw
                      case rel => exact ⟨j + 1, hjl, by simp, hid (HQ3.out.below HB6.out)⟩
                      case measure => simp [intOf]; omega
                  · go_wp2
                    go_roundw
                    case rel => exact ⟨k + 1, hlt, by simp, hid ⟨_, _, _, _, _, HQ.out, by have := HSZ.out; have := HL5.out; simp only [List.length_append, List.length_cons, List.length_nil]; omega⟩⟩
                    case measure => simp [intOf]; omega
          · have hne : (E != 0) = true := by simpa using he
            clear he HB5
            go_wp2
            go_roundw
            case rel => exact ⟨k + 1, hlt, by simp, hid ⟨_, _, _, _, _, HO5.out, by have := HSZ.out; have := HL5.out; omega⟩⟩
            case measure => simp [intOf]; omega
        · go_wp2
          go_loopw [113] (fun i wx => ∃ j : Nat, j ≤ nD ∧ i = .int .i64 j ∧ Hid (OS w g mb wx N L (.slice aB nB cB) (.slice aD nD cD) B D)) (fun i _ => nD - (intOf i).toNat)
          case atStart => exact ⟨0, Nat.zero_le _, rfl, HA3⟩
          case round =>
            obtain ⟨j, hj, rfl, HQ⟩ := hrel
            rename World => wx
            by_cases hjl : j < nD
            · have hj' : j < (D).length := by rw [← (hnD).out]; exact hjl
              obtain ⟨xb, cc', ex, hxb, hax⟩ := HQ.out.rd.at (Nat.lt_of_le_of_lt (Nat.zero_le _) hj')
              have ea : aD = some ⟨xb, 0, none⟩ := by injection ex
              subst ea
              clear ex
              have hmem := List.getElem_mem hj'
              have hdn := hid (HQ.out.bd.d _ hmem)
              have hnd := HQ.out.nd _ hmem
              have hax := hax j hj'
              obtain ⟨d, hd⟩ : ∃ d, d = (D)[j]'hj' := ⟨_, rfl⟩
              rw [← hd] at hdn hnd hax
              clear hd hmem hj'
              obtain ⟨dK, dc, dr, dR⟩ := d
              obtain ⟨de, dt, da, db, dcc, dnv, dns⟩ := dR
              simp only at hnd
              have HND := hid hnd
              obtain ⟨dso, dscap, rfl, _⟩ := hnd
              obtain ⟨dl, hdl⟩ : ∃ dl, dl = dns.length := ⟨_, rfl⟩
              rw [← hdl] at hdn HND hax
              replace hdl := hid hdl
              have m0 : wx.cell? ⟨xb, j * 9, none⟩ = some (.int .i64 dK) := hax 0 (by decide)
              have m1 : wx.cell? ⟨xb, j * 9 + 1, none⟩ = some (.int .i64 dc) := hax 1 (by decide)
              have m2 : wx.cell? ⟨xb, j * 9 + 2, none⟩ = some (.int .i64 dr) := hax 2 (by decide)
              have m3 : wx.cell? ⟨xb, j * 9 + 3, none⟩ = some (.int .i64 de) := hax 3 (by decide)
              have m4 : wx.cell? ⟨xb, j * 9 + 4, none⟩ = some (.string dt) := hax 4 (by decide)
              have m5 : wx.cell? ⟨xb, j * 9 + 5, none⟩ = some (.int .i64 da) := hax 5 (by decide)
              have m6 : wx.cell? ⟨xb, j * 9 + 6, none⟩ = some (.int .i64 db) := hax 6 (by decide)
              have m7 : wx.cell? ⟨xb, j * 9 + 7, none⟩ = some (.int .i64 dcc) := hax 7 (by decide)
              have m8 : wx.cell? ⟨xb, j * 9 + 8, none⟩ = some (.slice dso dl dscap) := hax 8 (by decide)
              clear hax
              go_upto_region 32 with fail
              clear m0 m1 m2 m3 m4 m5 m6 m7 m8
              obtain ⟨u3, hu3⟩ : ∃ u3, u3 = wx.alloc (.cells #[.int .i64 dK, .int .i64 dc, .int .i64 dr, .int .i64 de, .string dt, .int .i64 da, .int .i64 db, .int .i64 dcc, .slice dso dl dscap] 34) := ⟨_, rfl⟩
              obtain ⟨tb, htb⟩ : ∃ tb, tb = wx.heap.size := ⟨_, rfl⟩
              have HU3 : Hid (u3.heap[tb]? = some (.cells #[.int .i64 dK, .int .i64 dc, .int .i64 dr, .int .i64 de, .string dt, .int .i64 da, .int .i64 db, .int .i64 dcc, .slice dso dl dscap] 34 (0, 0))) := hid (by rw [hu3, htb]; exact box_at _ _)
              have HQ3 : Hid (OS w g mb u3 N L (.slice aB nB cB) (.slice (some ⟨xb, 0, none⟩) nD cD) B D) := hid (by rw [hu3]; exact HQ.out.below (below_alloc _ _))
              rw [← hu3, ← htb]
              clear hu3 htb
              obtain ⟨y0, y1, y2, y3, y4, y5, y6, y7, y8⟩ := nine HU3.out
              have htb := lt_of_block HU3.out
              have C1 := hid (fun (W : World) (hW : Below u3.heap.size u3 W) => last_tb (HQ3.out.t.below hW) dc (okc_in hdn.out.2.2))
              have C2 := hid (fun (W : World) (hW : Below u3.heap.size u3 W) => ask_tb (HQ3.out.t.below hW) dc dr)
              obtain ⟨hE, hS⟩ := dn_ask hdn.out
              simp only at hE hS
              obtain ⟨A, hA⟩ : ∃ A, A = askR (at_ (L) dc) dc dr := ⟨_, rfl⟩
              obtain ⟨S, hSS⟩ : ∃ S, S = askS (at_ (L) dc) dc dr := ⟨_, rfl⟩
              obtain ⟨nn, hnn⟩ : ∃ nn, nn = (at_ (L) dc).n := ⟨_, rfl⟩
              rw [hE, ← hA, ← hSS] at C2
              rw [← hA, ← hSS, ← hnn] at hS
              rw [← hnn] at C1
              clear hE hA hSS hnn hdn
              simp only [Rs.v] at C2
              obtain ⟨Ae, At, Aa, Ab, Ac, Anv, Ans⟩ := A
              simp only at C2 hS
              rcases hS with ⟨e1, e2, e3, e4, e5, e6, e7, e8⟩ | ⟨e1, e2⟩
              · subst e1 e2 e3 e4 e5 e6 e7 e8
                go_wp2_with (first
                  | (go_at_call 15; refine (C1.out _ (Below.refl _ _)).mono ?_; rintro e u4 ⟨rfl, hb4⟩; have HB4 := hid hb4; have HY4 := (hb4.block tb htb).trans HU3.out; clear y0 y1 y2 y3 y4 y5 y6 y7 y8; obtain ⟨y0, y1, y2, y3, y4, y5, y6, y7, y8⟩ := nine HY4; clear hb4 HY4)
                  | (go_at_call 12; fail))
                refine (C2.out _ HB4.out).mono ?_
                rintro e u5 ⟨v5, rfl, hs5, hb5⟩
                have HS5 := hid hs5
                obtain ⟨o5, c5, rfl, _⟩ := hs5
                obtain ⟨an, han⟩ : ∃ an, an = Ans.length := ⟨_, rfl⟩
                rw [← han] at HS5 ⊢
                replace han := hid han
                obtain ⟨u6, hu6⟩ : ∃ u6, u6 = u5.alloc (.cells #[.int .i64 Ae, .string At, .int .i64 Aa, .int .i64 Ab, .int .i64 Ac, .slice o5 an c5] 32) := ⟨_, rfl⟩
                have B6 : Below u3.heap.size u3 u6 := by rw [hu6]; exact (HB4.out.next hb5).next (below_alloc _ _)
                have HX6 : u6.heap[u5.heap.size]? = some (.cells #[.int .i64 Ae, .string At, .int .i64 Aa, .int .i64 Ab, .int .i64 Ac, .slice o5 an c5] 32 (0, 0)) := by rw [hu6]; exact box_at _ _
                have HS6 : Hid (SLie u6 (.slice o5 an c5) Ans) := hid (by rw [hu6]; exact HS5.out.below (below_alloc _ _))
                have HY6 := (B6.block tb htb).trans HU3.out
                clear y0 y1 y2 y3 y4 y5 y6 y7 y8
                obtain ⟨y0, y1, y2, y3, y4, y5, y6, y7, y8⟩ := nine HY6
                obtain ⟨p0, p1, p2, p3, p4, p5⟩ := (show B32 u5.heap.size u6 ⟨Ae, At, Aa, Ab, Ac, .slice o5 an c5, Ans⟩ from HX6).cells
                simp only at p0 p1 p2 p3 p4 p5
                have HB6 := hid B6
                replace hu6 := hid hu6
                clear C1 C2 hb5 HS5 HY6 HX6 B6
                go_upto_region 34 with fail
                rw [← hu6.out]
                clear hu6
                have HC := hid (result_same (e := Ae) (a := Aa) (b := Ab) (c := Ac) (t := At) HS6.out (HND.out.below (HQ3.out.be.next HB6.out)))
                go_wp2_with (first
                  | (go_at_call 14; refine (HC.out).mono ?_; rintro e u7 ⟨rfl, hb7⟩; have HY6 := (HB6.out.block tb htb).trans HU3.out; have HY7 := (hb7.block tb (lt_of_block HY6)).trans HY6; clear HY6 y0 y1 y2 y3 y4 y5 y6 y7 y8 p0 p1 p2 p3 p4 p5; obtain ⟨y0, y1, y2, y3, y4, y5, y6, y7, y8⟩ := nine HY7; clear HY7))
                go_roundw
                case rel => exact ⟨j + 1, hjl, by simp, hid (HQ3.out.below (HB6.out.next hb7))⟩
                case measure => simp [intOf]; omega
              · subst e2
                have hf1 : (nn == dr) = false := by simpa using e1
                have hf2 : (nn != dr) = true := by simpa using e1
                clear e1
                go_wp2_with (first
                  | (go_at_call 15; refine (C1.out _ (Below.refl _ _)).mono ?_; rintro e u4 ⟨rfl, hb4⟩; have HB4 := hid hb4; have HY4 := (hb4.block tb htb).trans HU3.out; clear y0 y1 y2 y3 y4 y5 y6 y7 y8; obtain ⟨y0, y1, y2, y3, y4, y5, y6, y7, y8⟩ := nine HY4; clear hb4 HY4)
                  | (go_at_call 12; fail))
                refine (C2.out _ HB4.out).mono ?_
                rintro e u5 ⟨v5, rfl, hs5, hb5⟩
                have HS5 := hid hs5
                obtain ⟨o5, c5, rfl, _⟩ := hs5
                obtain ⟨an, han⟩ : ∃ an, an = Ans.length := ⟨_, rfl⟩
                rw [← han] at HS5 ⊢
                replace han := hid han
                obtain ⟨u6, hu6⟩ : ∃ u6, u6 = u5.alloc (.cells #[.int .i64 Ae, .string At, .int .i64 Aa, .int .i64 Ab, .int .i64 Ac, .slice o5 an c5] 32) := ⟨_, rfl⟩
                have B6 : Below u3.heap.size u3 u6 := by rw [hu6]; exact (HB4.out.next hb5).next (below_alloc _ _)
                have HX6 : u6.heap[u5.heap.size]? = some (.cells #[.int .i64 Ae, .string At, .int .i64 Aa, .int .i64 Ab, .int .i64 Ac, .slice o5 an c5] 32 (0, 0)) := by rw [hu6]; exact box_at _ _
                have HS6 : Hid (SLie u6 (.slice o5 an c5) Ans) := hid (by rw [hu6]; exact HS5.out.below (below_alloc _ _))
                have HY6 := (B6.block tb htb).trans HU3.out
                clear y0 y1 y2 y3 y4 y5 y6 y7 y8
                obtain ⟨y0, y1, y2, y3, y4, y5, y6, y7, y8⟩ := nine HY6
                obtain ⟨p0, p1, p2, p3, p4, p5⟩ := (show B32 u5.heap.size u6 ⟨Ae, At, Aa, Ab, Ac, .slice o5 an c5, Ans⟩ from HX6).cells
                simp only at p0 p1 p2 p3 p4 p5
                have HB6 := hid B6
                replace hu6 := hid hu6
                clear C1 C2 hb5 HS5 HY6 HX6 B6
                go_upto_region 34 with fail
                rw [← hu6.out]
                clear hu6
                go_wp2
                go_roundw
                case rel => exact ⟨j + 1, hjl, by simp, hid (HQ3.out.below HB6.out)⟩
                case measure => simp [intOf]; omega
            · go_wp2
              go_roundw
              case rel => exact ⟨k + 1, hlt, by simp, hid ⟨_, _, _, _, _, HQ.out, by have := HSZ.out; omega⟩⟩
              case measure => simp [intOf]; omega
      · obtain ⟨mb, L, N, B, D, hOS, _⟩ := HO.out
        have HB := hid hOS.be
        clear hOS HO
        go_wp2_with (first
          | (go_at_call 18; refine (speaks_any _).mono ?_; rintro e w3 ⟨rfl, hb3⟩))
        go_ret
        exact ⟨rfl, HB.out.next hb3⟩
end Go.Proofs.Ytabkfmmbjjchdaa
