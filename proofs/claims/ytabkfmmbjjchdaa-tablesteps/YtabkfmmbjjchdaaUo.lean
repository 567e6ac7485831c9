import Derived.Test.YtabkfmmbjjchdaaUn
import Derived.Test.YtabkfmmbjjchdaaTl
import Derived.Deep.RegionHeld3
namespace Go.Proofs.Ytabkfmmbjjchdaa
open Go.RowKit Go.Maps

theorem last_tb3 {g N : Nat} {mb : Option Nat} {w : World} {L : List Kx} (h : TB g mb w N L) (c : Int) (hc : inI c) : Calls Try.prog 15 #[.pointer (some ⟨g, 0, none⟩), .int .i64 c] w fun e w' => e = .returned (.tuple #[.int .i64 (at_ L c).n, .bool (decide (1 ≤ (at_ L c).n))]) ∧ Below w.heap.size w w' := by
  obtain ⟨ao, cap, e, _⟩ := h.names c
  exact last_any c w (hid fun W hW => find_any (h.below hW) c hc) ⟨ao, _, cap, e⟩
set_option maxRecDepth 100000 in
set_option maxHeartbeats 4000000 in
theorem steps_walk {v : Value} {l : List Stp} {w : World} (h : TLie w v l) (hlen : l.length ≤ 140737488351232) : Calls Try.prog 3 #[v] w fun e w' => e = .returned (.bool true) ∧ Below w.heap.size w w' := by
  obtain ⟨ao, cap, rfl, h1, h2, h3⟩ := h
  obtain ⟨n, hn⟩ : ∃ n, n = l.length := ⟨_, rfl⟩
  rw [← hn] at h1 hlen ⊢
  have hm : n ≤ 9223372036854775807 := by omega
  replace hlen := hid hlen
  replace hn := hid hn
  replace h3 := hid h3
  clear h1 h2
  go_enter Try.func3, Try.ntmps3
  go_wp2_with (go_at_call 7; fail)
  refine (new_any _).mono ?_
  rintro e w1 ⟨rfl, ht1, hw1⟩
  replace ht1 := hid ht1
  have hs1 : w1.heap.size = w.heap.size + 1 := by rw [hw1]; simp
  have hb1 : Below w.heap.size w w1 := by rw [hw1]; exact below_alloc _ _
  replace hw1 := hid hw1
  replace hs1 := hid hs1
  replace hb1 := hid hb1
  go_upto_region 5 with fail
  obtain ⟨w2, hw2⟩ : ∃ w2, w2 = w1.alloc (.cells #[.slice none 0 0] 28) := ⟨_, rfl⟩
  obtain ⟨g, hg⟩ : ∃ g, g = w.heap.size := ⟨_, rfl⟩
  obtain ⟨r, hr⟩ : ∃ r, r = w1.heap.size := ⟨_, rfl⟩
  have HA : Hid (PT w g r none w2 0 [] []) := hid (by
    rw [hw2, hg, hr]
    refine ⟨ht1.out.below (below_alloc _ _), ⟨by have := hs1.out; omega, hb1.out.next (below_alloc _ _), List.Pairwise.nil, ⟨_, box_at _ _, NRow.nil _ _⟩, (fun x hx => by cases hx)⟩, (fun x hx => by cases hx), Nat.le_refl _, (fun b hb => by cases hb)⟩)
  rw [← hw2, ← hg, ← hr]
  clear hw1 ht1 hs1 hb1 hw2 hg hr
  go_wp2
  go_loopw [27] (fun i wr => ∃ k : Nat, k ≤ n ∧ i = .int .i64 k ∧ Hid (OS3 w g r k wr)) (fun i _ => n - (intOf i).toNat)
  case atStart => exact ⟨0, Nat.zero_le _, rfl, hid ⟨none, 0, [], [], HA.out, trivial, ⟨Nat.zero_le _, (fun x hx => by cases hx)⟩, Nat.le_refl _⟩⟩
  case round =>
    obtain ⟨k, hk, rfl, HO⟩ := hrel
    rename World => wr
    clear HA
    by_cases hlt : k < n
    · have hk' : k < l.length := by rw [← hn.out]; exact hlt
      obtain ⟨mb, N, L, R, hPT, htw, hfew, hN⟩ := HO.out
      obtain ⟨gb, off, ea, hgb, hat, hnv, hic⟩ := h3.out k hk'
      subst ea
      obtain ⟨s, hs⟩ : ∃ s, s = l[k]'hk' := ⟨_, rfl⟩
      rw [← hs] at hat hnv hic
      clear hs hk'
      obtain ⟨K, c, q, X⟩ := s
      obtain ⟨re, rt, ra, rb, rc, rnv, rns⟩ := X
      simp only at hnv hic
      have HNV := hid hnv
      obtain ⟨so, scap, rfl, _⟩ := hnv
      have HAt : Hid (∀ z, z < 9 → wr.cell? ⟨gb, off + k * 9 + z, none⟩ = (Stp.cs ⟨K, c, q, ⟨re, rt, ra, rb, rc, .slice so rns.length scap, rns⟩⟩)[z]?) := hid (fun z hz => (hPT.tr.bel.cell (p := ⟨gb, off + k * 9 + z, none⟩) hgb).trans (hat z hz))
      obtain ⟨nl, hnl⟩ : ∃ nl, nl = rns.length := ⟨_, rfl⟩
      rw [← hnl] at HAt HNV
      have m0 : wr.cell? ⟨gb, off + k * 9, none⟩ = some (.int .i64 K) := HAt.out 0 (by decide)
      have m1 : wr.cell? ⟨gb, off + k * 9 + 1, none⟩ = some (.int .i64 c) := HAt.out 1 (by decide)
      have m2 : wr.cell? ⟨gb, off + k * 9 + 2, none⟩ = some (.int .i64 q) := HAt.out 2 (by decide)
      have m3 : wr.cell? ⟨gb, off + k * 9 + 3, none⟩ = some (.int .i64 re) := HAt.out 3 (by decide)
      have m4 : wr.cell? ⟨gb, off + k * 9 + 4, none⟩ = some (.string rt) := HAt.out 4 (by decide)
      have m5 : wr.cell? ⟨gb, off + k * 9 + 5, none⟩ = some (.int .i64 ra) := HAt.out 5 (by decide)
      have m6 : wr.cell? ⟨gb, off + k * 9 + 6, none⟩ = some (.int .i64 rb) := HAt.out 6 (by decide)
      have m7 : wr.cell? ⟨gb, off + k * 9 + 7, none⟩ = some (.int .i64 rc) := HAt.out 7 (by decide)
      have m8 : wr.cell? ⟨gb, off + k * 9 + 8, none⟩ = some (.slice so nl scap) := HAt.out 8 (by decide)
      replace hic := hid hic
      replace hPT := hid hPT
      have HTW := hid htw
      have HFW := hid hfew
      have HKN := hid hN
      clear hnl hat htw hfew hN HO HAt
      go_upto_region 8 with fail
      clear m0 m1 m2 m3 m4 m5 m6 m7 m8
      obtain ⟨w3, hw3⟩ : ∃ w3, w3 = wr.alloc (.cells #[.int .i64 K, .int .i64 c, .int .i64 q, .int .i64 re, .string rt, .int .i64 ra, .int .i64 rb, .int .i64 rc, .slice so nl scap] 34) := ⟨_, rfl⟩
      obtain ⟨sb, hsb⟩ : ∃ sb, sb = wr.heap.size := ⟨_, rfl⟩
      have HS3 : Hid (SX w g r mb w3 N L R sb #[.int .i64 K, .int .i64 c, .int .i64 q, .int .i64 re, .string rt, .int .i64 ra, .int .i64 rb, .int .i64 rc, .slice so nl scap]) := hid ⟨by rw [hw3]; exact hPT.out.below (below_alloc _ _), by rw [hw3, hsb]; exact box_at _ _⟩
      rw [← hw3, ← hsb]
      clear hw3 hsb hPT
      have HN15 : Hid (N < 1000000000000000) := hid (by have := HKN.out; have := hlen.out; omega)
      obtain ⟨n0, n1, n2, n3, n4, n5, n6, n7, n8⟩ := nine HS3.out.2
      go_upto_block 2 with fail
      go_cut [27] from 27 to 146 (fun cv wx => cv = .int .i64 (k : Int) ∧ ∃ mb1 L1 R1, SX w g r mb1 wx (N + 1) L1 R1 sb #[.int .i64 K, .int .i64 c, .int .i64 q, .int .i64 re, .string rt, .int .i64 ra, .int .i64 rb, .int .i64 rc, .slice so nl scap] ∧ twin L1 R1 ∧ Few L1)
      case first =>
        as_aux_lemma =>
        have hK : (K == 0) = true ∨ ((K == 0) = false ∧ (K == 1) = true) ∨ ((K == 0) = false ∧ (K == 1) = false ∧ (K == 2) = true) ∨ ((K == 0) = false ∧ (K == 1) = false ∧ (K == 2) = false) := by simp only [beq_iff_eq, beq_eq_false_iff_ne]; omega
        by_cases h01 : (K == 0) = true ∨ ((K == 0) = false ∧ (K == 1) = true)
        · clear hK
          have HC1 := hid (fun (W : World) (hW : SX w g r mb W N L R sb #[.int .i64 K, .int .i64 c, .int .i64 q, .int .i64 re, .string rt, .int .i64 ra, .int .i64 rb, .int .i64 rc, .slice so nl scap]) => c8 hW HN15.out HFW.out c q)
          have HC2 := hid (fun (W : World) mb1 L1 (hW : SX w g r mb1 W (N + 1) L1 R sb #[.int .i64 K, .int .i64 c, .int .i64 q, .int .i64 re, .string rt, .int .i64 ra, .int .i64 rb, .int .i64 rc, .slice so nl scap]) => c9 hW (HTW.out.few HFW.out) c q)
          rw [HTW.out.begE c q] at HC1
          obtain ⟨E, hE⟩ : ∃ E, E = begE R c q := ⟨_, rfl⟩
          rw [← hE] at HC1 HC2
          have hEE : (E != E) = false := by simp
          have HT2 : Hid (twin (begL L c q) (begL R c q) ∧ Few (begL L c q)) := hid ⟨HTW.out.begL c q, begL_few HS3.out.1.ta.rise HFW.out c q⟩
          clear hE
          rcases h01 with hK | ⟨hK0, hK⟩
          all_goals
            go_wp2
            go_region_held3 (fun w' => w'.cell? ⟨sb, 1, none⟩ = some (.int .i64 c) ∧ w'.cell? ⟨sb, 2, none⟩ = some (.int .i64 q)) (first | exact ⟨n1, n2⟩ | exact s1 | exact s2 | go_keep) (first
              | (go_at_call 8; refine (HC1.out _ (by exact HS3.out.below ⟨rfl, rfl, rfl, Nat.le_refl _, fun _ _ => rfl⟩)).mono ?_; rintro e wa ⟨rfl, mb1, ha⟩; have HPA := hid ha; have s1 : wa.cell? ⟨sb, 1, none⟩ = some (.int .i64 c) ∧ wa.cell? ⟨sb, 2, none⟩ = some (.int .i64 q) := ⟨(nine ha.2).2.1, (nine ha.2).2.2.1⟩; clear ha)
              | (go_at_call 9; refine (HC2.out _ _ _ (by exact HPA.out.below ⟨rfl, rfl, rfl, Nat.le_refl _, fun _ _ => rfl⟩)).mono ?_; rintro e wb ⟨rfl, hb⟩; have HPB := hid hb; have s2 : wb.cell? ⟨sb, 1, none⟩ = some (.int .i64 c) ∧ wb.cell? ⟨sb, 2, none⟩ = some (.int .i64 q) := ⟨(nine hb.2).2.1, (nine hb.2).2.2.1⟩; clear hb))
            all_goals
              go_wp2
              go_meet
              exact ⟨rfl, _, _, _, HPB.out, HT2.out.1, HT2.out.2⟩
        · by_cases h2 : (K == 2) = true
          · have hK0 : (K == 0) = false := by rcases hK with h | ⟨h, _⟩ | ⟨h, _⟩ | ⟨h, _⟩; exact absurd (.inl h) h01; exact h; exact h; exact h
            have hK1 : (K == 1) = false := by simp only [beq_iff_eq, beq_eq_false_iff_ne] at h2 ⊢; omega
            have hK2 := h2
            clear hK h01 h2
            have HC1 := hid (fun (W : World) (hW : SX w g r mb W N L R sb #[.int .i64 K, .int .i64 c, .int .i64 q, .int .i64 re, .string rt, .int .i64 ra, .int .i64 rb, .int .i64 rc, .slice so nl scap]) => c10 hW HN15.out c q ⟨re, rt, ra, rb, rc, .slice so nl scap, rns⟩ HNV.out)
            have HC2 := hid (fun (W : World) L1 (hW : SX w g r mb W (N + 1) L1 R sb #[.int .i64 K, .int .i64 c, .int .i64 q, .int .i64 re, .string rt, .int .i64 ra, .int .i64 rb, .int .i64 rc, .slice so nl scap]) => c11 hW c q ⟨re, rt, ra, rb, rc, .slice so nl scap, rns⟩ HNV.out)
            rw [HTW.out.donE c q] at HC1
            obtain ⟨E, hE⟩ : ∃ E, E = donE R c q := ⟨_, rfl⟩
            rw [← hE] at HC1 HC2
            have hEE : (E != E) = false := by simp
            have HT2 : Hid (∀ v', twin (donL L c q ⟨re, rt, ra, rb, rc, v', rns⟩) (donL R c q ⟨re, rt, ra, rb, rc, .slice so nl scap, rns⟩) ∧ Few (donL L c q ⟨re, rt, ra, rb, rc, v', rns⟩)) := hid fun v' => ⟨HTW.out.donL c q ⟨re, rt, ra, rb, rc, .slice so nl scap, rns⟩ v' (.slice so nl scap), donL_few HS3.out.1.ta.rise HFW.out c q _⟩
            simp only [Rs.v] at HC1 HC2
            clear hE
            go_wp2
            go_region_held3 (fun w' => w'.cell? ⟨sb, 1, none⟩ = some (.int .i64 c) ∧ w'.cell? ⟨sb, 2, none⟩ = some (.int .i64 q) ∧ w'.cell? ⟨sb, 3, none⟩ = some (.int .i64 re) ∧ w'.cell? ⟨sb, 4, none⟩ = some (.string rt) ∧ w'.cell? ⟨sb, 5, none⟩ = some (.int .i64 ra) ∧ w'.cell? ⟨sb, 6, none⟩ = some (.int .i64 rb) ∧ w'.cell? ⟨sb, 7, none⟩ = some (.int .i64 rc) ∧ w'.cell? ⟨sb, 8, none⟩ = some (.slice so nl scap)) (first | exact ⟨n1, n2, n3, n4, n5, n6, n7, n8⟩ | exact s1 | exact s2 | go_keep) (first
              | (go_at_call 10; refine (HC1.out _ (by exact HS3.out.below ⟨rfl, rfl, rfl, Nat.le_refl _, fun _ _ => rfl⟩)).mono ?_; rintro e wa ⟨rfl, va, ha⟩; have HPA := hid ha; have s1 := (nine ha.2).2; clear ha)
              | (go_at_call 11; refine (HC2.out _ _ (by exact HPA.out.below ⟨rfl, rfl, rfl, Nat.le_refl _, fun _ _ => rfl⟩)).mono ?_; rintro e wb ⟨rfl, hb⟩; have HPB := hid hb; have s2 := (nine hb.2).2; clear hb))
            all_goals
              go_wp2
              go_meet
              exact ⟨rfl, _, _, _, HPB.out, (HT2.out _).1, (HT2.out _).2⟩
          · have hK3 : (K == 0) = false ∧ (K == 1) = false ∧ (K == 2) = false := by rcases hK with h | h | h | h; exact absurd (.inl h) h01; exact absurd (.inr h) h01; exact absurd h.2.2 h2; exact h
            obtain ⟨hK0, hK1, hK2⟩ := hK3
            clear hK h01 h2
            go_wp2
            go_meet
            exact ⟨rfl, _, _, _, ⟨⟨HS3.out.1.ta.more, HS3.out.1.tr, HS3.out.1.nn, HS3.out.1.hg, HS3.out.1.hm⟩, HS3.out.2⟩, HTW.out, HFW.out⟩
      case rest =>
        obtain ⟨rfl, mb1, L1, R1, hs, ht, hf⟩ := hcut
        rename World => W2
        have HSS := hid hs
        have HT := hid ht
        have HF := hid hf
        clear hs ht hf n0 n1 n2 n3 n4 n5 n6 n7 n8 HS3 HTW HFW HNV HN15
        obtain ⟨n0, n1, n2, n3, n4, n5, n6, n7, n8⟩ := nine HSS.out.2
        have hsb := lt_of_block HSS.out.2
        have hrl := HSS.out.1.tr.lt
        have C1 := hid (fun (W : World) (hW : Below W2.heap.size W2 W) => ask_tb (HSS.out.1.ta.below hW) c q)
        have C2 := hid (fun (W : World) (hW : Below W2.heap.size W2 W) => rask_any (HSS.out.1.tr.below hW) c q)
        have HL2 := hid (HSS.out.1.tr.askLie c q)
        have HLA := hid (fun (W : World) (hW : Below W2.heap.size W2 W) => last_tb3 (HSS.out.1.ta.below hW) c hic.out)
        have HCL := hid (fun (W : World) (hW : Below W2.heap.size W2 W) => clients_any (HSS.out.1.ta.below hW) (by have := HF.out.1; omega))
        obtain ⟨q2, q3, q4, q5, q6, q7⟩ := HT.out.askR c q
        have q1 := HT.out.askS c q
        have q8 := few_known HF.out c
        have q9 := (HT.out.look c).1
        have q10 := (HT.out.look c).2.1
        rw [q8, q9, q10] at HLA
        rw [HT.out.keys] at HCL
        simp only [Rs.v, ← q1, ← q2, ← q3, ← q4, ← q5, ← q6, ← q7] at C1 C2 HL2
        obtain ⟨V2, hV2⟩ : ∃ V2, V2 = (askR (at_ R1 c) c q).nv := ⟨_, rfl⟩
        obtain ⟨S, hS⟩ : ∃ S, S = askS (at_ L1 c) c q := ⟨_, rfl⟩
        obtain ⟨A, hA⟩ : ∃ A, A = askR (at_ L1 c) c q := ⟨_, rfl⟩
        obtain ⟨E, hE⟩ : ∃ E, E = askE c q := ⟨_, rfl⟩
        obtain ⟨ln0, hln⟩ : ∃ x, x = (at_ R1 c).n := ⟨_, rfl⟩
        obtain ⟨tb0, htb⟩ : ∃ x, x = (lookL R1 c).isSome := ⟨_, rfl⟩
        rw [← hS, ← hA, ← hE] at C1 C2
        rw [← hV2] at C2 HL2
        rw [← hA] at HL2
        rw [← hln, ← htb] at HLA
        replace hln := hid hln
        replace htb := hid htb
        clear q1 q2 q3 q4 q5 q6 q7 q8 q9 q10 hS hA hE hV2
        obtain ⟨Ae, At, Aa, Ab, Ac, Anv, Ans⟩ := A
        simp only at C1 C2 HL2
        obtain ⟨vk, hkm, hkr⟩ := HSS.out.1.tr.mem
        obtain ⟨ko, kc, rfl, _, _⟩ := hkr.len
        have HRR := hid hkr
        have cr2 : W2.cell? ⟨r, 0, none⟩ = some (.slice ko R1.length kc) := by simp [World.cell?, hkm]
        obtain ⟨M, hM⟩ : ∃ M, M = R1.length := ⟨_, rfl⟩
        rw [← hM] at cr2
        replace hM := hid hM
        have hM1 : M ≤ 1000 := by have := HT.out.few HF.out; rw [hM.out]; exact this
        replace cr2 := hid cr2
        replace hM1 := hid hM1
        have hsl2 := HL2.out
        obtain ⟨o7, c7, rfl, _⟩ := hsl2
        obtain ⟨nn, hnn⟩ : ∃ nn, nn = Ans.length := ⟨_, rfl⟩
        rw [← hnn] at HL2 C2
        replace hnn := hid hnn
        clear hkm hkr
        go_wp2_with (go_at_call 12; fail)
        refine (C1.out _ (Below.refl _ _)).mono ?_
        rintro e w5 ⟨v5, rfl, hs5, hb5⟩
        have HS5 := hid hs5
        obtain ⟨o5, c5, rfl, _⟩ := hs5
        rw [← hnn.out] at HS5 ⊢
        have B5 := hb5.next (below_alloc w5 (.cells #[.int .i64 Ae, .string At, .int .i64 Aa, .int .i64 Ab, .int .i64 Ac, .slice o5 nn c5] 32))
        obtain ⟨w6, hw6⟩ : ∃ w6, w6 = w5.alloc (.cells #[.int .i64 Ae, .string At, .int .i64 Aa, .int .i64 Ab, .int .i64 Ac, .slice o5 nn c5] 32) := ⟨_, rfl⟩
        have HX6 : Hid (w6.heap[w5.heap.size]? = some (.cells #[.int .i64 Ae, .string At, .int .i64 Aa, .int .i64 Ab, .int .i64 Ac, .slice o5 nn c5] 32 (0, 0))) := hid (by rw [hw6]; exact box_at _ _)
        rw [← hw6] at B5
        have HS6 : Hid (SLie w6 (.slice o5 nn c5) Ans) := hid (by rw [hw6]; exact HS5.out.below (below_alloc _ _))
        have HB6 := hid B5
        have HY6 := (B5.block sb hsb).trans HSS.out.2
        clear n0 n1 n2 n3 n4 n5 n6 n7 n8
        obtain ⟨n0, n1, n2, n3, n4, n5, n6, n7, n8⟩ := nine HY6
        replace hw6 := hid hw6
        clear C1 hb5 B5 HS5 HY6
        go_upto_region 17 with fail
        rw [← hw6.out]
        clear hw6
        go_wp2_with (go_at_call 13; fail)
        refine (C2.out _ HB6.out).mono ?_
        rintro e w7 ⟨rfl, hb7⟩
        obtain ⟨w8, hw8⟩ : ∃ w8, w8 = w7.alloc (.cells #[.int .i64 Ae, .string At, .int .i64 Aa, .int .i64 Ab, .int .i64 Ac, .slice o7 nn c7] 32) := ⟨_, rfl⟩
        have B8 : Below w6.heap.size w6 w8 := by rw [hw8]; exact hb7.next (below_alloc _ _)
        have HX8 : w8.heap[w7.heap.size]? = some (.cells #[.int .i64 Ae, .string At, .int .i64 Aa, .int .i64 Ab, .int .i64 Ac, .slice o7 nn c7] 32 (0, 0)) := by rw [hw8]; exact box_at _ _
        have HX8b := (B8.block _ (lt_of_block HX6.out)).trans HX6.out
        have HB8 := hid (HB6.out.next B8)
        have HC := hid (result_same (e := Ae) (a := Aa) (b := Ab) (c := Ac) (t := At) (HS6.out.below B8) (v := .slice o5 nn c5) (u := .slice o7 nn c7) (HL2.out.below HB8.out))
        obtain ⟨p0, p1, p2, p3, p4, p5⟩ := (show B32 w7.heap.size w8 ⟨Ae, At, Aa, Ab, Ac, .slice o7 nn c7, Ans⟩ from HX8).cells
        obtain ⟨u0, u1, u2, u3, u4, u5⟩ := (show B32 w5.heap.size w8 ⟨Ae, At, Aa, Ab, Ac, .slice o5 nn c5, Ans⟩ from HX8b).cells
        simp only at p0 p1 p2 p3 p4 p5 u0 u1 u2 u3 u4 u5
        replace hw8 := hid hw8
        clear hb7 B8 HX8 HX8b C2 n0 n1 n2 n3 n4 n5 n6 n7 n8 hnn
        go_upto_region 18 with fail
        rw [← hw8.out]
        clear hw8
        go_wp2_with (first
          | (go_at_call 14; refine (HC.out).mono ?_; rintro e w9 ⟨rfl, hb9⟩; have HB9 := hid (HB8.out.next hb9); have cr9 := (HB9.out.cell (p := ⟨r, 0, none⟩) hrl).trans cr2.out; clear hb9))
        have hsz9 := HB9.out.size
        go_loopw [13, 14, 15, 107] (fun kv la th i wx => ∃ (j : Nat) (ln : Int) (tb : Bool), j ≤ M ∧ i = .int .i64 j ∧ la = .int .i64 ln ∧ th = .bool tb ∧ Hid (ln = (at_ (R1.take j) c).n ∧ tb = (lookL (R1.take j) c).isSome) ∧ Hid (IRow w9.heap.size wx kv ((R1.take j).map (·.k))) ∧ Hid (Below w9.heap.size w9 wx)) (fun _ _ _ i _ => M - (intOf i).toNat)
        case atStart => exact ⟨0, 0, false, Nat.zero_le _, rfl, rfl, rfl, hid ⟨rfl, rfl⟩, hid (IRow.nil _ _), hid (Below.refl _ _)⟩
        case round =>
          obtain ⟨j, ln, tb, hj, rfl, rfl, rfl, HLT, HIR, HB⟩ := hrel
          rename World => wx
          have HBW := hid (HB9.out.trans (HB.out.mono hsz9))
          have hMz := hM1.out
          clear p0 p1 p2 p3 p4 p5 u0 u1 u2 u3 u4 u5 cr9 HC HS6 HX6
          by_cases hjl : j < M
          · have hj' : j < R1.length := by rw [← hM.out]; exact hjl
            obtain ⟨gx, cx, ex, hgx, hcx⟩ := HRR.out.at (by omega)
            rw [← hM.out] at ex
            cases ex
            have hat := hcx j hj'
            obtain ⟨yo, yn, yc, hyv⟩ := HSS.out.1.tr.slice (List.getElem_mem hj')
            have HTK := hid (And.intro (look_take_at HSS.out.1.tr.rise c hj') (look_take_not HSS.out.1.tr.rise c hj'))
            have HMK : Hid ((R1.take (j + 1)).map (·.k) = (R1.take j).map (·.k) ++ [(R1[j]'hj').k]) := hid (by rw [List.take_add_one, List.getElem?_eq_getElem hj', List.map_append]; rfl)
            obtain ⟨y, hy⟩ : ∃ y, y = R1[j]'hj' := ⟨_, rfl⟩
            rw [← hy] at hat hyv HTK HMK
            clear hy
            obtain ⟨yk, yn', yd, ye, yt, ya, yb, ycc, ynv, yns⟩ := y
            simp only at hyv HTK HMK
            subst hyv
            have hcl : ∀ z, z < 9 → wx.cell? ⟨gx, j * 9 + z, none⟩ = _ := fun z hz => (HBW.out.cell (p := ⟨gx, j * 9 + z, none⟩) hgx).trans (hat z hz)
            have a0 : wx.cell? ⟨gx, j * 9, none⟩ = some (.int .i64 yk) := hcl 0 (by omega)
            have a1 : wx.cell? ⟨gx, j * 9 + 1, none⟩ = some (.int .i64 yn') := hcl 1 (by omega)
            have a2 : wx.cell? ⟨gx, j * 9 + 2, none⟩ = some (.bool yd) := hcl 2 (by omega)
            have a3 : wx.cell? ⟨gx, j * 9 + 3, none⟩ = some (.int .i64 ye) := hcl 3 (by omega)
            have a4 : wx.cell? ⟨gx, j * 9 + 4, none⟩ = some (.string yt) := hcl 4 (by omega)
            have a5 : wx.cell? ⟨gx, j * 9 + 5, none⟩ = some (.int .i64 ya) := hcl 5 (by omega)
            have a6 : wx.cell? ⟨gx, j * 9 + 6, none⟩ = some (.int .i64 yb) := hcl 6 (by omega)
            have a7 : wx.cell? ⟨gx, j * 9 + 7, none⟩ = some (.int .i64 ycc) := hcl 7 (by omega)
            have a8 : wx.cell? ⟨gx, j * 9 + 8, none⟩ = some (.slice yo yn yc) := hcl 8 (by omega)
            have HTL : Hid (((R1.take j).map (·.k)).length ≤ 1000000) := hid (by simp; have := hM1.out; omega)
            clear hcl hat hcx hj'
            go_upto_region 26 with fail
            clear a0 a1 a2 a3 a4 a5 a6 a7 a8
            obtain ⟨t3, ht3⟩ : ∃ t3, t3 = wx.alloc (.cells #[.int .i64 yk, .int .i64 yn', .bool yd, .int .i64 ye, .string yt, .int .i64 ya, .int .i64 yb, .int .i64 ycc, .slice yo yn yc] 46) := ⟨_, rfl⟩
            obtain ⟨tb3, htb3⟩ : ∃ tb, tb = wx.heap.size := ⟨_, rfl⟩
            have hX3 : t3.heap[tb3]? = some (.cells #[.int .i64 yk, .int .i64 yn', .bool yd, .int .i64 ye, .string yt, .int .i64 ya, .int .i64 yb, .int .i64 ycc, .slice yo yn yc] 46 (0, 0)) := by rw [ht3, htb3]; exact box_at _ _
            have y0 : t3.cell? ⟨tb3, 0, none⟩ = some (.int .i64 yk) := by simp [World.cell?, hX3]
            have HI3 : Hid (IRow w9.heap.size t3 u13 ((R1.take j).map (·.k))) := hid (by rw [ht3]; exact HIR.out.below (below_alloc _ _))
            have HB3 : Hid (Below w9.heap.size w9 t3) := hid (by rw [ht3]; exact HB.out.next (below_alloc _ _))
            rw [← ht3, ← htb3]
            have HX3 := hid hX3
            clear ht3 htb3 hX3
            have hown3 : some tb3 ≠ u13.ownBlock := fun e => by
              obtain ⟨_, cur, hc⟩ := HI3.out.own tb3 e.symm
              rw [HX3.out] at hc
              cases hc
            replace hown3 := hid hown3
            go_upto_region 27 with (first
              | (at_builtin; refine pushI rfl (.tmp 111) (.tmp 114) rfl w9.heap.size _ u13 (List.map (fun x : Kx => x.k) (R1.take j)) yk rfl rfl rfl HI3.out HTL.out HB3.out.size ?_; intro kv' t4 hr4 hb4 hk4))
            have HI4 := hid hr4
            have HB4 := hid (HB3.out.trans hb4)
            have hX4 := (hk4 tb3 (lt_of_block HX3.out) hown3.out).trans HX3.out
            have HS4 := (HB4.out.block sb (Nat.lt_of_lt_of_le hsb hsz9)).trans ((HB9.out.block sb hsb).trans HSS.out.2)
            obtain ⟨n0, n1, n2, n3, n4, n5, n6, n7, n8⟩ := nine HS4
            have z0 : t4.cell? ⟨tb3, 0, none⟩ = some (.int .i64 yk) := by simp [World.cell?, hX4]
            have z1 : t4.cell? ⟨tb3, 1, none⟩ = some (.int .i64 yn') := by simp [World.cell?, hX4]
            clear hr4 hb4 hk4 hX4 HS4 n0 n2 n3 n4 n5 n6 n7 n8 y0
            by_cases hkc : yk = c
            · have hkb : (yk == c) = true := by simpa using hkc
              have HTT := hid (HTK.out.1 hkc)
              clear hkc
              go_wp2
              go_roundw
              case rel => exact ⟨j + 1, yn', true, hjl, by simp, rfl, rfl, hid ⟨HTT.out.1.symm, HTT.out.2.symm⟩, hid (by rw [HMK.out]; exact HI4.out), HB4⟩
              case measure => simp [intOf]; omega
            · have hkb : (yk == c) = false := by simpa using hkc
              have HTT := hid (HTK.out.2 hkc)
              clear hkc
              go_wp2
              go_roundw
              case rel => exact ⟨j + 1, ln, tb, hjl, by simp, rfl, rfl, hid ⟨HLT.out.1.trans HTT.out.1.symm, HLT.out.2.trans HTT.out.2.symm⟩, hid (by rw [HMK.out]; exact HI4.out), HB4⟩
              case measure => simp [intOf]; omega
          · have hjM : R1.take j = R1 := by rw [List.take_of_length_le]; rw [← hM.out]; omega
            rw [hjM, ← hln.out, ← htb.out] at HLT
            rw [hjM] at HIR
            obtain ⟨e1, e2⟩ := HLT.out
            subst e1 e2
            have hnl1 : (ln != ln) = false := by simp
            have hnl2 : (tb != tb) = false := by simp
            have HBx := hid (HBW.out)
            have hZ := (HBW.out.block sb hsb).trans HSS.out.2
            obtain ⟨n0, n1, n2, n3, n4, n5, n6, n7, n8⟩ := nine hZ
            clear n0 n2 n3 n4 n5 n6 n7 n8 hZ hjM
            go_wp2_with (first
              | (go_at_call 15; refine (HLA.out _ HBx.out).mono ?_; rintro e x1 ⟨rfl, hx1⟩; have HX1 := hid (HBx.out.next hx1); have HI1 := hid (HIR.out.below hx1); clear hx1)
              | (go_at_call 17; refine (HCL.out _ HX1.out).mono ?_; rintro e x2 ⟨v2, rfl, hr2, hx2⟩; have HX2 := hid (HX1.out.next hx2); have HI2 := hid (HI1.out.below hx2); have HR2 := hid hr2; clear hx2 hr2)
              | (go_at_call 16; refine (ints_same HR2.out HI2.out).mono ?_; rintro e x3 ⟨rfl, qd, rfl⟩))
            go_roundw
            case rel => exact ⟨k + 1, hlt, by simp, hid ⟨_, _, _, _, HSS.out.1.below (HX2.out.next (below_drewN (Below.refl _ _) _)), HT.out, HF.out, by have := HKN.out; omega⟩⟩
            case measure => simp [intOf]; omega
    · obtain ⟨mb, N, L, R, hPT, _⟩ := HO.out
      have HB := hid hPT.tr.bel
      clear hPT HO
      go_wp2_with (first
        | (go_at_call 18; refine (speaks_any _).mono ?_; rintro e w3 ⟨rfl, hb3⟩))
      go_ret
      exact ⟨rfl, HB.out.next hb3⟩
end Go.Proofs.Ytabkfmmbjjchdaa
