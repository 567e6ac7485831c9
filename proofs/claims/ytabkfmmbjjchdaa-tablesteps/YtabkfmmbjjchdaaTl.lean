import Derived.Test.YtabkfmmbjjchdaaTk
namespace Go.Proofs.Ytabkfmmbjjchdaa
open Go.RowKit Go.Maps

theorem TB.not34 {g N : Nat} {mb : Option Nat} {w : World} {L : List Kx} (h : TB g mb w N L) {j : Nat} {cs : Array Value} {fz : Nat × Nat} (hc : w.heap[j]? = some (.cells cs 34 fz)) : j ≠ g ∧ some j ≠ mb := by
  refine ⟨fun e => ?_, fun e => ?_⟩
  · subst e; rw [h.box] at hc; cases hc
  · obtain ⟨n, D, ⟨es, clock, h1, _⟩, _⟩ := h.map j e.symm
    rw [h1] at hc; cases hc
theorem nine {w : World} {j : Nat} {a b c d e f g h i : Value} (hh : w.heap[j]? = some (.cells #[a, b, c, d, e, f, g, h, i] 34 (0, 0))) : w.cell? ⟨j, 0, none⟩ = some a ∧ w.cell? ⟨j, 1, none⟩ = some b ∧ w.cell? ⟨j, 2, none⟩ = some c ∧ w.cell? ⟨j, 3, none⟩ = some d ∧ w.cell? ⟨j, 4, none⟩ = some e ∧ w.cell? ⟨j, 5, none⟩ = some f ∧ w.cell? ⟨j, 6, none⟩ = some g ∧ w.cell? ⟨j, 7, none⟩ = some h ∧ w.cell? ⟨j, 8, none⟩ = some i := by
  simp [World.cell?, hh]
/-- what stands while a step is done to the two tables -/
def IA (w : World) (g g' N : Nat) (La Lb : List Kx) (cl K c r : Int) (R : Rs) (kk : Nat) (wx : World) : Prop :=
  ∃ mb mb' La1 Lb1 N1, AP w g g' mb mb' wx N1 La1 Lb1 ∧ N1 ≤ N + kk ∧ (kk = 0 → La1 = La) ∧ (1 ≤ kk → ∃ v, La1 = stpL La K c r { R with nv := v }) ∧ (kk ≤ 1 → Lb1 = Lb) ∧ (2 ≤ kk → ∃ u, Lb1 = if c = cl then stpL Lb K c r { R with nv := u } else Lb)
/-- what stands between the steps -/
def OA (w : World) (g g' : Nat) (cl : Int) (k : Nat) (wr : World) : Prop := ∃ mb mb' La Lb N, AP w g g' mb mb' wr N La Lb ∧ sam (at_ La cl) (at_ Lb cl) ∧ La.length ≤ k ∧ Lb.length ≤ k ∧ N ≤ 2 * k
theorem stpL_beg (L : List Kx) {K : Int} (h : K = 0 ∨ K = 1) (c r : Int) (R : Rs) : stpL L K c r R = begL L c r := by unfold stpL; rw [if_pos h]
theorem stpL_don (L : List Kx) {K : Int} (h : K = 2) (c r : Int) (R : Rs) : stpL L K c r R = donL L c r R := by unfold stpL; rw [if_neg (by omega), if_pos h]
theorem stpL_non (L : List Kx) {K : Int} (h : ¬ K = 0 ∧ ¬ K = 1 ∧ ¬ K = 2) (c r : Int) (R : Rs) : stpL L K c r R = L := by unfold stpL; rw [if_neg (by omega), if_neg (by omega)]
set_option maxRecDepth 100000 in
set_option maxHeartbeats 4000000 in
theorem apart_walk {v : Value} {l : List Stp} {w : World} (h : TLie w v l) (cl : Int) : Calls Try.prog 6 #[v, .int .i64 cl] w fun e w' => e = .returned (.bool true) ∧ Below w.heap.size w w' := by
  obtain ⟨ao, cap, rfl, h1, h2, h3⟩ := h
  obtain ⟨n, hn⟩ : ∃ n, n = l.length := ⟨_, rfl⟩
  rw [← hn] at h1 ⊢
  have hm : n ≤ 9223372036854775807 := by unfold maxLen at h2; omega
  replace hn := hid hn
  replace h3 := hid h3
  clear h1 h2
  go_enter Try.func6, Try.ntmps6
  go_wp2_with (go_at_call 7; fail)
  refine (new_any _).mono ?_
  rintro e w1 ⟨rfl, ht1, hw1⟩
  replace ht1 := hid ht1
  replace hw1 := hid hw1
  go_wp2_with (go_at_call 7; fail)
  refine (new_any _).mono ?_
  rintro e w2 ⟨rfl, ht2, hw2⟩
  have hs1 : w1.heap.size = w.heap.size + 1 := by rw [hw1.out]; simp
  have hs2 : w2.heap.size = w1.heap.size + 1 := by rw [hw2]; simp
  have hb1 : Below w.heap.size w w1 := by rw [hw1.out]; exact below_alloc _ _
  have hb2 : Below w1.heap.size w1 w2 := by rw [hw2]; exact below_alloc _ _
  have HA : Hid (AP w w.heap.size w1.heap.size none none w2 0 [] []) := hid ⟨ht1.out.below hb2, ht2, by omega, Nat.le_refl _, by omega, (fun x hx => by cases hx), (fun x hx => by cases hx), hb1.next hb2⟩
  obtain ⟨g, hg⟩ : ∃ g, g = w.heap.size := ⟨_, rfl⟩
  obtain ⟨g', hg'⟩ : ∃ g, g = w1.heap.size := ⟨_, rfl⟩
  have HA' : Hid (AP w g g' none none w2 0 [] []) := hid (by rw [hg, hg']; exact HA.out)
  have HGe : Hid (g = w.heap.size ∧ g' = w1.heap.size) := hid ⟨hg, hg'⟩
  rw [← hg, ← hg']
  clear hg hg' HA ht1 ht2 hw1 hw2 hb1 hb2 hs1 hs2
  by_cases hbig : 200 < n
  · go_wp2_with (first
      | (go_at_call 18; refine (speaks_any _).mono ?_; rintro e w3 ⟨rfl, hb3⟩))
    go_ret
    exact ⟨rfl, HA'.out.be.next hb3⟩
  · have hdb : decide (200 < n) = false := decide_eq_false hbig
    have hdi : decide (200 < (n : Int)) = false := decide_eq_false (by omega)
    go_wp2
    clear hdb hdi
    go_loopw [41] (fun i wr => ∃ k : Nat, k ≤ n ∧ i = .int .i64 k ∧ Hid (OA w g g' cl k wr)) (fun i _ => n - (intOf i).toNat)
    case atStart => exact ⟨0, Nat.zero_le _, rfl, hid ⟨none, none, [], [], 0, HA'.out, sam.refl _, Nat.le_refl _, Nat.le_refl _, by omega⟩⟩
    case round =>
      obtain ⟨k, hk, rfl, HO⟩ := hrel
      clear HA'
      by_cases hlt : k < n
      · have hk' : k < l.length := by rw [← hn.out]; exact hlt
        obtain ⟨mb, mb', La, Lb, N, hAP, hsam, hla, hlb, hN⟩ := HO.out
        obtain ⟨gb, off, ea, hgb, hat, hnv, hic⟩ := h3.out k hk'
        subst ea
        obtain ⟨s, hs⟩ : ∃ s, s = l[k]'hk' := ⟨_, rfl⟩
        rw [← hs] at hat hnv hic
        clear hs hk'
        obtain ⟨K, c, r, R⟩ := s
        obtain ⟨re, rt, ra, rb, rc, rnv, rns⟩ := R
        simp only at hnv hic
        have HNV := hid hnv
        obtain ⟨so, scap, rfl, _⟩ := hnv
        have HAt : Hid (∀ q, q < 9 → wr.cell? ⟨gb, off + k * 9 + q, none⟩ = (Stp.cs ⟨K, c, r, ⟨re, rt, ra, rb, rc, .slice so rns.length scap, rns⟩⟩)[q]?) := hid (fun q hq => (hAP.be.cell (p := ⟨gb, off + k * 9 + q, none⟩) hgb).trans (hat q hq))
        obtain ⟨nl, hnl⟩ : ∃ nl, nl = rns.length := ⟨_, rfl⟩
        rw [← hnl] at HAt HNV
        have m0 : wr.cell? ⟨gb, off + k * 9, none⟩ = some (.int .i64 K) := HAt.out 0 (by decide)
        have m1 : wr.cell? ⟨gb, off + k * 9 + 1, none⟩ = some (.int .i64 c) := HAt.out 1 (by decide)
        have m2 : wr.cell? ⟨gb, off + k * 9 + 2, none⟩ = some (.int .i64 r) := HAt.out 2 (by decide)
        have m3 : wr.cell? ⟨gb, off + k * 9 + 3, none⟩ = some (.int .i64 re) := HAt.out 3 (by decide)
        have m4 : wr.cell? ⟨gb, off + k * 9 + 4, none⟩ = some (.string rt) := HAt.out 4 (by decide)
        have m5 : wr.cell? ⟨gb, off + k * 9 + 5, none⟩ = some (.int .i64 ra) := HAt.out 5 (by decide)
        have m6 : wr.cell? ⟨gb, off + k * 9 + 6, none⟩ = some (.int .i64 rb) := HAt.out 6 (by decide)
        have m7 : wr.cell? ⟨gb, off + k * 9 + 7, none⟩ = some (.int .i64 rc) := HAt.out 7 (by decide)
        have m8 : wr.cell? ⟨gb, off + k * 9 + 8, none⟩ = some (.slice so nl scap) := HAt.out 8 (by decide)
        have HAP := hid hAP
        have HSA := hid (And.intro hsam (And.intro hla (And.intro hlb hN)))
        clear hnl hat hAP hsam hla hlb hN HO HAt
        go_upto_region 8 with fail
        clear m0 m1 m2 m3 m4 m5 m6 m7 m8
        obtain ⟨w3, hw3⟩ : ∃ w3, w3 = wr.alloc (.cells #[.int .i64 K, .int .i64 c, .int .i64 r, .int .i64 re, .string rt, .int .i64 ra, .int .i64 rb, .int .i64 rc, .slice so nl scap] 34) := ⟨_, rfl⟩
        obtain ⟨sb, hsb⟩ : ∃ sb, sb = wr.heap.size := ⟨_, rfl⟩
        have HX3 : Hid (w3.heap[sb]? = some (.cells #[.int .i64 K, .int .i64 c, .int .i64 r, .int .i64 re, .string rt, .int .i64 ra, .int .i64 rb, .int .i64 rc, .slice so nl scap] 34 (0, 0))) := hid (by rw [hw3, hsb]; exact box_at _ _)
        have HA3 : Hid (AP w g g' mb mb' w3 N La Lb) := hid (by rw [hw3]; exact HAP.out.below (below_alloc _ _))
        rw [← hw3, ← hsb]
        clear hw3 hsb HAP
        have HAR : Hid (Rise La ∧ Rise Lb) := hid ⟨HA3.out.ta.rise, HA3.out.tb.rise⟩
        have HNb : Hid (N ≤ 400 ∧ La.length ≤ 200 ∧ Lb.length ≤ 200) := hid (by have := HSA.out.2; omega)
        go_wp2
        go_loopw [9] (fun i wx => ∃ kk : Nat, kk ≤ 2 ∧ i = .int .i64 kk ∧ Hid (wx.heap[sb]? = some (.cells #[.int .i64 K, .int .i64 c, .int .i64 r, .int .i64 re, .string rt, .int .i64 ra, .int .i64 rb, .int .i64 rc, .slice so nl scap] 34 (0, 0))) ∧ Hid (IA w g g' N La Lb cl K c r ⟨re, rt, ra, rb, rc, .slice so nl scap, rns⟩ kk wx)) (fun i _ => 2 - (intOf i).toNat)
        case atStart => exact ⟨0, by omega, rfl, HX3, hid ⟨mb, mb', La, Lb, N, HA3.out, by omega, fun _ => rfl, (fun h => by omega), fun _ => rfl, (fun h => by omega)⟩⟩
        case round =>
          obtain ⟨kk, hkk, rfl, HX, HI⟩ := hrel
          rename World => wx
          obtain ⟨mb1, mb1', La1, Lb1, N1, hA1, hN1, i1, i2, i3, i4⟩ := HI.out
          have HA1 := hid hA1
          replace i1 := hid i1
          replace i2 := hid i2
          replace i3 := hid i3
          replace i4 := hid i4
          clear hA1
          obtain ⟨n0, n1, n2, n3, n4, n5, n6, n7, n8⟩ := nine HX.out
          have hsb := lt_of_block HX.out
          clear HA3 HX3 HI
          have hc3 : kk = 0 ∨ kk = 1 ∨ kk = 2 := by omega
          rcases hc3 with rfl | rfl | rfl
          · have hz1 : (((0 : Nat) : Int) == 1) = false := by decide
            have j1 : Hid (La1 = La) := hid (i1.out rfl)
            have j3 : Hid (Lb1 = Lb) := hid (i3.out (by omega))
            clear i1 i2 i3 i4
            have hK : (K == 0) = true ∨ ((K == 0) = false ∧ (K == 1) = true) ∨ ((K == 0) = false ∧ (K == 1) = false ∧ (K == 2) = true) ∨ ((K == 0) = false ∧ (K == 1) = false ∧ (K == 2) = false) := by simp only [beq_iff_eq, beq_eq_false_iff_ne]; omega
            rcases hK with hK | ⟨hK0, hK⟩ | ⟨hK0, hK1, hK⟩ | ⟨hK0, hK1, hK⟩
            · have HC := hid (begin_any HA1.out.ta (by have := HNb.out; omega) (by have := HNb.out; rw [j1.out]; omega) c r)
              go_wp2_with (first
                | (go_at_call 8; refine (HC.out).mono ?_; rintro e w5 ⟨rfl, mb2, ht5, hm5, hk5⟩; have HS5 := hid ((HA1.out.step ht5 hm5 hk5)); have HX5 := hid ((hk5.block sb hsb (HA1.out.ta.not34 HX.out).1 (HA1.out.ta.not34 HX.out).2).trans HX.out); clear ht5 hm5 hk5))
              go_roundw
              case rel => exact ⟨1, by omega, by simp, HX5, hid ⟨_, _, _, _, _, HS5.out, by omega, (fun h => by omega), fun _ => ⟨.slice none 0 0, by rw [stpL_beg _ (.inl (by simpa using hK)), j1.out]⟩, fun _ => j3.out, (fun h => by omega)⟩⟩
              case measure => simp [intOf]
            · have HC := hid (begin_any HA1.out.ta (by have := HNb.out; omega) (by have := HNb.out; rw [j1.out]; omega) c r)
              go_wp2_with (first
                | (go_at_call 8; refine (HC.out).mono ?_; rintro e w5 ⟨rfl, mb2, ht5, hm5, hk5⟩; have HS5 := hid ((HA1.out.step ht5 hm5 hk5)); have HX5 := hid ((hk5.block sb hsb (HA1.out.ta.not34 HX.out).1 (HA1.out.ta.not34 HX.out).2).trans HX.out); clear ht5 hm5 hk5))
              go_roundw
              case rel => exact ⟨1, by omega, by simp, HX5, hid ⟨_, _, _, _, _, HS5.out, by omega, (fun h => by omega), fun _ => ⟨.slice none 0 0, by rw [stpL_beg _ (.inr (by simpa using hK)), j1.out]⟩, fun _ => j3.out, (fun h => by omega)⟩⟩
              case measure => simp [intOf]
            · have HC := hid (done_any HA1.out.ta (by have := HNb.out; omega) c r ⟨re, rt, ra, rb, rc, .slice so nl scap, rns⟩ (HNV.out.below HA1.out.be))
              simp only [Rs.v] at HC
              go_wp2_with (first
                | (go_at_call 10; refine (HC.out).mono ?_; rintro e w5 ⟨rfl, v5, ht5, hk5⟩; have HS5 := hid ((HA1.out.step ht5 (.inl rfl) hk5)); have HX5 := hid ((hk5.block sb hsb (HA1.out.ta.not34 HX.out).1 (HA1.out.ta.not34 HX.out).2).trans HX.out); clear ht5 hk5))
              go_roundw
              case rel => exact ⟨1, by omega, by simp, HX5, hid ⟨_, _, _, _, _, HS5.out, by omega, (fun h => by omega), fun _ => ⟨v5, by rw [stpL_don _ (by simpa using hK), j1.out]⟩, fun _ => j3.out, (fun h => by omega)⟩⟩
              case measure => simp [intOf]
            · have hK3 : ¬ K = 0 ∧ ¬ K = 1 ∧ ¬ K = 2 := ⟨by simpa using hK0, by simpa using hK1, by simpa using hK⟩
              replace hK3 := hid hK3
              go_wp2
              go_roundw
              case rel => exact ⟨1, by omega, by simp, HX, hid ⟨_, _, _, _, _, HA1.out, by omega, (fun h => by omega), fun _ => ⟨.slice none 0 0, by rw [stpL_non _ hK3.out, j1.out]⟩, fun _ => j3.out, (fun h => by omega)⟩⟩
              case measure => simp [intOf]
          · have j2 := hid (i2.out (by omega))
            have j3 : Hid (Lb1 = Lb) := hid (i3.out (by omega))
            clear i1 i2 i3 i4
            by_cases hcc : c = cl
            · have hcb : (c != cl) = false := by simpa using hcc
              replace hcc := hid hcc
              have hK : (K == 0) = true ∨ ((K == 0) = false ∧ (K == 1) = true) ∨ ((K == 0) = false ∧ (K == 1) = false ∧ (K == 2) = true) ∨ ((K == 0) = false ∧ (K == 1) = false ∧ (K == 2) = false) := by simp only [beq_iff_eq, beq_eq_false_iff_ne]; omega
              rcases hK with hK | ⟨hK0, hK⟩ | ⟨hK0, hK1, hK⟩ | ⟨hK0, hK1, hK⟩
              · have HC := hid (begin_any HA1.out.tb (by have := HNb.out; omega) (by have := HNb.out; rw [j3.out]; omega) c r)
                go_wp2_with (first
                  | (go_at_call 8; refine (HC.out).mono ?_; rintro e w5 ⟨rfl, mb2, ht5, hm5, hk5⟩; have HS5 := hid ((HA1.out.swap.step ht5 hm5 hk5).swap); have HX5 := hid ((hk5.block sb hsb (HA1.out.tb.not34 HX.out).1 (HA1.out.tb.not34 HX.out).2).trans HX.out); clear ht5 hm5 hk5))
                go_roundw
                case rel => exact ⟨2, by omega, by simp, HX5, hid ⟨_, _, _, _, _, HS5.out, by omega, (fun h => by omega), fun _ => j2.out, (fun h => by omega), fun _ => ⟨.slice none 0 0, by rw [if_pos hcc.out, stpL_beg _ (.inl (by simpa using hK)), j3.out]⟩⟩⟩
                case measure => simp [intOf]
              · have HC := hid (begin_any HA1.out.tb (by have := HNb.out; omega) (by have := HNb.out; rw [j3.out]; omega) c r)
                go_wp2_with (first
                  | (go_at_call 8; refine (HC.out).mono ?_; rintro e w5 ⟨rfl, mb2, ht5, hm5, hk5⟩; have HS5 := hid ((HA1.out.swap.step ht5 hm5 hk5).swap); have HX5 := hid ((hk5.block sb hsb (HA1.out.tb.not34 HX.out).1 (HA1.out.tb.not34 HX.out).2).trans HX.out); clear ht5 hm5 hk5))
                go_roundw
                case rel => exact ⟨2, by omega, by simp, HX5, hid ⟨_, _, _, _, _, HS5.out, by omega, (fun h => by omega), fun _ => j2.out, (fun h => by omega), fun _ => ⟨.slice none 0 0, by rw [if_pos hcc.out, stpL_beg _ (.inr (by simpa using hK)), j3.out]⟩⟩⟩
                case measure => simp [intOf]
              · have HC := hid (done_any HA1.out.tb (by have := HNb.out; omega) c r ⟨re, rt, ra, rb, rc, .slice so nl scap, rns⟩ (HNV.out.below HA1.out.be))
                simp only [Rs.v] at HC
                go_wp2_with (first
                  | (go_at_call 10; refine (HC.out).mono ?_; rintro e w5 ⟨rfl, v5, ht5, hk5⟩; have HS5 := hid ((HA1.out.swap.step ht5 (.inl rfl) hk5).swap); have HX5 := hid ((hk5.block sb hsb (HA1.out.tb.not34 HX.out).1 (HA1.out.tb.not34 HX.out).2).trans HX.out); clear ht5 hk5))
                go_roundw
                case rel => exact ⟨2, by omega, by simp, HX5, hid ⟨_, _, _, _, _, HS5.out, by omega, (fun h => by omega), fun _ => j2.out, (fun h => by omega), fun _ => ⟨v5, by rw [if_pos hcc.out, stpL_don _ (by simpa using hK), j3.out]⟩⟩⟩
                case measure => simp [intOf]
              · have hK3 : ¬ K = 0 ∧ ¬ K = 1 ∧ ¬ K = 2 := ⟨by simpa using hK0, by simpa using hK1, by simpa using hK⟩
                replace hK3 := hid hK3
                go_wp2
                go_roundw
                case rel => exact ⟨2, by omega, by simp, HX, hid ⟨_, _, _, _, _, HA1.out, by omega, (fun h => by omega), fun _ => j2.out, (fun h => by omega), fun _ => ⟨.slice none 0 0, by rw [if_pos hcc.out, stpL_non _ hK3.out, j3.out]⟩⟩⟩
                case measure => simp [intOf]
            · have hcb : (c != cl) = true := by simpa using hcc
              replace hcc := hid hcc
              go_wp2
              go_roundw
              case rel => exact ⟨2, by omega, by simp, HX, hid ⟨_, _, _, _, _, HA1.out, by omega, (fun h => by omega), fun _ => j2.out, (fun h => by omega), fun _ => ⟨.slice none 0 0, by rw [if_neg hcc.out]; exact j3.out⟩⟩⟩
              case measure => simp [intOf]
          · obtain ⟨va, ea⟩ := i2.out (by omega)
            obtain ⟨vb, eb⟩ := i4.out (by omega)
            have HR : Hid (sam (at_ La1 cl) (at_ Lb1 cl) ∧ La1.length ≤ k + 1 ∧ Lb1.length ≤ k + 1 ∧ N1 ≤ 2 * (k + 1)) := hid (by
              obtain ⟨hsm, hl1, hl2, hn2⟩ := HSA.out
              have ra' := HAR.out.1
              have rb' := HAR.out.2
              have hb := HNb.out
              rw [ea, eb]
              refine ⟨?_, ?_, ?_, by omega⟩
              · by_cases hcc : c = cl
                · rw [if_pos hcc]
                  subst hcc
                  exact stpL_same ra' rb' K c r _ va vb hsm (by omega) (by omega)
                · rw [if_neg hcc, stpL_other ra' K c r _ hcc]
                  exact hsm
              · exact Nat.le_trans (stpL_le ra' _ _ _ _) (by omega)
              · split
                · exact Nat.le_trans (stpL_le rb' _ _ _ _) (by omega)
                · omega)
            obtain ⟨q1, q2, q3, q4, q5, q6, q7⟩ := ask_same HR.out.1 cl r
            have C1 := hid (fun (W : World) (hW : Below wx.heap.size wx W) => ask_tb (HA1.out.ta.below hW) cl r)
            have C2 := hid (fun (W : World) (hW : Below wx.heap.size wx W) => ask_tb (HA1.out.tb.below hW) cl r)
            simp only [Rs.v, ← q1, ← q2, ← q3, ← q4, ← q5, ← q6, ← q7] at C1 C2
            obtain ⟨S, hS⟩ : ∃ S, S = askS (at_ La1 cl) cl r := ⟨_, rfl⟩
            obtain ⟨A, hA⟩ : ∃ A, A = askR (at_ La1 cl) cl r := ⟨_, rfl⟩
            obtain ⟨E, hE⟩ : ∃ E, E = askE cl r := ⟨_, rfl⟩
            rw [← hS, ← hA, ← hE] at C1 C2
            clear q1 q2 q3 q4 q5 q6 q7 hS hA hE ea eb i1 i2 i3 i4
            obtain ⟨Ae, At, Aa, Ab, Ac, Anv, Ans⟩ := A
            simp only at C1 C2
            go_wp2_with (go_at_call 12; fail)
            refine (C1.out _ (Below.refl _ _)).mono ?_
            rintro e w5 ⟨v5, rfl, hs5, hb5⟩
            have HS5 := hid hs5
            obtain ⟨o5, c5, rfl, _⟩ := hs5
            obtain ⟨nn, hnn⟩ : ∃ nn, nn = Ans.length := ⟨_, rfl⟩
            rw [← hnn] at HS5 ⊢
            replace hnn := hid hnn
            have B5 := hb5.next (below_alloc w5 (.cells #[.int .i64 Ae, .string At, .int .i64 Aa, .int .i64 Ab, .int .i64 Ac, .slice o5 nn c5] 32))
            obtain ⟨w6, hw6⟩ : ∃ w6, w6 = w5.alloc (.cells #[.int .i64 Ae, .string At, .int .i64 Aa, .int .i64 Ab, .int .i64 Ac, .slice o5 nn c5] 32) := ⟨_, rfl⟩
            have HX6 : Hid (w6.heap[w5.heap.size]? = some (.cells #[.int .i64 Ae, .string At, .int .i64 Aa, .int .i64 Ab, .int .i64 Ac, .slice o5 nn c5] 32 (0, 0))) := hid (by rw [hw6]; exact box_at _ _)
            rw [← hw6] at B5
            have HS6 : Hid (SLie w6 (.slice o5 nn c5) Ans) := hid (by rw [hw6]; exact HS5.out.below (below_alloc _ _))
            have HB6 := hid B5
            have HY6 := (B5.block sb hsb).trans HX.out
            clear n0 n1 n2 n3 n4 n5 n6 n7 n8
            obtain ⟨n0, n1, n2, n3, n4, n5, n6, n7, n8⟩ := nine HY6
            replace hw6 := hid hw6
            clear C1 hb5 B5 HS5 HY6
            go_upto_region 22 with fail
            rw [← hw6.out]
            clear hw6
            go_wp2_with (go_at_call 12; fail)
            refine (C2.out _ HB6.out).mono ?_
            rintro e w7 ⟨v7, rfl, hs7, hb7⟩
            have HS7 := hid hs7
            obtain ⟨o7, c7, rfl, _⟩ := hs7
            rw [← hnn.out] at HS7 ⊢
            obtain ⟨w8, hw8⟩ : ∃ w8, w8 = w7.alloc (.cells #[.int .i64 Ae, .string At, .int .i64 Aa, .int .i64 Ab, .int .i64 Ac, .slice o7 nn c7] 32) := ⟨_, rfl⟩
            have B8 : Below w6.heap.size w6 w8 := by rw [hw8]; exact hb7.next (below_alloc _ _)
            have HX8 : w8.heap[w7.heap.size]? = some (.cells #[.int .i64 Ae, .string At, .int .i64 Aa, .int .i64 Ab, .int .i64 Ac, .slice o7 nn c7] 32 (0, 0)) := by rw [hw8]; exact box_at _ _
            have HX8b := (B8.block _ (lt_of_block HX6.out)).trans HX6.out
            have HS8 : Hid (SLie w8 (.slice o7 nn c7) Ans) := hid (by rw [hw8]; exact HS7.out.below (below_alloc _ _))
            have HC := hid (result_same (e := Ae) (a := Aa) (b := Ab) (c := Ac) (t := At) (HS6.out.below B8) HS8.out)
            have HB8 := hid (HB6.out.next B8)
            obtain ⟨p0, p1, p2, p3, p4, p5⟩ := (show B32 w7.heap.size w8 ⟨Ae, At, Aa, Ab, Ac, .slice o7 nn c7, Ans⟩ from HX8).cells
            obtain ⟨u0, u1, u2, u3, u4, u5⟩ := (show B32 w5.heap.size w8 ⟨Ae, At, Aa, Ab, Ac, .slice o5 nn c5, Ans⟩ from HX8b).cells
            simp only at p0 p1 p2 p3 p4 p5 u0 u1 u2 u3 u4 u5
            replace hw8 := hid hw8
            clear hb7 B8 HX8 HX8b HS7 C2 n0 n1 n2 n3 n4 n5 n6 n7 n8 hnn
            go_upto_region 23 with fail
            rw [← hw8.out]
            clear hw8
            go_wp2_with (first
              | (go_at_call 14; refine (HC.out).mono ?_; rintro e w9 ⟨rfl, hb9⟩))
            go_roundw
            case rel => exact ⟨k + 1, hlt, by simp, hid ⟨_, _, _, _, _, HA1.out.below (HB8.out.next hb9), HR.out⟩⟩
            case measure => simp [intOf]; omega
      · obtain ⟨mb, mb', La, Lb, N, hAP, _⟩ := HO.out
        have HB := hid hAP.be
        clear hAP HO
        go_wp2_with (first
          | (go_at_call 18; refine (speaks_any _).mono ?_; rintro e w3 ⟨rfl, hb3⟩))
        go_ret
        exact ⟨rfl, HB.out.next hb3⟩
end Go.Proofs.Ytabkfmmbjjchdaa
