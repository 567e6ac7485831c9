import Derived.Test.YtogiiefaakejlaaRb
import Derived.Test.YtogiiefaakejlaaRd
import Derived.Test.YtogiiefaakejlaaSp
import Derived.Test.YtogiiefaakejlaaOc
namespace Go.Proofs.Ytogiiefaakejlaa
open Go.RowKit Go.Maps

theorem KBox.cfr {t : TypeId} {b g : Nat} {w w' : World} {c : Ck} (h : KBox t b w c) (k : CFr g w w') (hb : b ≠ g) : KBox t b w' c :=
  KBox.same h (k.block b (KBox.lt h) hb (fun es cl => by unfold KBox at h; rw [h]; simp))
theorem IRow.belowI {base : Nat} {w w' : World} {v : Value} {l : List Int} (h : IRow base w v l) (k : Below w.heap.size w w') : IRow base w' v l := h.below k
set_option maxRecDepth 100000 in
set_option maxHeartbeats 4000000 in
theorem steps_walk {W : World} {v : Value} {l : List Ck} (hS : KLie W v l) (hO : ∀ c ∈ l, COk c) : Calls Try.prog 4 #[v] W fun e w' => e = .returned (.bool true) ∧ Below W.heap.size W w' := by
  have HSP := hid speaks_any
  obtain ⟨ao, cap, rfl, hlc, hcm, hcell⟩ := hS
  have HC := hid hcell
  have HOK := hid hO
  unfold maxLen at hcm
  obtain ⟨n, hn⟩ : ∃ n, n = l.length := ⟨_, rfl⟩
  rw [← hn] at hlc ⊢
  have HN := hid hn
  clear hcell hn hO
  by_cases hbig : n > 200
  · have hd : decide ((n : Int) > 200) = true := by simp; omega
    go_enter Try.func4, Try.ntmps4
    go_wp2_with (first
      | (go_at_call 14; refine (new_any _).mono ?_; rintro e w1 ⟨rfl, hw1⟩; have HB1 : Hid (Below W.heap.size W w1) := (by (show Below _ _ _; rw [hw1]; exact below_alloc _ _)); clear hw1)
      | (go_at_call 8; refine (HSP.out _).mono ?_; rintro e w8 ⟨rfl, hb8⟩; have HB8 := hid (HB1.out.next hb8); clear hb8))
    go_ret
    exact ⟨rfl, HB8.out⟩
  · have hd : decide ((n : Int) > 200) = false := by simp; omega
    go_enter Try.func4, Try.ntmps4
    go_wp2_with (go_at_call 14; fail)
    refine (new_any _).mono ?_
    rintro e w1 ⟨rfl, hw1⟩
    have HC1 := hid (CI.new W.heap.size W (Nat.le_refl _))
    have HB1 : Hid (Below W.heap.size W w1) := by show Below _ _ _; rw [hw1]; exact below_alloc _ _
    have hs1 : w1.heap.size = W.heap.size + 1 := by rw [hw1]; simp
    rw [← hw1] at HC1
    clear hw1
    obtain ⟨g, hg⟩ : ∃ g, g = W.heap.size := ⟨_, rfl⟩
    have HG := hid hg
    rw [← hg] at HC1 HB1 hs1 ⊢
    clear hg
    have HR2 := hid (RI.new g w1 (by omega))
    have HB2 := hid (HB1.out.trans ((below_alloc w1 (.cells #[.slice none 0 0] 42)).mono (by omega)))
    have HC2 := hid (HC1.out.below (below_alloc w1 (.cells #[.slice none 0 0] 42)))
    obtain ⟨w2, hw2⟩ : ∃ w2, w2 = w1.alloc (.cells #[.slice none 0 0] 42) := ⟨_, rfl⟩
    rw [← hw2] at HR2 HB2 HC2
    rw [hs1] at HR2
    go_wp2
    first | rw [hs1, ← hw2] | rw [← hw2]
    clear hw2 hs1
    go_loopw [32] (fun i wr => ∃ (j : Nat) (L : List Ck), j ≤ n ∧ i = .int .i64 j ∧ Hid (CI g g wr L) ∧ Hid (RI g (g + 1) wr L) ∧ Hid (Below g W wr)) (fun i _ => n - (intOf i).toNat)
    case atStart => exact ⟨0, [], Nat.zero_le _, rfl, HC2, HR2, HB2⟩
    case round =>
      obtain ⟨j, L, hj, rfl, HCI, HRI, HB⟩ := hrel
      rename World => wr
      by_cases hlt : j < n
      · have hj' : j < l.length := by rw [← HN.out]; exact hlt
        obtain ⟨gb, off, e, hgb, ck⟩ := HC.out j hj'
        subst e
        have hco := HOK.out _ (List.getElem_mem hj')
        obtain ⟨y, hy⟩ : ∃ y, y = l[j]'hj' := ⟨_, rfl⟩
        rw [← hy] at ck hco
        have hsz : y.dat.size ≤ maxLen := by have := hco.dat; unfold maxLen; omega
        have hcl : ∀ q, q < 5 → wr.cell? ⟨gb, off + j * 5 + q, none⟩ = (Ck.cs y)[q]? := fun q hq => (HB.out.cell (p := ⟨gb, off + j * 5 + q, none⟩) (by show gb < g; rw [HG.out]; exact hgb)).trans (ck q hq)
        have a0 : wr.cell? ⟨gb, off + j * 5, none⟩ = some (.int .i64 y.dg) := hcl 0 (by omega)
        have a1 : wr.cell? ⟨gb, off + j * 5 + 1, none⟩ = some (.int .i64 y.tot) := hcl 1 (by omega)
        have a2 : wr.cell? ⟨gb, off + j * 5 + 2, none⟩ = some (.int .i64 y.num) := hcl 2 (by omega)
        have a3 : wr.cell? ⟨gb, off + j * 5 + 3, none⟩ = some (.string y.dat) := hcl 3 (by omega)
        have a4 : wr.cell? ⟨gb, off + j * 5 + 4, none⟩ = some (.int .i64 y.sm) := hcl 4 (by omega)
        have hgr := HRI.out.lt
        have HK3 := hid (KBox.made 24 wr y)
        have HB3 := hid (below_alloc wr (.cells y.cs.toArray 24))
        have HADD := hid (fun (w' : World) (h : CI g g w' L) (hb : g ≤ w'.heap.size) => add_any h y hsz hco.dg hb)
        have HRAD := hid (fun (w' : World) (h : RI g (g + 1) w' L) (hb : g ≤ w'.heap.size) => radd_any h HCI.out.ok y hsz hb)
        have HREF := hid (ref_any y)
        unfold AddR at HADD
        unfold RAddR at HRAD
        obtain ⟨L', hL'⟩ : ∃ L', L' = addL L y := ⟨_, rfl⟩
        obtain ⟨ab, hab⟩ : ∃ ab, ab = addB L y := ⟨_, rfl⟩
        obtain ⟨ae, hae⟩ : ∃ ae, ae = addE L y := ⟨_, rfl⟩
        rw [← hL', ← hab, ← hae] at HADD HRAD
        clear ck hcl hy hL' hab hae hsz hco
        obtain ⟨xd, xt, xn, xs, xm⟩ := y
        simp only [Ck.cs] at HK3 HB3
        simp only at a0 a1 a2 a3 a4
        have eb : (ab != ab) = false := by simp
        have ee : (ae != ae) = false := by simp
        go_wp2_with (go_at_call 15; fail)
        refine (HADD.out _ (HCI.out.below HB3.out) (by have := HB3.out.size; omega)).mono ?_
        rintro e w4 ⟨rfl, hc4, hb4, hf4⟩
        have HC4 := hid hc4
        have HB4 := hid (HB.out.trans ((HB3.out.mono (by omega)).trans hb4))
        have hK4 : KBox 24 wr.heap.size w4 ⟨xd, xt, xn, xs, xm⟩ := KBox.cfr HK3.out hf4 (by omega)
        have HK4 := hid hK4
        have HR4 := hid ((HRI.out.below HB3.out).cfr hf4 (by omega) (fun cs fz => by
          obtain ⟨mv, hm, _⟩ := (HCI.out.below HB3.out).mem
          rw [hm]
          simp))
        obtain ⟨b0, b1, b2, b3, b4⟩ := KBox.cell hK4
        simp only at b0 b1 b2 b3 b4
        clear hc4 hb4 hf4 hK4 a0 a1 a2 a3 a4
        go_wp2_with (go_at_call 13; fail)
        refine (HREF.out _).mono ?_
        rintro e w5 ⟨rfl, hb5⟩
        have HC5 := hid (HC4.out.below hb5)
        have HR5 := hid (HR4.out.below hb5)
        have HB5 := hid (HB4.out.trans (hb5.mono (by have := HC4.out.lt; omega)))
        clear hb5 b0 b1 b2 b3 b4
        go_wp2_with (go_at_call 16; fail)
        refine (HRAD.out _ HR5.out (by have := HR5.out.lt; omega)).mono ?_
        rintro e w6 ⟨rfl, hr6, hb6, hf6⟩
        have HR6 := hid hr6
        have HC6 := hid (HC5.out.rfr hf6 (by omega) (fun es c => by
          obtain ⟨v', hm, _⟩ := HR5.out.mem
          rw [hm]
          simp))
        have HB6 := hid (HB5.out.trans hb6)
        clear hr6 hb6 hf6
        go_wp2_with (go_at_call 17; fail)
        refine (blocks_any HC6.out).mono ?_
        rintro e w7 ⟨bv, rfl, hs7, hb7⟩
        have HC7 := hid (HC6.out.below hb7)
        have HR7 := hid (HR6.out.below hb7)
        have HB7 := hid (HB6.out.trans (hb7.mono (by have := HC6.out.lt; omega)))
        have HS7 := hid hs7
        clear hs7 hb7
        go_wp2_with (go_at_call 18; fail)
        refine (rblocks_any HR7.out HC7.out.ok).mono ?_
        rintro e w8 ⟨qv, rfl, hs8, hb8⟩
        have HC8 := hid (HC7.out.below hb8)
        have HR8 := hid (HR7.out.below hb8)
        have HB8 := hid (HB7.out.trans (hb8.mono (by have := HC7.out.lt; omega)))
        have HS8 := hid (HS7.out.below hb8)
        have HQ8 := hid hs8
        clear hs8 hb8
        obtain ⟨be, hbe⟩ : ∃ be, be = blkE L' := ⟨_, rfl⟩
        rw [← hbe]
        have e3 : (be != be) = false := by simp
        clear hbe
        obtain ⟨bo, bc', rfl, _, _, _⟩ := HS8.out
        obtain ⟨qo, qc', rfl, _, _, _⟩ := HQ8.out
        go_wp2_with (go_at_call 20; fail)
        refine (miss_any HC8.out).mono ?_
        rintro e w9 ⟨mv, rfl, hi9, hb9⟩
        have HC9 := hid (HC8.out.below hb9)
        have HR9 := hid (HR8.out.below hb9)
        have HB9 := hid (HB8.out.trans (hb9.mono (by have := HC8.out.lt; omega)))
        have HS9 := hid (HS8.out.below hb9)
        have HQ9 := hid (HQ8.out.below hb9)
        have HI9 := hid hi9
        clear hi9 hb9
        obtain ⟨mo, mc, rfl, _, _⟩ := HI9.out.len
        go_wp2_with (go_at_call 21; fail)
        refine (rmiss_any HR9.out HC9.out.ok).mono ?_
        rintro e w10 ⟨nv, rfl, hi10, hb10⟩
        have HC10 := hid (HC9.out.below hb10)
        have HR10 := hid (HR9.out.below hb10)
        have HB10 := hid (HB9.out.trans (hb10.mono (by have := HC9.out.lt; omega)))
        have HS10 := hid (HS9.out.below hb10)
        have HQ10 := hid (HQ9.out.below hb10)
        have HI10 := hid (HI9.out.below hb10)
        have HJ10 := hid hi10
        clear hi10 hb10
        obtain ⟨no, nc, rfl, _, _⟩ := HJ10.out.len
        go_wp2_with (go_at_call 19; fail)
        refine (ints_same HI10.out HJ10.out).mono ?_
        rintro e w11 ⟨rfl, q, rfl⟩
        go_wp2_with (go_at_call 22; fail)
        refine (texts_same (HS10.out.below ((Below.refl _ _).dN q)) (HQ10.out.below ((Below.refl _ _).dN q))).mono ?_
        rintro e w12 ⟨rfl, hb12⟩
        have HC12 := hid ((HC10.out.drew q).below hb12)
        have HR12 := hid ((HR10.out.drew q).below hb12)
        have HB12 := hid ((HB10.out.dN q).trans (hb12.mono (by have := HC10.out.lt; show g ≤ w10.heap.size; omega)))
        clear hb12
        go_wp2
        go_roundw
        case rel => exact ⟨j + 1, L', hlt, by simp, HC12, HR12, HB12⟩
        case measure => simp [intOf]; omega
      · go_wp2_with (go_at_call 8; refine (HSP.out _).mono ?_; rintro e w8 ⟨rfl, hb8⟩; have HB8 := hid (HB.out.trans (hb8.mono (by have := HCI.out.lt; omega))); clear hb8)
        go_ret
        exact ⟨rfl, by rw [← HG.out]; exact HB8.out⟩
end Go.Proofs.Ytogiiefaakejlaa
