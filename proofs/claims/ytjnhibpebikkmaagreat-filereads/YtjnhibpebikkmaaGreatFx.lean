import Derived.Test.YtjnhibpebikkmaaGreatFy
namespace Go.Proofs.YtjnhibpebikkmaaGreat
open Go.RowKit Go.Maps

set_option maxRecDepth 100000 in
set_option maxHeartbeats 2000000 in
theorem free_any {G : Geo} {p q cap m : Nat} {w : World} {F B : List ByteArray} (h : VI G p q cap m w F B) : Calls Tryz.prog 18 #[.pointer (some ⟨p, 0, none⟩)] w fun e w' => e = .returned (.int .i64 (freN G B)) ∧ Below w.heap.size w w' := by
  have hbm : G.bm < G.n := by have := h.ok.bt; have := h.ok.tz; have := h.ok.sum; have := h.ok.c4; omega
  have hn1 := h.ok.n1
  have hsm := h.ok.sum
  have HV := hid h
  have HK := hid (fun w' (hv : VI G p q cap m w' F B) => block_any (w := w') G.bm hbm hv)
  have HE := hid (fun w' (hv : VI G p q cap m w' F B) => end_any (w := w') hv)
  have HN := hid (vnone_any h)
  have HL := hid (count_ok (bk B G.bm) G.da G.ct (h.size _ hbm) (by omega))
  rw [show (G.da : Int) + (G.ct : Int) = (G.n : Int) by omega] at HL
  have hcl := cnt_le (bk B G.bm).data.toList G.da G.ct
  unfold freN
  obtain ⟨cn, hcn⟩ : ∃ cn, cn = cnt (bk B G.bm).data.toList G.da G.ct := ⟨_, rfl⟩
  rw [← hcn] at HL hcl ⊢
  have hwr : IntKind.i64.wrap ((G.ct : Int) - (cn : Int)) = (G.ct : Int) - (cn : Int) := by rw [IntKind.wrap_i64]; omega
  obtain ⟨kb, hkb⟩ : ∃ kb, kb = bk B G.bm := ⟨_, rfl⟩
  rw [← hkb] at HK HL
  clear h hbm hn1 hsm hkb hcl hcn
  go_enter Tryz.func18, Tryz.ntmps18
  go_wp2_with (first | (go_at_call 26; refine HN.out.mono ?_; rintro e w0 ⟨rfl, hw⟩; have hw := hw.symm; subst hw))
  have HV1 := HV
  have hc1 : w.cell? ⟨p, 1, none⟩ = some (.int .i64 (G.bm : Int)) ∧ w.cell? ⟨p, 3, none⟩ = some (.int .i64 (G.da : Int)) := ⟨(HV1.out.cell 1).trans rfl, (HV1.out.cell 3).trans rfl⟩
  clear HV
  go_region_held3 (fun w' => w'.cell? ⟨p, 1, none⟩ = some (.int .i64 (G.bm : Int)) ∧ w'.cell? ⟨p, 3, none⟩ = some (.int .i64 (G.da : Int))) (first | exact hc1 | exact hc5 | go_keep) (first
    | (go_at_call 40; refine (HK.out _ (by exact HV1.out.below ⟨rfl, rfl, rfl, Nat.le_refl _, fun _ _ => rfl⟩)).mono ?_; rintro e w5 ⟨rfl, hb5⟩
       have HB5 : Hid (Below w.heap.size w w5) := hid ⟨hb5.os, hb5.tape, hb5.output, hb5.size, hb5.block⟩
       have HV5 := hid (HV1.out.below HB5.out)
       have hc5 : w5.cell? ⟨p, 1, none⟩ = some (.int .i64 (G.bm : Int)) ∧ w5.cell? ⟨p, 3, none⟩ = some (.int .i64 (G.da : Int)) := ⟨(HV5.out.cell 1).trans rfl, (HV5.out.cell 3).trans rfl⟩
       clear hb5)
    | (go_at_call 41; refine (HE.out _ (by first | exact HV5.out.below ⟨rfl, rfl, rfl, Nat.le_refl _, fun _ _ => rfl⟩ | exact HV1.out.below ⟨rfl, rfl, rfl, Nat.le_refl _, fun _ _ => rfl⟩)).mono ?_; rintro e w6 ⟨rfl, j, hw⟩; have hw := hw.symm; subst hw)
    | (go_at_call 39; refine (HL.out _).mono ?_; rintro e w7 ⟨rfl, j, hw⟩; have hw := hw.symm; subst hw))
  all_goals
    have c4 : w5.cell? ⟨p, 4, none⟩ = some (.int .i64 (G.ct : Int)) := (HV5.out.cell 4).trans rfl
    go_wp2
    go_ret
    refine ⟨by first | rfl | rw [hwr], ?_⟩
    have hb := HB5.out
    exact ⟨hb.os, hb.tape, hb.output, hb.size, hb.block⟩
end Go.Proofs.YtjnhibpebikkmaaGreat
