import Derived.Test.YtnoocgodnpjnoaaDoorRf
namespace Go.Proofs.YtnoocgodnpjnoaaDoor
open Go.RowKit

set_option maxRecDepth 100000 in
set_option maxHeartbeats 4000000 in
theorem once_walk (ts : List Stp) (w : World) {v : Value} (hT : TLie w v ts) : Calls Tryd.prog 4 #[v] w fun e w' => e = .returned (.bool true) ∧ Below w.heap.size w w' := by
  obtain ⟨ao, cap, rfl, hlc, hcm, hcell⟩ := hT
  unfold maxLen at hcm
  have HC := hid hcell
  clear hcell
  go_enter Tryd.func4, Tryd.ntmps4
  go_wp2_with (first
    | (go_at_call 7; refine (fnew_any _).mono ?_; rintro e w1 ⟨rfl, t1, b1⟩; have HO0 : Hid (OL w (w1.alloc (.cells #[.bool false, .bool false, .bool false, .bool false, .bool false, .bool false, .bool false, .bool false, .bool false, .bool false, .bool false, .bool false, .bool false, .bool false, .bool false, .bool false] 43)) w1.heap.size D0) := hid ⟨t1.below (below_alloc w1 _), OI.new w1, b1.next (below_alloc w1 _), t1.lt⟩; clear t1 b1))
  obtain ⟨q, hq⟩ : ∃ q, q = w1.heap.size := ⟨_, rfl⟩
  rw [← hq] at HO0
  rw [← hq]
  clear hq
  go_loopw [5, 17] (fun n i wr => ∃ (j : Nat) (c : Int) (D : Nat → Dsc), n = .int .i64 c ∧ i = .int .i64 j ∧ j ≤ ts.length ∧ c = (cnt D 16 : Nat) ∧ Hid (OL w wr q D)) (fun _ i _ => ts.length - (intOf i).toNat)
  case atStart => exact ⟨0, 0, D0, rfl, rfl, Nat.zero_le _, rfl, HO0⟩
  case round =>
    obtain ⟨j, c, D, rfl, rfl, hj, hc, HP⟩ := hrel
    rename World => wr
    have hcb : 0 ≤ c ∧ c ≤ 16 := by have := cnt_le D 16; omega
    have HCN := hid hc
    clear hc
    by_cases hlt : j < ts.length
    · obtain ⟨gb, off, ea, hgb, hat, hps⟩ := HC.out j hlt
      subst ea
      have hgr : gb < wr.heap.size := Nat.lt_of_lt_of_le hgb HP.out.bel.size
      have hblk := HP.out.bel.block gb hgb
      obtain ⟨s, hs⟩ : ∃ s, s = ts[j] := ⟨_, rfl⟩
      rw [← hs] at hat hps
      clear hs
      obtain ⟨sk, sf, sm, sn, sp⟩ := s
      simp only [] at hat hps
      obtain ⟨d0, d1, d2, d3, d4⟩ := hat
      simp only [] at d0 d1 d2 d3 d4
      have cc : ∀ o x, w.cell? ⟨gb, o, none⟩ = some x → wr.cell? ⟨gb, o, none⟩ = some x := fun o x h => by
        simp only [World.cell?] at h ⊢
        rw [hblk]; exact h
      replace d0 := cc _ _ d0
      replace d1 := cc _ _ d1
      replace d2 := cc _ _ d2
      replace d3 := cc _ _ d3
      replace d4 := cc _ _ d4
      clear cc hblk
      have HP1 := hid (HP.out.below (below_alloc wr (.cells #[.int .i64 sk, .int .i64 sf, .int .i64 sm, .int .i64 sn, .string sp] 30)))
      have HX1 : Hid (SBox wr.heap.size (wr.alloc (.cells #[.int .i64 sk, .int .i64 sf, .int .i64 sm, .int .i64 sn, .string sp] 30)) ⟨sk, sf, sm, sn, sp⟩) := hid (box_at _ _)
      have HG : Hid (wr.heap.size ≠ w.heap.size) := hid (by have := HP.out.ti.lt; omega)
      have HG2 : Hid (wr.heap.size ≠ q) := hid (by have := HP.out.oi.lt; omega)
      have HQ : Hid (q ≠ w.heap.size) := hid (by have := HP.out.gq; omega)
      by_cases h2 : sk < 2
      · have HR := hid (fun wx => rsplit_any sp wx hps)
        by_cases he : splE sp.data.toList = 0
        · rw [he] at HR
          cases hf : lf D 16 with
          | none =>
            have hcc : cnt D 16 = 16 := cnt_all D 16 (fun j hj => lf_none hf j hj)
            obtain rfl : c = 16 := by have := HCN.out; omega
            clear hcc hcb
            have HO := hid (open_full sp HP1.out.ti hps he hf)
            clear he hf
            go_wp2_with (first
              | (go_at_call 14; refine (HO.out).mono ?_; rintro e w2 ⟨rfl, b2⟩; have k2 : KP w.heap.size _ w2 := KP.of_below b2; have HX2 := hid (HX1.out.kept k2 HG.out); obtain ⟨y0, y1, y2, y3, y4⟩ := HX2.out.cells; have HP2 := hid (HP1.out.below b2); clear k2 b2)
              | (go_at_call 15; refine (HR.out _).mono ?_; rintro e w3 ⟨v3, rfl, _, b3⟩; have HP3 := hid (HP2.out.below b3); clear b3))
            go_roundw
            case rel => exact ⟨j + 1, _, D, rfl, by go_num, by omega, HCN.out, HP3⟩
            case measure => simp [intOf]; omega
          | some k =>
            obtain ⟨hk, hko, _⟩ := lf_some hf
            have HO := hid (open_ok sp k HP1.out.ti hps he hf)
            have HCM : Hid (c + 1 = (cnt (upd D k ⟨true, sp, 0⟩) 16 : Nat)) := hid (by have := HCN.out; rw [cnt_open hk hko rfl]; omega)
            have hcw : IntKind.i64.wrap (c + 1) = c + 1 := by rw [IntKind.wrap_i64]; omega
            have HKO := hid hko
            clear he hf hko
            go_wp2_with (first
              | (go_at_call 14; refine (HO.out).mono ?_; rintro e w2 ⟨rfl, t2, k2⟩; have HX2 := hid (HX1.out.kept k2 HG.out); obtain ⟨y0, y1, y2, y3, y4⟩ := HX2.out.cells; have HT2 := hid t2; have HK2 := hid k2; clear k2 t2)
              | (go_at_call 15; refine (HR.out _).mono ?_; rintro e w3 ⟨v3, rfl, _, b3⟩; have HK3 := hid (HK2.out.then b3); have HT3 := hid (HT2.out.below b3); clear b3; have z0 := (HP1.out.oi.kept HK3.out HQ.out).cell k hk; rw [HKO.out] at z0; have f0 := (HP1.out.oi.kept HK3.out HQ.out).free k))
            go_roundw
            case rel => exact ⟨j + 1, _, _, rfl, by go_num, by omega, HCM.out, hid (HP1.out.set (x := ⟨true, sp, 0⟩) HT3.out HK3.out rfl hk)⟩
            case measure => simp [intOf]; omega
        · have HO := hid (fun p wx => open_err (p := p) sp wx hps he)
          obtain ⟨x, hx⟩ : ∃ x, x = splE sp.data.toList := ⟨_, rfl⟩
          rw [← hx] at HR HO he
          have hne : (x == 0) = false := by rw [beq_eq_false_iff_ne]; exact he
          clear hx
          go_wp2_with (first
            | (go_at_call 14; refine (HO.out _ _).mono ?_; rintro e w2 ⟨rfl, b2⟩; have k2 : KP w.heap.size _ w2 := KP.of_below b2; have HX2 := hid (HX1.out.kept k2 HG.out); obtain ⟨y0, y1, y2, y3, y4⟩ := HX2.out.cells; have HP2 := hid (HP1.out.below b2); clear k2 b2)
            | (go_at_call 15; refine (HR.out _).mono ?_; rintro e w3 ⟨v3, rfl, _, b3⟩; have HP3 := hid (HP2.out.below b3); clear b3))
          go_roundw
          case rel => exact ⟨j + 1, _, D, rfl, by go_num, by omega, HCN.out, HP3⟩
          case measure => simp [intOf]; omega
      · cases ho : opn D sf with
        | true =>
          obtain ⟨k, rfl, hk, hko⟩ := opn_parts ho
          have HO := hid (close_yes k HP1.out.ti hk hko)
          have HCM : Hid (c - 1 = (cnt (upd D k Dsc.zero) 16 : Nat)) := hid (by have := HCN.out; have := cnt_shut (D := D) (x := Dsc.zero) hk hko rfl; omega)
          have hcw : IntKind.i64.wrap (c - 1) = c - 1 := by rw [IntKind.wrap_i64]; omega
          have HKO := hid hko
          clear ho hko
          go_wp2_with (first
            | (go_at_call 16; refine (HO.out).mono ?_; rintro e w2 ⟨rfl, t2, k2⟩; have HX2 := hid (HX1.out.kept k2 HG.out); obtain ⟨y0, y1, y2, y3, y4⟩ := HX2.out.cells; have HT2 := hid t2; have HK2 := hid k2; clear k2 t2; have z0 := (HP1.out.oi.kept HK2.out HQ.out).cell k hk; rw [HKO.out] at z0; have f0 := (HP1.out.oi.kept HK2.out HQ.out).free k))
          go_roundw
          case rel => exact ⟨j + 1, _, _, rfl, by go_num, by omega, HCM.out, hid (HP1.out.set (x := Dsc.zero) HT2.out HK2.out rfl hk)⟩
          case measure => simp [intOf]; omega
        | false =>
          have HO := hid (close_any sf HP1.out.ti)
          unfold closE closD at HO
          rw [ho] at HO
          simp only [Bool.false_eq_true, if_false] at HO
          clear ho
          go_wp2_with (first
            | (go_at_call 16; refine (HO.out).mono ?_; rintro e w2 ⟨rfl, t2, k2⟩; have HP2 : Hid (OL w w2 q D) := hid ⟨t2, HP1.out.oi.kept k2 HQ.out, KP.new HP1.out.bel k2 (Nat.le_refl _), HP1.out.gq⟩; clear k2 t2))
          go_roundw
          case rel => exact ⟨j + 1, _, D, rfl, by go_num, by omega, HCN.out, HP2⟩
          case measure => simp [intOf]; omega
    · obtain ⟨n8, hn8, HL⟩ : ∃ n8 : Nat, c = (n8 : Int) ∧ Hid (Calls Tryd.prog 12 #[.pointer (some ⟨w.heap.size, 0, none⟩)] wr fun e w' => ∃ ao8 cap8, e = .returned (.slice ao8 n8 cap8) ∧ Below wr.heap.size wr w') :=
        ⟨_, HCN.out, hid ((list_any HP.out.ti).mono (by rintro e w8 ⟨v8, rfl, r8, b8⟩; obtain ⟨ao8, cap8, rfl, _, _⟩ := r8.len; exact ⟨ao8, cap8, rfl, b8⟩))⟩
      subst hn8
      clear HCN
      go_wp2_with (first
        | (go_at_call 12; refine (HL.out).mono ?_; rintro e w8 ⟨ao8, cap8, rfl, b8⟩; have HB8 := hid (HP.out.bel.next b8); clear b8)
        | (go_at_call 13; refine (speaks_any _).mono ?_; rintro e w9 ⟨rfl, b9⟩))
      go_ret
      exact ⟨rfl, HB8.out.next b9⟩
end Go.Proofs.YtnoocgodnpjnoaaDoor
