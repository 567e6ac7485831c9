import Derived.Test.YtecfibabeimjoaaRg
namespace Go.Proofs.Ytecfibabeimjoaa
open Go.RowKit Go.Maps Go.Sort Go.Shelf
set_option maxRecDepth 100000 in
set_option maxHeartbeats 4000000 in
theorem lists_any {B C : Nat} {v u : Value} {l : List Msg} (hl : l.length ≤ 1024) (w : World) (h : LIs B w v l) (k : LR C w u l) : Calls Try.prog 19 #[v, u] w fun e w' => e = .returned (.bool true) ∧ Below w.heap.size w w' := by
  obtain ⟨ao, cap, rfl⟩ := h.len
  obtain ⟨bo, cbp, rfl⟩ := k.len
  have HL := hid h
  have HK := hid k
  have HRF := hid ref_any
  unfold valM at HRF
  clear h k
  go_enter Try.func19, Try.ntmps19
  go_wp2
  go_loopw [13] (fun i wr => ∃ q : Nat, i = .int .i64 q ∧ q ≤ l.length ∧ Below w.heap.size w wr) (fun i _ => l.length - (intOf i).toNat)
  case atStart => exact ⟨0, rfl, Nat.zero_le _, Below.refl _ _⟩
  case round =>
    obtain ⟨q, rfl, hq, hBq⟩ := hrel
    have HB := hid hBq
    clear hBq
    by_cases hqk : q < l.length
    · obtain ⟨gb, cap1, e, hc1, hc2, hbs, hgl, c0, c1, c2⟩ := (HL.out.below HB.out).cellsAt q hqk
      cases e
      obtain ⟨gr, cap2, e, hd1, hd2, hds, hdl, d0, d1, d2⟩ := (HK.out.below HB.out).cellsAt q hqk
      cases e
      obtain ⟨y, hy⟩ : ∃ y, y = l[q] := ⟨_, rfl⟩
      rw [← hy] at c0 c1 c2 d0 d1 d2
      clear hy
      unfold maxLen at hc2 hd2
      go_wp2
      have HDB := hid (Below.drew HB.out)
      go_region_held3 (fun w' => w'.cell? ⟨gb, q * 3, none⟩ = some (.int .i64 y.f) ∧ w'.cell? ⟨gb, q * 3 + 1, none⟩ = some (.int .i64 y.t) ∧ w'.cell? ⟨gb, q * 3 + 2, none⟩ = some (.string y.s) ∧ w'.cell? ⟨gr, q * 3, none⟩ = some (.int .i64 y.f) ∧ w'.cell? ⟨gr, q * 3 + 1, none⟩ = some (.int .i64 y.t) ∧ w'.cell? ⟨gr, q * 3 + 2, none⟩ = some (.string y.s)) (first | exact ⟨c0, c1, c2, d0, d1, d2⟩ | go_keep) (first
        | (go_at_call 13; refine (HRF.out y _).mono ?_; rintro e w5 ⟨rfl, hb5⟩; have HB5 := hid (HDB.out.next hb5); replace c0 := (hb5.cell (p := ⟨gb, q * 3, none⟩) hgl).trans c0; replace c1 := (hb5.cell (p := ⟨gb, q * 3 + 1, none⟩) hgl).trans c1; replace c2 := (hb5.cell (p := ⟨gb, q * 3 + 2, none⟩) hgl).trans c2; replace d0 := (hb5.cell (p := ⟨gr, q * 3, none⟩) hdl).trans d0; replace d1 := (hb5.cell (p := ⟨gr, q * 3 + 1, none⟩) hdl).trans d1; replace d2 := (hb5.cell (p := ⟨gr, q * 3 + 2, none⟩) hdl).trans d2; clear hb5))
      all_goals
        clear c0 c1 c2 d0 d1 d2
        go_wp2
        go_roundw
        case rel => exact ⟨q + 1, by go_num, by omega, HB5.out⟩
        case measure => simp [intOf]; omega
    · have hqe : q = l.length := by omega
      subst hqe
      go_wp2
      go_ret
      exact ⟨rfl, HB.out⟩
end Go.Proofs.Ytecfibabeimjoaa
