import Derived.Test.YtmcahiebcflfoaaJc
namespace Go.Proofs.Ytmcahiebcflfoaa
open Go.RowKit Go.Maps
set_option maxRecDepth 100000 in
theorem write_any (g : Nat) (P : Int) (T F S : Nat) (sv : Value) (hP : 0 < P) (hT : T < 65536) (hF : F + S ≤ 9223372036854775807) (w : World) (h : JIs g w P T F sv S) : Calls Try.prog 39 #[.pointer (some ⟨g, 0, none⟩)] w fun e w' => e = .returned (.agg #[.int .i64 0, .string (hdB T F (F + S))]) ∧ Below w.heap.size w w' := by
  have HH := hid (fun w h => header_any g P T F S sv hP hT hF w h)
  have HJ := hid (h.below (below_alloc w (.cells #[.int .i64 0, .string ⟨#[]⟩] 42)))
  have HV := hid (box_at w (.cells #[.int .i64 0, .string ⟨#[]⟩] 42))
  obtain ⟨r, hr⟩ : ∃ r, r = hdB T F (F + S) := ⟨_, rfl⟩
  rw [← hr] at HH ⊢
  clear hr h
  go_enter Try.func39, Try.ntmps39
  go_wp2_with (first | (go_at_call 20; refine (HH.out _ HJ.out).mono ?_; rintro e w2 ⟨rfl, hb2⟩; have HV2 := hid ((hb2.block _ (lt_of_block HV.out)).trans HV.out); have HB2 := hid ((below_alloc _ _).next hb2); obtain ⟨q0, q1⟩ := two_cells HV2.out; have hl2 := lt_of_block HV2.out; have hf2 := frees HV2.out; clear hb2))
  have r0 : ((w2.setCell ⟨w.heap.size, 0, none⟩ (.int .i64 0)).setCell ⟨w.heap.size, 1, none⟩ (.string r)).cell? ⟨w.heap.size, 0, none⟩ = some (.int .i64 0) := by simp [World.cell?, World.setCell, Array.getElem?_modify, HV2.out]
  have r1 : ((w2.setCell ⟨w.heap.size, 0, none⟩ (.int .i64 0)).setCell ⟨w.heap.size, 1, none⟩ (.string r)).cell? ⟨w.heap.size, 1, none⟩ = some (.string r) := by simp [World.cell?, World.setCell, Array.getElem?_modify, HV2.out]
  refine bodyPost_ret (v := .agg #[.int .i64 0, .string r]) (by simp [results, Try.results39, go_sem, r0, r1]) rfl ⟨rfl, ?_⟩
  exact below_set _ (below_set _ HB2.out (Nat.le_refl _)) (Nat.le_refl _)
end Go.Proofs.Ytmcahiebcflfoaa
