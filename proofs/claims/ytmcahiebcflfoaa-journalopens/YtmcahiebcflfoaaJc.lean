import Derived.Test.YtmcahiebcflfoaaJb
import Derived.Deep.RegionHeld3
namespace Go.Proofs.Ytmcahiebcflfoaa
open Go.RowKit Go.Maps
/-- a header's text, and its block -/
def hdL (T F E : Nat) : List UInt8 := [72] ++ (fEnc T 2 ++ fEnc F 8 ++ fEnc E 8)
def hdB (T F E : Nat) : ByteArray := st (sealL (bodyL (hdL T F E)))
theorem hdL_len (T F E : Nat) : (hdL T F E).length = 19 := by unfold hdL; simp [fEnc_len]
theorem JIs.kept {g base g' : Nat} {w w' : World} {P T F S : Int} {sv : Value} (h : JIs g w P T F sv S) (k : Kept base g' w w') (hb : g < base) (hg : g ≠ g') : JIs g w' P T F sv S := (k.block g hb hg).trans h
theorem JIs.below {g : Nat} {w w' : World} {P T F S : Int} {sv : Value} (h : JIs g w P T F sv S) (k : Below w.heap.size w w') : JIs g w' P T F sv S := (k.block g h.lt).trans h
set_option maxRecDepth 100000 in
set_option maxHeartbeats 4000000 in
theorem header_any (g : Nat) (P : Int) (T F S : Nat) (sv : Value) (hP : 0 < P) (hT : T < 65536) (hF : F + S ≤ 9223372036854775807) (w : World) (h : JIs g w P T F sv S) : Calls Try.prog 20 #[.pointer (some ⟨g, 0, none⟩)] w fun e w' => e = .returned (.string (hdB T F (F + S))) ∧ Below w.heap.size w w' := by
  have HN := hid (none_any g P T F S sv hP w h)
  have hlt := h.lt
  have HF1 := hid (fun (base g : Nat) w h1 h2 => fixed_w base g T 2 [] (by omega) (by decide) (fits_2 _ hT) (by decide) w h1 h2)
  have HF2 := hid (fun (base g : Nat) w h1 h2 => fixed_w base g F 8 (fEnc T 2) (by omega) (by decide) (fits_8 _) (by rw [fEnc_len]; decide) w h1 h2)
  have HF3 := hid (fun (base g : Nat) w h1 h2 => fixed_w base g (F + S) 8 (fEnc T 2 ++ fEnc F 8) (by omega) (by decide) (fits_8 _) (by simp [fEnc_len]) w h1 h2)
  rw [List.nil_append] at HF1
  rw [show ((2 : Nat) : Int) = 2 from rfl] at HF1
  rw [show ((8 : Nat) : Int) = 8 from rfl] at HF2 HF3
  rw [show ((F + S : Nat) : Int) = (F : Int) + (S : Int) by omega] at HF3
  obtain ⟨l1, hl1⟩ : ∃ l, l = fEnc T 2 := ⟨_, rfl⟩
  obtain ⟨l2, hl2⟩ : ∃ l, l = fEnc T 2 ++ fEnc F 8 := ⟨_, rfl⟩
  obtain ⟨l3, hl3⟩ : ∃ l, l = fEnc T 2 ++ fEnc F 8 ++ fEnc (F + S) 8 := ⟨_, rfl⟩
  rw [← hl3, ← hl2] at HF3
  rw [← hl2, ← hl1] at HF2
  rw [← hl1] at HF1
  obtain ⟨u, hu⟩ : ∃ u, ({ data := #[72] } : ByteArray) ++ st l3 = u := ⟨_, rfl⟩
  have hul : u.data.toList = hdL T F (F + S) := by rw [← hu, hl3]; unfold hdL; simp [st]
  have HK := hid (fun w => block_any u (by rw [← len_list, hul, hdL_len]; decide) w)
  rw [hul] at HK
  have HU := hid hu
  obtain ⟨r, hr⟩ : ∃ r, r = hdB T F (F + S) := ⟨_, rfl⟩
  have HR : Hid (st (sealL (bodyL (hdL T F (F + S)))) = r) := by show _ = _; rw [hr]; rfl
  rw [HR.out] at HK
  rw [← hr]
  have hs3 : (st l3).size = 18 := by rw [st_size, hl3]; simp [fEnc_len]
  clear hl1 hl2 hl3 hu hul hr
  obtain ⟨z, hz⟩ : ∃ z, z = st l3 := ⟨_, rfl⟩
  have HZ := hid hz
  rw [← hz] at hs3 HU
  clear hz
  obtain ⟨c0, c1, c2, c3, c4⟩ := h.cells
  go_enter Try.func20, Try.ntmps20
  go_wp2_with (first
    | (go_at_call 38; refine (HN.out).mono ?_; rintro e w1 ⟨rfl, hw⟩; have hw := hw.symm; subst hw)
    | (go_at_call 40; fail))
  refine (new_any _).mono ?_
  rintro e w1 ⟨rfl, rfl⟩
  have HW0 := hid (WIs.new w w.heap.size)
  have HJ1 := hid (h.below (below_alloc w (.cells #[.slice none 0 0] 111)))
  have HB1 := hid (below_alloc w (.cells #[.slice none 0 0] 111))
  obtain ⟨w1, hw1⟩ : ∃ w1, w1 = w.alloc (.cells #[.slice none 0 0] 111) := ⟨_, rfl⟩
  rw [← hw1] at HW0 HJ1 HB1 ⊢
  have hz1 : w.heap.size < w1.heap.size := by rw [hw1]; simp
  clear hw1 c0 c1 c2 c3 c4
  obtain ⟨c0, c1, c2, c3, c4⟩ := HJ1.out.cells
  have hl1 := HJ1.out.lt
  go_wp2_with (first
    | (go_at_call 41; have hk := HW2; clear hk; refine (HF2.out _ _ _ HW2.out (by omega)).mono ?_; rintro e w3 ⟨rfl, hw3, hk3⟩; have HW3 := hid hw3; have HJ3 := hid (HJ2.out.kept hk3 hlt (by omega)); have HK3 := hid hk3; have hz3 := hk3.size; clear hw3 hk3 c0 c1 c2 c3 c4 hl1; obtain ⟨c0, c1, c2, c3, c4⟩ := HJ3.out.cells; have hl1 := HJ3.out.lt)
    | (go_at_call 41; refine (HF1.out _ _ _ HW0.out (by omega)).mono ?_; rintro e w2 ⟨rfl, hw2, hk2⟩; have HW2 := hid hw2; have HJ2 := hid (HJ1.out.kept hk2 hlt (by omega)); have HK2 := hid hk2; have hz2 := hk2.size; clear hw2 hk2 c0 c1 c2 c3 c4 hl1; obtain ⟨c0, c1, c2, c3, c4⟩ := HJ2.out.cells; have hl1 := HJ2.out.lt))
  have hwr : IntKind.i64.wrap ((F : Int) + (S : Int)) = (F : Int) + (S : Int) := by
    rw [IntKind.wrap_i64]; omega
  have HW3d : Hid (WIs w.heap.size w.heap.size w3.drew l2) := by
    obtain ⟨v, k1, k2⟩ := HW3.out
    exact ⟨v, k1, k2⟩
  have hz3d : w.heap.size ≤ w3.drew.heap.size := by show w.heap.size ≤ w3.heap.size; omega
  go_region_held3 (fun w' => w'.cell? ⟨g, 2, none⟩ = some (.int .i64 (F : Int)) ∧ w'.cell? ⟨g, 4, none⟩ = some (.int .i64 (S : Int))) (first | exact ⟨c2, c4⟩ | exact ⟨d2, d4⟩ | go_keep) (first
    | (go_at_call 41; refine (HF3.out w.heap.size w.heap.size w3.drew HW3d.out hz3d).mono ?_; rintro e w5 ⟨rfl, hw5, hk5⟩; obtain ⟨d0, d1, d2, d3, d4⟩ := (HJ3.out.kept (w' := w5) (g' := w.heap.size) (base := w.heap.size) ⟨hk5.os, hk5.tape, hk5.output, hk5.size, hk5.block⟩ hlt (by omega)).cells))
  all_goals
    go_wp2_with (first
      | (go_at_call 43; refine (out_w _ _ l3 _ hw5).mono ?_; rintro e w6 ⟨rfl, hw⟩; have hw := hw.symm; subst hw; rw [← HZ.out])
      | (go_at_call 42; rw [HU.out]; refine (HK.out _).mono ?_; rintro e w7 ⟨rfl, hb7⟩))
    go_ret
    have k3 : Below w.heap.size w w3 := (HB1.out.trans (HK2.out.below (Nat.le_refl _) (Nat.le_refl _))).trans (HK3.out.below (Nat.le_refl _) (Nat.le_refl _))
    have k5 := hk5.below (B := w.heap.size) (Nat.le_refl _) (Nat.le_refl _)
    have k6 : Below w.heap.size w w5 := k3.trans ⟨k5.os, k5.tape, k5.output, k5.size, k5.block⟩
    exact ⟨rfl, k6.next hb7⟩
end Go.Proofs.Ytmcahiebcflfoaa
