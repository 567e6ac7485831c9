import Derived.Test.YtopebghandojbaaGreatTf
import Derived.Deep.RegionHeld3
import Derived.ArgAppend
namespace Go.Proofs.YtopebghandojbaaGreat
open Go.RowKit Go.Maps
theorem none_nil (w : World) : Calls Tryz.prog 90 #[.pointer none] w fun e w' => e = .returned (.bool true) ∧ w' = w := by
  go_enter Tryz.func90, Tryz.ntmps90
  go_wp2
  go_ret
  exact ⟨rfl, rfl⟩
theorem next_nil (w : World) : Calls Tryz.prog 54 #[.pointer none] w fun e w' => e = .returned (.int .i64 0) ∧ w' = w := by
  go_enter Tryz.func54, Tryz.ntmps54
  go_wp2_with (first | (go_at_call 90; refine (none_nil _).mono ?_; rintro e w1 ⟨rfl, rfl⟩))
  go_ret
  exact ⟨rfl, rfl⟩
theorem append_nil (v : Value) (l : List Chg) (w : World) (h : CLie w v l) : Calls Tryz.prog 65 #[.pointer none, v] w fun e w' => (∃ v', e = .returned (.tuple #[v', .int .i64 (if right l then 5 else 70)])) ∧ Below w.heap.size w w' := by
  have HC := hid (check_any v l w h)
  have HE := hid (fun w => encode_arg 0 v (by omega) w)
  cases hr : right l with
  | false =>
    rw [hr] at HC
    simp only [Bool.false_eq_true, if_false] at HC ⊢
    go_enter Tryz.func65, Tryz.ntmps65
    go_wp2_with (first | (go_at_call 63; refine (HC.out).mono ?_; rintro e w1 ⟨rfl, hb1⟩))
    go_ret2
    exact ⟨⟨_, rfl⟩, hb1⟩
  | true =>
    rw [hr] at HC
    simp only [if_true] at HC ⊢
    go_enter Tryz.func65, Tryz.ntmps65
    go_wp2_with (first
      | (go_at_call 63; refine (HC.out).mono ?_; rintro e w1 ⟨rfl, hb1⟩)
      | (go_at_call 54; refine (next_nil _).mono ?_; rintro e w2 ⟨rfl, hw⟩; have hw := hw.symm; subst hw)
      | (go_at_call 112; refine (HE.out _).mono ?_; rintro e w3 ⟨rfl, hw⟩; have hw := hw.symm; subst hw))
    go_ret2
    exact ⟨⟨_, rfl⟩, hb1⟩
/-- a journal in memory -/
def JIs (g : Nat) (w : World) (P T F : Int) (sv : Value) (S : Int) : Prop := w.heap[g]? = some (.cells #[.int .i64 P, .int .i64 T, .int .i64 F, sv, .int .i64 S] 156 (0, 0))
theorem JIs.cells {g : Nat} {w : World} {P T F S : Int} {sv : Value} (h : JIs g w P T F sv S) : w.cell? ⟨g, 0, none⟩ = some (.int .i64 P) ∧ w.cell? ⟨g, 1, none⟩ = some (.int .i64 T) ∧ w.cell? ⟨g, 2, none⟩ = some (.int .i64 F) ∧ w.cell? ⟨g, 3, none⟩ = some sv ∧ w.cell? ⟨g, 4, none⟩ = some (.int .i64 S) := by
  unfold JIs at h
  refine ⟨?_, ?_, ?_, ?_, ?_⟩ <;> simp [World.cell?, h]
theorem JIs.lt {g : Nat} {w : World} {P T F S : Int} {sv : Value} (h : JIs g w P T F sv S) : g < w.heap.size := lt_of_block h
theorem isRegion_any (n : Int) (w : World) : Calls Tryz.prog 85 #[.int .i64 n] w fun e w' => e = .returned (.bool (decide (8 ≤ n ∧ n ≤ 256))) ∧ w' = w := by
  by_cases h1 : 8 ≤ n
  · go_enter Tryz.func85, Tryz.ntmps85
    go_wp2
    go_ret
    exact ⟨by simp [h1], rfl⟩
  · go_enter Tryz.func85, Tryz.ntmps85
    go_wp2
    go_ret
    exact ⟨by have : ¬ (8 ≤ n) := by omega
              simp [this], rfl⟩
theorem none_any (g : Nat) (P T F S : Int) (sv : Value) (hP : 0 < P) (w : World) (h : JIs g w P T F sv S) : Calls Tryz.prog 90 #[.pointer (some ⟨g, 0, none⟩)] w fun e w' => e = .returned (.bool false) ∧ w' = w := by
  obtain ⟨c0, c1, c2, c3, c4⟩ := h.cells
  have hP' : (P == 0) = false := by simp; omega
  go_enter Tryz.func90, Tryz.ntmps90
  go_wp2
  go_ret
  exact ⟨rfl, rfl⟩
theorem count_any (g : Nat) (P T F S : Int) (ao : Option Addr) (n cap : Nat) (hP : 0 < P) (w : World) (h : JIs g w P T F (.slice ao n cap) S) : Calls Tryz.prog 102 #[.pointer (some ⟨g, 0, none⟩)] w fun e w' => e = .returned (.tuple #[.int .i64 n, .int .i64 S]) ∧ ∃ q, w' = w.drewN q := by
  have HN := hid (none_any g P T F S _ hP w h)
  obtain ⟨c0, c1, c2, c3, c4⟩ := h.cells
  go_enter Tryz.func102, Tryz.ntmps102
  go_wp2_with (first | (go_at_call 90; refine (HN.out).mono ?_; rintro e w1 ⟨rfl, hw⟩; have hw := hw.symm; subst hw))
  go_quiet ((fail))
  go_wp2
  go_ret2
  exact ⟨rfl, _, rfl⟩
theorem next_any (g : Nat) (P T F S : Int) (ao : Option Addr) (n cap : Nat) (hn : n ≤ 300) (hF : 0 ≤ F) (hF2 : F ≤ 1099511628000) (hP : 0 < P) (w : World) (h : JIs g w P T F (.slice ao n cap) S) : Calls Tryz.prog 54 #[.pointer (some ⟨g, 0, none⟩)] w fun e w' => e = .returned (.int .i64 (F + n)) ∧ ∃ q, w' = w.drewN q := by
  have HN := hid (none_any g P T F S _ hP w h)
  obtain ⟨c0, c1, c2, c3, c4⟩ := h.cells
  go_enter Tryz.func54, Tryz.ntmps54
  go_wp2_with (first | (go_at_call 90; refine (HN.out).mono ?_; rintro e w1 ⟨rfl, hw⟩; have hw := hw.symm; subst hw))
  go_quiet ((fail))
  go_wp2
  go_ret
  exact ⟨rfl, _, rfl⟩
end Go.Proofs.YtopebghandojbaaGreat
namespace Go.Proofs.YtopebghandojbaaGreat
open Go.RowKit Go.Maps
/-- numbers together -/
def sumI : List Int → Int
  | [] => 0
  | x :: l => x + sumI l
theorem sumI_snoc : ∀ (l : List Int) (x : Int), sumI (l ++ [x]) = sumI l + x
  | [], x => by simp [sumI]
  | y :: l, x => by
    show y + sumI (l ++ [x]) = y + sumI l + x
    rw [sumI_snoc l x]; omega
theorem sumI_nn : ∀ {l : List Int}, (∀ x ∈ l, 0 ≤ x) → 0 ≤ sumI l
  | [], _ => Int.le_refl _
  | y :: l, h => by
    have h1 := sumI_nn (l := l) (fun x hx => h x (by simp [hx]))
    have h2 := h y (by simp)
    show 0 ≤ y + sumI l
    omega
theorem sumI_app (a b : List Int) : sumI (a ++ b) = sumI a + sumI b := by
  induction a with
  | nil => simp [sumI]
  | cons x a ih => show x + sumI (a ++ b) = x + sumI a + sumI b; rw [ih]; omega
theorem sumI_take {l : List Int} (h : ∀ x ∈ l, 0 ≤ x) (q : Nat) : 0 ≤ sumI (l.take q) ∧ sumI (l.take q) ≤ sumI l := by
  have h1 := sumI_nn (l := l.take q) (fun x hx => h x (List.mem_of_mem_take hx))
  have h2 := sumI_nn (l := l.drop q) (fun x hx => h x (List.mem_of_mem_drop hx))
  have h3 := sumI_app (l.take q) (l.drop q)
  rw [List.take_append_drop] at h3
  omega
set_option maxRecDepth 100000 in
theorem total_any (v : Value) (l : List Int) (hn : ∀ x ∈ l, 0 ≤ x) (hs : sumI l ≤ 1000000) (w : World) (h : ILie w v l) : Calls Tryz.prog 111 #[v] w fun e w' => e = .returned (.int .i64 (sumI l)) ∧ w' = w := by
  obtain ⟨ao, cap, rfl, hlc, hcm, hcell⟩ := h
  have HC := hid hcell
  have HN := hid hn
  clear hcell hn
  unfold maxLen at hcm
  obtain ⟨A, hA⟩ : ∃ A, A = sumI l := ⟨_, rfl⟩
  rw [← hA] at hs ⊢
  have HA := hid hA
  clear hA
  go_enter Tryz.func111, Tryz.ntmps111
  go_wp2
  go_loopw [3, 8] (fun s i wr => ∃ (q : Nat) (t : Int), i = .int .i64 q ∧ q ≤ l.length ∧ s = .int .i64 t ∧ t = sumI (l.take q) ∧ wr = w) (fun _ i _ => l.length - (intOf i).toNat)
  case atStart => exact ⟨0, 0, rfl, Nat.zero_le _, rfl, rfl, rfl⟩
  case round =>
    obtain ⟨q, t, rfl, hq, rfl, ht, hw⟩ := hrel
    subst hw
    have HT := hid ht
    have hb := sumI_take HN.out q
    rw [← ht, ← HA.out] at hb
    clear ht
    by_cases hqk : q < l.length
    · obtain ⟨gb, off, e, hgl, c0⟩ := HC.out q hqk
      subst e
      have hb2 := sumI_take HN.out (q + 1)
      have HS : Hid (sumI (l.take (q + 1)) = t + l[q]) := by show _ = _; rw [List.take_succ_eq_append_getElem hqk, sumI_snoc, HT.out]
      rw [HS.out, ← HA.out] at hb2
      obtain ⟨x, hx⟩ : ∃ x, x = l[q] := ⟨_, rfl⟩
      rw [← hx] at c0 hb2 HS
      clear hx
      go_wp2
      go_roundw
      case rel => exact ⟨q + 1, t + x, by go_num, by omega, rfl, HS.out.symm, trivial⟩
      case measure => simp [intOf]; omega
    · have hqe : q = l.length := by omega
      subst hqe
      rw [List.take_length] at HT
      go_wp2
      go_ret
      have e : t = A := by rw [HT.out, HA.out]
      exact ⟨by rw [← e]; rfl, rfl⟩
theorem place_any (g : Nat) (P T F S p : Int) (sv : Value) (hP : 0 < P) (hp : 0 ≤ p) (w : World) (h : JIs g w P T F sv S) : Calls Tryz.prog 113 #[.pointer (some ⟨g, 0, none⟩), .int .i64 p] w fun e w' => e = .returned (.int .i64 (p % P)) ∧ w' = w := by
  obtain ⟨c0, c1, c2, c3, c4⟩ := h.cells
  have hP' : (P == 0) = false := by simp; omega
  go_enter Tryz.func113, Tryz.ntmps113
  go_wp2
  go_ret
  exact ⟨rfl, rfl⟩
theorem free_any (g : Nat) (P T F S : Int) (sv : Value) (l : List Int) (hn : ∀ x ∈ l, 0 ≤ x) (hs : sumI l ≤ P) (hP : 0 < P) (hP2 : P ≤ 300) (w : World) (h : JIs g w P T F sv S) (hl : ILie w sv l) : Calls Tryz.prog 64 #[.pointer (some ⟨g, 0, none⟩)] w fun e w' => e = .returned (.int .i64 (P - sumI l)) ∧ ∃ q, w' = w.drewN q := by
  have HN := hid (none_any g P T F S sv hP w h)
  obtain ⟨c0, c1, c2, c3, c4⟩ := h.cells
  have HT := hid (fun w h => total_any sv l hn (by omega) w h)
  have HL := hid hl
  have h0 := sumI_nn hn
  obtain ⟨A, hA⟩ : ∃ A, A = sumI l := ⟨_, rfl⟩
  rw [← hA] at HT hs h0 ⊢
  clear hA hn
  obtain ⟨ao, cap, rfl, _⟩ := hl
  go_enter Tryz.func64, Tryz.ntmps64
  go_wp2_with (first | (go_at_call 90; refine (HN.out).mono ?_; rintro e w1 ⟨rfl, hw⟩; have hw := hw.symm; subst hw))
  go_quiet ((go_at_call 111; exact Calls.quiet_of_same (HT.out _ (by exact HL.out.below ⟨rfl, rfl, rfl, Nat.le_refl _, fun _ _ => rfl⟩))))
  go_wp2
  go_ret
  exact ⟨rfl, _, rfl⟩
end Go.Proofs.YtopebghandojbaaGreat
namespace Go.Proofs.YtopebghandojbaaGreat
open Go.RowKit Go.Maps
/-- a header's text, and its block -/
def hdL (T F E : Nat) : List UInt8 := [72] ++ (fEnc T 2 ++ fEnc F 8 ++ fEnc E 8)
def hdB (T F E : Nat) : ByteArray := st (sealL (bodyL (hdL T F E)))
theorem hdL_len (T F E : Nat) : (hdL T F E).length = 19 := by unfold hdL; simp [fEnc_len]
theorem JIs.kept {g base g' : Nat} {w w' : World} {P T F S : Int} {sv : Value} (h : JIs g w P T F sv S) (k : Kept base g' w w') (hb : g < base) (hg : g ≠ g') : JIs g w' P T F sv S := (k.block g hb hg).trans h
theorem JIs.below {g : Nat} {w w' : World} {P T F S : Int} {sv : Value} (h : JIs g w P T F sv S) (k : Below w.heap.size w w') : JIs g w' P T F sv S := (k.block g h.lt).trans h
set_option maxRecDepth 100000 in
set_option maxHeartbeats 4000000 in
theorem header_any (g : Nat) (P : Int) (T F S : Nat) (sv : Value) (hP : 0 < P) (hT : T < 65536) (hF : F + S ≤ 9223372036854775807) (w : World) (h : JIs g w P T F sv S) : Calls Tryz.prog 45 #[.pointer (some ⟨g, 0, none⟩)] w fun e w' => e = .returned (.string (hdB T F (F + S))) ∧ Below w.heap.size w w' := by
  have HN := hid (none_any g P T F S sv hP w h)
  have hlt := h.lt
  have HF1 := hid (fun (base g : Nat) w h1 h2 => fixed_w base g T 2 [] (by omega) (by decide) (fits_2 _ hT) (by decide) w h1 h2)
  have HF2 := hid (fun (base g : Nat) w h1 h2 => fixed_w base g F 8 (fEnc T 2) (by omega) (by decide) (fits_8 _) (by rw [fEnc_len]; decide) w h1 h2)
  have HF3 := hid (fun (base g : Nat) w h1 h2 => fixed_w base g (F + S) 8 (fEnc T 2 ++ fEnc F 8) (by omega) (by decide) (fits_8 _) (by simp [fEnc_len]) w h1 h2)
  rw [List.nil_append] at HF1
  rw [show ((2 : Nat) : Int) = 2 from rfl] at HF1
  rw [show ((8 : Nat) : Int) = 8 from rfl] at HF2 HF3
  rw [show ((F + S : Nat) : Int) = (F : Int) + (S : Int) by omega] at HF3
  obtain ⟨l1, hl1⟩ : ∃ l, l = fEnc T 2 := ⟨_, rfl⟩
  obtain ⟨l2, hl2⟩ : ∃ l, l = fEnc T 2 ++ fEnc F 8 := ⟨_, rfl⟩
  obtain ⟨l3, hl3⟩ : ∃ l, l = fEnc T 2 ++ fEnc F 8 ++ fEnc (F + S) 8 := ⟨_, rfl⟩
  rw [← hl3, ← hl2] at HF3
  rw [← hl2, ← hl1] at HF2
  rw [← hl1] at HF1
  obtain ⟨u, hu⟩ : ∃ u, ({ data := #[72] } : ByteArray) ++ st l3 = u := ⟨_, rfl⟩
  have hul : u.data.toList = hdL T F (F + S) := by rw [← hu, hl3]; unfold hdL; simp [st]
  have HK := hid (fun w => block_any u (by rw [← len_list, hul, hdL_len]; decide) w)
  rw [hul] at HK
  have HU := hid hu
  obtain ⟨r, hr⟩ : ∃ r, r = hdB T F (F + S) := ⟨_, rfl⟩
  have HR : Hid (st (sealL (bodyL (hdL T F (F + S)))) = r) := by show _ = _; rw [hr]; rfl
  rw [HR.out] at HK
  rw [← hr]
  have hs3 : (st l3).size = 18 := by rw [st_size, hl3]; simp [fEnc_len]
  clear hl1 hl2 hl3 hu hul hr
  obtain ⟨z, hz⟩ : ∃ z, z = st l3 := ⟨_, rfl⟩
  have HZ := hid hz
  rw [← hz] at hs3 HU
  clear hz
  obtain ⟨c0, c1, c2, c3, c4⟩ := h.cells
  go_enter Tryz.func45, Tryz.ntmps45
  go_wp2_with (first
    | (go_at_call 90; refine (HN.out).mono ?_; rintro e w1 ⟨rfl, hw⟩; have hw := hw.symm; subst hw)
    | (go_at_call 86; fail))
  refine (new_any _).mono ?_
  rintro e w1 ⟨rfl, rfl⟩
  have HW0 := hid (WIs.new w w.heap.size)
  have HJ1 := hid (h.below (below_alloc w (.cells #[.slice none 0 0] 201)))
  have HB1 := hid (below_alloc w (.cells #[.slice none 0 0] 201))
  obtain ⟨w1, hw1⟩ : ∃ w1, w1 = w.alloc (.cells #[.slice none 0 0] 201) := ⟨_, rfl⟩
  rw [← hw1] at HW0 HJ1 HB1 ⊢
  have hz1 : w.heap.size < w1.heap.size := by rw [hw1]; simp
  clear hw1 c0 c1 c2 c3 c4
  obtain ⟨c0, c1, c2, c3, c4⟩ := HJ1.out.cells
  have hl1 := HJ1.out.lt
  go_wp2_with (first
    | (go_at_call 87; have hk := HW2; clear hk; refine (HF2.out _ _ _ HW2.out (by omega)).mono ?_; rintro e w3 ⟨rfl, hw3, hk3⟩; have HW3 := hid hw3; have HJ3 := hid (HJ2.out.kept hk3 hlt (by omega)); have HK3 := hid hk3; have hz3 := hk3.size; clear hw3 hk3 c0 c1 c2 c3 c4 hl1; obtain ⟨c0, c1, c2, c3, c4⟩ := HJ3.out.cells; have hl1 := HJ3.out.lt)
    | (go_at_call 87; refine (HF1.out _ _ _ HW0.out (by omega)).mono ?_; rintro e w2 ⟨rfl, hw2, hk2⟩; have HW2 := hid hw2; have HJ2 := hid (HJ1.out.kept hk2 hlt (by omega)); have HK2 := hid hk2; have hz2 := hk2.size; clear hw2 hk2 c0 c1 c2 c3 c4 hl1; obtain ⟨c0, c1, c2, c3, c4⟩ := HJ2.out.cells; have hl1 := HJ2.out.lt))
  have hwr : IntKind.i64.wrap ((F : Int) + (S : Int)) = (F : Int) + (S : Int) := by
    rw [IntKind.wrap_i64]; omega
  have HW3d : Hid (WIs w.heap.size w.heap.size w3.drew l2) := by
    obtain ⟨v, k1, k2⟩ := HW3.out
    exact ⟨v, k1, k2⟩
  have hz3d : w.heap.size ≤ w3.drew.heap.size := by show w.heap.size ≤ w3.heap.size; omega
  go_region_held3 (fun w' => w'.cell? ⟨g, 2, none⟩ = some (.int .i64 (F : Int)) ∧ w'.cell? ⟨g, 4, none⟩ = some (.int .i64 (S : Int))) (first | exact ⟨c2, c4⟩ | exact ⟨d2, d4⟩ | go_keep) (first
    | (go_at_call 87; refine (HF3.out w.heap.size w.heap.size w3.drew HW3d.out hz3d).mono ?_; rintro e w5 ⟨rfl, hw5, hk5⟩; obtain ⟨d0, d1, d2, d3, d4⟩ := (HJ3.out.kept (w' := w5) (g' := w.heap.size) (base := w.heap.size) ⟨hk5.os, hk5.tape, hk5.output, hk5.size, hk5.block⟩ hlt (by omega)).cells))
  all_goals
    go_wp2_with (first
      | (go_at_call 89; refine (out_w _ _ l3 _ hw5).mono ?_; rintro e w6 ⟨rfl, hw⟩; have hw := hw.symm; subst hw; rw [← HZ.out])
      | (go_at_call 88; rw [HU.out]; refine (HK.out _).mono ?_; rintro e w7 ⟨rfl, hb7⟩))
    go_ret
    have k3 : Below w.heap.size w w3 := (HB1.out.trans (HK2.out.below (Nat.le_refl _) (Nat.le_refl _))).trans (HK3.out.below (Nat.le_refl _) (Nat.le_refl _))
    have k5 := hk5.below (B := w.heap.size) (Nat.le_refl _) (Nat.le_refl _)
    have k6 : Below w.heap.size w w5 := k3.trans ⟨k5.os, k5.tape, k5.output, k5.size, k5.block⟩
    exact ⟨rfl, k6.next hb7⟩
end Go.Proofs.YtopebghandojbaaGreat
namespace Go.Proofs.YtopebghandojbaaGreat
open Go.RowKit Go.Maps
set_option maxRecDepth 100000 in
theorem write_any (g : Nat) (P : Int) (T F S : Nat) (sv : Value) (hP : 0 < P) (hT : T < 65536) (hF : F + S ≤ 9223372036854775807) (w : World) (h : JIs g w P T F sv S) : Calls Tryz.prog 114 #[.pointer (some ⟨g, 0, none⟩)] w fun e w' => e = .returned (.agg #[.int .i64 0, .string (hdB T F (F + S))]) ∧ Below w.heap.size w w' := by
  have HH := hid (fun w h => header_any g P T F S sv hP hT hF w h)
  have HJ := hid (h.below (below_alloc w (.cells #[.int .i64 0, .string ⟨#[]⟩] 120)))
  have HV := hid (box_at w (.cells #[.int .i64 0, .string ⟨#[]⟩] 120))
  obtain ⟨r, hr⟩ : ∃ r, r = hdB T F (F + S) := ⟨_, rfl⟩
  rw [← hr] at HH ⊢
  clear hr h
  go_enter Tryz.func114, Tryz.ntmps114
  go_wp2_with (first | (go_at_call 45; refine (HH.out _ HJ.out).mono ?_; rintro e w2 ⟨rfl, hb2⟩; have HV2 := hid ((hb2.block _ (lt_of_block HV.out)).trans HV.out); have HB2 := hid ((below_alloc _ _).next hb2); obtain ⟨q0, q1⟩ := two_cells HV2.out; have hl2 := lt_of_block HV2.out; have hf2 := frees HV2.out; clear hb2))
  have r0 : ((w2.setCell ⟨w.heap.size, 0, none⟩ (.int .i64 0)).setCell ⟨w.heap.size, 1, none⟩ (.string r)).cell? ⟨w.heap.size, 0, none⟩ = some (.int .i64 0) := by simp [World.cell?, World.setCell, Array.getElem?_modify, HV2.out]
  have r1 : ((w2.setCell ⟨w.heap.size, 0, none⟩ (.int .i64 0)).setCell ⟨w.heap.size, 1, none⟩ (.string r)).cell? ⟨w.heap.size, 1, none⟩ = some (.string r) := by simp [World.cell?, World.setCell, Array.getElem?_modify, HV2.out]
  refine bodyPost_ret (v := .agg #[.int .i64 0, .string r]) (by simp [results, Tryz.results114, go_sem, r0, r1]) rfl ⟨rfl, ?_⟩
  exact below_set _ (below_set _ HB2.out (Nat.le_refl _)) (Nat.le_refl _)
end Go.Proofs.YtopebghandojbaaGreat
namespace Go.Proofs.YtopebghandojbaaGreat
open Go.RowKit Go.Maps
/-- the sizes' row: a row of its own, or what is left of one that was cut at its front, without room behind -/
def JRow (w : World) (v : Value) (l : List Int) : Prop :=
  (v = .slice none 0 0 ∧ l = []) ∨ ∃ b off cap cur, v = .slice (some ⟨b, off, none⟩) l.length cap ∧ w.heap[b]? = some (.cells cur 3 (0, 0)) ∧ l.length ≤ cap ∧ cap ≤ maxLen ∧ (∀ i (hi : i < l.length), cur[off + i]? = some (.int .i64 l[i])) ∧ (cap = l.length ∨ (off = 0 ∧ cur.size = cap))
theorem JRow.nil (w : World) : JRow w (.slice none 0 0) [] := .inl ⟨rfl, rfl⟩
theorem JRow.same {w w' : World} {v : Value} {l : List Int} (h : JRow w v l) (k : ∀ x, v.ownBlock = some x → w'.heap[x]? = w.heap[x]?) : JRow w' v l := by
  obtain h | ⟨b, off, cap, cur, rfl, h1, h2⟩ := h
  · exact .inl h
  · exact .inr ⟨b, off, cap, cur, rfl, (k b rfl).trans h1, h2⟩
theorem JRow.own {w : World} {v : Value} {l : List Int} (h : JRow w v l) : ∀ x, v.ownBlock = some x → ∃ cur, w.heap[x]? = some (.cells cur 3 (0, 0)) := by
  obtain ⟨rfl, _⟩ | ⟨b, off, cap, cur, rfl, h1, h2⟩ := h
  · intro x hx; cases hx
  · intro x hx; cases hx; exact ⟨_, h1⟩
theorem JRow.below {w w' : World} {v : Value} {l : List Int} (h : JRow w v l) (k : Below w.heap.size w w') : JRow w' v l := by
  refine h.same fun x hx => ?_
  obtain ⟨cur, hc⟩ := h.own x hx
  exact k.block x (lt_of_block hc)
theorem JRow.len {w : World} {v : Value} {l : List Int} (h : JRow w v l) : ∃ ao cap, v = .slice ao l.length cap ∧ l.length ≤ cap ∧ cap ≤ maxLen := by
  obtain ⟨rfl, rfl⟩ | ⟨b, off, cap, cur, rfl, h1, h2, h3, _⟩ := h
  · exact ⟨none, 0, rfl, by simp, by decide⟩
  · exact ⟨_, cap, rfl, h2, h3⟩
theorem JRow.lie {w : World} {v : Value} {l : List Int} (h : JRow w v l) : ILie w v l := by
  obtain ⟨rfl, rfl⟩ | ⟨b, off, cap, cur, rfl, h1, h2, h3, h4, _⟩ := h
  · exact ⟨none, 0, rfl, Nat.le_refl _, by decide, fun i hi => by simp at hi⟩
  · exact ⟨_, cap, rfl, h2, h3, fun i hi => ⟨b, off, rfl, lt_of_block h1, by simp [World.cell?, h1, h4 i hi]⟩⟩
theorem IRow.jrow {base : Nat} {w : World} {v : Value} {l : List Int} (h : IRow base w v l) : JRow w v l := by
  obtain ⟨e1, ⟨rfl, hz⟩ | ⟨x, cap, cur, rfl, e4, e5, r1, r2, r3, r4⟩⟩ := h
  · exact .inl ⟨rfl, List.eq_nil_of_length_eq_zero hz⟩
  · refine .inr ⟨x, 0, cap, cur, rfl, e5, r1, r2, fun i hi => ?_, .inr ⟨rfl, by omega⟩⟩
    have e1 : cur.toList[i]? = (l.map (Value.int .i64))[i]? := by rw [← r4, List.getElem?_take_of_lt (by omega)]
    rw [Array.getElem?_toList, List.getElem?_map, List.getElem?_eq_getElem hi] at e1
    rw [Nat.zero_add, e1]; rfl
theorem JRow.irow {w : World} {b cap : Nat} {cur : Array Value} {l : List Int} (h1 : w.heap[b]? = some (.cells cur 3 (0, 0))) (h2 : l.length ≤ cap) (h3 : cap ≤ maxLen) (h4 : ∀ i (hi : i < l.length), cur[0 + i]? = some (.int .i64 l[i])) (h5 : cur.size = cap) : IRow 0 w (.slice (some ⟨b, 0, none⟩) l.length cap) l := by
  refine ⟨by simp, .inr ⟨b, cap, cur, rfl, Nat.zero_le _, h1, h2, h3, by omega, ?_⟩⟩
  apply List.ext_getElem?
  intro i
  rw [Nat.mul_one]
  by_cases hi : i < l.length
  · rw [List.getElem?_take_of_lt hi, Array.getElem?_toList, List.getElem?_map, List.getElem?_eq_getElem hi]
    have := h4 i hi
    rw [Nat.zero_add] at this
    rw [this]; rfl
  · rw [List.getElem?_eq_none (by rw [List.length_take]; omega), List.getElem?_eq_none (by rw [List.length_map]; omega)]
theorem pushJ {ops : Array Oper} {rest : List Oper} {o : Oper} {a : Act} {Q : Exit → Act → World → Prop} {w0 : World} (hgd : o.guard = none) (s x : Operand)
    (ho : o.op = .call { callee := .builtin .append, args := #[s, x], argTypes := #[154, 154] }) (bb : Nat) (v : Value) (T : List Int) (y : Int)
    (hs : a.eval s = v) (hx : a.eval x = .slice (some ⟨bb, 0, none⟩) 1 1) (hbb : bb = w0.heap.size) (hA : JRow w0 v T) (hn : T.length ≤ 2000)
    (h : ∀ v' w', JRow w' v' (T ++ [y]) → w0.grownBy w' v.ownBlock → (v'.ownBlock = v.ownBlock ∨ ∃ k, v'.ownBlock = some k ∧ w0.heap.size ≤ k) → wpList Tryz.prog ops Q rest (a.put o.dst v') w') :
    wpList Tryz.prog ops Q (o :: rest) a (w0.alloc (.cells #[.int .i64 y] 3)) := by
  subst hbb
  obtain ⟨i0, hi, hz0, hz1, hz2⟩ := info_parts Tryz.infoR3
  have hnew : ∀ j u, [Value.int .i64 y][j]? = some u → (w0.alloc (.cells #[.int .i64 y] 3)).cell? ((⟨w0.heap.size, 0, none⟩ : Addr).add j) = some u := cell_one_new w0 (.int .i64 y) 3
  have grow : ∀ {row : Option Nat} {w'}, (w0.alloc (.cells #[.int .i64 y] 3)).grownBy w' row → w0.grownBy w' row := fun hg => ⟨hg.os, hg.tape, hg.output, by have := hg.size; simp at this; omega, fun k hk hne => (hg.block k (by simp; omega) hne).trans (Below.heap_alloc _ _ k hk)⟩
  have back : ∀ {base : Nat} {w' v'}, w'.ownsRow base 3 1 v' (T.length + 1) (T.map (Value.int .i64) ++ [.int .i64 y]) → JRow w' v' (T ++ [y]) := by
    intro base w' v' hown
    refine IRow.jrow (base := base) ?_
    unfold IRow
    rw [List.map_append, List.length_append]
    exact hown
  have own : ∀ hI : IRow 0 w0 v T, wpList Tryz.prog ops Q (o :: rest) a (w0.alloc (.cells #[.int .i64 y] 3)) := by
    intro hI
    refine wpList_append_own_at _ hgd s x 154 ho 0 3 i0 (.int .i64 0) 1 8 Tryz.underlying154 hi hz0 hz1 hz2 rfl (by decide) v T.length (T.map (Value.int .i64)) hs (World.ownsRow.alloc hI _) ⟨w0.heap.size, 0, none⟩ 1 1 [.int .i64 y] hx rfl hnew (by intro u hu; simp at hu; subst hu; rfl) (by unfold maxLen; omega) (by omega) (Nat.zero_le _) ?_
    intro v' w' hown hg _ hat
    refine h v' w' (back hown) (grow hg) ?_
    rcases hat with e | e
    · exact .inl e
    · exact .inr ⟨_, e, by simp⟩
  rcases hA with ⟨rfl, rfl⟩ | ⟨b, off, cap, cur, rfl, h1, h2, h3, h4, h5 | ⟨rfl, h5⟩⟩
  · exact own (IRow.nil 0 w0)
  · have hb := lt_of_block h1
    refine wpList_append_grows _ hgd s x 154 ho 3 i0 (.int .i64 0) 1 8 Tryz.underlying154 hi hz0 hz1 hz2 rfl (by decide) _ T.length cap (T.map (Value.int .i64)) hs (by intro e; cases e) (by simp) ?_ ⟨w0.heap.size, 0, none⟩ 1 1 [.int .i64 y] hx rfl hnew (by intro u hu; simp at hu; subst hu; rfl) (by omega) (by unfold maxLen; omega) (by omega) ?_
    · intro q hq j u hu
      cases hq
      rw [List.getElem?_map] at hu
      by_cases hj : j < T.length
      · rw [List.getElem?_eq_getElem hj] at hu
        simp only [Option.map_some, Option.some.injEq] at hu
        subst hu
        have e := h4 j hj
        rw [Addr.add_lit]
        simp only [World.cell?]
        rw [Below.heap_alloc _ _ b hb, h1]
        simpa using e
      · rw [List.getElem?_eq_none (by omega)] at hu; cases hu
    · intro v' w' hown hg
      have hg2 := grow hg
      refine h v' w' (back hown) ⟨hg2.os, hg2.tape, hg2.output, hg2.size, fun k hk _ => hg2.block k hk (by simp)⟩ ?_
      rcases hown.2 with ⟨_, hz⟩ | ⟨k, _, _, rfl, hk, _⟩
      · omega
      · exact .inr ⟨k, rfl, by simp at hk; omega⟩
  · exact own (JRow.irow h1 h2 h3 h4 h5)
end Go.Proofs.YtopebghandojbaaGreat
namespace Go.Proofs.YtopebghandojbaaGreat
open Go.RowKit Go.Maps
/-- a journal and its sizes, the row's block -/
def JS (g : Nat) (r : Option Nat) (w : World) (P : Int) (T F S : Nat) (l : List Int) : Prop := ∃ sv, sv.ownBlock = r ∧ JIs g w P T F sv S ∧ JRow w sv l
/-- nothing but the journal and its row has changed -/
structure JFr (g : Nat) (r : Option Nat) (w w' : World) : Prop where
  os : w'.os = w.os
  tape : w'.tape = w.tape
  output : w'.output = w.output
  size : w.heap.size ≤ w'.heap.size
  block : ∀ k, k < w.heap.size → k ≠ g → some k ≠ r → w'.heap[k]? = w.heap[k]?
/-- the row is the same, or new -/
def New (w : World) (r r' : Option Nat) : Prop := r' = r ∨ ∃ k, r' = some k ∧ w.heap.size ≤ k
theorem JFr.of {g : Nat} {r : Option Nat} {w w' : World} (k : Below w.heap.size w w') : JFr g r w w' := ⟨k.os, k.tape, k.output, k.size, fun i hi _ _ => k.block i hi⟩
theorem JFr.trans {g : Nat} {r r' : Option Nat} {w w1 w2 : World} (h : JFr g r w w1) (hn : New w r r') (k : JFr g r' w1 w2) : JFr g r w w2 := by
  refine ⟨k.os.trans h.os, k.tape.trans h.tape, k.output.trans h.output, Nat.le_trans h.size k.size, fun i hi h1 h2 => (k.block i (Nat.lt_of_lt_of_le hi h.size) h1 ?_).trans (h.block i hi h1 h2)⟩
  rcases hn with rfl | ⟨x, rfl, hx⟩
  · exact h2
  · intro e; cases e; omega
theorem New.trans {w w1 : World} {r r' r'' : Option Nat} (hs : w.heap.size ≤ w1.heap.size) (h : New w r r') (k : New w1 r' r'') : New w r r'' := by
  rcases k with rfl | ⟨x, rfl, hx⟩
  · exact h
  · exact .inr ⟨x, rfl, by omega⟩
theorem JFr.below {g base : Nat} {r : Option Nat} {w w' : World} (h : JFr g r w w') (hb : base ≤ w.heap.size) (hg : base ≤ g) (hr : ∀ x, r = some x → base ≤ x) : Below base w w' :=
  ⟨h.os, h.tape, h.output, h.size, fun k hk => h.block k (by omega) (by omega) (by intro e; have := hr k e.symm; omega)⟩
theorem JS.lt {g : Nat} {r : Option Nat} {w : World} {P : Int} {T F S : Nat} {l : List Int} (h : JS g r w P T F S l) : g < w.heap.size ∧ ∀ x, r = some x → x < w.heap.size ∧ x ≠ g := by
  obtain ⟨sv, rfl, h1, h2⟩ := h
  refine ⟨h1.lt, fun x hx => ?_⟩
  obtain ⟨cur, hc⟩ := h2.own x hx
  refine ⟨lt_of_block hc, ?_⟩
  rintro rfl
  unfold JIs at h1
  rw [h1] at hc
  simp at hc
theorem JS.below {g : Nat} {r : Option Nat} {w w' : World} {P : Int} {T F S : Nat} {l : List Int} (h : JS g r w P T F S l) (k : Below w.heap.size w w') : JS g r w' P T F S l := by
  obtain ⟨sv, h0, h1, h2⟩ := h
  exact ⟨sv, h0, h1.below k, h2.below k⟩
theorem JIs.set4 {g : Nat} {w : World} {P T F S : Int} {sv : Value} (h : JIs g w P T F sv S) (S' : Int) : JIs g (w.setCell ⟨g, 4, none⟩ (.int .i64 S')) P T F sv S' := by
  unfold JIs at *
  simp [World.setCell, Array.getElem?_modify, h]
theorem JFr.set {g b : Nat} {r : Option Nat} {w w' : World} (h : JFr g r w w') (hb : b = g ∨ some b = r ∨ w.heap.size ≤ b) (o : Nat) (v : Value) : JFr g r w (w'.setCell ⟨b, o, none⟩ v) := by
  refine ⟨h.os, h.tape, h.output, by rw [show (w'.setCell ⟨b, o, none⟩ v).heap.size = w'.heap.size by simp]; exact h.size, fun k hk h1 h2 => ?_⟩
  rw [Below.heap_setCell _ _ _ _ (by rintro rfl; rcases hb with rfl | e | e; exact h1 rfl; exact h2 e; omega)]
  exact h.block k hk h1 h2
theorem JS.set {g b : Nat} {r : Option Nat} {w : World} {P : Int} {T F S : Nat} {l : List Int} (h : JS g r w P T F S l) (hb : b ≠ g) (hr : some b ≠ r) (o : Nat) (v : Value) : JS g r (w.setCell ⟨b, o, none⟩ v) P T F S l := by
  obtain ⟨sv, h0, h1, h2⟩ := h
  refine ⟨sv, h0, (Below.heap_setCell _ _ _ _ (Ne.symm hb)).trans h1, h2.same fun x hx => Below.heap_setCell _ _ _ _ ?_⟩
  rintro rfl
  exact hr (by rw [← h0, hx])
theorem new_j (n : Int) (w : World) (h : 8 ≤ n ∧ n ≤ 256) : Calls Tryz.prog 43 #[.int .i64 n] w fun e w' => e = .returned (.tuple #[.pointer (some ⟨w.heap.size, 0, none⟩), .int .i64 0]) ∧ JS w.heap.size none w' (n - 1) 0 1 0 [] ∧ Below w.heap.size w w' := by
  have HI := hid (isRegion_any n)
  rw [decide_eq_true h] at HI
  obtain ⟨h1, h2⟩ := h
  go_enter Tryz.func43, Tryz.ntmps43
  go_wp2_with (first | (go_at_call 85; refine (HI.out _).mono ?_; rintro e w1 ⟨rfl, hw⟩; have hw := hw.symm; subst hw))
  go_ret2
  exact ⟨rfl, ⟨_, rfl, box_at _ _, JRow.nil _⟩, below_alloc _ _⟩
theorem JFr.refl (g : Nat) (r : Option Nat) (w : World) : JFr g r w w := ⟨rfl, rfl, rfl, Nat.le_refl _, fun _ _ _ _ => rfl⟩
set_option maxRecDepth 100000 in
theorem jseal (g : Nat) (r : Option Nat) (P : Int) (T F S : Nat) (l : List Int) (hP : 0 < P) (hT : T < 65536) (hF : F + l.length ≤ 9223372036854775807) (w : World) (h : JS g r w P T F S l) :
    Calls Tryz.prog 68 #[.pointer (some ⟨g, 0, none⟩)] w fun e w' => e = .returned (.agg #[.int .i64 0, .string (hdB T F (F + l.length))]) ∧ JS g r w' P T F l.length l ∧ JFr g r w w' := by
  have hltr := h.lt
  have hgl := hltr.1
  obtain ⟨sv, hr, h1, h2⟩ := h
  obtain ⟨ao, cap, rfl, hlc, hcm⟩ := h2.len
  have HB0 := hid (below_alloc w (.cells #[.int .i64 0, .string ⟨#[]⟩] 120))
  have HJ := hid (h1.below HB0.out)
  have HN := hid (none_any g P T F S _ hP _ HJ.out)
  have HJs := hid (h1.set4 l.length)
  have HRs : Hid (JRow (w.setCell ⟨g, 4, none⟩ (.int .i64 l.length)) (.slice ao l.length cap) l) := hid (h2.same fun x hx => Below.heap_setCell _ _ _ _ (by exact (hltr.2 x (hr.symm.trans hx)).2))
  have HFs := hid ((JFr.refl g r w).set (.inl rfl) 4 (.int .i64 l.length))
  have hzs : (w.setCell ⟨g, 4, none⟩ (.int .i64 l.length)).heap.size = w.heap.size := by simp
  obtain ⟨ws, hws⟩ : ∃ ws, ws = w.setCell ⟨g, 4, none⟩ (.int .i64 l.length) := ⟨_, rfl⟩
  rw [← hws] at HJs HRs HFs hzs
  have HBs := hid (below_alloc ws (.cells #[.int .i64 0, .string ⟨#[]⟩] 120))
  have HV2 := hid (box_at ws (.cells #[.int .i64 0, .string ⟨#[]⟩] 120))
  obtain ⟨w2, hw2⟩ : ∃ w2, w2 = ws.alloc (.cells #[.int .i64 0, .string ⟨#[]⟩] 120) := ⟨_, rfl⟩
  have hz2 : w2.heap.size = w.heap.size + 1 := by rw [hw2]; simp [hzs]
  rw [← hw2] at HBs HV2
  rw [hzs] at HV2
  have HJ2 := hid (HJs.out.below HBs.out)
  have HR2 := hid (HRs.out.below HBs.out)
  have HFr2 := hid (JFr.trans HFs.out (.inl rfl) (JFr.of HBs.out))
  have HE : Hid (w2 = (w.setCell ⟨g, 4, none⟩ (.int .i64 l.length)).alloc (.cells #[.int .i64 0, .string ⟨#[]⟩] 120)) := by rw [← hws]; exact hid hw2
  have HWr := hid (write_any g P T F l.length _ hP hT hF w2 HJ2.out)
  obtain ⟨u, hu⟩ : ∃ u, u = hdB T F (F + l.length) := ⟨_, rfl⟩
  rw [← hu] at HWr ⊢
  clear hws hw2 hu hzs
  obtain ⟨c0, c1, c2, c3, c4⟩ := HJ.out.cells
  have hf := frees HJ.out
  go_enter Tryz.func68, Tryz.ntmps68
  go_wp2_with (first
    | (go_at_call 90; refine (HN.out).mono ?_; rintro e wq ⟨rfl, hw⟩; have hw := hw.symm; subst hw)
    | (go_at_call 114; rw [← HE.out]; refine (HWr.out).mono ?_; rintro e w3 ⟨rfl, hb3⟩; have HV3 := hid ((hb3.block _ (by omega)).trans HV2.out); have HB3 := hid hb3; obtain ⟨q0, q1⟩ := two_cells HV3.out; have hl2 := lt_of_block HV3.out; have hf2 := frees HV3.out; clear hb3))
  have r0 : ((w3.setCell ⟨w.heap.size, 0, none⟩ (.int .i64 0)).setCell ⟨w.heap.size, 1, none⟩ (.string u)).cell? ⟨w.heap.size, 0, none⟩ = some (.int .i64 0) := by simp [World.cell?, World.setCell, Array.getElem?_modify, HV3.out]
  have r1 : ((w3.setCell ⟨w.heap.size, 0, none⟩ (.int .i64 0)).setCell ⟨w.heap.size, 1, none⟩ (.string u)).cell? ⟨w.heap.size, 1, none⟩ = some (.string u) := by simp [World.cell?, World.setCell, Array.getElem?_modify, HV3.out]
  have k3 := JFr.trans HFr2.out (.inl rfl) (JFr.of (g := g) (r := r) HB3.out)
  refine bodyPost_ret (v := .agg #[.int .i64 0, .string u]) (by simp [results, Tryz.results68, go_sem, r0, r1]) rfl ⟨rfl, ?_, (k3.set (.inr (.inr (Nat.le_refl _))) _ _).set (.inr (.inr (Nat.le_refl _))) _ _⟩
  have hJ : JS g r w3 P T F l.length l := ⟨_, hr, HJ2.out.below HB3.out, HR2.out.below HB3.out⟩
  have n1 : w.heap.size ≠ g := by omega
  have n2 : some w.heap.size ≠ r := by
    intro e
    have := (hltr.2 _ e.symm).1
    omega
  exact (hJ.set n1 n2 _ _).set n1 n2 _ _
end Go.Proofs.YtopebghandojbaaGreat
