import Derived.Test.YtopebghandojbaaGreatMy
import Derived.Test.YtopebghandojbaaGreatJh
import Derived.Test.YtopebghandojbaaGreatLf
import Derived.OwnWalk
namespace Go.Proofs.YtopebghandojbaaGreat
open Go.RowKit Go.Maps
end Go.Proofs.YtopebghandojbaaGreat
namespace Go.Proofs.YtopebghandojbaaGreat
open Go.RowKit Go.Maps
theorem hdr_num {b : ByteArray} {T F E : Nat} (h : isHdr b T F E) : ∃ s, unV b = (s, 0) ∧ s.size = 19 ∧ nT s = T ∧ nF s = F ∧ nE s = E ∧ hdB T F E = b := by
  obtain ⟨hu, h1, h2, h3⟩ := h
  have p2 : (256 : Nat) ^ 2 = 65536 := by decide
  have p8 : (256 : Nat) ^ 8 = 18446744073709551616 := by decide
  have e0 : ((st (hdL T F E)).extract 1 (st (hdL T F E)).size).data.toList = fEnc T 2 ++ (fEnc F 8 ++ fEnc E 8) := by
    rw [st_cut]; unfold hdL; simp
  have e1 : (nR1 (st (hdL T F E))).data.toList = fEnc F 8 ++ fEnc E 8 := by
    unfold nR1
    rw [ext_list, List.take_of_length_le (by rw [len_list]; exact Nat.le_refl _), e0, List.drop_left' (fEnc_len _ _)]
  have e2 : (nR2 (st (hdL T F E))).data.toList = fEnc E 8 := by
    unfold nR2
    rw [ext_list, List.take_of_length_le (by rw [len_list]; exact Nat.le_refl _), e1, List.drop_left' (fEnc_len _ _)]
  refine ⟨_, hu, by rw [st_size, hdL_len], ?_, ?_, ?_, ?_⟩
  · unfold nT
    rw [e0, List.take_left' (fEnc_len _ _), fval_big, big_fEnc _ _ (by omega)]
  · unfold nF
    rw [e1, List.take_left' (fEnc_len _ _), fval_big, big_fEnc _ _ (by omega)]
  · unfold nE
    rw [e2, List.take_of_length_le (by rw [fEnc_len]; exact Nat.le_refl _), fval_big, big_fEnc _ _ (by omega)]
  · have := (un_back b (by rw [hu])).1
    rw [hu] at this
    simp only [st_list] at this
    exact this
/-- the reference's Open of what is no header -/
theorem ropen_no (v : Value) (b0 : ByteArray) (ring : List ByteArray) (w : World) (hv : SLie w v (b0 :: ring)) (hb : b0.size ≤ 150000000000000) (hn : 7 ≤ ring.length ∧ ring.length ≤ 255)
    (h : ¬ ∃ T F E, isHdr b0 T F E ∧ F ≤ E ∧ E - F ≤ ring.length ∧ T < ring.length ∧ 1 ≤ F ∧ F ≤ 1099511627776) : Calls Tryz.prog 58 #[v] w fun e w' => RON e ∧ Below w.heap.size w w' := by
  by_cases h1 : (unV b0).2 = 0 ∧ (unV b0).1.size = 19
  · have hu : unV b0 = ((unV b0).1, 0) := by rw [← h1.1]
    obtain ⟨s, hs⟩ : ∃ s, s = (unV b0).1 := ⟨_, rfl⟩
    rw [← hs] at hu h1
    by_cases hf : nF s < 9223372036854775808
    · by_cases he : nE s < 9223372036854775808
      · by_cases hc : nF s ≤ nE s ∧ nE s - nF s ≤ ring.length ∧ nT s < ring.length ∧ 1 ≤ nF s ∧ nF s ≤ 1099511627776
        · by_cases hx : hdB (nT s) (nF s) (nE s) = b0
          · exact absurd ⟨nT s, nF s, nE s, by rw [← hx]; exact hdB_isHdr (n_sizes h1.2).2.2.2 hf he, hc⟩ h
          · exact ropen_hdr v b0 ring w hv hb hn s hu h1.2 hf he hc hx
        · exact ropen_bad v b0 ring w hv hb hn s hu h1.2 hf he hc
      · exact ropen_g v b0 ring w hv hb hn s hu h1.2 hf he
    · exact ropen_f v b0 ring w hv hb hn s hu h1.2 hf
  · exact ropen_form v b0 ring w hv hb hn h1
theorem ropen_yes (v : Value) (b0 : ByteArray) (ring : List ByteArray) (w : World) (hv : SLie w v (b0 :: ring)) (hz : ∀ b ∈ b0 :: ring, b.size ≤ 150000000000000) (hn : 7 ≤ ring.length ∧ ring.length ≤ 255) (T F S : Nat) (hh : isHdr b0 T F (F + S)) (h1 : T < ring.length) (h2 : 1 ≤ F) (h3 : F ≤ 1099511627776) (h4 : S ≤ ring.length) :
    Calls Tryz.prog 58 #[v] w fun e w' => ROP w.heap.size ring.length T F S (ring.drop T ++ ring.take T) e w' ∧ Below w.heap.size w w' := by
  obtain ⟨s, hu, hs, rfl, rfl, he, hx⟩ := hdr_num hh
  have := ropen_go v b0 ring w hv hz hn s hu hs hh.2.2.1 (by rw [he]; exact hh.2.2.2) (by omega) (by rw [he]; exact hx)
  rw [he, show nF s + S - nF s = S by omega] at this
  exact this
set_option maxRecDepth 100000 in
theorem popen_hdr (v : Value) (b0 : ByteArray) (ring : List ByteArray) (w : World) (hv : SLie w v (b0 :: ring)) (hn : 7 ≤ ring.length ∧ ring.length ≤ 255) (HH : ∀ w, Calls Tryz.prog 99 #[.string b0, .int .i64 (ring.length : Int)] w fun e w' => e = .returned (.tuple #[.pointer none, .bool false]) ∧ Below w.heap.size w w') :
    Calls Tryz.prog 52 #[v] w fun e w' => ON e ∧ Below w.heap.size w w' := by
  have HX := hid HH
  clear HH
  obtain ⟨ao, cap, rfl, hlc, hcm, hcell⟩ := hv
  obtain ⟨b, off, rfl, hbl, c0⟩ := hcell 0 (by simp)
  rw [List.getElem_cons_zero, Nat.add_zero] at c0
  rw [List.length_cons] at hlc ⊢
  have HIR := hid (fun w => isRegion_any ((ring.length : Int) + 1) w)
  rw [decide_eq_true (show (8:Int) ≤ (ring.length : Int) + 1 ∧ (ring.length : Int) + 1 ≤ 256 by omega)] at HIR
  unfold maxLen at hcm
  clear hcell
  have i2 : IntKind.i64.wrap ((ring.length : Int) + 1 - 1) = (ring.length : Int) := by rw [IntKind.wrap_i64]; omega
  go_enter Tryz.func52, Tryz.ntmps52
  go_wp2_with (first
    | (go_at_call 85; refine (HIR.out _).mono ?_; rintro e w1 ⟨rfl, hw⟩; have hw := hw.symm; subst hw)
    | (go_at_call 99; refine (HX.out _).mono ?_; rintro e w2 ⟨rfl, hb2⟩; have HB2 := hid hb2; clear hb2))
  go_ret3
  exact ⟨rfl, HB2.out⟩
theorem popen_no (v : Value) (b0 : ByteArray) (ring : List ByteArray) (w : World) (hv : SLie w v (b0 :: ring)) (hb : b0.size ≤ 150000000000000) (hn : 7 ≤ ring.length ∧ ring.length ≤ 255)
    (h : ¬ ∃ T F E, isHdr b0 T F E ∧ F ≤ E ∧ E - F ≤ ring.length ∧ T < ring.length ∧ 1 ≤ F ∧ F ≤ 1099511627776) : Calls Tryz.prog 52 #[v] w fun e w' => ON e ∧ Below w.heap.size w w' := by
  by_cases hh : ∃ T F E, isHdr b0 T F E
  · obtain ⟨T, F, E, hh⟩ := hh
    refine popen_hdr v b0 ring w hv hn fun w => (hdr_yes b0 hb (ring.length : Int) T F E hh w).mono fun e w' ⟨_, k, hbw⟩ => ⟨k fun hk => h ⟨T, F, E, hh, by omega, by omega, by omega, by omega, by omega⟩, hbw⟩
  · exact popen_hdr v b0 ring w hv hn fun w => hdr_not b0 hb (ring.length : Int) hh w
/-- what is far from a journal is as it was -/
theorem ROS.far {B g g' : Nat} {r r' : Option Nat} {w w' : World} {P : Int} {T F S : Nat} {Ls : List (List Chg)} {us : List Value} (h : ROS B g' r' w P T F S Ls us) (hf : JFr g r w w') (hg : g < B) (hr : ∀ x, r = some x → x < B) : ROS B g' r' w' P T F S Ls us := by
  have hs := hf.size
  have hl := h.rk.lt
  have k : ∀ x, B ≤ x → x < w.heap.size → w'.heap[x]? = w.heap[x]? := fun x hx hxs => hf.block x hxs (by omega) (fun e => by have := hr x e.symm; omega)
  refine ⟨h.rk.same (k _ h.b1 hl.1) (fun x hx => k x (h.b2 x hx) (hl.2 x hx).1), h.ln, fun i hi hj => (h.cl i hi hj).kept hs ?_, fun u hu => ?_, h.b1, h.b2⟩
  · rcases h.vo _ (List.getElem_mem hi) with hz | hx
    · exact .inl hz
    · exact .inr fun x e => by have := hx x e; exact k x this.1 this.2.1
  · rcases h.vo u hu with hz | hx
    · exact .inl hz
    · exact .inr fun x e => by have := hx x e; exact ⟨this.1, by omega, this.2.2⟩
theorem ROS.sizes {B g : Nat} {r : Option Nat} {w : World} {P : Int} {T F S : Nat} {Ls : List (List Chg)} {us : List Value} (h : ROS B g r w P T F S Ls us) : us.map szOf = Ls.map szL := by
  apply List.ext_getElem
  · simp [h.ln]
  · intro i h1 h2
    rw [List.getElem_map, List.getElem_map]
    obtain ⟨ao, cap, e, _⟩ := h.cl i (by simpa using h1) (by simpa using h2)
    rw [e]
    rfl
end Go.Proofs.YtopebghandojbaaGreat
namespace Go.Proofs.YtopebghandojbaaGreat
open Go.RowKit Go.Maps
end Go.Proofs.YtopebghandojbaaGreat
