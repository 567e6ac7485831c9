import Derived.Test.YtiggfoijinnfmaaBb
namespace Go.Proofs.Ytiggfoijinnfmaa
open Go.RowKit

theorem BIs.drewN {g : Nat} {w : World} {l : List UInt8} (h : BIs g w l) (n : Nat) : BIs g (w.drewN n) l := h
theorem BIs.drew {g : Nat} {w : World} {l : List UInt8} (h : BIs g w l) : BIs g w.drew l := h
theorem BIs.clear {g : Nat} {w : World} {l : List UInt8} (h : BIs g w l) (i q r : Nat) (hq : q = i / 8) (hr : r = i % 8) (x : UInt8) (hx : l.getD q 0 = x) : BIs g (w.setCell ⟨g, q, none⟩ (.int .u8 (bits .andNot .u8 (x.toNat : Int) (2 ^ r)))) (stB l i false) := by
  subst hx hq hr
  exact h.set _ _ _ (sb_andNot _ ⟨i % 8, Nat.mod_lt _ (by decide)⟩)
theorem BIs.orr {g : Nat} {w : World} {l : List UInt8} (h : BIs g w l) (i q r : Nat) (hq : q = i / 8) (hr : r = i % 8) (x : UInt8) (hx : l.getD q 0 = x) : BIs g (w.setCell ⟨g, q, none⟩ (.int .u8 (bits .or .u8 (x.toNat : Int) (2 ^ r)))) (stB l i true) := by
  subst hx hq hr
  exact h.set _ _ _ (sb_or _ ⟨i % 8, Nat.mod_lt _ (by decide)⟩)
theorem stB_two (l : List UInt8) (i : Nat) (h : i / 8 < l.length) : stB (stB l i false) i true = stB l i true := by
  unfold stB
  rw [List.set_set]
  have e : (l.set (i / 8) (sb (l.getD (i / 8) 0) (i % 8) false)).getD (i / 8) 0 = sb (l.getD (i / 8) 0) (i % 8) false := by
    rw [List.getD_eq_getElem?_getD, List.getElem?_set, if_pos rfl, if_pos (by omega)]; rfl
  rw [e, sb_two _ ⟨i % 8, Nat.mod_lt _ (by decide)⟩]
theorem getD_get {l : List UInt8} {k : Nat} (h : k < l.length) : l.getD k 0 = l[k] := by
  rw [List.getD_eq_getElem?_getD, List.getElem?_eq_getElem h]; rfl
set_option maxRecDepth 100000 in
set_option maxHeartbeats 1000000 in
theorem set_ok (b : ByteArray) (i : Nat) (t : Bool) (hb : b.size = 128) (hi : i < 1024) (w : World) : Calls Try.prog 10 #[.string b, .int .i64 i, .bool t] w fun e w' => e = .returned (.tuple #[.string (st (stB b.data.toList i t)), .int .i64 0]) ∧ Below w.heap.size w w' := by
  have hE : bitE b i = 0 := by unfold bitE; rw [if_pos hb, if_pos (by omega)]
  have HE := hid (bit_any b i)
  rw [hE] at HE
  have HM := hid (mask_any i hi)
  obtain ⟨cap, wc, hconv, hBI, hBe⟩ := bytes_new w b
  have HL : Hid (b.data.toList.length = 128) := by show _ = _; rw [len_list, hb]
  rw [hb] at hconv
  obtain ⟨l, hl⟩ : ∃ l, l = b.data.toList := ⟨_, rfl⟩
  rw [← hl] at hBI HL ⊢
  clear hl hE
  have hw := wrap8 i hi
  obtain ⟨q, hq⟩ : ∃ q, q = i / 8 := ⟨_, rfl⟩
  obtain ⟨r, hr⟩ : ∃ r, r = i % 8 := ⟨_, rfl⟩
  rw [← hq] at hw
  rw [← hr] at HM
  have hq128 : q < 128 := by omega
  have hq128' : (q : Int) < 128 := by omega
  have HQ := hid hq
  have HR := hid hr
  have h8 : q < l.length := by rw [HL.out]; omega
  have hcell := hBI.get _ h8
  have hfree := hBI.free _ h8
  obtain ⟨x, hx⟩ : ∃ x, x = l[q] := ⟨_, rfl⟩
  rw [← hx] at hcell
  have HX : Hid (l.getD q 0 = x) := by show _ = _; rw [getD_get h8, hx]
  have H1 := hid (hBI.clear i q r hq hr x HX.out)
  have HB := hid hBe
  clear hx hBI hBe HX hq hr hi
  obtain ⟨g, hg⟩ : ∃ g, g = w.heap.size := ⟨_, rfl⟩
  rw [← hg] at hconv hcell hfree H1 HB ⊢
  clear hg
  go_enter Try.func10, Try.ntmps10
  go_upto_region 5 with (first | (go_at_call 18; refine (HE.out _).mono ?_; rintro e w ⟨rfl, rfl⟩))
  go_cut [] (fun wx => BIs g wx (stB l i false) ∧ Below g w wx)
  case first =>
    go_region_with (first | (go_at_call 21; refine (HM.out _).mono ?_; rintro e w2 ⟨rfl, rfl⟩))
    all_goals
      go_wp2
      go_meet
      exact ⟨H1.out.drew, HB.out.drew.setCell (Nat.le_refl _) _⟩
  case rest =>
    obtain ⟨hB2, hBe2⟩ := hcut
    rename World => wx
    clear hcell hfree hconv
    cases t with
    | false =>
      have HB2 := hid hB2
      have hcv := hB2.conv cap
      rw [stB_len, HL.out] at hcv
      clear hB2
      go_wp2
      go_ret2
      exact ⟨rfl, hBe2⟩
    | true =>
      have h8' : q < (stB l i false).length := by rw [stB_len]; exact h8
      have hcell := hB2.get _ h8'
      have hfree := hB2.free _ h8'
      obtain ⟨y, hy⟩ : ∃ y, y = (stB l i false)[q] := ⟨_, rfl⟩
      rw [← hy] at hcell
      have HX : Hid ((stB l i false).getD q 0 = y) := by show _ = _; rw [getD_get h8', hy]
      have hor := (hB2.orr i q r HQ.out HR.out y HX.out).drew
      rw [stB_two l i (by rw [HQ.out.symm]; exact h8)] at hor
      have hcv := hor.conv cap
      rw [stB_len, HL.out] at hcv
      have HB2 := hid hBe2
      clear hor hy HX hBe2 hB2 h8'
      go_wp2
      go_region_with (first | (go_at_call 21; refine (HM.out _).mono ?_; rintro e w2 ⟨rfl, rfl⟩))
      all_goals
        go_wp2
        go_ret2
        exact ⟨rfl, (HB2.out.setCell (Nat.le_refl _) _).drew⟩
end Go.Proofs.Ytiggfoijinnfmaa
