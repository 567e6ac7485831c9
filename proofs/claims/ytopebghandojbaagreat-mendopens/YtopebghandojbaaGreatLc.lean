import Derived.Test.YtopebghandojbaaGreatJi
import Derived.Test.YtopebghandojbaaGreatTo
import Derived.Test.YtopebghandojbaaGreatUb
namespace Go.Proofs.YtopebghandojbaaGreat
open Go.RowKit
def uS : ByteArray := { data := #[72] }
def isU (t : ByteArray) : Prop := t.data.toList.take 1 = [72]
set_option maxRecDepth 100000 in
theorem isU_len {t : ByteArray} (h : isU t) : 1 ≤ t.size := by
  have := congrArg List.length h
  rw [List.length_take, len_list] at this
  simp at this
  omega
set_option maxRecDepth 100000 in
theorem isU_ext {t : ByteArray} : isU t ↔ t.extract 0 1 = uS := by
  unfold isU
  constructor
  · intro h
    apply ByteArray.ext
    apply Array.toList_inj.1
    rw [ext_head, h]; rfl
  · intro h
    rw [← ext_head, h]; rfl
set_option maxRecDepth 100000 in
theorem uhas_yes (t : ByteArray) (hs : t.size ≤ maxLen) (h : isU t) (w : World) : Calls Tryz.prog 143 #[.string t, .string uS] w fun e w' => e = .returned (.bool true) ∧ w' = w := by
  have h4 := isU_len h
  unfold maxLen at hs
  have HX := hid (isU_ext.1 h)
  clear h
  have hcs : uS.size = 1 := rfl
  go_enter Tryz.func143, Tryz.ntmps143
  go_wp2
  go_ret
  exact ⟨ret_bool (by rw [HX.out]; simp), rfl⟩
set_option maxRecDepth 100000 in
theorem uhas_no (t : ByteArray) (hs : t.size ≤ maxLen) (h : ¬ isU t) (w : World) : Calls Tryz.prog 143 #[.string t, .string uS] w fun e w' => e = .returned (.bool false) ∧ w' = w := by
  unfold maxLen at hs
  have hcs : uS.size = 1 := rfl
  by_cases h4 : 1 ≤ t.size
  · have HX := hid (str_ne (fun hh => h (isU_ext.2 hh)))
    clear h
    go_enter Tryz.func143, Tryz.ntmps143
    go_wp2
    go_ret
    exact ⟨ret_bool HX.out, rfl⟩
  · clear h
    go_enter Tryz.func143, Tryz.ntmps143
    go_wp2
    go_ret
    exact ⟨rfl, rfl⟩
set_option maxRecDepth 100000 in
theorem ucut69_yes (t : ByteArray) (hs : t.size ≤ maxLen) (h : isU t) (w : World) : Calls Tryz.prog 126 #[.string t, .string uS] w fun e w' => e = .returned (.tuple #[.string (t.extract 1 t.size), .bool true]) ∧ w' = w := by
  have HH := hid (fun w => uhas_yes t hs h w)
  have h4 := isU_len h
  unfold maxLen at hs
  have hcs : uS.size = 1 := rfl
  clear h
  go_enter Tryz.func126, Tryz.ntmps126
  go_wp2_with (first | (go_at_call 143; refine (HH.out _).mono ?_; rintro e w1 ⟨rfl, hw⟩; have hw := hw.symm; subst hw))
  go_ret2
  exact ⟨rfl, rfl⟩
set_option maxRecDepth 100000 in
theorem ucut69_no (t : ByteArray) (hs : t.size ≤ maxLen) (h : ¬ isU t) (w : World) : Calls Tryz.prog 126 #[.string t, .string uS] w fun e w' => e = .returned (.tuple #[.string t, .bool false]) ∧ w' = w := by
  have HH := hid (fun w => uhas_no t hs h w)
  clear h
  go_enter Tryz.func126, Tryz.ntmps126
  go_wp2_with (first | (go_at_call 143; refine (HH.out _).mono ?_; rintro e w1 ⟨rfl, hw⟩; have hw := hw.symm; subst hw))
  go_ret2
  exact ⟨rfl, rfl⟩
set_option maxRecDepth 100000 in
theorem ucut_yes (t : ByteArray) (hs : t.size ≤ maxLen) (h : isU t) (w : World) : Calls Tryz.prog 95 #[.string t, .string uS] w fun e w' => e = .returned (.tuple #[.string (t.extract 1 t.size), .bool true]) ∧ w' = w := by
  have HH := hid (fun w => ucut69_yes t hs h w)
  clear h
  go_enter Tryz.func95, Tryz.ntmps95
  go_wp2_with (first | (go_at_call 126; refine (HH.out _).mono ?_; rintro e w1 ⟨rfl, hw⟩; have hw := hw.symm; subst hw))
  go_ret2
  exact ⟨rfl, rfl⟩
set_option maxRecDepth 100000 in
theorem ucut_no (t : ByteArray) (hs : t.size ≤ maxLen) (h : ¬ isU t) (w : World) : Calls Tryz.prog 95 #[.string t, .string uS] w fun e w' => e = .returned (.tuple #[.string t, .bool false]) ∧ w' = w := by
  have HH := hid (fun w => ucut69_no t hs h w)
  clear h
  go_enter Tryz.func95, Tryz.ntmps95
  go_wp2_with (first | (go_at_call 126; refine (HH.out _).mono ?_; rintro e w1 ⟨rfl, hw⟩; have hw := hw.symm; subst hw))
  go_ret2
  exact ⟨rfl, rfl⟩
set_option maxRecDepth 100000 in
theorem ucut_any (t : ByteArray) (hs : t.size ≤ maxLen) : ∃ n m, (∀ w, Calls Tryz.prog 95 #[.string t, .string uS] w fun e w' => e = .returned (.tuple #[.string n, .bool m]) ∧ w' = w) ∧ (m = true ↔ isU t) := by
  by_cases h : isU t
  · exact ⟨_, _, ucut_yes t hs h, ⟨fun _ => h, fun _ => rfl⟩⟩
  · exact ⟨_, _, ucut_no t hs h, ⟨fun k => (by cases k), fun k => absurd k h⟩⟩
set_option maxRecDepth 100000 in
theorem rh_no (b : ByteArray) (hb : b.size ≤ 150000000000000) (P : Int) (h : ¬ ((unV b).2 = 0 ∧ isU (unV b).1)) (w : World) : Calls Tryz.prog 99 #[.string b, .int .i64 P] w fun e w' => e = .returned (.tuple #[.pointer none, .bool false]) ∧ Below w.heap.size w w' := by
  have HU := hid (fun w => unblock_any b hb w)
  obtain ⟨n, m, hC, hm⟩ := ucut_any (unV b).1 (by have := unV_size b; unfold maxLen; omega)
  have HC := hid hC
  unfold uS at HC
  obtain ⟨t, ht⟩ : ∃ t, t = (unV b).1 := ⟨_, rfl⟩
  obtain ⟨c, hc⟩ : ∃ c, c = (unV b).2 := ⟨_, rfl⟩
  rw [← ht] at HU HC hm h
  rw [← hc] at HU h
  clear ht hc hC
  by_cases hc0 : c = 0
  · subst hc0
    have hmf : m = false := by
      cases m with
      | false => rfl
      | true => exact absurd ⟨rfl, hm.1 rfl⟩ h
    subst hmf
    clear hm h
    go_enter Tryz.func99, Tryz.ntmps99
    go_wp2_with (first
      | (go_at_call 94; refine (HU.out _).mono ?_; rintro e w1 ⟨rfl, hb1⟩)
      | (go_at_call 95; refine (HC.out _).mono ?_; rintro e w2 ⟨rfl, hw⟩; have hw := hw.symm; subst hw))
    go_ret2
    exact ⟨rfl, hb1⟩
  · have hc1 : (c != 0) = true := by simp [hc0]
    clear hm h hc0
    go_enter Tryz.func99, Tryz.ntmps99
    go_wp2_with (first
      | (go_at_call 94; refine (HU.out _).mono ?_; rintro e w1 ⟨rfl, hb1⟩)
      | (go_at_call 95; refine (HC.out _).mono ?_; rintro e w2 ⟨rfl, hw⟩; have hw := hw.symm; subst hw))
    go_ret2
    exact ⟨rfl, hb1⟩
end Go.Proofs.YtopebghandojbaaGreat
namespace Go.Proofs.YtopebghandojbaaGreat
open Go.RowKit
/-- a header's three numbers, read one behind the other -/
def rT (n : ByteArray) : Nat := fxN 2 n 0
def rF (n : ByteArray) : Nat := fxN 8 (fxS 2 n 0) (fxE 2 n 0)
def rE (n : ByteArray) : Nat := fxN 8 (fxS 8 (fxS 2 n 0) (fxE 2 n 0)) (fxE 8 (fxS 2 n 0) (fxE 2 n 0))
def rEnd (n : ByteArray) : Int := endV (fxS 8 (fxS 8 (fxS 2 n 0) (fxE 2 n 0)) (fxE 8 (fxS 2 n 0) (fxE 2 n 0))) (fxE 8 (fxS 8 (fxS 2 n 0) (fxE 2 n 0)) (fxE 8 (fxS 2 n 0) (fxE 2 n 0)))
def rOk (n : ByteArray) (P : Int) : Prop := rEnd n = 0 ∧ (rT n : Int) < P ∧ 1 ≤ rF n ∧ rF n ≤ 1099511627776 ∧ rF n ≤ rE n ∧ (rE n : Int) - rF n ≤ P
set_option maxRecDepth 100000 in
theorem fxN_lt (k : Nat) (s : ByteArray) (e : Int) : fxN k s e < 9223372036854775808 := by
  unfold fxN
  split
  · omega
  · split
    · omega
    · split <;> omega
set_option maxRecDepth 100000 in
theorem Kept.low {base g : Nat} {w w' : World} (k : Kept base g w w') {B : Nat} (h1 : B ≤ base) (h2 : B ≤ g) : Below B w w' := ⟨k.os, k.tape, k.output, k.size, fun i hi => k.block i (by omega) (by omega)⟩
/-- what the header's reading answers -/
def RHP (O : Prop) (P : Int) (T F E : Nat) (w : World) (e : Ending) (w' : World) : Prop :=
  (O → ∃ g, e = .returned (.tuple #[.pointer (some ⟨g, 0, none⟩), .bool true]) ∧ w.heap.size ≤ g ∧ JIs g w' P T F (.slice none 0 0) ((E : Int) - F)) ∧ (¬ O → e = .returned (.tuple #[.pointer none, .bool false])) ∧ Below w.heap.size w w'
set_option maxRecDepth 100000 in
theorem rh_go (b n : ByteArray) (hb : b.size ≤ 150000000000000) (P : Int) (t : ByteArray) (hu : unV b = (t, 0)) (hU : isU t) (hn : n = t.extract 1 t.size) (w : World) :
    Calls Tryz.prog 99 #[.string b, .int .i64 P] w fun e w' => RHP (rOk n P) P (rT n) (rF n) (rE n) w e w' := by
  have HU := hid (fun w => unblock_any b hb w)
  have hsz : t.size ≤ 122 := by have := (un_back b (by rw [hu])).2; rw [hu] at this; exact this
  rw [hu] at HU
  have HC := hid (fun w => ucut_yes t (by unfold maxLen; omega) hU w)
  unfold uS at HC
  rw [← hn] at HC
  have hns : n.size ≤ 150 := by rw [hn, ByteArray.size_extract]; omega
  clear hu hU hn hb
  have s1 := fxS_size 2 n 0
  have s2 := fxS_size 8 (fxS 2 n 0) (fxE 2 n 0)
  have HF1 := hid (fun g w h => fix_r 2 (by decide) (by decide) g n 0 (by unfold maxLen; omega) w h)
  have HF2 := hid (fun g w h => fix_r 8 (by decide) (by decide) g (fxS 2 n 0) (fxE 2 n 0) (by unfold maxLen; omega) w h)
  have HF3 := hid (fun g w h => fix_r 8 (by decide) (by decide) g (fxS 8 (fxS 2 n 0) (fxE 2 n 0)) (fxE 8 (fxS 2 n 0) (fxE 2 n 0)) (by unfold maxLen; omega) w h)
  have HEn := hid (fun g w h => end_r g (fxS 8 (fxS 8 (fxS 2 n 0) (fxE 2 n 0)) (fxE 8 (fxS 2 n 0) (fxE 2 n 0))) (fxE 8 (fxS 8 (fxS 2 n 0) (fxE 2 n 0)) (fxE 8 (fxS 2 n 0) (fxE 2 n 0))) w h)
  have m1 := fxN_lt 2 n 0
  have m2 := fxN_lt 8 (fxS 2 n 0) (fxE 2 n 0)
  have m3 := fxN_lt 8 (fxS 8 (fxS 2 n 0) (fxE 2 n 0)) (fxE 8 (fxS 2 n 0) (fxE 2 n 0))
  rw [show fxN 2 n 0 = rT n from rfl] at HF1 m1
  rw [show fxN 8 (fxS 2 n 0) (fxE 2 n 0) = rF n from rfl] at HF2 m2
  rw [show fxN 8 (fxS 8 (fxS 2 n 0) (fxE 2 n 0)) (fxE 8 (fxS 2 n 0) (fxE 2 n 0)) = rE n from rfl] at HF3 m3
  have HEn2 : Hid (∀ g w, RIs g w (fxS 8 (fxS 8 (fxS 2 n 0) (fxE 2 n 0)) (fxE 8 (fxS 2 n 0) (fxE 2 n 0))) (fxE 8 (fxS 8 (fxS 2 n 0) (fxE 2 n 0)) (fxE 8 (fxS 2 n 0) (fxE 2 n 0))) → Calls Tryz.prog 98 #[.pointer (some ⟨g, 0, none⟩)] w fun x w' => x = .returned (.int .i64 (rEnd n)) ∧ w' = w) := fun g w h => HEn.out g w h
  have HOK : Hid (rOk n P ↔ rEnd n = 0 ∧ (rT n : Int) < P ∧ 1 ≤ rF n ∧ rF n ≤ 1099511627776 ∧ rF n ≤ rE n ∧ (rE n : Int) - rF n ≤ P) := Iff.rfl
  obtain ⟨O, hO⟩ : ∃ O, O = rOk n P := ⟨_, rfl⟩
  rw [← hO] at HOK ⊢
  obtain ⟨T, hT⟩ : ∃ T, T = rT n := ⟨_, rfl⟩
  obtain ⟨F, hF⟩ : ∃ F, F = rF n := ⟨_, rfl⟩
  obtain ⟨E, hE⟩ : ∃ E, E = rE n := ⟨_, rfl⟩
  obtain ⟨c, hc⟩ : ∃ c, c = rEnd n := ⟨_, rfl⟩
  rw [← hT] at HF1 HOK m1 ⊢
  rw [← hF] at HF2 HOK m2 ⊢
  rw [← hE] at HF3 HOK m3 ⊢
  rw [← hc] at HEn2 HOK
  clear hO hT hF hE hc HEn
  rw [show ((2 : Nat) : Int) = 2 from rfl] at HF1
  rw [show ((8 : Nat) : Int) = 8 from rfl] at HF2 HF3
  obtain ⟨z1, hz1⟩ : ∃ z, z = fxS 2 n 0 := ⟨_, rfl⟩
  obtain ⟨y1, hy1⟩ : ∃ z, z = fxE 2 n 0 := ⟨_, rfl⟩
  rw [← hz1, ← hy1] at HF1 HF2 HF3 HEn2
  obtain ⟨z2, hz2⟩ : ∃ z, z = fxS 8 z1 y1 := ⟨_, rfl⟩
  obtain ⟨y2, hy2⟩ : ∃ z, z = fxE 8 z1 y1 := ⟨_, rfl⟩
  rw [← hz2, ← hy2] at HF2 HF3 HEn2
  obtain ⟨z3, hz3⟩ : ∃ z, z = fxS 8 z2 y2 := ⟨_, rfl⟩
  obtain ⟨y3, hy3⟩ : ∃ z, z = fxE 8 z2 y2 := ⟨_, rfl⟩
  rw [← hz3, ← hy3] at HF3 HEn2
  clear hz1 hy1 hz2 hy2 hz3 hy3 s1 s2
  go_enter Tryz.func99, Tryz.ntmps99
  go_upto_region 6 with (first
    | (go_at_call 94; refine (HU.out _).mono ?_; rintro e w1 ⟨rfl, hb1⟩; have HB1 := hid hb1; clear hb1)
    | (go_at_call 95; refine (HC.out _).mono ?_; rintro e w2 ⟨rfl, hw⟩; have hw := hw.symm; subst hw)
    | (go_at_call 96; refine (of_any _ _).mono ?_; rintro e w3 ⟨rfl, rfl⟩))
  have HB3 := hid (HB1.out.next (below_alloc w1 (.cells #[.string n, .int .i64 0] 206)))
  have HR3 : Hid (RIs w1.heap.size (w1.alloc (.cells #[.string n, .int .i64 0] 206)) n 0) := hid (box_at _ _)
  have hg : w.heap.size ≤ w1.heap.size := HB1.out.size
  have hg3 : w1.heap.size < (w1.alloc (.cells #[.string n, .int .i64 0] 206)).heap.size := by simp
  obtain ⟨w3, hw3⟩ : ∃ w3, w3 = w1.alloc (.cells #[.string n, .int .i64 0] 206) := ⟨_, rfl⟩
  rw [← hw3] at HB3 HR3 hg3 ⊢
  clear hw3
  go_wp2_with (first
    | (go_at_call 97; have hk := HR5; clear hk; refine (HF3.out _ _ HR5.out).mono ?_; rintro e w6 ⟨⟨v6, rfl⟩, hr6, hk6⟩; have HR6 := hid hr6; have HB6 := hid (HB5.out.trans (hk6.low (B := w.heap.size) (by omega) hg)); have hz6 := hk6.size; clear hr6 hk6)
    | (go_at_call 97; have hk := HR4; clear hk; refine (HF2.out _ _ HR4.out).mono ?_; rintro e w5 ⟨⟨v5, rfl⟩, hr5, hk5⟩; have HR5 := hid hr5; have HB5 := hid (HB4.out.trans (hk5.low (B := w.heap.size) (by omega) hg)); have hz5 := hk5.size; clear hr5 hk5)
    | (go_at_call 97; refine (HF1.out _ _ HR3.out).mono ?_; rintro e w4 ⟨⟨v4, rfl⟩, hr4, hk4⟩; have HR4 := hid hr4; have HB4 := hid (HB3.out.trans (hk4.low (B := w.heap.size) (by omega) hg)); have hz4 := hk4.size; clear hr4 hk4)
    | (go_at_call 98; fail))
  have hsz6 : w.heap.size ≤ w6.heap.size := HB6.out.size
  have HEnd := hid (HEn2.out _ _ HR6.out)
  by_cases a1 : c = 0
  · subst a1
    by_cases a2 : (T : Int) < P
    · by_cases a3 : 1 ≤ F
      · by_cases a4 : F ≤ 1099511627776
        · by_cases a5 : F ≤ E
          · by_cases a6 : (E : Int) - F ≤ P
            · have HYes := hid (HOK.out.2 ⟨rfl, a2, a3, a4, a5, a6⟩)
              refine (HEnd.out).mono ?_
              rintro e w7 ⟨rfl, hw⟩
              have hw := hw.symm
              subst hw
              go_wp2
              go_ret2
              exact ⟨fun _ => ⟨_, rfl, hsz6, box_at _ _⟩, fun h => absurd HYes.out h, HB6.out.next (below_alloc _ _)⟩
            · have HNo : Hid (¬ O) := hid (fun h => a6 (HOK.out.1 h).2.2.2.2.2)
              refine (HEnd.out).mono ?_
              rintro e w7 ⟨rfl, hw⟩
              have hw := hw.symm
              subst hw
              go_wp2
              go_ret2
              exact ⟨fun h => absurd h HNo.out, fun _ => rfl, HB6.out⟩
          · have HNo : Hid (¬ O) := hid (fun h => a5 (HOK.out.1 h).2.2.2.2.1)
            refine (HEnd.out).mono ?_
            rintro e w7 ⟨rfl, hw⟩
            have hw := hw.symm
            subst hw
            go_wp2
            go_ret2
            exact ⟨fun h => absurd h HNo.out, fun _ => rfl, HB6.out⟩
        · have HNo : Hid (¬ O) := hid (fun h => a4 (HOK.out.1 h).2.2.2.1)
          refine (HEnd.out).mono ?_
          rintro e w7 ⟨rfl, hw⟩
          have hw := hw.symm
          subst hw
          go_wp2
          go_ret2
          exact ⟨fun h => absurd h HNo.out, fun _ => rfl, HB6.out⟩
      · have HNo : Hid (¬ O) := hid (fun h => a3 (HOK.out.1 h).2.2.1)
        refine (HEnd.out).mono ?_
        rintro e w7 ⟨rfl, hw⟩
        have hw := hw.symm
        subst hw
        go_wp2
        go_ret2
        exact ⟨fun h => absurd h HNo.out, fun _ => rfl, HB6.out⟩
    · have HNo : Hid (¬ O) := hid (fun h => a2 (HOK.out.1 h).2.1)
      refine (HEnd.out).mono ?_
      rintro e w7 ⟨rfl, hw⟩
      have hw := hw.symm
      subst hw
      go_wp2
      go_ret2
      exact ⟨fun h => absurd h HNo.out, fun _ => rfl, HB6.out⟩
  · have HNo : Hid (¬ O) := hid (fun h => a1 (HOK.out.1 h).1)
    have a1' : (c != 0) = true := by simp [a1]
    refine (HEnd.out).mono ?_
    rintro e w7 ⟨rfl, hw⟩
    have hw := hw.symm
    subst hw
    go_wp2
    go_ret2
    exact ⟨fun h => absurd h HNo.out, fun _ => rfl, HB6.out⟩
end Go.Proofs.YtopebghandojbaaGreat
namespace Go.Proofs.YtopebghandojbaaGreat
open Go.RowKit
/-- a block that is a header -/
def isHdr (b : ByteArray) (T F E : Nat) : Prop := unV b = (st (hdL T F E), 0) ∧ T < 65536 ∧ F < 9223372036854775808 ∧ E < 9223372036854775808
set_option maxRecDepth 100000 in
theorem hdB_isHdr {T F E : Nat} (h1 : T < 65536) (h2 : F < 9223372036854775808) (h3 : E < 9223372036854775808) : isHdr (hdB T F E) T F E :=
  ⟨un_block _ (by rw [hdL_len]; decide), h1, h2, h3⟩
set_option maxRecDepth 100000 in
theorem hdr_nums {T F E : Nat} (h1 : T < 65536) (h2 : F < 9223372036854775808) (h3 : E < 9223372036854775808) {n : ByteArray} (hn : n.data.toList = fEnc T 2 ++ (fEnc F 8 ++ fEnc E 8)) : rT n = T ∧ rF n = F ∧ rE n = E ∧ rEnd n = 0 := by
  have p2 : (256 : Nat) ^ 2 = 65536 := by decide
  have p8 : (256 : Nat) ^ 8 = 18446744073709551616 := by decide
  obtain ⟨a1, a2, a3⟩ := fx_of 2 (s := n) (n := T) (r := fEnc F 8 ++ fEnc E 8) (by omega) (by omega) hn
  obtain ⟨b1, b2, b3⟩ := fx_of 8 (s := fxS 2 n 0) (n := F) (r := fEnc E 8) (by omega) (by omega) a2
  obtain ⟨c1, c2, c3⟩ := fx_of 8 (s := fxS 8 (fxS 2 n 0) 0) (n := E) (r := []) (by omega) (by omega) (by rw [b2, List.append_nil])
  refine ⟨a3, ?_, ?_, ?_⟩
  · unfold rF; rw [a1, b3]
  · unfold rE; rw [a1, b1, c3]
  · unfold rEnd endV
    rw [a1, b1, c1, if_neg (by decide)]
    have : (fxS 8 (fxS 8 (fxS 2 n 0) 0) 0).size = 0 := by rw [← len_list, c2]; rfl
    rw [if_pos this]
set_option maxRecDepth 100000 in
theorem st_cut (l : List UInt8) : ((st l).extract 1 (st l).size).data.toList = l.drop 1 := by
  rw [ext_list, st_list, List.take_of_length_le (by rw [st_size]; exact Nat.le_refl _)]
set_option maxRecDepth 100000 in
theorem hdr_yes (b : ByteArray) (hb : b.size ≤ 150000000000000) (P : Int) (T F E : Nat) (h : isHdr b T F E) (w : World) :
    Calls Tryz.prog 99 #[.string b, .int .i64 P] w fun e w' => RHP ((T : Int) < P ∧ 1 ≤ F ∧ F ≤ 1099511627776 ∧ F ≤ E ∧ (E : Int) - F ≤ P) P T F E w e w' := by
  obtain ⟨hu, h1, h2, h3⟩ := h
  have hn : ((st (hdL T F E)).extract 1 (st (hdL T F E)).size).data.toList = fEnc T 2 ++ (fEnc F 8 ++ fEnc E 8) := by
    rw [st_cut]; unfold hdL; simp
  obtain ⟨a1, a2, a3, a4⟩ := hdr_nums h1 h2 h3 hn
  have := rh_go b _ hb P _ hu (by unfold isU; rw [st_list]; unfold hdL; rfl) rfl w
  rw [a1, a2, a3] at this
  have e : rOk ((st (hdL T F E)).extract 1 (st (hdL T F E)).size) P = ((T : Int) < P ∧ 1 ≤ F ∧ F ≤ 1099511627776 ∧ F ≤ E ∧ (E : Int) - F ≤ P) := by
    unfold rOk
    rw [a1, a2, a3, a4]
    simp
  rw [e] at this
  exact this
set_option maxRecDepth 100000 in
theorem hdr_back {n : ByteArray} (h : rEnd n = 0) : n.data.toList = fEnc (rT n) 2 ++ (fEnc (rF n) 8 ++ fEnc (rE n) 8) ∧ rT n < 65536 ∧ rF n < 9223372036854775808 ∧ rE n < 9223372036854775808 := by
  unfold rEnd endV at h
  split at h
  · exact absurd h (by assumption)
  · rename_i he
    have he : fxE 8 (fxS 8 (fxS 2 n 0) (fxE 2 n 0)) (fxE 8 (fxS 2 n 0) (fxE 2 n 0)) = 0 := by omega
    split at h
    · rename_i hz
      obtain ⟨c1, c2, c3, c4⟩ := fx_back 8 he
      obtain ⟨b1, b2, b3, b4⟩ := fx_back 8 c1
      obtain ⟨a1, a2, a3, a4⟩ := fx_back 2 b1
      have hz' : (fxS 8 (fxS 8 (fxS 2 n 0) (fxE 2 n 0)) (fxE 8 (fxS 2 n 0) (fxE 2 n 0))).data.toList = [] := List.eq_nil_of_length_eq_zero (by rw [len_list]; exact hz)
      rw [hz', List.append_nil] at c2
      rw [c2] at b2
      rw [b2] at a2
      have p2 : (256 : Nat) ^ 2 = 65536 := by decide
      exact ⟨a2, (by unfold rT; omega), b4, c4⟩
    · exact absurd h (by decide)
set_option maxRecDepth 100000 in
theorem u_take1 {t : ByteArray} (h : isU t) : t.data.toList = [72] ++ (t.extract 1 t.size).data.toList := by
  have hl := len_list t
  rw [ext_list, List.take_of_length_le (l := t.data.toList) (by omega)]
  unfold isU at h
  rw [← h, List.take_append_drop]
set_option maxRecDepth 100000 in
theorem hdr_not (b : ByteArray) (hb : b.size ≤ 150000000000000) (P : Int) (h : ¬ ∃ T F E, isHdr b T F E) (w : World) :
    Calls Tryz.prog 99 #[.string b, .int .i64 P] w fun e w' => e = .returned (.tuple #[.pointer none, .bool false]) ∧ Below w.heap.size w w' := by
  by_cases hU : (unV b).2 = 0 ∧ isU (unV b).1
  · have hu : unV b = ((unV b).1, 0) := by rw [← hU.1]
    obtain ⟨n, hn⟩ : ∃ n, n = (unV b).1.extract 1 (unV b).1.size := ⟨_, rfl⟩
    refine (rh_go b n hb P _ hu hU.2 hn w).mono fun e w' ⟨_, h2, h3⟩ => ⟨h2 ?_, h3⟩
    intro hk
    apply h
    obtain ⟨k1, k2, k3, k4⟩ := hdr_back hk.1
    refine ⟨rT n, rF n, rE n, ?_, k2, k3, k4⟩
    rw [hu]
    congr 1
    rw [← st_toList (unV b).1, u_take1 hU.2, ← hn, k1]
    unfold hdL
    simp
  · exact rh_no b hb P hU w
set_option maxRecDepth 100000 in
theorem appS {ops : Array Oper} {rest : List Oper} {o : Oper} {a : Act} {Q : Exit → Act → World → Prop} {w0 : World} (hgd : o.guard = none) (s x : Operand)
    (ho : o.op = .call { callee := .builtin .append, args := #[s, x], argTypes := #[55, 55] }) (B1 : Nat) (v : Value) (T X : List ByteArray) (ad : Addr) (cap m : Nat) (hmX : X.length = m)
    (hs : a.eval s = v) (hx : a.eval x = .slice (some ad) m cap) (hX : SLie w0 (.slice (some ad) X.length cap) X) (hA : SRow B1 w0 v T) (hn : (T.length + X.length) * 16 ≤ 140737488355328) (hbase : B1 ≤ w0.heap.size)
    (h : ∀ v' w', SRow B1 w' v' (T ++ X) → Below B1 w0 w' → wpList Tryz.prog ops Q rest (a.put o.dst v') w') :
    wpList Tryz.prog ops Q (o :: rest) a w0 := by
  subst hmX
  obtain ⟨i0, hi, hz0, hz1, hz2⟩ := info_parts Tryz.infoR9
  have ho2 := hA.own
  refine wpList_append_own _ hgd s x 55 ho B1 9 i0 (.string ⟨#[]⟩) 1 16 Tryz.underlying55 hi hz0 hz1 hz2 rfl (by decide) v T.length (T.map Value.string) hs hA ad X.length cap (X.map Value.string) hx (by simp) (by
      intro j u hu
      rw [List.getElem?_map] at hu
      obtain ⟨y, hy, rfl⟩ := Option.map_eq_some_iff.1 hu
      obtain ⟨hj, e⟩ := List.getElem?_eq_some_iff.1 hy
      obtain ⟨ao', cap', e0, _, _, hc⟩ := hX
      obtain ⟨gb, off, e1, _, c⟩ := hc j hj
      injection e0 with e2 _ _
      rw [e1] at e2
      injection e2 with e2
      subst e2
      rw [← e]
      have hadd : (⟨gb, off, none⟩ : Addr).add j = ⟨gb, off + j, none⟩ := by unfold Addr.add; split <;> simp_all
      rw [hadd]
      exact c) (by intro u hu; obtain ⟨y, _, rfl⟩ := List.mem_map.1 hu; rfl) (by unfold maxLen; omega) (by omega) hbase ?_
  intro v' w' hown hg _
  refine h v' w' ?_ ?_
  · unfold SRow
    rw [List.map_append, List.length_append]
    exact hown
  · refine ⟨hg.os, hg.tape, hg.output, hg.size, fun k hk => hg.block k (by omega) ?_⟩
    intro e
    have := (ho2 k e.symm).1
    omega
set_option maxRecDepth 100000 in
theorem run_size9 (w : World) : (sizeOf (Tryz.prog.elem 55)).run Tryz.prog w = .ok 1 w := by
  obtain ⟨i0, hi, hz0, hz1, hz2⟩ := info_parts Tryz.infoR9
  have e : Tryz.prog.elem 55 = 9 := by simp [Program.elem, Tryz.underlying55]
  rw [e]
  simp [sizeOf, typeInfo, hi, hz1]
set_option maxRecDepth 100000 in
theorem under58 : Tryz.prog.underlying 55 = some (.slice (Tryz.prog.elem 55)) := by
  have e : Tryz.prog.elem 55 = 9 := by simp [Program.elem, Tryz.underlying55]
  rw [e]
  exact Tryz.underlying55
set_option maxRecDepth 100000 in
theorem SLie.from {w : World} {b off n cap k : Nat} {l : List ByteArray} (h : SLie w (.slice (some ⟨b, off, none⟩) n cap) l) (hk : k ≤ l.length) : SLie w (.slice (some ⟨b, off + k, none⟩) (n - k) (cap - k)) (l.drop k) := by
  obtain ⟨ao', cap', e, h1, h2, h3⟩ := h
  injection e with e1 e2 e3
  subst e1 e2 e3
  have hl : (l.drop k).length = l.length - k := List.length_drop
  refine ⟨_, cap - k, by rw [hl], by omega, by omega, fun i hi => ?_⟩
  obtain ⟨gb, of9, e, hg, c⟩ := h3 (k + i) (by omega)
  injection e with e
  injection e with e4 e5
  subst e4 e5
  exact ⟨b, off + k, rfl, hg, by rw [List.getElem_drop, show off + k + i = off + (k + i) by omega]; exact c⟩
set_option maxRecDepth 100000 in
theorem SLie.upto {w : World} {ao : Option Addr} {n cap k : Nat} {l : List ByteArray} (h : SLie w (.slice ao n cap) l) (hk : k ≤ l.length) : SLie w (.slice ao k cap) (l.take k) := by
  obtain ⟨ao', cap', e, h1, h2, h3⟩ := h
  injection e with e1 e2 e3
  subst e1 e2 e3
  have hl : (l.take k).length = k := by rw [List.length_take]; omega
  refine ⟨_, cap, by rw [hl], by omega, h2, fun i hi => ?_⟩
  obtain ⟨gb, of9, e, hg, c⟩ := h3 i (by omega)
  exact ⟨gb, of9, e, hg, by rw [List.getElem_take]; exact c⟩
set_option maxRecDepth 100000 in
theorem run_from58 {b off n cap k : Nat} (hk : k ≤ n) (hkc : k < cap) (w : World) : (Instr.slice 55 (.slice (some ⟨b, off, none⟩) n cap) (some (.int .i64 (k : Int))) none none).run Tryz.prog w = .ok (.slice (some ⟨b, off + k, none⟩) (n - k) (cap - k)) w := by
  have := run_slice_l (P := Tryz.prog) w 55 (some ⟨b, off, none⟩) n cap under58 .i64 (k : Int) (by omega) (by omega)
  rw [this, run_size9]
  have e : ¬ cap = k := by omega
  have hadd : (⟨b, off, none⟩ : Addr).add k = ⟨b, off + k, none⟩ := by unfold Addr.add; split <;> simp_all
  simp [Result.andThen, sliced, e, hadd]
set_option maxRecDepth 100000 in
theorem run_upto58 {ao : Option Addr} {n cap k : Nat} (hk : k ≤ cap) (w : World) : (Instr.slice 55 (.slice ao n cap) none (some (.int .i64 (k : Int))) none).run Tryz.prog w = .ok (.slice ao k cap) w := by
  have := run_slice_h (P := Tryz.prog) w 55 ao n cap under58 .i64 (k : Int) (by omega) (by omega)
  rw [this, run_size9]
  have e : (ao.map fun x : Addr => x.add 0) = ao := by cases ao <;> simp [Addr.add]
  simp [Result.andThen, sliced, e]
set_option maxRecDepth 100000 in
theorem mkS0 (n : Nat) (hn : n ≤ 300) : ∃ cs, (∀ w : World, (Instr.makeSlice 55 (.int .i64 0) (.int .i64 (n : Int))).run Tryz.prog w = .ok (.slice (some ⟨w.heap.size, 0, none⟩) 0 n) (w.alloc (.cells cs 9))) ∧ ∀ w : World, SRow w.heap.size (w.alloc (.cells cs 9)) (.slice (some ⟨w.heap.size, 0, none⟩) 0 n) [] := by
  obtain ⟨i0, hi, hz0, hz1, hz2⟩ := info_parts Tryz.infoR9
  refine ⟨madeCells (Value.string ⟨#[]⟩).cells n, fun w => ?_, fun w => ?_⟩
  · have := run_makeSlice (P := Tryz.prog) w 55 9 i0 (.string ⟨#[]⟩) Tryz.underlying55 hi hz0 .i64 .i64 0 (n : Int) (by decide) (by omega) (by rw [hz1]; omega) (by rw [hz2]; omega) (by omega)
    have e1 : (n : Int).toNat = n := by omega
    have e2 : (0 : Int).toNat = 0 := rfl
    rw [e1, e2, hz1, Nat.mul_one] at this
    exact this
  · exact ⟨rfl, .inr ⟨w.heap.size, n, _, rfl, Nat.le_refl _, box_at _ _, by simp, by unfold maxLen; omega, by simp [size_madeCells], by simp⟩⟩
set_option maxRecDepth 100000 in
theorem fromTail_any (b off cap t : Nat) (R : List ByteArray) (hR : R.length ≤ 300) (ht : t < R.length) (w : World) (h : SLie w (.slice (some ⟨b, off, none⟩) R.length cap) R) :
    Calls Tryz.prog 100 #[.slice (some ⟨b, off, none⟩) R.length cap, .int .i64 (t : Int)] w fun e w' => ∃ v', e = .returned v' ∧ SLie w' v' (R.drop t ++ R.take t) ∧ (∀ x, v'.ownBlock = some x → w.heap.size ≤ x ∧ x < w'.heap.size) ∧ Below w.heap.size w w' := by
  obtain ⟨cs, hmk, hmF⟩ := mkS0 R.length hR
  have HM := hid (hmF w)
  have hmk1 := hmk w
  have hlc : R.length ≤ cap := by obtain ⟨_, _, e, h1, _⟩ := h; injection e with _ _ e3; omega
  have hcm : cap ≤ maxLen := by obtain ⟨_, _, e, _, h1, _⟩ := h; injection e with _ _ e3; omega
  unfold maxLen at hcm
  have hs1 := fun w => run_from58 (b := b) (off := off) (n := R.length) (cap := cap) (k := t) (by omega) (by omega) w
  have hs2 := fun w => run_upto58 (ao := some ⟨b, off, none⟩) (n := R.length) (cap := cap) (k := t) (by omega) w
  have HB1 := hid (below_alloc w (.cells cs 9))
  have HA1 := hid ((SLie.from h (by omega : t ≤ R.length)).below HB1.out)
  have HA2 := hid (SLie.upto h (by omega : t ≤ R.length))
  have hd : (R.drop t).length = R.length - t := List.length_drop
  have htk : (R.take t).length = t := by rw [List.length_take]; omega
  have hsz : w.heap.size < (w.alloc (.cells cs 9)).heap.size := by simp
  clear hmk hmF h
  go_enter Tryz.func100, Tryz.ntmps100
  go_wp2_with (first
    | (at_builtin; have hk := HR2; clear hk; refine appS rfl (.tmp 14) (.tmp 17) rfl w.heap.size _ (R.drop t) (R.take t) ⟨b, off, none⟩ cap t htk rfl rfl (by rw [htk]; exact HA2.out.below HB2.out) (by exact HR2.out) (by rw [hd, htk]; omega) (by have := HB2.out.size; omega) ?_; intro v3 w3 hr3 hb3; have HR3 := hid hr3; have HB3 := hid (HB2.out.trans hb3); clear hr3 hb3)
    | (at_builtin; refine appS rfl (.tmp 9) (.tmp 12) rfl w.heap.size _ [] (R.drop t) ⟨b, off + t, none⟩ (cap - t) (R.length - t) hd rfl rfl (by rw [hd]; exact HA1.out) (by exact HM.out) (by rw [hd]; simp; omega) (by omega) ?_; intro v2 w2 hr2 hb2; rw [List.nil_append] at hr2; have HR2 := hid hr2; have HB2 := hid (HB1.out.trans hb2); clear hr2 hb2))
  go_ret
  exact ⟨_, rfl, HR3.out.lie, fun x hx => by obtain ⟨k1, cur, k2⟩ := HR3.out.own x hx; exact ⟨k1, lt_of_block k2⟩, HB3.out⟩
end Go.Proofs.YtopebghandojbaaGreat
