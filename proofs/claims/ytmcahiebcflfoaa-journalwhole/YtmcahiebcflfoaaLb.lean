import Derived.Test.YtmcahiebcflfoaaLa
namespace Go.Proofs.Ytmcahiebcflfoaa
open Go.RowKit
/-- a header's three numbers, read one behind the other -/
def rT (n : ByteArray) : Nat := fxN 2 n 0
def rF (n : ByteArray) : Nat := fxN 8 (fxS 2 n 0) (fxE 2 n 0)
def rE (n : ByteArray) : Nat := fxN 8 (fxS 8 (fxS 2 n 0) (fxE 2 n 0)) (fxE 8 (fxS 2 n 0) (fxE 2 n 0))
def rEnd (n : ByteArray) : Int := endV (fxS 8 (fxS 8 (fxS 2 n 0) (fxE 2 n 0)) (fxE 8 (fxS 2 n 0) (fxE 2 n 0))) (fxE 8 (fxS 8 (fxS 2 n 0) (fxE 2 n 0)) (fxE 8 (fxS 2 n 0) (fxE 2 n 0)))
def rOk (n : ByteArray) (P : Int) : Prop := rEnd n = 0 ∧ (rT n : Int) < P ∧ 1 ≤ rF n ∧ rF n ≤ 1099511627776 ∧ rF n ≤ rE n ∧ (rE n : Int) - rF n ≤ P
theorem fxN_lt (k : Nat) (s : ByteArray) (e : Int) : fxN k s e < 9223372036854775808 := by
  unfold fxN
  split
  · omega
  · split
    · omega
    · split <;> omega
theorem Kept.low {base g : Nat} {w w' : World} (k : Kept base g w w') {B : Nat} (h1 : B ≤ base) (h2 : B ≤ g) : Below B w w' := ⟨k.os, k.tape, k.output, k.size, fun i hi => k.block i (by omega) (by omega)⟩
/-- what the header's reading answers -/
def RHP (O : Prop) (P : Int) (T F E : Nat) (w : World) (e : Ending) (w' : World) : Prop :=
  (O → ∃ g, e = .returned (.tuple #[.pointer (some ⟨g, 0, none⟩), .bool true]) ∧ w.heap.size ≤ g ∧ JIs g w' P T F (.slice none 0 0) ((E : Int) - F)) ∧ (¬ O → e = .returned (.tuple #[.pointer none, .bool false])) ∧ Below w.heap.size w w'
set_option maxRecDepth 100000 in
theorem rh_go (b n : ByteArray) (hb : b.size ≤ 150000000000000) (P : Int) (t : ByteArray) (hu : unV b = (t, 0)) (hU : isU t) (hn : n = t.extract 1 t.size) (w : World) :
    Calls Try.prog 46 #[.string b, .int .i64 P] w fun e w' => RHP (rOk n P) P (rT n) (rF n) (rE n) w e w' := by
  have HU := hid (fun w => unblock_any b hb w)
  have hsz : t.size ≤ 122 := by have := (un_back b (by rw [hu])).2; rw [hu] at this; exact this
  rw [hu] at HU
  have HC := hid (fun w => ucut_yes t (by unfold maxLen; omega) hU w)
  unfold uS at HC
  rw [← hn] at HC
  have hns : n.size ≤ 150 := by rw [hn, ByteArray.size_extract]; omega
  clear hu hU hn hb
  have s1 := fxS_size 2 n 0
  have s2 := fxS_size 8 (fxS 2 n 0) (fxE 2 n 0)
  have HF1 := hid (fun g w h => fix_r 2 (by decide) (by decide) g n 0 (by unfold maxLen; omega) w h)
  have HF2 := hid (fun g w h => fix_r 8 (by decide) (by decide) g (fxS 2 n 0) (fxE 2 n 0) (by unfold maxLen; omega) w h)
  have HF3 := hid (fun g w h => fix_r 8 (by decide) (by decide) g (fxS 8 (fxS 2 n 0) (fxE 2 n 0)) (fxE 8 (fxS 2 n 0) (fxE 2 n 0)) (by unfold maxLen; omega) w h)
  have HEn := hid (fun g w h => end_r g (fxS 8 (fxS 8 (fxS 2 n 0) (fxE 2 n 0)) (fxE 8 (fxS 2 n 0) (fxE 2 n 0))) (fxE 8 (fxS 8 (fxS 2 n 0) (fxE 2 n 0)) (fxE 8 (fxS 2 n 0) (fxE 2 n 0))) w h)
  have m1 := fxN_lt 2 n 0
  have m2 := fxN_lt 8 (fxS 2 n 0) (fxE 2 n 0)
  have m3 := fxN_lt 8 (fxS 8 (fxS 2 n 0) (fxE 2 n 0)) (fxE 8 (fxS 2 n 0) (fxE 2 n 0))
  rw [show fxN 2 n 0 = rT n from rfl] at HF1 m1
  rw [show fxN 8 (fxS 2 n 0) (fxE 2 n 0) = rF n from rfl] at HF2 m2
  rw [show fxN 8 (fxS 8 (fxS 2 n 0) (fxE 2 n 0)) (fxE 8 (fxS 2 n 0) (fxE 2 n 0)) = rE n from rfl] at HF3 m3
  have HEn2 : Hid (∀ g w, RIs g w (fxS 8 (fxS 8 (fxS 2 n 0) (fxE 2 n 0)) (fxE 8 (fxS 2 n 0) (fxE 2 n 0))) (fxE 8 (fxS 8 (fxS 2 n 0) (fxE 2 n 0)) (fxE 8 (fxS 2 n 0) (fxE 2 n 0))) → Calls Try.prog 68 #[.pointer (some ⟨g, 0, none⟩)] w fun x w' => x = .returned (.int .i64 (rEnd n)) ∧ w' = w) := fun g w h => HEn.out g w h
  have HOK : Hid (rOk n P ↔ rEnd n = 0 ∧ (rT n : Int) < P ∧ 1 ≤ rF n ∧ rF n ≤ 1099511627776 ∧ rF n ≤ rE n ∧ (rE n : Int) - rF n ≤ P) := Iff.rfl
  obtain ⟨O, hO⟩ : ∃ O, O = rOk n P := ⟨_, rfl⟩
  rw [← hO] at HOK ⊢
  obtain ⟨T, hT⟩ : ∃ T, T = rT n := ⟨_, rfl⟩
  obtain ⟨F, hF⟩ : ∃ F, F = rF n := ⟨_, rfl⟩
  obtain ⟨E, hE⟩ : ∃ E, E = rE n := ⟨_, rfl⟩
  obtain ⟨c, hc⟩ : ∃ c, c = rEnd n := ⟨_, rfl⟩
  rw [← hT] at HF1 HOK m1 ⊢
  rw [← hF] at HF2 HOK m2 ⊢
  rw [← hE] at HF3 HOK m3 ⊢
  rw [← hc] at HEn2 HOK
  clear hO hT hF hE hc HEn
  rw [show ((2 : Nat) : Int) = 2 from rfl] at HF1
  rw [show ((8 : Nat) : Int) = 8 from rfl] at HF2 HF3
  obtain ⟨z1, hz1⟩ : ∃ z, z = fxS 2 n 0 := ⟨_, rfl⟩
  obtain ⟨y1, hy1⟩ : ∃ z, z = fxE 2 n 0 := ⟨_, rfl⟩
  rw [← hz1, ← hy1] at HF1 HF2 HF3 HEn2
  obtain ⟨z2, hz2⟩ : ∃ z, z = fxS 8 z1 y1 := ⟨_, rfl⟩
  obtain ⟨y2, hy2⟩ : ∃ z, z = fxE 8 z1 y1 := ⟨_, rfl⟩
  rw [← hz2, ← hy2] at HF2 HF3 HEn2
  obtain ⟨z3, hz3⟩ : ∃ z, z = fxS 8 z2 y2 := ⟨_, rfl⟩
  obtain ⟨y3, hy3⟩ : ∃ z, z = fxE 8 z2 y2 := ⟨_, rfl⟩
  rw [← hz3, ← hy3] at HF3 HEn2
  clear hz1 hy1 hz2 hy2 hz3 hy3 s1 s2
  go_enter Try.func46, Try.ntmps46
  go_upto_region 6 with (first
    | (go_at_call 64; refine (HU.out _).mono ?_; rintro e w1 ⟨rfl, hb1⟩; have HB1 := hid hb1; clear hb1)
    | (go_at_call 65; refine (HC.out _).mono ?_; rintro e w2 ⟨rfl, hw⟩; have hw := hw.symm; subst hw)
    | (go_at_call 66; refine (of_any _ _).mono ?_; rintro e w3 ⟨rfl, rfl⟩))
  have HB3 := hid (HB1.out.next (below_alloc w1 (.cells #[.string n, .int .i64 0] 127)))
  have HR3 : Hid (RIs w1.heap.size (w1.alloc (.cells #[.string n, .int .i64 0] 127)) n 0) := hid (box_at _ _)
  have hg : w.heap.size ≤ w1.heap.size := HB1.out.size
  have hg3 : w1.heap.size < (w1.alloc (.cells #[.string n, .int .i64 0] 127)).heap.size := by simp
  obtain ⟨w3, hw3⟩ : ∃ w3, w3 = w1.alloc (.cells #[.string n, .int .i64 0] 127) := ⟨_, rfl⟩
  rw [← hw3] at HB3 HR3 hg3 ⊢
  clear hw3
  go_wp2_with (first
    | (go_at_call 67; have hk := HR5; clear hk; refine (HF3.out _ _ HR5.out).mono ?_; rintro e w6 ⟨⟨v6, rfl⟩, hr6, hk6⟩; have HR6 := hid hr6; have HB6 := hid (HB5.out.trans (hk6.low (B := w.heap.size) (by omega) hg)); have hz6 := hk6.size; clear hr6 hk6)
    | (go_at_call 67; have hk := HR4; clear hk; refine (HF2.out _ _ HR4.out).mono ?_; rintro e w5 ⟨⟨v5, rfl⟩, hr5, hk5⟩; have HR5 := hid hr5; have HB5 := hid (HB4.out.trans (hk5.low (B := w.heap.size) (by omega) hg)); have hz5 := hk5.size; clear hr5 hk5)
    | (go_at_call 67; refine (HF1.out _ _ HR3.out).mono ?_; rintro e w4 ⟨⟨v4, rfl⟩, hr4, hk4⟩; have HR4 := hid hr4; have HB4 := hid (HB3.out.trans (hk4.low (B := w.heap.size) (by omega) hg)); have hz4 := hk4.size; clear hr4 hk4)
    | (go_at_call 68; fail))
  have hsz6 : w.heap.size ≤ w6.heap.size := HB6.out.size
  have HEnd := hid (HEn2.out _ _ HR6.out)
  by_cases a1 : c = 0
  · subst a1
    by_cases a2 : (T : Int) < P
    · by_cases a3 : 1 ≤ F
      · by_cases a4 : F ≤ 1099511627776
        · by_cases a5 : F ≤ E
          · by_cases a6 : (E : Int) - F ≤ P
            · have HYes := hid (HOK.out.2 ⟨rfl, a2, a3, a4, a5, a6⟩)
              refine (HEnd.out).mono ?_
              rintro e w7 ⟨rfl, hw⟩
              have hw := hw.symm
              subst hw
              go_wp2
              go_ret2
              exact ⟨fun _ => ⟨_, rfl, hsz6, box_at _ _⟩, fun h => absurd HYes.out h, HB6.out.next (below_alloc _ _)⟩
            · have HNo : Hid (¬ O) := hid (fun h => a6 (HOK.out.1 h).2.2.2.2.2)
              refine (HEnd.out).mono ?_
              rintro e w7 ⟨rfl, hw⟩
              have hw := hw.symm
              subst hw
              go_wp2
              go_ret2
              exact ⟨fun h => absurd h HNo.out, fun _ => rfl, HB6.out⟩
          · have HNo : Hid (¬ O) := hid (fun h => a5 (HOK.out.1 h).2.2.2.2.1)
            refine (HEnd.out).mono ?_
            rintro e w7 ⟨rfl, hw⟩
            have hw := hw.symm
            subst hw
            go_wp2
            go_ret2
            exact ⟨fun h => absurd h HNo.out, fun _ => rfl, HB6.out⟩
        · have HNo : Hid (¬ O) := hid (fun h => a4 (HOK.out.1 h).2.2.2.1)
          refine (HEnd.out).mono ?_
          rintro e w7 ⟨rfl, hw⟩
          have hw := hw.symm
          subst hw
          go_wp2
          go_ret2
          exact ⟨fun h => absurd h HNo.out, fun _ => rfl, HB6.out⟩
      · have HNo : Hid (¬ O) := hid (fun h => a3 (HOK.out.1 h).2.2.1)
        refine (HEnd.out).mono ?_
        rintro e w7 ⟨rfl, hw⟩
        have hw := hw.symm
        subst hw
        go_wp2
        go_ret2
        exact ⟨fun h => absurd h HNo.out, fun _ => rfl, HB6.out⟩
    · have HNo : Hid (¬ O) := hid (fun h => a2 (HOK.out.1 h).2.1)
      refine (HEnd.out).mono ?_
      rintro e w7 ⟨rfl, hw⟩
      have hw := hw.symm
      subst hw
      go_wp2
      go_ret2
      exact ⟨fun h => absurd h HNo.out, fun _ => rfl, HB6.out⟩
  · have HNo : Hid (¬ O) := hid (fun h => a1 (HOK.out.1 h).1)
    have a1' : (c != 0) = true := by simp [a1]
    refine (HEnd.out).mono ?_
    rintro e w7 ⟨rfl, hw⟩
    have hw := hw.symm
    subst hw
    go_wp2
    go_ret2
    exact ⟨fun h => absurd h HNo.out, fun _ => rfl, HB6.out⟩
end Go.Proofs.Ytmcahiebcflfoaa
