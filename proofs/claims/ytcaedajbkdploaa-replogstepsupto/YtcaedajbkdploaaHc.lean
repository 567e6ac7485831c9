import Derived.Test.YtcaedajbkdploaaHb
import Derived.Test.YtcaedajbkdploaaGj
namespace Go.Proofs.Ytcaedajbkdploaa
open Go.RowKit Go.Maps

theorem fall_next {O : List Ent} {i : Nat} (h1 : 1 ≤ i) (hi : i < O.length) (h : fallB 0 (O.take i) = false) :
    (O[i].V < (O[i - 1]'(by omega)).V → fallB 0 O = true) ∧ (¬ O[i].V < (O[i - 1]'(by omega)).V → fallB 0 (O.take (i + 1)) = false) := by
  have hl : lastD 0 (O.take i) = (O[i - 1]'(by omega)).V := by
    unfold lastD
    rw [List.getLast?_eq_getElem?, List.length_take, show min i O.length - 1 = i - 1 by omega, List.getElem?_take_of_lt (by omega), List.getElem?_eq_getElem (by omega)]
  have hs : fallB 0 (O.take (i + 1)) = decide (O[i].V < (O[i - 1]'(by omega)).V) := by
    rw [List.take_succ_eq_append_getElem hi, fall_append, h, hl]
    simp [fallB]
  constructor
  · intro e
    have : O = O.take (i + 1) ++ O.drop (i + 1) := (List.take_append_drop _ _).symm
    rw [this, fall_append, hs]
    simp [e]
  · intro e
    rw [hs]
    simp only [decide_eq_false_iff_not]
    exact e
theorem all_rgt_V {l : List Ent} (h : l.all rgt = true) : ∀ x ∈ l, 0 ≤ x.V := fun x hx => (rgt_parts (List.all_eq_true.1 h x hx)).1.1
theorem fall_first {O : List Ent} (h : ∀ x ∈ O, 0 ≤ x.V) : fallB 0 (O.take 1) = false := by
  cases O with
  | nil => rfl
  | cons x t =>
    have := h x (by simp)
    simp [fallB]
    omega
theorem rreplace_arg {B g : Nat} {w : World} {v0 : Value} {l : List Ent} (k : Int) (v : Value) (h : LI 43 B g w v0 l) (hk : k < 0 ∨ (l.length : Int) < k) : Calls Try.prog 18 #[.pointer (some ⟨g, 0, none⟩), .int .i64 k, v] w fun e w' => e = .returned (.int .i64 1) ∧ w' = w := by
  have c0 := h.c0
  obtain ⟨ao, cap, rfl, _, _⟩ := h.row.len
  clear h
  by_cases h0 : k < 0
  · clear hk
    go_enter Try.func18, Try.ntmps18
    go_wp2
    go_ret
    exact ⟨rfl, rfl⟩
  · have h1 : (l.length : Int) < k := by omega
    clear hk
    go_enter Try.func18, Try.ntmps18
    go_wp2
    go_ret
    exact ⟨rfl, rfl⟩
set_option maxRecDepth 100000 in
set_option maxHeartbeats 4000000 in
theorem rreplace_go {B g : Nat} {w : World} {v0 : Value} {l m : List Ent} (k : Nat) (v : Value) (h : LI 43 B g w v0 l) (hV : Val l) (hm : ELie w v m) (hk : k ≤ l.length) (hml : m.length ≤ 2000000) (hB : B ≤ w.heap.size) (er : Int) (L : List Ent) (her : er = rpE l k m) (hL : L = rpL l k m) : Calls Try.prog 18 #[.pointer (some ⟨g, 0, none⟩), .int .i64 k, v] w fun e w' => e = .returned (.int .i64 er) ∧ After 43 B g v0 w L w' := by
  have HH := hid h
  have HM := hid hm
  have HER := hid her
  have HLL := hid hL
  have c0 := h.c0
  have hlen := h.len
  obtain ⟨a0, p0, hv0, hlc0, hcm0⟩ := h.row.len
  obtain ⟨ao, cap, hvm, hlc, hcm, hcell⟩ := hm
  subst hv0
  subst hvm
  unfold maxLen at hcm hcm0
  have HC := hid hcell
  have HR := hid right_any
  have h1 : ¬ (l.length : Int) < k := by omega
  clear hcell her hL h
  go_enter Try.func18, Try.ntmps18
  go_wp2
  go_loopw [24] (fun i wr => ∃ j : Nat, i = .int .i64 j ∧ j ≤ m.length ∧ Hid ((m.take j).all rgt = true) ∧ Hid (Below w.heap.size w wr)) (fun i _ => m.length - (intOf i).toNat)
  case atStart => exact ⟨0, rfl, Nat.zero_le _, hid rfl, hid (Below.refl _ _)⟩
  case round =>
    obtain ⟨j, rfl, hj, HT, HB⟩ := hrel
    rename World => wr
    by_cases hlt : j < m.length
    · obtain ⟨gb, off, ea, hgb, hat⟩ := HC.out j hlt
      subst ea
      have hat' := hat.same (HB.out.block gb hgb)
      have hgr : gb < wr.heap.size := Nat.lt_of_lt_of_le hgb HB.out.size
      obtain ⟨x, hx⟩ : ∃ x, x = m[j] := ⟨_, rfl⟩
      have HX := hid hx
      rw [← hx] at hat'
      clear hat hx
      obtain ⟨d0, d1, d2, d3, d4, d5, d6, d7, d8⟩ := hat'
      have HR2 := hid (HR.out x)
      cases hr : rgt x with
      | true =>
        rw [hr] at HR2
        have HT2 := hid (all_take hlt HT.out (by rw [← HX.out]; exact hr))
        clear hr HX
        obtain ⟨V, C, R, K, A, N, p, t, d⟩ := x
        simp only [Ent.v] at HR2 d0 d1 d2 d3 d4 d5 d6 d7 d8
        go_wp2_with (first | (go_at_call 30; refine (HR2.out _).mono ?_; rintro e w2 ⟨rfl, b2⟩; have HB2 := hid ((HB.out.next (below_alloc wr _)).next b2); clear b2))
        go_roundw
        case rel => exact ⟨j + 1, by go_num, by omega, HT2, HB2⟩
        case measure => simp [intOf]; omega
      | false =>
        rw [hr] at HR2
        have HT2 := hid (all_not hlt (by rw [← HX.out]; exact hr))
        clear hr HX
        obtain ⟨V, C, R, K, A, N, p, t, d⟩ := x
        simp only [Ent.v] at HR2 d0 d1 d2 d3 d4 d5 d6 d7 d8
        go_wp2_with (first | (go_at_call 30; refine (HR2.out _).mono ?_; rintro e w2 ⟨rfl, b2⟩; have HB2 := hid ((HB.out.next (below_alloc wr _)).next b2); clear b2))
        go_ret
        have e4 : rpE l k m = 4 := by unfold rpE; rw [if_neg (by omega), if_pos HT2.out]
        refine ⟨by rw [HER.out, e4]; rfl, ?_⟩
        rw [HLL.out]
        unfold rpL
        rw [e4, if_neg (by decide)]
        exact After.same HH.out HB2.out
    · have hjn : j = m.length := by omega
      have HAR : Hid (m.all rgt = true) := by
        have e := HT.out
        rw [hjn, List.take_of_length_le (Nat.le_refl _)] at e
        exact hid e
      clear hjn HT
      have hI := HH.out.below HB.out
      have c1 := hI.c0
      obtain ⟨us, hsl, hul⟩ := row_upto hI.row k hk
      have HUL := hid hul
      have HMW := hid (HM.out.below HB.out)
      have hgl := hI.lt
      have HN := hid (ERow.nil wr.heap.size wr)
      have HKL : Hid ((l.take k).length = k) := hid (by rw [List.length_take]; omega)
      clear hul c0
      go_wp2_with (first
        | (at_builtin; (fail_if_success (have hk := HR1)); refine appA rfl (.tmp 32) (.tmp 38) rfl wr.heap.size _ _ [] (l.take k) rfl rfl HN.out HUL.out (by rw [HKL.out]; simp; omega) (Nat.le_refl _) ?_; intro v1 w1 hr1 hb1 _; have HR1 := hid hr1; have HB1 := hid hb1; clear hr1 hb1)
        | (at_builtin; refine appA rfl (.tmp 40) (.tmp 41) rfl wr.heap.size _ _ ([] ++ l.take k) m rfl rfl HR1.out (HMW.out.below HB1.out) (by rw [List.nil_append, HKL.out]; omega) HB1.out.size ?_; intro v2 w2 hr2 hb2 _; have HR2 := hid hr2; have HB2 := hid (HB1.out.trans hb2); clear hr2 hb2))
      obtain ⟨O, hO⟩ : ∃ O, O = [] ++ l.take k ++ m := ⟨_, rfl⟩
      rw [← hO] at HR2
      rw [List.nil_append] at hO
      have hOl : O.length = k + m.length := by rw [hO, List.length_append, HKL.out]
      have HOl := hid hOl
      have hOs : O.length ≤ 3000000 := by omega
      have HOV : Hid (∀ x ∈ O, 0 ≤ x.V) := hid (by
        intro x hx
        rw [hO] at hx
        rcases List.mem_append.1 hx with hx | hx
        · exact all_rgt_V hV.right x (List.mem_of_mem_take hx)
        · exact all_rgt_V HAR.out x hx)
      have HOF : Hid (fallB 0 O = fallB (lastV (l.take k)) m) := hid (by rw [hO, fall_append, (hV.take k).rise, lastD_zero]; simp)
      have HO := hid hO
      clear hO hOl hml
      obtain ⟨a2, c2, hv2, hl2, hm2⟩ := HR2.out.len
      subst hv2
      unfold maxLen at hm2
      have HL2 := hid HR2.out.lie
      go_loopw [10] (fun i wx => ∃ j : Nat, i = .int .i64 j ∧ 1 ≤ j ∧ (j ≤ O.length ∨ j = 1) ∧ Hid (fallB 0 (O.take j) = false) ∧ ∃ q, wx = w2.drewN q) (fun i _ => O.length - (intOf i).toNat)
      case atStart => exact ⟨1, rfl, Nat.le_refl _, .inr rfl, hid (fall_first HOV.out), 0, rfl⟩
      case round =>
        obtain ⟨j, rfl, hj1, hj2, HT, q, rfl⟩ := hrel
        by_cases hlt : j < O.length
        · obtain ⟨ai, ci, hvi, _, _, hci⟩ := HL2.out
          obtain ⟨gb, off, ea, hgb, hat⟩ := hci j hlt
          obtain ⟨gb', off', ea', _, hat2⟩ := hci (j - 1) (by omega)
          cases hvi
          cases ea
          cases ea'
          have d0 := hat.1
          have d1 := hat2.1
          obtain ⟨f1, f2⟩ := fall_next hj1 hlt HT.out
          obtain ⟨x, hx⟩ : ∃ x, x = O[j].V := ⟨_, rfl⟩
          obtain ⟨y, hy⟩ : ∃ y, y = (O[j - 1]'(by omega)).V := ⟨_, rfl⟩
          rw [← hx] at d0 f1 f2
          rw [← hy] at d1 f1 f2
          obtain ⟨i1, hi1⟩ : ∃ i1, i1 = j - 1 := ⟨_, rfl⟩
          rw [← hi1] at d1
          have hw1 : IntKind.i64.wrap ((j : Int) - 1) = (i1 : Int) := by rw [IntKind.wrap_i64]; omega
          have hw2 : (j : Int) - 1 = (i1 : Int) := by omega
          have hi2 : i1 < O.length := by omega
          have F1 := hid f1
          have F2 := hid f2
          clear hx hy hi1 hat hat2 hci f1 f2
          by_cases hxy : x < y
          · have HF := hid (F1.out hxy)
            go_wp2
            go_quiet (fail)
            go_wp2
            go_ret
            have e7 : rpE l k m = 7 := by unfold rpE; rw [if_neg (by omega), if_neg (by rw [HAR.out]; decide), Int.toNat_natCast, ← HOF.out, HF.out, if_pos rfl]
            refine ⟨by rw [HER.out, e7]; rfl, ?_⟩
            rw [HLL.out]
            unfold rpL
            rw [e7, if_neg (by decide)]
            exact After.same HH.out (((HB.out.next HB2.out).next (drewN_below _ _)).next (drewN_below _ _))
          · have HF := hid (F2.out hxy)
            go_wp2
            go_quiet (fail)
            go_wp2
            go_roundw
            case rel => exact ⟨j + 1, by go_num, by omega, .inl (by omega), HF, _, by first | exact drewN2 _ _ _ | rfl⟩
            case measure => simp [intOf]; omega
        · have HNF : Hid (fallB 0 O = false) := hid (by
            have e := HT.out
            rw [List.take_of_length_le (by omega)] at e
            exact e)
          by_cases h5 : (4096 : Int) < O.length
          · go_wp2
            go_ret
            have e5 : rpE l k m = 5 := by
              have := HOl.out
              unfold rpE; rw [if_neg (by omega), if_neg (by rw [HAR.out]; decide), Int.toNat_natCast, ← HOF.out, HNF.out, if_neg (by decide), if_pos (by omega)]
            refine ⟨by rw [HER.out, e5]; rfl, ?_⟩
            rw [HLL.out]
            unfold rpL
            rw [e5, if_neg (by decide)]
            exact After.same HH.out ((HB.out.next HB2.out).next (drewN_below _ _))
          · have e0 : rpE l k m = 0 := by
              have := HOl.out
              unfold rpE; rw [if_neg (by omega), if_neg (by rw [HAR.out]; decide), Int.toNat_natCast, ← HOF.out, HNF.out, if_neg (by decide), if_neg (by omega)]
            have HA := hid (after_set HH.out HB.out hB (HR2.out.below (drewN_below w2 q)) (HB2.out.trans ((drewN_below w2 q).mono HB2.out.size)) (by omega))
            have hg2 := (HH.out.below HB.out).below (HB2.out.trans ((drewN_below w2 q).mono HB2.out.size))
            have k2 := hg2.c0
            have f2 := hg2.fr
            have HEN : Hid (er = 0 ∧ L = O) := hid ⟨HER.out.trans e0, by rw [HLL.out, HO.out]; unfold rpL; rw [e0, if_pos rfl, Int.toNat_natCast]⟩
            clear e0 hg2
            go_wp2
            go_ret
            exact ⟨by rw [HEN.out.1]; rfl, by rw [HEN.out.2]; exact HA.out⟩
theorem rreplace_any {B g : Nat} {w : World} {v0 : Value} {l m : List Ent} (k : Int) (v : Value) (h : LI 43 B g w v0 l) (hV : Val l) (hm : ELie w v m) (hml : m.length ≤ 2000000) (hB : B ≤ w.heap.size) : Calls Try.prog 18 #[.pointer (some ⟨g, 0, none⟩), .int .i64 k, v] w fun e w' => e = .returned (.int .i64 (rpE l k m)) ∧ After 43 B g v0 w (rpL l k m) w' := by
  by_cases h1 : k < 0 ∨ (l.length : Int) < k
  · have e : rpE l k m = 1 := by unfold rpE; rw [if_pos h1]
    unfold rpL
    rw [e, if_neg (by decide)]
    exact (rreplace_arg k v h h1).mono fun e w' ⟨a, b⟩ => ⟨a, by rw [b]; exact After.same h (Below.refl _ _)⟩
  · obtain ⟨n, rfl⟩ := Int.eq_ofNat_of_zero_le (show 0 ≤ k by omega)
    exact rreplace_go n v h hV hm (by omega) hml hB _ _ rfl rfl
theorem Val.rp {l m : List Ent} (h : Val l) (k : Int) : Val (rpL l k m) := by
  unfold rpL
  split
  · rename_i he
    unfold rpE at he
    split at he
    · simp at he
    · split at he
      · simp at he
      · split at he
        · simp at he
        · split at he
          · simp at he
          · rename_i h1 h2 h3 h4
            refine ⟨?_, ?_, ?_⟩
            · rw [List.all_append, (h.take _).right]; simpa using h2
            · rw [fall_append, (h.take _).rise, lastD_zero]; simpa using h3
            · rw [List.length_append, List.length_take]; omega
  · exact h
end Go.Proofs.Ytcaedajbkdploaa
