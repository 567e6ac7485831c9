import Derived.Test.YtjphfpfagnhelaaMn
import Derived.Test.YtjphfpfagnhelaaEc
namespace Go.Proofs.Ytjphfpfagnhelaa
open Go.RowKit Go.Maps Go.Shelf

theorem rin_any (n : Int) (w : World) : Calls Try.prog 39 #[.int .i64 n] w fun e w' => e = .returned (.bool (nB n 0)) ∧ w' = w := by
  by_cases h : 0 ≤ n
  · have h' : nB n 0 = decide (n ≤ 1099511627776) := by unfold nB; rw [decide_eq_true h]; rfl
    rw [h']
    clear h'
    go_enter Try.func39, Try.ntmps39
    go_wp2
    go_ret
    exact ⟨rfl, rfl⟩
  · have h' : nB n 0 = false := by unfold nB; rw [decide_eq_false h]; rfl
    rw [h']
    clear h'
    go_enter Try.func39, Try.ntmps39
    go_wp2
    go_ret
    exact ⟨rfl, rfl⟩
set_option maxRecDepth 100000 in
set_option maxHeartbeats 2000000 in
theorem rsize_any {w : World} {v : Value} {l : List Ent} (h : ELie w v l) (hok : ∀ y ∈ l, y.Ok) (hn : l.length ≤ 2000000) :
    Calls Try.prog 13 #[v] w fun e w' => e = .returned (.tuple #[.int .i64 (szN l), .int .i64 (szE l)]) ∧ Below w.heap.size w w' := by
  obtain ⟨ao, cap, rfl, hlc, hcm, hcell⟩ := h
  have HC := hid hcell
  unfold maxLen at hcm
  clear hcell
  obtain ⟨n, hnn⟩ : ∃ n, n = l.length := ⟨_, rfl⟩
  rw [← hnn] at hlc hn ⊢
  have HN := hid hnn
  have HOK := hid hok
  clear hnn hok
  obtain ⟨sN, hsN⟩ : ∃ z, z = szN l := ⟨_, rfl⟩
  obtain ⟨sE, hsE⟩ : ∃ z, z = szE l := ⟨_, rfl⟩
  rw [← hsN, ← hsE]
  have HSN := hid hsN
  have HSE := hid hsE
  clear hsN hsE
  go_enter Try.func13, Try.ntmps13
  go_wp2
  go_loopw [4, 11] (fun s i wr => ∃ (j A : Nat), i = .int .i64 j ∧ j ≤ n ∧ s = .int .i64 A ∧ Hid (A = (encs (l.take j)).length) ∧ Hid ((l.take j).all rgt = true) ∧ Hid (Below w.heap.size w wr)) (fun _ i _ => n - (intOf i).toNat)
  case atStart => exact ⟨0, 0, rfl, Nat.zero_le _, rfl, hid rfl, hid rfl, hid (Below.refl _ _)⟩
  case round =>
    obtain ⟨j, A, rfl, hj, rfl, HA, HT, HB⟩ := hrel
    rename World => wr
    by_cases hlt : j < n
    · have hjl : j < l.length := by rw [← HN.out]; exact hlt
      obtain ⟨gb, off, ea, hgb, hat⟩ := HC.out j hjl
      subst ea
      have hat' := hat.same (HB.out.block gb hgb)
      obtain ⟨x, hx⟩ : ∃ x, x = l[j] := ⟨_, rfl⟩
      have HX := hid hx
      have hxo : x.Ok := by rw [hx]; exact HOK.out _ (List.getElem_mem hjl)
      rw [← hx] at hat'
      clear hat hx
      obtain ⟨c0, c1, c2, c3, c4, c5, c6, c7, c8⟩ := hat'
      cases hr : rgt x with
      | true =>
        have HE := hid (rencode_ok x hr hxo)
        have hL := encE_len x hr hxo
        have HT2 := hid (allT hjl HT.out (by rw [← HX.out]; exact hr))
        have hF : encs (l.take (j + 1)) = encs (l.take j) ++ encE x := by rw [encs_take hjl, ← HX.out]
        have hLN : (encs (l.take j)).length ≤ 12378 * 2000000 := by
          have := encs_len (l.take j) HT.out (fun y hy => HOK.out y (List.mem_of_mem_take hy))
          rw [List.length_take] at this
          omega
        obtain ⟨en, hen⟩ : ∃ en, en = st (encE x) := ⟨_, rfl⟩
        have hes : en.size = (encE x).length := by rw [hen, st_size]
        have HA2 : Hid (A + en.size = (encs (l.take (j + 1))).length) := hid (by rw [hF, List.length_append, HA.out, hes])
        have hw : IntKind.i64.wrap ((A : Int) + (en.size : Int)) = (A : Int) + (en.size : Int) := by have := HA.out; rw [IntKind.wrap_i64]; omega
        rw [← hen] at HE
        clear hen hr HX hxo hL hF hLN hes
        obtain ⟨V, C, R, K, A', N, p, t, d⟩ := x
        simp only [Ent.v] at HE c0 c1 c2 c3 c4 c5 c6 c7 c8
        go_wp2_with (first | (go_at_call 21; refine (HE.out _).mono ?_; rintro e w1 ⟨rfl, b1⟩; have B1 := hid b1; clear b1))
        go_roundw
        case rel => exact ⟨j + 1, A + en.size, by go_num, by omega, by simp, HA2, HT2, hid (HB.out.trans (((below_alloc wr _).next B1.out).mono HB.out.size))⟩
        case measure => simp [intOf]; omega
      | false =>
        have HE := hid (rencode_no x hr)
        have ha := allF hjl (by rw [← HX.out]; exact hr)
        have HE1 : Hid (sN = 0) := hid (by rw [HSN.out]; unfold szN; rw [ha]; rfl)
        have HE2 : Hid (sE = 4) := hid (by rw [HSE.out]; unfold szE; rw [ha]; rfl)
        clear hr HX hxo ha
        obtain ⟨V, C, R, K, A', N, p, t, d⟩ := x
        simp only [Ent.v] at HE c0 c1 c2 c3 c4 c5 c6 c7 c8
        go_wp2_with (first | (go_at_call 21; refine (HE.out _).mono ?_; rintro e w1 ⟨rfl, b1⟩; have B1 := hid b1; clear b1))
        go_ret2
        rw [HE1.out, HE2.out]
        exact ⟨rfl, HB.out.trans (((below_alloc wr _).next B1.out).mono HB.out.size)⟩
    · have hjn : j = n := by omega
      have ht : l.take j = l := by rw [hjn, HN.out, List.take_length]
      have ha : l.all rgt = true := by have := HT.out; rw [ht] at this; exact this
      have HE1 : Hid (sN = A) := hid (by rw [HSN.out]; unfold szN; rw [ha, HA.out, ht]; rfl)
      have HE2 : Hid (sE = 0) := hid (by rw [HSE.out]; unfold szE; rw [ha]; rfl)
      clear hjn ht ha
      go_wp2
      go_ret2
      rw [HE1.out, HE2.out]
      exact ⟨rfl, HB.out⟩
theorem fallsB_take {l : List Ent} {j : Nat} (h : fallsB (l.take j) = true) : fallsB l = true := by
  obtain ⟨k, h1, h2⟩ := (fallsB_iff _).1 h
  rw [List.length_take] at h1
  refine (fallsB_iff _).2 ⟨k, by omega, ?_⟩
  simpa [List.getElem_take] using h2
theorem fallsB_step {l : List Ent} {j : Nat} (hj : j + 1 < l.length) (h : fallsB (l.take (j + 1)) = false) (hv : ¬ l[j + 1].V < l[j].V) : fallsB (l.take (j + 1 + 1)) = false := by
  rw [← Bool.not_eq_true] at h ⊢
  intro e
  obtain ⟨k, h1, h2⟩ := (fallsB_iff _).1 e
  rw [List.length_take] at h1
  simp only [List.getElem_take] at h2
  by_cases hk : k = j
  · subst hk; exact hv h2
  · apply h
    refine (fallsB_iff _).2 ⟨k, by rw [List.length_take]; omega, ?_⟩
    simpa [List.getElem_take] using h2
/-- the last view of the first ones -/
def lastV (l : List Ent) (j : Nat) : Int := if j = 0 then 0 else (l.getD (j - 1) Ent.zero).V
theorem lastV_succ {l : List Ent} {j : Nat} (h : j < l.length) : lastV l (j + 1) = l[j].V := by
  unfold lastV
  rw [if_neg (by omega), Nat.add_sub_cancel, List.getD_eq_getElem?_getD, List.getElem?_eq_getElem h]
  rfl
theorem falls_next {l : List Ent} {j : Nat} (hj : j < l.length) (ha : rgt l[j] = true) (h : fallsB (l.take j) = false) : (l[j].V < lastV l j → fallsB l = true) ∧ (¬ l[j].V < lastV l j → fallsB (l.take (j + 1)) = false) := by
  cases j with
  | zero =>
    have hp := (rgt_parts ha).1.1
    refine ⟨fun e => ?_, fun _ => ?_⟩
    · unfold lastV at e
      rw [if_pos rfl] at e
      omega
    · rw [← Bool.not_eq_true]
      intro e
      obtain ⟨k, h1, _⟩ := (fallsB_iff _).1 e
      rw [List.length_take] at h1
      omega
  | succ j =>
    rw [lastV_succ (by omega)]
    exact ⟨fun e => (fallsB_iff _).2 ⟨j, hj, e⟩, fun e => fallsB_step hj h e⟩
/-- what the reference's Right tells -/
def rrB (K V N A C : Int) (es : List Ent) : Bool := (es.all rgt && !fallsB es) && hdB K V N A C
set_option maxRecDepth 100000 in
set_option maxHeartbeats 4000000 in
theorem rright_any {w : World} (K V N A C : Int) (sl : Value) (es : List Ent) (h : ELie w sl es) : Calls Try.prog 19 #[.agg #[.int .i64 K, .int .i64 V, .int .i64 N, .int .i64 A, .int .i64 C, sl]] w fun e w' => e = .returned (.bool (rrB K V N A C es)) ∧ Below w.heap.size w w' := by
  have hnot : ∀ (x : Bool) (w : World), (Op.unary .not (.bool x)).run Try.prog w = .ok (.bool (!x)) w := fun _ _ => rfl
  obtain ⟨sa, sc, rfl, hlc, hcm, hcell⟩ := h
  have HC := hid hcell
  unfold maxLen at hcm
  clear hcell
  obtain ⟨n, hnn⟩ : ∃ n, n = es.length := ⟨_, rfl⟩
  rw [← hnn] at hlc ⊢
  have HN := hid hnn
  clear hnn
  obtain ⟨rb, hrb⟩ : ∃ b, b = rrB K V N A C es := ⟨_, rfl⟩
  rw [← hrb]
  have HRB := hid hrb
  clear hrb
  have HB0 : Hid (NBox w.heap.size (w.alloc (.cells #[.int .i64 K, .int .i64 V, .int .i64 N, .int .i64 A, .int .i64 C, .slice sa n sc] 30)) K V N A C (.slice sa n sc)) := hid (box_at _ _)
  have HBW : Hid (Below w.heap.size w (w.alloc (.cells #[.int .i64 K, .int .i64 V, .int .i64 N, .int .i64 A, .int .i64 C, .slice sa n sc] 30))) := hid (below_alloc _ _)
  have HR := hid right_any
  obtain ⟨b1, hb1⟩ : ∃ b, b = nB V 0 := ⟨_, rfl⟩
  obtain ⟨b2, hb2⟩ : ∃ b, b = nB N 0 := ⟨_, rfl⟩
  obtain ⟨b3, hb3⟩ : ∃ b, b = nB A 0 := ⟨_, rfl⟩
  obtain ⟨b4, hb4⟩ : ∃ b, b = nB C 0 := ⟨_, rfl⟩
  have c1 := hid (rin_any V)
  have c2 := hid (rin_any N)
  have c3 := hid (rin_any A)
  have c4 := hid (rin_any C)
  rw [← hb1] at c1
  rw [← hb2] at c2
  rw [← hb3] at c3
  rw [← hb4] at c4
  have HHD : Hid (hdB K V N A C = (decide (1 ≤ K) && (decide (K ≤ 7) && (b1 && (b2 && (b3 && b4)))))) := hid (by unfold hdB; rw [hb1, hb2, hb3, hb4])
  clear hb1 hb2 hb3 hb4
  obtain ⟨W, hW⟩ : ∃ W, W = w.alloc (.cells #[.int .i64 K, .int .i64 V, .int .i64 N, .int .i64 A, .int .i64 C, .slice sa n sc] 30) := ⟨_, rfl⟩
  go_enter Try.func19, Try.ntmps19
  go_wp2
  rw [← hW] at HB0 HBW
  simp only [← hW]
  clear hW
  go_loopw [3, 9] (fun s i wr => ∃ (j : Nat) (L : Int), i = .int .i64 j ∧ j ≤ n ∧ s = .int .i64 L ∧ Hid (L = lastV es j) ∧ Hid ((es.take j).all rgt = true) ∧ Hid (fallsB (es.take j) = false) ∧ Hid (Below W.heap.size W wr)) (fun _ i _ => n - (intOf i).toNat)
  case atStart => exact ⟨0, 0, rfl, Nat.zero_le _, rfl, hid rfl, hid rfl, hid rfl, hid (Below.refl _ _)⟩
  case round =>
    obtain ⟨j, L, rfl, hj, rfl, HL, HT, HF, HB⟩ := hrel
    rename World => wr
    by_cases hlt : j < n
    · have hjl : j < es.length := by rw [← HN.out]; exact hlt
      obtain ⟨gb, off, ea, hgb, hat⟩ := HC.out j hjl
      subst ea
      have hat' := hat.same (((HBW.out.trans (HB.out.mono HBW.out.size)).block gb hgb))
      obtain ⟨x, hx⟩ : ∃ x, x = es[j] := ⟨_, rfl⟩
      have HX := hid hx
      rw [← hx] at hat'
      clear hat hx
      obtain ⟨d0, d1, d2, d3, d4, d5, d6, d7, d8⟩ := hat'
      have hRx := HR.out x
      cases hr : rgt x with
      | true =>
        rw [hr] at hRx
        have HRX := hid hRx
        have HT2 := hid (allT hjl HT.out (by rw [← HX.out]; exact hr))
        obtain ⟨n1, n2⟩ := falls_next hjl (by rw [← HX.out]; exact hr) HF.out
        rw [← HX.out, ← HL.out] at n1 n2
        have HL2 : Hid (x.V = lastV es (j + 1)) := hid (by rw [lastV_succ hjl, ← HX.out])
        by_cases hv : x.V < L
        · have HRF : Hid (rb = false) := hid (by rw [HRB.out]; unfold rrB; rw [n1 hv]; simp)
          clear hRx hr HX n1 n2
          obtain ⟨V', C', R', K', A', N', p, t, d⟩ := x
          simp only [Ent.v] at HRX hv d0 d1 d2 d3 d4 d5 d6 d7 d8
          go_wp2_with (first | (go_at_call 38; refine (HRX.out _).mono ?_; rintro e w1 ⟨rfl, bb⟩; have B1 := hid bb; have f0 := (cell_at (i := 0) ((bb.block wr.heap.size (by rw [alloc_size]; omega)).trans (box_at wr _))); simp at f0; clear bb))
          go_ret
          exact ⟨by rw [HRF.out]; rfl, HBW.out.trans ((HB.out.trans (((below_alloc wr _).next B1.out).mono HB.out.size)).mono HBW.out.size)⟩
        · have HF2 := hid (n2 hv)
          clear hRx hr HX n1 n2
          obtain ⟨V', C', R', K', A', N', p, t, d⟩ := x
          simp only [Ent.v] at HRX hv HL2 d0 d1 d2 d3 d4 d5 d6 d7 d8
          go_wp2_with (first | (go_at_call 38; refine (HRX.out _).mono ?_; rintro e w1 ⟨rfl, bb⟩; have B1 := hid bb; have f0 := (cell_at (i := 0) ((bb.block wr.heap.size (by rw [alloc_size]; omega)).trans (box_at wr _))); simp at f0; clear bb))
          go_roundw
          case rel => exact ⟨j + 1, _, by go_num, by omega, rfl, HL2, HT2, HF2, hid (HB.out.trans (((below_alloc wr _).next B1.out).mono HB.out.size))⟩
          case measure => simp [intOf]; omega
      | false =>
        rw [hr] at hRx
        have HRX := hid hRx
        have ha := allF hjl (by rw [← HX.out]; exact hr)
        have HRF : Hid (rb = false) := hid (by rw [HRB.out]; unfold rrB; rw [ha]; simp)
        clear hRx hr HX ha
        obtain ⟨V', C', R', K', A', N', p, t, d⟩ := x
        simp only [Ent.v] at HRX d0 d1 d2 d3 d4 d5 d6 d7 d8
        go_wp2_with (first | (go_at_call 38; refine (HRX.out _).mono ?_; rintro e w1 ⟨rfl, bb⟩; have B1 := hid bb; clear bb))
        go_ret
        exact ⟨by rw [HRF.out]; rfl, HBW.out.trans ((HB.out.trans (((below_alloc wr _).next B1.out).mono HB.out.size)).mono HBW.out.size)⟩
    · have hjn : j = n := by omega
      have ht : es.take j = es := by rw [hjn, HN.out, List.take_length]
      have HRF : Hid (rb = hdB K V N A C) := hid (by
        have e1 := HT.out
        have e2 := HF.out
        rw [ht] at e1 e2
        rw [HRB.out]
        unfold rrB
        rw [e1, e2]
        simp)
      rw [HHD.out] at HRF
      obtain ⟨e0, e1, e2, e3, e4, e5⟩ := NBox.cells ((HB.out.block _ (lt_of_block HB0.out)).trans HB0.out)
      have HBE : Hid (Below w.heap.size w wr) := hid (HBW.out.trans (HB.out.mono HBW.out.size))
      clear hjn ht
      clear HRB HHD HL HT HF HB HB0 HBW HC HR
      by_cases k1 : 1 ≤ K
      case neg =>
        rw [decide_eq_false k1] at HRF
        go_wp2
        go_ret
        exact ⟨by rw [HRF.out]; simp, HBE.out⟩
      rw [decide_eq_true k1] at HRF
      by_cases k2 : K ≤ 7
      case neg =>
        rw [decide_eq_false k2] at HRF
        go_wp2
        go_ret
        exact ⟨by rw [HRF.out]; simp, HBE.out⟩
      rw [decide_eq_true k2] at HRF
      cases b1 with
      | false =>
        go_wp2_with (first | (go_at_call 39; first | (refine (c1.out _).mono ?_; rintro e w' ⟨rfl, rfl⟩; clear c1)))
        go_ret
        exact ⟨by rw [HRF.out]; simp, HBE.out⟩
      | true =>
      cases b2 with
      | false =>
        go_wp2_with (first | (go_at_call 39; first | (refine (c1.out _).mono ?_; rintro e w' ⟨rfl, rfl⟩; clear c1) | (refine (c2.out _).mono ?_; rintro e w' ⟨rfl, rfl⟩; clear c2)))
        go_ret
        exact ⟨by rw [HRF.out]; simp, HBE.out⟩
      | true =>
      cases b3 with
      | false =>
        go_wp2_with (first | (go_at_call 39; first | (refine (c1.out _).mono ?_; rintro e w' ⟨rfl, rfl⟩; clear c1) | (refine (c2.out _).mono ?_; rintro e w' ⟨rfl, rfl⟩; clear c2) | (refine (c3.out _).mono ?_; rintro e w' ⟨rfl, rfl⟩; clear c3)))
        go_ret
        exact ⟨by rw [HRF.out]; simp, HBE.out⟩
      | true =>
      cases b4 with
      | false =>
        go_wp2_with (first | (go_at_call 39; first | (refine (c1.out _).mono ?_; rintro e w' ⟨rfl, rfl⟩; clear c1) | (refine (c2.out _).mono ?_; rintro e w' ⟨rfl, rfl⟩; clear c2) | (refine (c3.out _).mono ?_; rintro e w' ⟨rfl, rfl⟩; clear c3) | (refine (c4.out _).mono ?_; rintro e w' ⟨rfl, rfl⟩; clear c4)))
        go_ret
        exact ⟨by rw [HRF.out]; simp, HBE.out⟩
      | true =>
        go_wp2_with (first | (go_at_call 39; first | (refine (c1.out _).mono ?_; rintro e w' ⟨rfl, rfl⟩; clear c1) | (refine (c2.out _).mono ?_; rintro e w' ⟨rfl, rfl⟩; clear c2) | (refine (c3.out _).mono ?_; rintro e w' ⟨rfl, rfl⟩; clear c3) | (refine (c4.out _).mono ?_; rintro e w' ⟨rfl, rfl⟩; clear c4)))
        go_ret
        exact ⟨by rw [HRF.out]; simp, HBE.out⟩
end Go.Proofs.Ytjphfpfagnhelaa
