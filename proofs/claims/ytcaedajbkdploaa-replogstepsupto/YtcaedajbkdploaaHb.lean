import Derived.Test.YtcaedajbkdploaaHa
namespace Go.Proofs.Ytcaedajbkdploaa
open Go.RowKit Go.Maps

theorem rappend_any {B g : Nat} {w : World} {v : Value} {l : List Ent} (x : Ent) (h : LI 43 B g w v l) (hB : B ≤ w.heap.size) : Calls Try.prog 16 #[.pointer (some ⟨g, 0, none⟩), x.v] w fun e w' => e = .returned (.tuple #[.int .i64 (apN l x), .int .i64 (apE l x)]) ∧ After 43 B g v w (apL l x) w' := by
  cases hx : rgt x with
  | false =>
    obtain ⟨e1, e2, e3⟩ := ap_form (l := l) hx
    rw [e1, e2, e3]
    exact (rappend_no x hx).mono fun e w' ⟨h1, h2⟩ => ⟨h1, After.same h h2⟩
  | true =>
    by_cases h2 : x.V < lastV l
    · obtain ⟨e1, e2, e3⟩ := ap_state hx h2
      rw [e1, e2, e3]
      exact (rappend_state x h hx h2).mono fun e w' ⟨k1, k2⟩ => ⟨k1, After.same h k2⟩
    · by_cases h3 : 4096 ≤ l.length
      · obtain ⟨e1, e2, e3⟩ := ap_full hx h2 h3
        rw [e1, e2, e3]
        exact (rappend_full x h hx h2 h3).mono fun e w' ⟨k1, k2⟩ => ⟨k1, After.same h k2⟩
      · obtain ⟨e1, e2, e3⟩ := ap_ok hx h2 h3
        rw [e1, e2, e3]
        exact rappend_ok x h hx h2 h3 hB
set_option maxRecDepth 100000 in
set_option maxHeartbeats 1000000 in
theorem rget_no {B g : Nat} {w : World} {v : Value} {l : List Ent} (n : Int) (h : LI 43 B g w v l) (hn : n < 1 ∨ (l.length : Int) < n) : Calls Try.prog 20 #[.pointer (some ⟨g, 0, none⟩), .int .i64 n] w fun e w' => e = .returned (.tuple #[Ent.zero.v, .int .i64 6]) ∧ Below w.heap.size w w' := by
  have HB0 : Hid (Box w.heap.size (w.alloc (.cells #[.int .i64 0, .int .i64 0, .int .i64 0, .int .i64 0, .int .i64 0, .int .i64 0, .string ⟨#[]⟩, .string ⟨#[]⟩, .string ⟨#[]⟩] 25)) Ent.zero) := hid (box_at _ _)
  have c0 := h.c0
  have hgl := h.lt
  obtain ⟨ao, cap, rfl, hlc, hcm⟩ := h.row.len
  clear h
  by_cases h1 : n < 1
  · clear hn
    go_enter Try.func20, Try.ntmps20
    go_wp2_with (first
      | ((with_reducible refine at_store25 w.heap.size Ent.zero Ent.zero ?_ ?_ HB0.out ?_); rfl; rfl; intro wr hBr hkr))
    exact ret20 hBr rfl rfl rfl ⟨rfl, (below_alloc w _).trans (hkr.below (by simp) (Nat.le_refl _))⟩
  · have h2 : (l.length : Int) < n := by omega
    clear hn
    go_enter Try.func20, Try.ntmps20
    go_wp2_with (first
      | ((with_reducible refine at_store25 w.heap.size Ent.zero Ent.zero ?_ ?_ HB0.out ?_); rfl; rfl; intro wr hBr hkr))
    exact ret20 hBr rfl rfl rfl ⟨rfl, (below_alloc w _).trans (hkr.below (by simp) (Nat.le_refl _))⟩
set_option maxRecDepth 100000 in
set_option maxHeartbeats 1000000 in
theorem rget_ok {B g : Nat} {w : World} {v : Value} {l : List Ent} (n : Nat) (h : LI 43 B g w v l) (hn : n < l.length) : Calls Try.prog 20 #[.pointer (some ⟨g, 0, none⟩), .int .i64 ((n : Int) + 1)] w fun e w' => e = .returned (.tuple #[l[n].v, .int .i64 0]) ∧ Below w.heap.size w w' := by
  have HB0 : Hid (Box w.heap.size (w.alloc (.cells #[.int .i64 0, .int .i64 0, .int .i64 0, .int .i64 0, .int .i64 0, .int .i64 0, .string ⟨#[]⟩, .string ⟨#[]⟩, .string ⟨#[]⟩] 25)) Ent.zero) := hid (box_at _ _)
  have hlen := h.len
  have c0 := h.c0
  have hgl := h.lt
  obtain ⟨ao, cap, rfl, hlc, hcm, hcell⟩ := h.row.lie
  unfold maxLen at hcm
  obtain ⟨gb, off, rfl, hgb, hat⟩ := hcell n hn
  obtain ⟨x, hx⟩ : ∃ x, x = l[n] := ⟨_, rfl⟩
  rw [← hx] at hat ⊢
  clear hx hcell h
  obtain ⟨V, C, R, K, A, N, p, t, d⟩ := x
  obtain ⟨d0, d1, d2, d3, d4, d5, d6, d7, d8⟩ := hat
  simp only [] at d0 d1 d2 d3 d4 d5 d6 d7 d8
  go_enter Try.func20, Try.ntmps20
  go_wp2_with (first
    | ((with_reducible refine at_store25 w.heap.size Ent.zero ⟨V, C, R, K, A, N, p, t, d⟩ ?_ ?_ HB0.out ?_); rfl; rfl; intro wr hBr hkr))
  exact ret20 hBr rfl rfl rfl ⟨rfl, (below_alloc w _).trans (hkr.below (by simp) (Nat.le_refl _))⟩
/-- what Get answers -/
def getX (l : List Ent) (n : Int) : Ent := if n < 1 ∨ (l.length : Int) < n then Ent.zero else l.getD (n - 1).toNat Ent.zero
def getE (l : List Ent) (n : Int) : Int := if n < 1 ∨ (l.length : Int) < n then 6 else 0
theorem get_yes {l : List Ent} {n : Nat} (h : n < l.length) : getX l ((n : Int) + 1) = l[n] ∧ getE l ((n : Int) + 1) = 0 := by
  unfold getX getE
  rw [if_neg (by omega), if_neg (by omega), show ((n : Int) + 1 - 1).toNat = n by omega]
  exact ⟨by simp [h], rfl⟩
theorem get_any {B g : Nat} {w : World} {v : Value} {l : List Ent} (n : Int) (h : LI 78 B g w v l) : Calls Try.prog 19 #[.pointer (some ⟨g, 0, none⟩), .int .i64 n] w fun e w' => e = .returned (.tuple #[(getX l n).v, .int .i64 (getE l n)]) ∧ Below w.heap.size w w' := by
  by_cases hn : n < 1 ∨ (l.length : Int) < n
  · unfold getX getE
    rw [if_pos hn, if_pos hn]
    exact get_no n (.inr ⟨B, g, v, rfl, h⟩) hn
  · obtain ⟨k, hk⟩ := Int.eq_ofNat_of_zero_le (show 0 ≤ n - 1 by omega)
    obtain rfl : n = (k : Int) + 1 := by omega
    have hk' : k < l.length := by omega
    rw [(get_yes hk').1, (get_yes hk').2]
    exact get_ok k h hk'
theorem rget_any {B g : Nat} {w : World} {v : Value} {l : List Ent} (n : Int) (h : LI 43 B g w v l) : Calls Try.prog 20 #[.pointer (some ⟨g, 0, none⟩), .int .i64 n] w fun e w' => e = .returned (.tuple #[(getX l n).v, .int .i64 (getE l n)]) ∧ Below w.heap.size w w' := by
  by_cases hn : n < 1 ∨ (l.length : Int) < n
  · unfold getX getE
    rw [if_pos hn, if_pos hn]
    exact rget_no n h hn
  · obtain ⟨k, hk⟩ := Int.eq_ofNat_of_zero_le (show 0 ≤ n - 1 by omega)
    obtain rfl : n = (k : Int) + 1 := by omega
    have hk' : k < l.length := by omega
    rw [(get_yes hk').1, (get_yes hk').2]
    exact rget_ok k h hk'
theorem take_more (D : List Ent) (x : Ent) (m : Nat) (h : D.length < m) : (D ++ [x]).take m = D.take m ++ [x] := by
  rw [List.take_of_length_le (by rw [List.length_append]; simp; omega), List.take_of_length_le (by omega)]
theorem from_step (l : List Ent) (n most : Int) (j : Nat) (hj : j < l.length) :
    (n ≤ (j : Int) + 1 → ((fromL (l.take j) n most).length : Int) < most → fromL (l.take (j + 1)) n most = fromL (l.take j) n most ++ [l[j]]) ∧
    (¬ n ≤ (j : Int) + 1 → fromL (l.take (j + 1)) n most = fromL (l.take j) n most) ∧
    (n ≤ (j : Int) + 1 → ¬ ((fromL (l.take j) n most).length : Int) < most → fromL (l.take (j + 1)) n most = fromL (l.take j) n most) := by
  have hs := List.take_succ_eq_append_getElem hj
  have hl : (l.take j).length = j := by rw [List.length_take]; omega
  unfold fromL
  rw [hs]
  refine ⟨fun h1 h2 => ?_, fun h1 => ?_, fun h1 h2 => ?_⟩
  · rw [List.drop_append_of_le_length (by omega)]
    have h3 : ((l.take j).drop (n - 1).toNat).length < most.toNat := by
      rw [List.length_take] at h2
      omega
    exact take_more _ _ _ h3
  · rw [List.drop_of_length_le (by rw [List.length_append, hl]; simp; omega), List.drop_of_length_le (by omega)]
  · rw [List.drop_append_of_le_length (by omega), List.take_append_of_le_length (by rw [List.length_take] at h2; omega)]
set_option maxRecDepth 100000 in
set_option maxHeartbeats 1000000 in
theorem rfrom_any {B g : Nat} {w : World} {v : Value} {l : List Ent} (n most : Int) (h : LI 43 B g w v l) : Calls Try.prog 26 #[.pointer (some ⟨g, 0, none⟩), .int .i64 n, .int .i64 most] w fun e w' => ∃ v', e = .returned v' ∧ ERow w.heap.size w' v' (fromL l n most) ∧ Below w.heap.size w w' := by
  have c0 := h.c0
  have hlen := h.len
  obtain ⟨ao, cap, rfl, hlc, hcm, hcell⟩ := h.row.lie
  unfold maxLen at hcm
  have HC := hid hcell
  clear h hcell
  go_enter Try.func26, Try.ntmps26
  go_wp2
  go_loopw [7, 15] (fun r i wr => ∃ (j : Nat), i = .int .i64 j ∧ j ≤ l.length ∧ Hid (ERow w.heap.size wr r (fromL (l.take j) n most)) ∧ Hid (Below w.heap.size w wr)) (fun _ i _ => l.length - (intOf i).toNat)
  case atStart => exact ⟨0, rfl, Nat.zero_le _, hid (by rw [List.take_zero]; unfold fromL; simp; exact ERow.nil _ _), hid (Below.refl _ _)⟩
  case round =>
    obtain ⟨j, rfl, hj, HR, HB⟩ := hrel
    rename World => wr
    by_cases hlt : j < l.length
    · obtain ⟨gb, off, ea, hgb, hat⟩ := HC.out j hlt
      subst ea
      have hat' := hat.same (HB.out.block gb hgb)
      have hgr : gb < wr.heap.size := Nat.lt_of_lt_of_le hgb HB.out.size
      obtain ⟨x, hx⟩ : ∃ x, x = l[j] := ⟨_, rfl⟩
      obtain ⟨f1, f2, f3⟩ := from_step l n most j hlt
      have hfl : (fromL (l.take j) n most).length ≤ 4096 := by unfold fromL; rw [List.length_take, List.length_drop, List.length_take]; omega
      rw [← hx] at hat' f1
      obtain ⟨F, hF⟩ : ∃ F, F = fromL (l.take j) n most := ⟨_, rfl⟩
      rw [← hF] at f1 f2 f3 HR hfl
      have HF1 := hid f1
      have HF2 := hid f2
      have HF3 := hid f3
      clear hat hx f1 f2 f3 hF
      obtain ⟨ar, cr, hrv, hr1, hr2⟩ := HR.out.len
      subst hrv
      unfold maxLen at hr2
      have HB2 := hid (HB.out.next (below_alloc wr (.cells x.cs.toArray 25)))
      have HR2 := hid (HR.out.below (below_alloc wr (.cells x.cs.toArray 25)))
      have HO := one_lie (wr.alloc (.cells x.cs.toArray 25)) x
      rw [show (wr.alloc (.cells x.cs.toArray 25)).heap.size = wr.heap.size + 1 by simp] at HO
      replace HO := hid HO
      obtain ⟨c0, c1, c2, c3, c4, c5, c6, c7, c8⟩ := hat'
      by_cases h1 : n ≤ (j : Int) + 1
      · by_cases h2 : (F.length : Int) < most
        · have HF := hid (HF1.out h1 h2)
          clear HF1 HF2 HF3
          obtain ⟨V, C, R, K, A, N, p, t, d⟩ := x
          simp only [Ent.cs] at HB2 HR2 HO c0 c1 c2 c3 c4 c5 c6 c7 c8
          go_wp2_with (first
            | (at_builtin; refine appE rfl (.tmp 30) (.tmp 32) rfl w.heap.size _ _ F [⟨V, C, R, K, A, N, p, t, d⟩] rfl rfl (HR2.out.below (below_alloc _ _)) HO.out (by simp) (by simp; omega) (Nat.le_trans HB2.out.size (below_alloc _ _).size) ?_; intro v3 w3 hr3 hb3 _ _; have HR3 := hid hr3; have HB3 := hid ((HB2.out.next (below_alloc _ _)).trans hb3); clear hr3 hb3))
          go_roundw
          case rel => exact ⟨j + 1, by go_num, by omega, hid (by rw [HF.out]; exact HR3.out), HB3⟩
          case measure => simp [intOf]; omega
        · have HF := hid (HF3.out h1 h2)
          clear HF1 HF2 HF3
          obtain ⟨V, C, R, K, A, N, p, t, d⟩ := x
          simp only [Ent.cs] at HB2 HR2 HO c0 c1 c2 c3 c4 c5 c6 c7 c8
          go_wp2
          go_roundw
          case rel => exact ⟨j + 1, by go_num, by omega, hid (by rw [HF.out]; exact HR2.out), HB2⟩
          case measure => simp [intOf]; omega
      · have HF := hid (HF2.out h1)
        clear HF1 HF2 HF3
        obtain ⟨V, C, R, K, A, N, p, t, d⟩ := x
        simp only [Ent.cs] at HB2 HR2 HO c0 c1 c2 c3 c4 c5 c6 c7 c8
        go_wp2
        go_roundw
        case rel => exact ⟨j + 1, by go_num, by omega, hid (by rw [HF.out]; exact HR2.out), HB2⟩
        case measure => simp [intOf]; omega
    · have hjn : j = l.length := by omega
      have HR2 := HR.out
      rw [hjn, List.take_of_length_le (Nat.le_refl _)] at HR2
      replace HR2 := hid HR2
      clear hjn
      go_wp2
      go_ret
      exact ⟨_, rfl, HR2.out, HB.out⟩
end Go.Proofs.Ytcaedajbkdploaa
