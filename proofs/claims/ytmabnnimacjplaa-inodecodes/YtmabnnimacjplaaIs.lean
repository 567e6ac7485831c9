import Derived.Test.YtmabnnimacjplaaIr
namespace Go.Proofs.Ytmabnnimacjplaa
open Go.RowKit Go.Maps

set_option maxRecDepth 100000 in
set_option maxHeartbeats 1000000 in
theorem rrename_q (b u : ByteArray) (n lo hi t : Nat) (hb : b.size = 128) (hu : u.size = 2) (h1 : IntKind.i64.wrap (2 * (n : Int)) = (lo : Int)) (h2 : IntKind.i64.wrap ((lo : Int) + 2) = (hi : Int)) (l1 : lo ≤ 128) (l2 : hi ≤ 128)
    (HC : ∀ w, Calls Try.prog 45 #[.string b, .int .i64 n, .int .i64 64] w fun e w' => e = .returned (.int .i64 0) ∧ w' = w) (HF : ∀ w, Calls Try.prog 33 #[.int .i64 t, .int .i64 2] w fun e w' => e = .returned (.string u) ∧ Below w.heap.size w w') (ht : t < 1024) (w : World) :
    Calls Try.prog 25 #[.string b, .int .i64 n, .int .i64 t] w fun e w' => e = .returned (.tuple #[.string (b.extract 0 lo ++ u ++ b.extract hi 128), .int .i64 0]) ∧ Below w.heap.size w w' := by
  have l1' : (lo : Int) ≤ 128 := by omega
  have l2' : (hi : Int) ≤ 128 := by omega
  have z1 : (b.extract 0 lo).size = lo := by simp; omega
  have z2 : (b.extract hi 128).size = 128 - hi := by simp; omega
  replace HC := hid HC
  replace HF := hid HF
  go_enter Try.func25, Try.ntmps25
  go_wp2_with (first | (go_at_call 45; refine (HC.out _).mono ?_; rintro e w ⟨rfl, rfl⟩))
  go_region_with (first | (go_at_call 33; refine (HF.out _).mono ?_; rintro e w3 ⟨rfl, hb3⟩))
  all_goals
    go_wp2
    go_ret2
    exact ⟨rfl, ⟨hb3.os, hb3.tape, hb3.output, hb3.size, hb3.block⟩⟩
set_option maxRecDepth 100000 in
theorem rrename_any (b : ByteArray) (k tt : Int) (w : World) : Calls Try.prog 25 #[.string b, .int .i64 k, .int .i64 tt] w fun e w' => e = .returned (.tuple #[.string (renV b k tt), .int .i64 (renE b k tt)]) ∧ Below w.heap.size w w' := by
  have HC := hid (asked_any b k 64)
  by_cases h : parE b k 64 = 0
  · rw [h] at HC
    cases h2 : okN tt with
    | false =>
      have e1 : renE b k tt = 1 := by unfold renE; rw [if_pos h, h2]; rfl
      have e2 : renV b k tt = ByteArray.empty := by unfold renV; rw [e1]; rfl
      rw [e1, e2]
      rcases okN_cases tt with ⟨q, _⟩ | ⟨_, h3 | ⟨h3, h4⟩⟩
      · rw [q] at h2; cases h2
      · clear e1 e2 h h2
        go_enter Try.func25, Try.ntmps25
        go_wp2_with (first | (go_at_call 45; refine (HC.out _).mono ?_; rintro e w1 ⟨rfl, rfl⟩))
        go_ret2
        exact ⟨rfl, Below.refl _ _⟩
      · clear e1 e2 h h2
        go_enter Try.func25, Try.ntmps25
        go_wp2_with (first | (go_at_call 45; refine (HC.out _).mono ?_; rintro e w1 ⟨rfl, rfl⟩))
        go_ret2
        exact ⟨rfl, Below.refl _ _⟩
    | true =>
      have e1 : renE b k tt = 0 := by unfold renE; rw [if_pos h, h2]; rfl
      obtain ⟨hb, n, rfl, hn⟩ := par_ok h
      have h3 := okN_le h2
      obtain ⟨t, rfl⟩ : ∃ t : Nat, tt = t := ⟨tt.toNat, by omega⟩
      have e2 : renV b n t = b.extract 0 (2 * n) ++ st (fEnc t 2) ++ b.extract (2 * n + 2) 128 := by
        unfold renV
        rw [if_pos e1]
        rfl
      rw [e1, e2]
      exact rrename_q b (st (fEnc t 2)) n (2 * n) (2 * n + 2) t hb (by rw [st_size, fEnc_len]) (by rw [IntKind.wrap_i64]; omega) (by rw [IntKind.wrap_i64]; omega) (by omega) (by omega) HC.out (refFixed t 2 (by omega) (by decide)) (by omega) w
  · have e1 : renE b k tt = parE b k 64 := by unfold renE; rw [if_neg h]
    have e2 : renV b k tt = ByteArray.empty := by unfold renV; rw [e1, if_neg h]
    rw [e1, e2]
    obtain ⟨e, he⟩ : ∃ e, e = parE b k 64 := ⟨_, rfl⟩
    rw [← he] at HC h ⊢
    clear he e1 e2
    go_enter Try.func25, Try.ntmps25
    go_wp2_with (first | (go_at_call 45; refine (HC.out _).mono ?_; rintro e w1 ⟨rfl, rfl⟩))
    go_ret2
    exact ⟨rfl, Below.refl _ _⟩
set_option maxRecDepth 100000 in
set_option maxHeartbeats 1000000 in
theorem namesl_walk (i tt : Int) (b : ByteArray) (w : World) : Calls Try.prog 5 #[.int .i64 i, .int .i64 tt, .string b] w fun e w' => e = .returned (.bool true) ∧ Below w.heap.size w w' := by
  have HP := hid (place_any i)
  have HQ := hid (rplace_any i)
  have HN := hid (name_any b i)
  have HM := hid (rname_any b i)
  have HR := hid (rename_any b i tt)
  have HT := hid (rrename_any b i tt)
  have HS := hid speaks_any
  obtain ⟨x0, hx0⟩ : ∃ x, x = pl0 i := ⟨_, rfl⟩
  obtain ⟨x1, hx1⟩ : ∃ x, x = pl1 i := ⟨_, rfl⟩
  obtain ⟨x2, hx2⟩ : ∃ x, x = pl2 i := ⟨_, rfl⟩
  obtain ⟨x3, hx3⟩ : ∃ x, x = plE i := ⟨_, rfl⟩
  obtain ⟨n, hn⟩ : ∃ x, x = namV b i := ⟨_, rfl⟩
  obtain ⟨e, he⟩ : ∃ x, x = parE b i 64 := ⟨_, rfl⟩
  obtain ⟨r, hr⟩ : ∃ x, x = renV b i tt := ⟨_, rfl⟩
  obtain ⟨f, hf⟩ : ∃ x, x = renE b i tt := ⟨_, rfl⟩
  rw [← hx0, ← hx1, ← hx2, ← hx3] at HP HQ
  rw [← hn, ← he] at HN HM
  rw [← hr, ← hf] at HR HT
  clear hx0 hx1 hx2 hx3 hn he hr hf
  have hB := Below.refl w.heap.size w
  go_enter Try.func5, Try.ntmps5
  go_wp2_with (first
    | (go_at_call 20; refine (HP.out _).mono ?_; rintro x w1 ⟨rfl, hb1⟩; replace hB := hB.next hb1; clear hb1)
    | (go_at_call 21; refine (HQ.out _).mono ?_; rintro x w2 ⟨rfl, hw2⟩; rw [← hw2] at hB; clear hw2)
    | (go_at_call 22; refine (HN.out _).mono ?_; rintro x w3 ⟨rfl, hb3⟩; replace hB := hB.next hb3; clear hb3)
    | (go_at_call 23; refine (HM.out _).mono ?_; rintro x w4 ⟨rfl, hb4⟩; replace hB := hB.next hb4; clear hb4)
    | (go_at_call 24; refine (HR.out _).mono ?_; rintro x w5 ⟨rfl, hb5⟩; replace hB := hB.next hb5; clear hb5)
    | (go_at_call 25; refine (HT.out _).mono ?_; rintro x w6 ⟨rfl, hb6⟩; replace hB := hB.next hb6; clear hb6)
    | (go_at_call 15; refine (HS.out _).mono ?_; rintro x w7 ⟨rfl, hb7⟩; replace hB := hB.next hb7; clear hb7))
  go_ret
  exact ⟨rfl, hB⟩
end Go.Proofs.Ytmabnnimacjplaa
