import Derived.Test.YtopebghandojbaaGreatSl
namespace Go.Proofs.YtopebghandojbaaGreat
open Go.RowKit

theorem ext_list (s : ByteArray) (a b : Nat) : (s.extract a b).data.toList = (s.data.toList.take b).drop a := by
  simp [ByteArray.data_extract, List.drop_take]
theorem ext_head (s : ByteArray) (n : Nat) : (s.extract 0 n).data.toList = s.data.toList.take n := by rw [ext_list]; rfl
theorem ext_tail (s : ByteArray) (n k : Nat) (h : s.size = n + k) : (s.extract n (n + k)).data.toList = s.data.toList.drop n := by
  rw [ext_list, List.take_of_length_le (by rw [len_list]; omega)]
theorem ext_szt (s : ByteArray) (n k : Nat) (h : s.size = n + k) : (s.extract n (n + k)).size = k := by
  rw [← len_list, ext_tail s n k h, List.length_drop, len_list]; omega
theorem ext_szh (s : ByteArray) (n : Nat) (h : n ≤ s.size) : (s.extract 0 n).size = n := by
  rw [← len_list, ext_head, List.length_take, len_list]; omega
theorem tail4 (s : ByteArray) (n : Nat) (h : s.size = n + 4) : fval ((s.extract n (n + 4)).data.toList.take 4) = big (s.data.toList.drop n) := by
  rw [ext_tail s n 4 h, List.take_of_length_le (by rw [List.length_drop, len_list]; omega), fval_big]
theorem drop_lt (s : ByteArray) (n : Nat) (h : s.size = n + 4) : big (s.data.toList.drop n) < 4294967296 := by
  have := big_lt (s.data.toList.drop n)
  rw [List.length_drop, len_list, h, show n + 4 - n = 4 by omega] at this
  omega

set_option maxRecDepth 100000 in
set_option maxHeartbeats 1000000 in
theorem open_any (s : ByteArray) (n : Nat) (hsz : s.size = n + 4) (hs : n ≤ 150000000000000) (w : World) :
    Calls Tryz.prog 125 #[.string s] w fun e w' => (crc (s.data.toList.take n) = big (s.data.toList.drop n) → e = .returned (.tuple #[.string (s.extract 0 n), .int .i64 0])) ∧ (¬ crc (s.data.toList.take n) = big (s.data.toList.drop n) → e = .returned (.tuple #[.string ByteArray.empty, .int .i64 30])) ∧ Below w.heap.size w w' := by
  obtain ⟨c, hc⟩ : ∃ c, c = crc (s.data.toList.take n) := ⟨_, rfl⟩
  obtain ⟨d, hd⟩ : ∃ d, d = big (s.data.toList.drop n) := ⟨_, rfl⟩
  rw [← hc, ← hd]
  have hdl := drop_lt s n hsz
  have HS := hid (fun w => sumOf (s.extract 0 n) (by rw [ext_szh s n (by omega)]; unfold maxLen; omega) w)
  rw [ext_head, ← hc] at HS
  have HF := hid (fun g w h => fixedr_ok g (s.extract n (n + 4)) 4 (by decide) (by rw [ext_szt s n 4 hsz]; decide) (by decide) (by rw [ext_szt s n 4 hsz]; decide) (by rw [tail4 s n hsz]; omega) w h)
  rw [tail4 s n hsz, ← hd] at HF
  clear hc hd hdl
  have key : ∀ b : Bool, (b = decide (c = d)) → Calls Tryz.prog 125 #[.string s] w fun e w' => e = .returned (.tuple (if b then #[.string (s.extract 0 n), .int .i64 0] else #[.string ByteArray.empty, .int .i64 30])) ∧ Below w.heap.size w w' := by
    intro b hb
    cases b
    · have hne : c ≠ d := of_decide_eq_false hb.symm
      have hne' : ((d : Int) == (c : Int)) = false := by simp; omega
      clear hb
      go_enter Tryz.func125, Tryz.ntmps125
      go_wp2_with (first
        | (go_at_call 96; refine (of_any _ _).mono ?_; rintro e w1 ⟨rfl, rfl⟩; have hri := RIs.new (s.extract n (n + 4)) w)
        | (go_at_call 97; refine (HF.out _ _ hri).mono ?_; rintro e w2 ⟨rfl, hr2, hk2⟩)
        | (go_at_call 141; refine (HS.out _).mono ?_; rintro e w3 ⟨rfl, rfl⟩))
      go_ret2
      exact ⟨rfl, (below_alloc w _).trans (hk2.below (by simp) (Nat.le_refl _))⟩
    · have hne : c = d := of_decide_eq_true hb.symm
      subst hne
      clear hb
      go_enter Tryz.func125, Tryz.ntmps125
      go_wp2_with (first
        | (go_at_call 96; refine (of_any _ _).mono ?_; rintro e w1 ⟨rfl, rfl⟩; have hri := RIs.new (s.extract n (n + 4)) w)
        | (go_at_call 97; refine (HF.out _ _ hri).mono ?_; rintro e w2 ⟨rfl, hr2, hk2⟩)
        | (go_at_call 141; refine (HS.out _).mono ?_; rintro e w3 ⟨rfl, rfl⟩))
      go_ret2
      exact ⟨rfl, (below_alloc w _).trans (hk2.below (by simp) (Nat.le_refl _))⟩
  refine (key _ rfl).mono ?_
  rintro e w' ⟨rfl, hb⟩
  exact ⟨fun h => by rw [decide_eq_true h]; rfl, fun h => by rw [decide_eq_false h]; rfl, hb⟩
theorem str_ne {a b : ByteArray} (h : ¬ a = b) : (a.toList == b.toList) = false := by
  rw [Lib.toList_data, Lib.toList_data]
  simp only [beq_eq_false_iff_ne, ne_eq]
  intro hh
  exact h (by rw [← st_toList a, ← st_toList b, hh])
theorem seal_back (s : ByteArray) (n : Nat) (h : s.size = n + 4) : st (sealL (s.data.toList.take n)) = s ↔ crc (s.data.toList.take n) = big (s.data.toList.drop n) := by
  have hl : (s.data.toList.drop n).length = 4 := by rw [List.length_drop, len_list]; omega
  have e : s = st (s.data.toList.take n ++ s.data.toList.drop n) := by rw [List.take_append_drop, st_toList]
  have hc := crc_lt (s.data.toList.take n)
  constructor
  · intro hh
    have h2 := congrArg (fun x => x.data.toList) hh
    simp only [st_list] at h2
    rw [sealL] at h2
    conv at h2 => rhs; rw [← List.take_append_drop n s.data.toList]
    have h3 := List.append_cancel_left h2
    rw [← h3, big_fEnc 4 _ (by omega)]
  · intro hh
    conv => rhs; rw [e]
    rw [sealL, hh]
    have := fEnc_big (s.data.toList.drop n)
    rw [hl] at this
    rw [this]
set_option maxRecDepth 100000 in
set_option maxHeartbeats 1000000 in
theorem refOpen (s : ByteArray) (n : Nat) (hsz : s.size = n + 4) (hs : n ≤ 150000000000000) (w : World) :
    Calls Tryz.prog 136 #[.string s] w fun e w' => (crc (s.data.toList.take n) = big (s.data.toList.drop n) → e = .returned (.tuple #[.string (s.extract 0 n), .int .i64 0])) ∧ (¬ crc (s.data.toList.take n) = big (s.data.toList.drop n) → e = .returned (.tuple #[.string ByteArray.empty, .int .i64 30])) ∧ Below w.heap.size w w' := by
  rw [← seal_back s n hsz]
  have HS := hid (fun w => refSeal (s.extract 0 n) (by rw [ext_szh s n (by omega)]; omega) w)
  rw [ext_head] at HS
  obtain ⟨u, hu⟩ : ∃ u, u = st (sealL (s.data.toList.take n)) := ⟨_, rfl⟩
  rw [← hu] at HS ⊢
  clear hu
  have key : ∀ b : Bool, (b = decide (u = s)) → Calls Tryz.prog 136 #[.string s] w fun e w' => e = .returned (.tuple (if b then #[.string (s.extract 0 n), .int .i64 0] else #[.string ByteArray.empty, .int .i64 30])) ∧ Below w.heap.size w w' := by
    intro b hb
    cases b
    · have hne : ¬ u = s := of_decide_eq_false hb.symm
      have hne' := str_ne hne
      clear hb
      go_enter Tryz.func136, Tryz.ntmps136
      go_wp2_with (first
        | (go_at_call 123; refine (HS.out _).mono ?_; rintro e w3 ⟨rfl, hb3⟩))
      go_ret2
      exact ⟨rfl, hb3⟩
    · have hne : u = s := of_decide_eq_true hb.symm
      subst hne
      clear hb
      go_enter Tryz.func136, Tryz.ntmps136
      go_wp2_with (first
        | (go_at_call 123; refine (HS.out _).mono ?_; rintro e w3 ⟨rfl, hb3⟩))
      go_ret2
      exact ⟨rfl, hb3⟩
  refine (key _ rfl).mono ?_
  rintro e w' ⟨rfl, hb⟩
  exact ⟨fun h => by rw [decide_eq_true h]; rfl, fun h => by rw [decide_eq_false h]; rfl, hb⟩
end Go.Proofs.YtopebghandojbaaGreat
