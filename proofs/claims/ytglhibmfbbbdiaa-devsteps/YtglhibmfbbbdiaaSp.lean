import Derived.Test.YtglhibmfbbbdiaaCr
import Derived.Test.YtglhibmfbbbdiaaDa
namespace Go.Proofs.Ytglhibmfbbbdiaa
open Go.RowKit Go.Maps

theorem B_zero : B 0 = Z := rfl
def Bi (n : Int) : ByteArray := B (UInt8.ofNat n.toNat)
theorem block_bi (n : Int) (h0 : 0 ≤ n) (h1 : n < 256) (w : World) : Calls Try.prog 21 #[.int .u8 n] w fun e w' => e = .returned (.string (Bi n)) ∧ Below w.heap.size w w' := block_int n h0 h1 w
theorem Bi_size (n : Int) : (Bi n).size = 128 := B_size _
def D2 : ByteArray := Bi 97 ++ Bi 98
theorem D2_size : D2.size = 256 := by unfold D2; rw [ByteArray.size_append, Bi_size, Bi_size]
theorem D2_cnt : cnt D2 = 2 := by unfold cnt; rw [D2_size]
theorem piece_head (c : UInt8) (x : ByteArray) : piece (B c ++ x) 0 = B c := by
  unfold piece
  apply ByteArray.ext
  apply Array.toList_inj.1
  rw [ext_list]
  have h := len_list (B c)
  rw [B_size] at h
  show List.drop (0 * 128) (List.take ((0 + 1) * 128) (B c ++ x).data.toList) = (B c).data.toList
  rw [show (B c ++ x).data.toList = (B c).data.toList ++ x.data.toList by simp, List.take_append_of_le_length (by omega), List.take_of_length_le (by omega)]
  rfl
def S0 (n : Nat) : DS := ⟨n, fun _ => none, []⟩
def S1 : DS := ⟨2, fun _ => none, [(0, D2)]⟩
def S2 : DS := ⟨2, over (fun _ => none) 0 D2 1, []⟩
/-- a device, whatever blocks of the memory are its -/
def Dev (base g : Nat) (w : World) (K : Nat) (S : DS) : Prop := ∃ N fp, N ≤ K ∧ DIs base g w N S fp
theorem Dev.keep {base g K : Nat} {S : DS} {w w' : World} (h : Dev base g w K S) (k : Below w.heap.size w w') : Dev base g w' K S := by
  obtain ⟨N, fp, hN, h⟩ := h
  exact ⟨N, fp, hN, h.below k⟩
theorem waits_ex {base g K : Nat} {S : DS} (w : World) (h : Dev base g w K S) : Calls Try.prog 18 #[.pointer (some ⟨g, 0, none⟩)] w fun e w' => e = .returned (.int .i64 S.Q.length) ∧ w' = w := by
  obtain ⟨N, fp, _, h⟩ := h
  exact waits_any w h
theorem blocks_ex {base g K : Nat} {S : DS} (w : World) (h : Dev base g w K S) : Calls Try.prog 19 #[.pointer (some ⟨g, 0, none⟩)] w fun e w' => e = .returned (.int .i64 S.n) ∧ w' = w := by
  obtain ⟨N, fp, _, h⟩ := h
  exact blocks_any w h
theorem sp_new (w : World) : Calls Try.prog 8 #[.int .i64 2] w fun e w' => ∃ g, e = .returned (.tuple #[.pointer (some ⟨g, 0, none⟩), .int .i64 0]) ∧ Dev w.heap.size g w' 0 (S0 2) ∧ Below w.heap.size w w' :=
  (new_any 2 (by decide) (by decide) w.heap.size w (Nat.le_refl _)).mono fun _ _ k => ⟨_, k.1, ⟨_, _, Nat.le_refl _, k.2.1⟩, k.2.2⟩
set_option maxRecDepth 100000 in
theorem sp_write {base g : Nat} (w : World) (h : Dev base g w 0 (S0 2)) (hb : base ≤ w.heap.size) : Calls Try.prog 11 #[.pointer (some ⟨g, 0, none⟩), .int .i64 0, .string (Bi 97 ++ Bi 98)] w fun e w' => e = .returned (.int .i64 0) ∧ Dev base g w' 2 S1 ∧ Below base w w' := by
  obtain ⟨N, fp, hN, h⟩ := h
  have h2 := write_ok 0 D2 (by rw [D2_size]; decide) (by rw [D2_size]) (by rw [D2_size]; decide) (by rw [D2_cnt]; exact Nat.le_refl _) (by omega) (by exact Nat.zero_le _) w h hb
  refine h2.mono fun e w' k => ?_
  obtain ⟨k1, fp', k2, k3, k4⟩ := k
  rw [D2_cnt] at k2
  exact ⟨k1, ⟨_, fp', by omega, k2⟩, k3.below hb (fun x hx => (h.lo x hx).1)⟩
set_option maxRecDepth 100000 in
theorem sp_crash {base g : Nat} (w : World) (h : Dev base g w 2 S1) (hb : base ≤ w.heap.size) : Calls Try.prog 16 #[.pointer (some ⟨g, 0, none⟩), .slice none 0 0, .int .i64 1] w fun e w' => e = .returned (.int .i64 0) ∧ Dev base g w' 2000 S2 ∧ Below base w w' := by
  obtain ⟨N, fp, hN, h⟩ := h
  have h2 := crash_any (.slice none 0 0) 0 (fun _ => false) 1 (by decide) (by omega) (by decide) w h ⟨⟨none, 0, rfl, fun i hi => by omega⟩, by decide, fun _ _ => rfl⟩
  refine h2.mono fun e w' k => ?_
  obtain ⟨k1, k2, k3⟩ := k
  have e : crashFrom (fun _ => false) 0 1 S1.L S1.Q = over (fun _ => none) 0 D2 1 := by
    show crashFrom (fun _ => false) 0 1 (fun _ => none) [(0, D2)] = _
    rw [crash_cons, if_neg (by simp), crash_end, D2_cnt]
    rfl
  rw [e] at k2
  have hl : S1.Q.length = 1 := rfl
  exact ⟨k1, ⟨_, fp, by omega, k2⟩, k3.below hb (fun x hx => (h.lo x hx).1)⟩
set_option maxRecDepth 100000 in
theorem sp_read {base g K : Nat} (w : World) (h : Dev base g w K S2) : Calls Try.prog 22 #[.pointer (some ⟨g, 0, none⟩), .int .i64 0] w fun e w' => e = .returned (.tuple #[.string (Bi 97), .int .i64 0]) ∧ Below w.heap.size w w' := by
  obtain ⟨N, fp, _, h⟩ := h
  have h2 := read_any 0 (show 0 < S2.n by decide) w h
  have e : (seen S2.L S2.Q 0).getD Z = Bi 97 := by
    show (over (fun _ => none) 0 D2 1 0).getD Z = Bi 97
    unfold over
    rw [if_pos (by omega)]
    exact piece_head 97 (Bi 98)
  rw [e] at h2
  exact h2
set_option maxRecDepth 100000 in
theorem sp_lasts {base g K : Nat} (w : World) (h : Dev base g w K S2) : Calls Try.prog 23 #[.pointer (some ⟨g, 0, none⟩), .int .i64 1] w fun e w' => e = .returned (.tuple #[.string (Bi 0), .int .i64 0]) ∧ Below w.heap.size w w' := by
  obtain ⟨N, fp, _, h⟩ := h
  have h2 := lasts_any 1 (show 1 < S2.n by decide) w h
  have e : (S2.L 1).getD Z = Bi 0 := by
    show (over (fun _ => none) 0 D2 1 1).getD Z = Bi 0
    unfold over
    rw [if_neg (by omega)]
    rfl
  rw [e] at h2
  exact h2
set_option maxRecDepth 100000 in
set_option maxHeartbeats 4000000 in
theorem speaks_any (w : World) : Calls Try.prog 10 #[] w fun e w' => e = .returned (.bool true) ∧ Below w.heap.size w w' := by
  have s97 : (Bi 97).size = 128 := Bi_size 97
  have s98 : (Bi 98).size = 128 := Bi_size 98
  have l1 : S1.Q.length = 1 := rfl
  have l2 : S2.Q.length = 0 := rfl
  have n2 : S2.n = 2 := rfl
  go_enter Try.func10, Try.ntmps10
  go_wp2_with (first
    | (go_at_call 8; refine (sp_new _).mono ?_; rintro e w1 ⟨g, rfl, hD, hB⟩)
    | (go_at_call 21; refine (block_bi _ (by decide) (by decide) _).mono ?_; rintro e wq ⟨rfl, hq⟩; have hD := hD.keep hq; have hB := hB.next hq)
    | (go_at_call 11; refine (sp_write _ hD hB.size).mono ?_; rintro e w2 ⟨rfl, hD, hb2⟩; have hB := hB.trans hb2)
    | (go_at_call 18; refine (waits_ex _ hD).mono ?_; rintro e wz ⟨rfl, rfl⟩)
    | (go_at_call 16; refine (sp_crash _ hD hB.size).mono ?_; rintro e w3 ⟨rfl, hD, hb3⟩; have hB := hB.trans hb3)
    | (go_at_call 22; refine (sp_read _ hD).mono ?_; rintro e w4 ⟨rfl, hq⟩; have hD := hD.keep hq; have hB := hB.next hq)
    | (go_at_call 23; refine (sp_lasts _ hD).mono ?_; rintro e w5 ⟨rfl, hq⟩; have hD := hD.keep hq; have hB := hB.next hq)
    | (go_at_call 19; refine (blocks_ex _ hD).mono ?_; rintro e wz ⟨rfl, rfl⟩))
  go_ret
  exact ⟨rfl, hB⟩

set_option maxRecDepth 100000 in
set_option maxHeartbeats 4000000 in
theorem nil_walk (a t : Int) (ha : -9223372036854775808 ≤ a ∧ a ≤ 9223372036854775807) (w : World) : Calls Try.prog 6 #[.int .i64 a, .int .i64 t] w fun e w' => e = .returned (.bool true) ∧ Below w.heap.size w w' := by
  have HW0 := hid (fun w => write_form (.pointer none) a ByteArray.empty (.inl rfl) w)
  have HW1 := hid (fun w => write_nil a ha (Bi 1) (by rw [Bi_size]; decide) (by rw [Bi_size]) (by rw [Bi_size]; decide) w)
  have HC : Hid (∀ w, Calls Try.prog 16 #[.pointer none, .slice none 0 0, .int .i64 t] w fun e w' => e = .returned (.int .i64 (if 0 ≤ t ∧ t ≤ 1024 then 0 else 1)) ∧ w' = w) := fun w => by
    by_cases h : 0 ≤ t ∧ t ≤ 1024
    · rw [if_pos h]; exact crash_nil _ t h.1 h.2 w
    · rw [if_neg h]; exact crash_arg _ _ t h w
  by_cases h : 0 ≤ t ∧ t ≤ 1024
  · rw [if_pos h] at HC
    obtain ⟨h1, h2⟩ := h
    go_enter Try.func6, Try.ntmps6
    go_wp2_with (first
      | (go_at_call 22; refine (read_nil _ _).mono ?_; rintro e w1 ⟨rfl, rfl⟩)
      | (go_at_call 23; refine (lasts_nil _ _).mono ?_; rintro e w1 ⟨rfl, rfl⟩)
      | (go_at_call 14; refine (flush_nil _).mono ?_; rintro e w1 ⟨rfl, rfl⟩)
      | (go_at_call 11; refine (HW0.out _).mono ?_; rintro e w1 ⟨rfl, rfl⟩; clear HW0)
      | (go_at_call 21; refine (block_bi _ (by decide) (by decide) _).mono ?_; rintro e w2 ⟨rfl, hb2⟩)
      | (go_at_call 11; refine (HW1.out _).mono ?_; rintro e w3 ⟨rfl, hb3⟩)
      | (go_at_call 18; refine (waits_nil _).mono ?_; rintro e w1 ⟨rfl, rfl⟩)
      | (go_at_call 19; refine (blocks_nil _).mono ?_; rintro e w1 ⟨rfl, rfl⟩)
      | (go_at_call 16; refine (HC.out _).mono ?_; rintro e w1 ⟨rfl, rfl⟩)
      | (go_at_call 10; refine (speaks_any _).mono ?_; rintro e w7 ⟨rfl, hb7⟩))
    go_ret
    exact ⟨rfl, (hb2.next hb3).next hb7⟩
  · rw [if_neg h] at HC
    by_cases h0 : 0 ≤ t
    · have h2 : ¬ t ≤ 1024 := fun k => h ⟨h0, k⟩
      have hd2 : decide (t ≤ 1024) = false := decide_eq_false h2
      clear h
      go_enter Try.func6, Try.ntmps6
      go_wp2_with (first
        | (go_at_call 22; refine (read_nil _ _).mono ?_; rintro e w1 ⟨rfl, rfl⟩)
        | (go_at_call 23; refine (lasts_nil _ _).mono ?_; rintro e w1 ⟨rfl, rfl⟩)
        | (go_at_call 14; refine (flush_nil _).mono ?_; rintro e w1 ⟨rfl, rfl⟩)
        | (go_at_call 11; refine (HW0.out _).mono ?_; rintro e w1 ⟨rfl, rfl⟩; clear HW0)
        | (go_at_call 21; refine (block_bi _ (by decide) (by decide) _).mono ?_; rintro e w2 ⟨rfl, hb2⟩)
        | (go_at_call 11; refine (HW1.out _).mono ?_; rintro e w3 ⟨rfl, hb3⟩)
        | (go_at_call 18; refine (waits_nil _).mono ?_; rintro e w1 ⟨rfl, rfl⟩)
        | (go_at_call 19; refine (blocks_nil _).mono ?_; rintro e w1 ⟨rfl, rfl⟩)
        | (go_at_call 16; refine (HC.out _).mono ?_; rintro e w1 ⟨rfl, rfl⟩)
        | (go_at_call 10; refine (speaks_any _).mono ?_; rintro e w7 ⟨rfl, hb7⟩))
      go_ret
      exact ⟨rfl, (hb2.next hb3).next hb7⟩
    · have hd2 : decide (0 ≤ t) = false := decide_eq_false h0
      clear h
      go_enter Try.func6, Try.ntmps6
      go_wp2_with (first
        | (go_at_call 22; refine (read_nil _ _).mono ?_; rintro e w1 ⟨rfl, rfl⟩)
        | (go_at_call 23; refine (lasts_nil _ _).mono ?_; rintro e w1 ⟨rfl, rfl⟩)
        | (go_at_call 14; refine (flush_nil _).mono ?_; rintro e w1 ⟨rfl, rfl⟩)
        | (go_at_call 11; refine (HW0.out _).mono ?_; rintro e w1 ⟨rfl, rfl⟩; clear HW0)
        | (go_at_call 21; refine (block_bi _ (by decide) (by decide) _).mono ?_; rintro e w2 ⟨rfl, hb2⟩)
        | (go_at_call 11; refine (HW1.out _).mono ?_; rintro e w3 ⟨rfl, hb3⟩)
        | (go_at_call 18; refine (waits_nil _).mono ?_; rintro e w1 ⟨rfl, rfl⟩)
        | (go_at_call 19; refine (blocks_nil _).mono ?_; rintro e w1 ⟨rfl, rfl⟩)
        | (go_at_call 16; refine (HC.out _).mono ?_; rintro e w1 ⟨rfl, rfl⟩)
        | (go_at_call 10; refine (speaks_any _).mono ?_; rintro e w7 ⟨rfl, hb7⟩))
      go_ret
      exact ⟨rfl, (hb2.next hb3).next hb7⟩
end Go.Proofs.Ytglhibmfbbbdiaa
