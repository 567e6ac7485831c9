import Derived.Test.YtjphfpfagnhelaaRu
namespace Go.Proofs.Ytjphfpfagnhelaa
open Go.RowKit

theorem qtext_err (g : Nat) (s : ByteArray) (e most : Int) (hm : 0 ≤ most) (w : World) (h : QIs g w s e) (he : e ≠ 0) : Calls Try.prog 51 #[.pointer (some ⟨g, 0, none⟩), .int .i64 most] w fun x w' => x = .returned (.tuple #[.string ByteArray.empty, .int .i64 e]) ∧ ∃ q, w' = w.drewN q := by
  have he' : (e != 0) = true := by simp [he]
  have h0 := h.c0
  have HE : Hid (e ≠ 0) := he
  clear he
  go_enter Try.func51, Try.ntmps51
  go_wp2_with (first | (go_at_call 26; refine (quint_err g s e _ h HE.out).mono ?_; rintro x w' ⟨rfl, q, rfl⟩))
  go_ret2
  exact ⟨rfl, _, rfl⟩
theorem qtext_bad (g : Nat) (s : ByteArray) (most er : Int) (hm : 0 ≤ most) (k : Nat) (hs : s.size ≤ maxLen) (hsc : scan 9 127 s.data.toList 0 = (er, k)) (he : er ≠ 0) (w : World) (h : QIs g w s 0) : Calls Try.prog 51 #[.pointer (some ⟨g, 0, none⟩), .int .i64 most] w fun x w' => x = .returned (.tuple #[.string ByteArray.empty, .int .i64 er]) ∧ QIs g w' s er ∧ Kept w.heap.size g w w' := by
  have he' : (er != 0) = true := by simp [he]
  have h0 := h.c0
  have HC : Hid (Calls Try.prog 26 #[.pointer (some ⟨g, 0, none⟩)] w fun x w' => x = .returned (.tuple #[.int .i64 0, .int .i64 er]) ∧ QIs g w' s er ∧ Kept w.heap.size g w w') := quint_bad g s er k hs hsc he w h
  clear he hsc
  go_enter Try.func51, Try.ntmps51
  go_wp2_with (first | (go_at_call 26; refine HC.out.mono ?_; rintro x w1 ⟨rfl, q1, k1⟩))
  go_ret2
  exact ⟨rfl, q1, k1⟩
set_option maxHeartbeats 2000000 in
theorem qtext_no (g : Nat) (s : ByteArray) (most : Nat) (_hmu : most ≤ 9223372036854775807) (k : Nat) (hs : s.size ≤ maxLen) (hsc : scan 9 127 s.data.toList 0 = (0, k)) (hv : ¬ (val (s.data.toList.take k) ≤ most ∧ val (s.data.toList.take k) ≤ s.size - k)) (w : World) (h : QIs g w s 0) :
    Calls Try.prog 51 #[.pointer (some ⟨g, 0, none⟩), .int .i64 most] w fun x w' => x = .returned (.tuple #[.string ByteArray.empty, .int .i64 (if most < val (s.data.toList.take k) then 2 else 20)]) ∧ QIs g w' s (if most < val (s.data.toList.take k) then 2 else 20) ∧ Kept w.heap.size g w w' := by
  have h0 := h.c0
  have ⟨k1, k2, k3, k4⟩ := scan_k 9 127 (by decide) _ _ _ (by decide) hsc
  have hks : k ≤ s.size := by simpa using k2
  have hvb : val (s.data.toList.take k) < 9223372036854775808 := by simpa using k4
  have hes := ext_size s k
  have HC := quint_ok g s k hs hsc w h
  unfold maxLen at hs
  obtain ⟨v, hv0⟩ : ∃ v, v = val (s.data.toList.take k) := ⟨_, rfl⟩
  obtain ⟨t, ht⟩ : ∃ t, t = s.extract k s.size := ⟨_, rfl⟩
  rw [← hv0] at hv hvb HC ⊢
  rw [← ht] at HC hes
  have HC' : Hid (Calls Try.prog 26 #[.pointer (some ⟨g, 0, none⟩)] w fun x w' => x = .returned (.tuple #[.int .i64 v, .int .i64 0]) ∧ QIs g w' t 0 ∧ Kept w.heap.size g w w') := HC
  clear HC hsc k2 k4 hv0 ht h k1 k3
  by_cases hm : most < v
  · rw [if_pos hm]
    clear hv
    go_enter Try.func51, Try.ntmps51
    go_wp2_with (first | (go_at_call 26; refine HC'.out.mono ?_; rintro x w1 ⟨rfl, q1, k1⟩; have d0 := q1.c0; have f0 := q1.fr 0; have f1 := q1.fr 1; have d1 := q1.c1))
    go_quiet (fail)
    go_wp2
    go_ret2
    exact ⟨rfl, ((q1.set1 (e' := 20)).set1.set0).drew _, (((k1.setCell 1 _).setCell 1 _).setCell 0 _).drewN _⟩
  · rw [if_neg hm]
    have hcut : t.size < v := by omega
    clear hv
    go_enter Try.func51, Try.ntmps51
    go_wp2_with (first | (go_at_call 26; refine HC'.out.mono ?_; rintro x w1 ⟨rfl, q1, k1⟩; have d0 := q1.c0; have f0 := q1.fr 0; have f1 := q1.fr 1; have d1 := q1.c1))
    go_quiet (fail)
    go_wp2
    go_ret2
    exact ⟨rfl, ((q1.set1 (e' := 20)).set0).drew _, ((k1.setCell 1 _).setCell 0 _).drewN _⟩
theorem ext_head (s : ByteArray) (k v : Nat) (h : v ≤ s.size - k) : (s.extract k s.size).extract 0 v = s.extract k (k + v) := by
  apply ByteArray.ext; apply Array.ext'
  rw [Lib.extract_data, Lib.extract_data, Lib.extract_data, List.drop_zero, Nat.sub_zero, List.take_take, show k + v - k = v by omega, Nat.min_eq_left h]
set_option maxHeartbeats 2000000 in
theorem qtext_ok (g : Nat) (s : ByteArray) (most : Nat) (_hmu : most ≤ 9223372036854775807) (k : Nat) (hs : s.size ≤ maxLen) (hsc : scan 9 127 s.data.toList 0 = (0, k)) (hv1 : val (s.data.toList.take k) ≤ most) (hv2 : val (s.data.toList.take k) ≤ s.size - k) (w : World) (h : QIs g w s 0) :
    Calls Try.prog 51 #[.pointer (some ⟨g, 0, none⟩), .int .i64 most] w fun x w' => x = .returned (.tuple #[.string (s.extract k (k + val (s.data.toList.take k))), .int .i64 0]) ∧ QIs g w' (s.extract (k + val (s.data.toList.take k)) s.size) 0 ∧ Kept w.heap.size g w w' := by
  have h0 := h.c0
  have ⟨k1, k2, k3, k4⟩ := scan_k 9 127 (by decide) _ _ _ (by decide) hsc
  have hks : k ≤ s.size := by simpa using k2
  have hes := ext_size s k
  have HC := quint_ok g s k hs hsc w h
  have eh := ext_head s k _ hv2
  have ee := ext_ext s k (val (s.data.toList.take k))
  unfold maxLen at hs
  obtain ⟨v, hv0⟩ : ∃ v, v = val (s.data.toList.take k) := ⟨_, rfl⟩
  obtain ⟨t, ht⟩ : ∃ t, t = s.extract k s.size := ⟨_, rfl⟩
  rw [← hv0] at hv1 hv2 HC eh ee ⊢
  rw [← ht] at HC hes eh ee
  have HC' : Hid (Calls Try.prog 26 #[.pointer (some ⟨g, 0, none⟩)] w fun x w' => x = .returned (.tuple #[.int .i64 v, .int .i64 0]) ∧ QIs g w' t 0 ∧ Kept w.heap.size g w w') := HC
  have HH : Hid (t.extract 0 v = s.extract k (k + v)) := eh
  have HT : Hid (t.extract v t.size = s.extract (k + v) s.size) := ee
  have hvt : v ≤ t.size := by omega
  clear HC hsc k2 k4 hv0 ht h k1 k3 eh ee
  go_enter Try.func51, Try.ntmps51
  go_wp2_with (first | (go_at_call 26; refine HC'.out.mono ?_; rintro x w1 ⟨rfl, q1, k1⟩; have d0 := q1.c0; have f0 := q1.fr 0; have f1 := q1.fr 1; have d1 := q1.c1))
  go_ret2
  exact ⟨by rw [← HH.out]; rfl, by rw [← HT.out, hes]; exact q1.set0, k1.setCell 0 _⟩
end Go.Proofs.Ytjphfpfagnhelaa
