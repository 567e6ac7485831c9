import Derived.Test.YtcaedajbkdploaaFf
namespace Go.Proofs.Ytcaedajbkdploaa
open Go.RowKit Go.Maps

theorem both_enc (x : Ent) (hx : x.Ok) : ∃ (S : ByteArray) (e : Int),
    (∀ w, Calls Try.prog 9 #[x.v] w fun y w' => y = .returned (.tuple #[.string S, .int .i64 e]) ∧ Below w.heap.size w w') ∧
    (∀ w, Calls Try.prog 10 #[x.v] w fun y w' => y = .returned (.tuple #[.string S, .int .i64 e]) ∧ Below w.heap.size w w') := by
  cases h : rgt x with
  | true => exact ⟨_, _, encode_ok x h hx, rencode_ok x h hx⟩
  | false => exact ⟨_, _, encode_no x h, rencode_no x h⟩
set_option maxRecDepth 100000 in
set_option maxHeartbeats 1000000 in
theorem codes_walk (x : Ent) (hx : x.Ok) (s : ByteArray) (hs : s.size < 140737488355328) (w : World) : Calls Try.prog 3 #[x.v, .string s] w fun e w' => e = .returned (.bool true) ∧ Below w.heap.size w w' := by
  obtain ⟨S, e0, H1, H2⟩ := both_enc x hx
  obtain ⟨y, n, e1, H3, H4⟩ := both_dec s (by unfold maxLen; omega)
  have heq := eqE y y
  rw [decide_eq_true rfl] at heq
  have HS := hid speaks_any
  have HB0 : Hid (Box w.heap.size (w.alloc (.cells x.cs.toArray 25)) x) := hid (box_at w _)
  have HY0 : Hid (∀ w : World, Box w.heap.size (w.alloc (.cells y.cs.toArray 25)) y) := hid fun w => box_at w _
  obtain ⟨V, C, R, K, A, N, p, t, d⟩ := x
  obtain ⟨V1, C1, R1, K1, A1, N1, p1, t1, d1⟩ := y
  simp only [Ent.v, Ent.cs] at H1 H2 H3 H4 heq HB0 HY0 ⊢
  replace H1 := hid H1
  replace H2 := hid H2
  replace H3 := hid H3
  replace H4 := hid H4
  have hSS : (S.toList == S.toList) = true := by simp
  have hee : (e0 == e0) = true := by simp
  have hnn : (n == n) = true := by simp
  have he1 : (e1 == e1) = true := by simp
  go_enter Try.func3, Try.ntmps3
  go_wp2_with (first
    | (go_at_call 9; refine (H1.out _).mono ?_; rintro e w1 ⟨rfl, b1⟩; have HB1 := hid (HB0.out.below b1 (by simp)); have HL1 : Hid (Below w.heap.size w w1) := hid ((below_alloc w _).next b1); clear b1 H1; obtain ⟨c0, c1, c2, c3, c4, c5, c6, c7, c8⟩ := HB1.out.cells)
    | (go_at_call 10; refine (H2.out _).mono ?_; rintro e w2 ⟨rfl, b2⟩; have HL2 : Hid (Below w.heap.size w w2) := hid (HL1.out.next b2); clear b2 H2 c0 c1 c2 c3 c4 c5 c6 c7 c8)
    | (go_at_call 11; refine (H3.out _).mono ?_; rintro e w3 ⟨rfl, b3⟩; have HL3 : Hid (Below w.heap.size w w3) := hid (HL2.out.next b3); clear b3 H3)
    | (go_at_call 12; refine (H4.out _).mono ?_; rintro e w4 ⟨rfl, b4⟩; have HY4 := hid ((HY0.out w3).below b4 (by simp)); have HL4 : Hid (Below w.heap.size w w4) := hid ((HL3.out.next (below_alloc w3 _)).next b4); clear b4 H4; have hy4 := HY4.out.lt; obtain ⟨c0, c1, c2, c3, c4, c5, c6, c7, c8⟩ := HY4.out.cells)
    | (go_at_call 13; refine (HS.out _).mono ?_; rintro e w5 ⟨rfl, b5⟩))
  go_ret
  exact ⟨rfl, (HL4.out.next (below_alloc w4 _)).next b5⟩
set_option maxRecDepth 100000 in
set_option maxHeartbeats 1000000 in
theorem back_walk (x : Ent) (hx : x.Ok) (s : ByteArray) (hs : s.size < 140737488355328) (w : World) : Calls Try.prog 4 #[x.v, .string s] w fun e w' => e = .returned (.bool true) ∧ Below w.heap.size w w' := by
  have HS := hid speaks_any
  cases h : rgt x with
  | false =>
    have H1 := encode_no x h
    clear h hx
    obtain ⟨V, C, R, K, A, N, p, t, d⟩ := x
    simp only [Ent.v] at H1 ⊢
    replace H1 := hid H1
    have hem : ByteArray.empty.toList = [] := by rw [ByteArray.toList_eq]; rfl
    obtain ⟨E, hE⟩ : ∃ E, E = ByteArray.empty := ⟨_, rfl⟩
    rw [← hE] at H1 hem
    clear hE
    go_enter Try.func4, Try.ntmps4
    go_wp2_with (first
      | (go_at_call 9; refine (H1.out _).mono ?_; rintro e w1 ⟨rfl, b1⟩; have HL1 : Hid (Below w.heap.size w w1) := hid ((below_alloc w _).next b1); clear b1 H1)
      | (go_at_call 13; refine (HS.out _).mono ?_; rintro e w5 ⟨rfl, b5⟩))
    go_ret
    exact ⟨rfl, HL1.out.next b5⟩
  | true =>
    have H1 := encode_ok x h hx
    have hl : (encE x).length ≤ 100000 := by
      obtain ⟨_, _, _, hp, ht, hd⟩ := rgt_parts h
      have e1 := rgt_parts h
      have a1 := (uEnc_len64 x.V.toNat (by omega)).2
      have a2 := (uEnc_len64 x.C.toNat (by omega)).2
      have a3 := (uEnc_len64 x.R.toNat (by omega)).2
      have a4 := (uEnc_len64 (zig x.K) (zig_lt _ hx.k)).2
      have a5 := (uEnc_len64 (zig x.A) (zig_lt _ hx.a)).2
      have a6 := (uEnc_len64 (zig x.N) (zig_lt _ hx.n)).2
      have a7 := (uEnc_len64 x.p.size (by omega)).2
      have a8 := (uEnc_len64 x.t.size (by omega)).2
      have a9 := (uEnc_len64 x.d.size (by omega)).2
      have s1 : x.p.data.size = x.p.size := rfl
      have s2 : x.t.data.size = x.t.size := rfl
      have s3 : x.d.data.size = x.d.size := rfl
      unfold encE txE
      simp only [List.length_append, Array.length_toList]
      omega
    have H3 := dec_back x h hx s.data.toList (by rw [st_size, List.length_append]; have : s.data.toList.length = s.size := by { rw [Array.length_toList]; rfl }; unfold maxLen; omega)
    have hsum : st (encE x) ++ s = st (encE x ++ s.data.toList) := by apply ByteArray.ext; simp [st]
    have hcat := fun wx => Go.run_string_add_sum (P := Try.prog) (w := wx) (st (encE x)) s (by rw [st_size]; omega)
    rw [hsum] at hcat
    have hsz : ((st (encE x)).size : Int) = ((encE x).length : Int) := by rw [st_size]
    have heq := eqE x x
    rw [decide_eq_true rfl] at heq
    have HB0 : Hid (Box w.heap.size (w.alloc (.cells x.cs.toArray 25)) x) := hid (box_at w _)
    obtain ⟨n, hn⟩ : ∃ n, n = (encE x).length := ⟨_, rfl⟩
    obtain ⟨Y, hY⟩ : ∃ Y, Y = st (encE x ++ s.data.toList) := ⟨_, rfl⟩
    rw [← hn] at H3 hsz
    rw [← hY] at H3 hcat
    obtain ⟨X, hX⟩ : ∃ X, X = st (encE x) := ⟨_, rfl⟩
    rw [← hX] at H1 hcat hsz
    have hnl : (X.size : Int) = n := hsz
    clear hX hY hn hsum h hx hl hsz
    obtain ⟨V, C, R, K, A, N, p, t, d⟩ := x
    simp only [Ent.v, Ent.cs] at H1 H3 heq HB0 ⊢
    replace H1 := hid H1
    replace H3 := hid H3
    have hnn : ((n : Int) == X.size) = true := by rw [hnl]; simp
    go_enter Try.func4, Try.ntmps4
    go_wp2_with (first
      | (go_at_call 9; refine (H1.out _).mono ?_; rintro e w1 ⟨rfl, b1⟩; have HB1 := hid (HB0.out.below b1 (by simp)); have HL1 : Hid (Below w.heap.size w w1) := hid ((below_alloc w _).next b1); clear b1 H1)
      | (go_at_call 11; refine (H3.out _).mono ?_; rintro e w3 ⟨rfl, b3⟩; have HB3 := hid (HB1.out.below b3 HB1.out.lt); have HL3 : Hid (Below w.heap.size w w3) := hid (HL1.out.next b3); clear b3 H3; have hy4 := HB3.out.lt; obtain ⟨c0, c1, c2, c3, c4, c5, c6, c7, c8⟩ := HB3.out.cells)
      | (go_at_call 13; refine (HS.out _).mono ?_; rintro e w5 ⟨rfl, b5⟩))
    go_ret
    exact ⟨rfl, (HL3.out.next (below_alloc w3 _)).next b5⟩
end Go.Proofs.Ytcaedajbkdploaa
