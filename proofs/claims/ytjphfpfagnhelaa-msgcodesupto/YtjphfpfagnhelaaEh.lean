import Derived.Test.YtjphfpfagnhelaaEe
import Derived.Test.YtjphfpfagnhelaaEg
namespace Go.Proofs.Ytjphfpfagnhelaa
open Go.RowKit

theorem rd_text4 (s : ByteArray) (hsz : s.size ≤ 4096) (rest : List UInt8) (hs : (st (uEnc s.size ++ (s.data.toList ++ rest))).size ≤ maxLen) (g : Nat) (w : World) (h : RIs g w (st (uEnc s.size ++ (s.data.toList ++ rest))) 0) :
    Calls Try.prog 73 #[.pointer (some ⟨g, 0, none⟩), .int .i64 4096] w fun x w' => x = .returned (.tuple #[.string s, .int .i64 0]) ∧ RIs g w' (st rest) 0 ∧ Kept w.heap.size g w w' := by
  have hl : s.data.toList.length = s.size := by rw [Array.length_toList]; rfl
  have hsc := scan_uEnc 9 127 (by decide) s.size 0 (s.data.toList ++ rest) (by decide) (by omega) (fun h => absurd h (by decide))
  have hv : val ((st (uEnc s.size ++ (s.data.toList ++ rest))).data.toList.take (uEnc s.size).length) = s.size := by rw [st_take, val_uEnc]
  have := text_ok g (st (uEnc s.size ++ (s.data.toList ++ rest))) 4096 (by decide) (uEnc s.size).length hs (by rw [st_list, hsc, Nat.zero_add]) (by rw [hv]; exact hsz) (by rw [hv, st_size, List.length_append, List.length_append, hl]; omega) w h
  rw [hv] at this
  have e1 : (st (uEnc s.size ++ (s.data.toList ++ rest))).extract (uEnc s.size).length ((uEnc s.size).length + s.size) = s := by
    apply ByteArray.ext; apply Array.ext'
    rw [Lib.extract_data, st_list, List.drop_left, show (uEnc s.size).length + s.size - (uEnc s.size).length = s.data.toList.length by omega, List.take_left]
  have e2 : (st (uEnc s.size ++ (s.data.toList ++ rest))).extract ((uEnc s.size).length + s.size) (st (uEnc s.size ++ (s.data.toList ++ rest))).size = st rest := by
    have := st_rest (uEnc s.size ++ s.data.toList) rest
    rw [List.append_assoc, List.length_append, hl] at this
    exact this
  rw [e1, e2] at this
  exact this

theorem suffix_le (a b : List UInt8) : (st b).size ≤ (st (a ++ b)).size := by rw [st_size, st_size, List.length_append]; omega
/-- what was encoded is read, with anything behind it -/
theorem read_back (x : Ent) (hx : rgt x = true) (hk : x.Ok) (more : List UInt8) (hs : (st (encE x ++ more)).size ≤ maxLen) (w : World) :
    Calls Try.prog 62 #[.string (st (encE x ++ more))] w fun y w' => y = .returned (.tuple #[x.v, .int .i64 (st more).size, .int .i64 0]) ∧ Below w.heap.size w w' := by
  obtain ⟨⟨v0, v1⟩, ⟨cc0, cc1⟩, ⟨r0, r1⟩, hp, ht, hd⟩ := rgt_parts hx
  obtain ⟨_, _, _, hk1, ha, hn⟩ := hk
  obtain ⟨V, C, R, K, A, N, p, t, d⟩ := x
  simp only [] at v0 v1 cc0 cc1 r0 r1 hp ht hd hk1 ha hn
  obtain ⟨V, rfl⟩ := Int.eq_ofNat_of_zero_le v0
  obtain ⟨C, rfl⟩ := Int.eq_ofNat_of_zero_le cc0
  obtain ⟨R, rfl⟩ := Int.eq_ofNat_of_zero_le (show 0 ≤ R by omega)
  have he : encE ⟨V, C, R, K, A, N, p, t, d⟩ ++ more = (uEnc V ++ (uEnc C ++ (uEnc R ++ (uEnc (zig K) ++ (uEnc (zig A) ++ (uEnc (zig N) ++ (uEnc p.size ++ (p.data.toList ++ (uEnc t.size ++ (t.data.toList ++ (uEnc d.size ++ (d.data.toList ++ more)))))))))))) := by simp [encE, txE]
  rw [he] at hs ⊢
  clear he
  have h1 : (st (uEnc C ++ (uEnc R ++ (uEnc (zig K) ++ (uEnc (zig A) ++ (uEnc (zig N) ++ (uEnc p.size ++ (p.data.toList ++ (uEnc t.size ++ (t.data.toList ++ (uEnc d.size ++ (d.data.toList ++ more)))))))))))).size ≤ maxLen := Nat.le_trans (suffix_le (uEnc V) _) hs
  have h2 : (st (uEnc R ++ (uEnc (zig K) ++ (uEnc (zig A) ++ (uEnc (zig N) ++ (uEnc p.size ++ (p.data.toList ++ (uEnc t.size ++ (t.data.toList ++ (uEnc d.size ++ (d.data.toList ++ more))))))))))).size ≤ maxLen := Nat.le_trans (suffix_le (uEnc C) _) h1
  have h3 : (st (uEnc (zig K) ++ (uEnc (zig A) ++ (uEnc (zig N) ++ (uEnc p.size ++ (p.data.toList ++ (uEnc t.size ++ (t.data.toList ++ (uEnc d.size ++ (d.data.toList ++ more)))))))))).size ≤ maxLen := Nat.le_trans (suffix_le (uEnc R) _) h2
  have h4 : (st (uEnc (zig A) ++ (uEnc (zig N) ++ (uEnc p.size ++ (p.data.toList ++ (uEnc t.size ++ (t.data.toList ++ (uEnc d.size ++ (d.data.toList ++ more))))))))).size ≤ maxLen := Nat.le_trans (suffix_le (uEnc (zig K)) _) h3
  have h5 : (st (uEnc (zig N) ++ (uEnc p.size ++ (p.data.toList ++ (uEnc t.size ++ (t.data.toList ++ (uEnc d.size ++ (d.data.toList ++ more)))))))).size ≤ maxLen := Nat.le_trans (suffix_le (uEnc (zig A)) _) h4
  have h6 : (st (uEnc p.size ++ (p.data.toList ++ (uEnc t.size ++ (t.data.toList ++ (uEnc d.size ++ (d.data.toList ++ more))))))).size ≤ maxLen := Nat.le_trans (suffix_le (uEnc (zig N)) _) h5
  have h7 : (st (uEnc t.size ++ (t.data.toList ++ (uEnc d.size ++ (d.data.toList ++ more))))).size ≤ maxLen := Nat.le_trans (suffix_le (uEnc p.size ++ p.data.toList) _) (by rw [List.append_assoc]; exact h6)
  have h8 : (st (uEnc d.size ++ (d.data.toList ++ more))).size ≤ maxLen := Nat.le_trans (suffix_le (uEnc t.size ++ t.data.toList) _) (by rw [List.append_assoc]; exact h7)
  exact read_go (st (uEnc V ++ (uEnc C ++ (uEnc R ++ (uEnc (zig K) ++ (uEnc (zig A) ++ (uEnc (zig N) ++ (uEnc p.size ++ (p.data.toList ++ (uEnc t.size ++ (t.data.toList ++ (uEnc d.size ++ (d.data.toList ++ more))))))))))))) (st (uEnc C ++ (uEnc R ++ (uEnc (zig K) ++ (uEnc (zig A) ++ (uEnc (zig N) ++ (uEnc p.size ++ (p.data.toList ++ (uEnc t.size ++ (t.data.toList ++ (uEnc d.size ++ (d.data.toList ++ more)))))))))))) (st (uEnc R ++ (uEnc (zig K) ++ (uEnc (zig A) ++ (uEnc (zig N) ++ (uEnc p.size ++ (p.data.toList ++ (uEnc t.size ++ (t.data.toList ++ (uEnc d.size ++ (d.data.toList ++ more))))))))))) (st (uEnc (zig K) ++ (uEnc (zig A) ++ (uEnc (zig N) ++ (uEnc p.size ++ (p.data.toList ++ (uEnc t.size ++ (t.data.toList ++ (uEnc d.size ++ (d.data.toList ++ more)))))))))) (st (uEnc (zig A) ++ (uEnc (zig N) ++ (uEnc p.size ++ (p.data.toList ++ (uEnc t.size ++ (t.data.toList ++ (uEnc d.size ++ (d.data.toList ++ more))))))))) (st (uEnc (zig N) ++ (uEnc p.size ++ (p.data.toList ++ (uEnc t.size ++ (t.data.toList ++ (uEnc d.size ++ (d.data.toList ++ more)))))))) (st (uEnc p.size ++ (p.data.toList ++ (uEnc t.size ++ (t.data.toList ++ (uEnc d.size ++ (d.data.toList ++ more))))))) (st (uEnc t.size ++ (t.data.toList ++ (uEnc d.size ++ (d.data.toList ++ more))))) (st (uEnc d.size ++ (d.data.toList ++ more))) (st more) 0 0 0 0 0 0 0 0 0 0 V C R K A N p t d 0 0 0 0 0 0 0 0 0 rfl
    (fun g w h => rd_uint V (by omega) _ hs g w h)
    (fun g w h => rd_uint C (by omega) _ h1 g w h)
    (fun g w h => rd_uint R (by omega) _ h2 g w h)
    (fun g w h => rd_int K hk1 _ h3 g w h)
    (fun g w h => rd_int A ha _ h4 g w h)
    (fun g w h => rd_int N hn _ h5 g w h)
    (fun g w h => rd_text4 p (by omega) _ h6 g w h)
    (fun g w h => rd_text4 t (by omega) _ h7 g w h)
    (fun g w h => rd_text4 d (by omega) _ h8 g w h) w
theorem dec_yes {x : Ent} (h : rgt x = true) (n : Int) : decX x 0 = x ∧ decN x 0 n = n ∧ decE x 0 = 0 := by
  unfold decX decN decE; rw [h]; exact ⟨rfl, rfl, rfl⟩
theorem dec_back (x : Ent) (hx : rgt x = true) (hk : x.Ok) (more : List UInt8) (hs : (st (encE x ++ more)).size ≤ maxLen) (w : World) :
    Calls Try.prog 48 #[.string (st (encE x ++ more))] w fun y w' => y = .returned (.tuple #[x.v, .int .i64 (encE x).length, .int .i64 0]) ∧ Below w.heap.size w w' := by
  have := decode_go (st (encE x ++ more)) (st more) x 0 hs (suffix_le _ _) (read_back x hx hk more hs) w
  obtain ⟨e1, e2, e3⟩ := dec_yes hx ((st (encE x ++ more)).size - (st more).size : Int)
  rw [e1, e2, e3] at this
  refine this.mono fun y w' ⟨h1, h2⟩ => ⟨?_, h2⟩
  rw [h1, st_size, st_size, List.length_append]
  congr 6
  omega
/-- both decode alike -/
theorem both_dec (s : ByteArray) (hs : s.size ≤ maxLen) : ∃ (x : Ent) (n e : Int),
    (∀ w, Calls Try.prog 48 #[.string s] w fun y w' => y = .returned (.tuple #[x.v, .int .i64 n, .int .i64 e]) ∧ Below w.heap.size w w') ∧
    (∀ w, Calls Try.prog 27 #[.string s] w fun y w' => y = .returned (.tuple #[x.v, .int .i64 n, .int .i64 e]) ∧ Below w.heap.size w w') := by
  obtain ⟨n1, r1, s1, e1, l1, P1, Q1⟩ := both_uint s 0 hs
  have z1 := Nat.le_trans l1 hs
  obtain ⟨n2, r2, s2, e2, l2, P2, Q2⟩ := both_uint s1 e1 z1
  have z2 := Nat.le_trans l2 z1
  obtain ⟨n3, r3, s3, e3, l3, P3, Q3⟩ := both_uint s2 e2 z2
  have z3 := Nat.le_trans l3 z2
  obtain ⟨n4, r4, s4, e4, l4, P4, Q4⟩ := both_int s3 e3 z3
  have z4 := Nat.le_trans l4 z3
  obtain ⟨n5, r5, s5, e5, l5, P5, Q5⟩ := both_int s4 e4 z4
  have z5 := Nat.le_trans l5 z4
  obtain ⟨n6, r6, s6, e6, l6, P6, Q6⟩ := both_int s5 e5 z5
  have z6 := Nat.le_trans l6 z5
  obtain ⟨n7, r7, s7, e7, l7, P7, Q7, t7⟩ := both_text s6 e6 4096 (by decide) (by decide) z6
  have z7 := Nat.le_trans l7 z6
  obtain ⟨n8, r8, s8, e8, l8, P8, Q8, t8⟩ := both_text s7 e7 4096 (by decide) (by decide) z7
  have z8 := Nat.le_trans l8 z7
  obtain ⟨n9, r9, s9, e9, l9, P9, Q9, t9⟩ := both_text s8 e8 4096 (by decide) (by decide) z8
  have z9 := Nat.le_trans l9 z8
  have hl : s9.size ≤ s.size := by omega
  have HP := decode_go s s9 ⟨n1, n2, n3, n4, n5, n6, n7, n8, n9⟩ r9 hs hl (read_go s s1 s2 s3 s4 s5 s6 s7 s8 s9 0 e1 e2 e3 e4 e5 e6 e7 e8 e9 n1 n2 n3 n4 n5 n6 n7 n8 n9 r1 r2 r3 r4 r5 r6 r7 r8 r9 rfl P1 P2 P3 P4 P5 P6 P7 P8 P9)
  have HQ := rdecode_go s s1 s2 s3 s4 s5 s6 s7 s8 s9 0 e1 e2 e3 e4 e5 e6 e7 e8 e9 n1 n2 n3 n4 n5 n6 n7 n8 n9 r1 r2 r3 r4 r5 r6 r7 r8 r9 rfl hs hl Q1 Q2 Q3 Q4 Q5 Q6 Q7 Q8 Q9
  rw [t9] at HP
  exact ⟨_, _, _, HP, HQ⟩
end Go.Proofs.Ytjphfpfagnhelaa
