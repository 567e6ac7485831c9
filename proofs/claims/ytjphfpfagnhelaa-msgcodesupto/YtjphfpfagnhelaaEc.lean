import Derived.Test.YtjphfpfagnhelaaEb
import Derived.Deep.RegionHeld3
namespace Go.Proofs.Ytjphfpfagnhelaa
open Go.RowKit

/-- the bytes of each part, as texts -/
def uS (n : Int) : ByteArray := st (uEnc n.toNat)
def zS (n : Int) : ByteArray := st (uEnc (zig n))
def xS (s : ByteArray) : ByteArray := st (txE s)
theorem uS_any (n : Int) (h : 0 ≤ n ∧ n ≤ 1099511627776) (w : World) : Calls Try.prog 20 #[.int .i64 n] w fun e w' => e = .returned (.string (uS n)) ∧ Below w.heap.size w w' := by
  obtain ⟨m, rfl⟩ := Int.eq_ofNat_of_zero_le h.1
  exact refUint m (by omega) w
theorem zS_any (n : Int) (h : i64B n) (w : World) : Calls Try.prog 40 #[.int .i64 n] w fun e w' => e = .returned (.string (zS n)) ∧ Below w.heap.size w w' := refInt n h w
theorem xS_any (s : ByteArray) (h : s.size ≤ 4096) (w : World) : Calls Try.prog 41 #[.string s] w fun e w' => e = .returned (.string (xS s)) ∧ Below w.heap.size w w' := refText s (by omega) w
theorem uS_size (n : Int) (h : 0 ≤ n ∧ n ≤ 1099511627776) : (uS n).size ≤ 10 := by
  unfold uS; rw [st_size]; exact (uEnc_len64 _ (by omega)).2
theorem zS_size (n : Int) (h : i64B n) : (zS n).size ≤ 10 := by
  unfold zS; rw [st_size]; exact (uEnc_len64 _ (zig_lt n h)).2
theorem xS_size (s : ByteArray) (h : s.size ≤ 4096) : (xS s).size ≤ 5000 := by
  unfold xS txE; rw [st_size]; simp only [List.length_append, Array.length_toList]; have := (uEnc_len64 s.size (by omega)).2; have : s.data.size = s.size := rfl; omega
theorem st_append (a b : List UInt8) : st a ++ st b = st (a ++ b) := by apply ByteArray.ext; simp [st]
theorem enc_sum (x : Ent) : uS x.V ++ uS x.C ++ uS x.R ++ zS x.K ++ zS x.A ++ zS x.N ++ xS x.p ++ xS x.t ++ xS x.d = st (encE x) := by
  simp only [uS, zS, xS, st_append, encE, List.append_assoc]
set_option maxRecDepth 100000 in
theorem rencode_no (x : Ent) (h : rgt x = false) (w : World) : Calls Try.prog 21 #[x.v] w fun e w' => e = .returned (.tuple #[.string ByteArray.empty, .int .i64 4]) ∧ Below w.heap.size w w' := by
  have HR := hid (right_any x)
  rw [h] at HR
  clear h
  obtain ⟨V, C, R, K, A, N, p, t, d⟩ := x
  simp only [Ent.v] at HR ⊢
  go_enter Try.func21, Try.ntmps21
  go_wp2_with (first | (go_at_call 38; refine (HR.out _).mono ?_; rintro e w1 ⟨rfl, b1⟩))
  go_ret2
  exact ⟨rfl, (below_alloc _ _).trans (b1.mono (by simp))⟩
set_option maxRecDepth 100000 in
set_option maxHeartbeats 4000000 in
theorem rencode_ok (x : Ent) (h : rgt x = true) (hx : x.Ok) (w : World) : Calls Try.prog 21 #[x.v] w fun e w' => e = .returned (.tuple #[.string (st (encE x)), .int .i64 0]) ∧ Below w.heap.size w w' := by
  have HR := hid (right_any x)
  obtain ⟨hv, hc, hr, hp, ht, hd⟩ := rgt_parts h
  rw [h] at HR
  clear h
  obtain ⟨_, _, _, hk, ha, hn⟩ := hx
  rw [← enc_sum]
  obtain ⟨V, C, R, K, A, N, p, t, d⟩ := x
  simp only [Ent.v] at HR ⊢
  simp only [] at hv hc hr hp ht hd hk ha hn
  have sV := uS_size V hv
  have sC := uS_size C hc
  have sR := uS_size R ⟨by omega, hr.2⟩
  have sK := zS_size K hk
  have sA := zS_size A ha
  have sN := zS_size N hn
  have sp := xS_size p hp
  have stt := xS_size t ht
  have sd := xS_size d hd
  have HV : Hid (0 ≤ V ∧ V ≤ 1099511627776) := hid hv
  have HC : Hid (0 ≤ C ∧ C ≤ 1099511627776) := hid hc
  have HRr : Hid (0 ≤ R ∧ R ≤ 1099511627776) := hid ⟨by omega, hr.2⟩
  have HK := hid hk
  have HA := hid ha
  have HN := hid hn
  have HP := hid hp
  have HT := hid ht
  have HD := hid hd
  have HU := hid uS_any
  have HZ := hid zS_any
  have HXX := hid xS_any
  clear hv hc hr hk ha hn hp ht hd
  have HB0 : Hid (Box w.heap.size (w.alloc (.cells #[.int .i64 V, .int .i64 C, .int .i64 R, .int .i64 K, .int .i64 A, .int .i64 N, .string p, .string t, .string d] 54)) ⟨V, C, R, K, A, N, p, t, d⟩) := hid (box_at _ _)
  have h1 := fun wx => Go.run_string_add_sum (P := Try.prog) (w := wx) (uS V) (uS C) (by omega)
  have h2 := fun wx => Go.run_string_add_sum (P := Try.prog) (w := wx) (uS V ++ uS C) (uS R) (by rw [ByteArray.size_append]; omega)
  obtain ⟨z3, hz3⟩ : ∃ z, z = uS V ++ uS C ++ uS R := ⟨_, rfl⟩
  have s3' : z3.size ≤ 100 := by rw [hz3, ByteArray.size_append, ByteArray.size_append]; omega
  have h3 := fun wx => Go.run_string_add_sum (P := Try.prog) (w := wx) z3 (zS K) (by omega)
  have h4 := fun wx => Go.run_string_add_sum (P := Try.prog) (w := wx) (z3 ++ zS K) (zS A) (by rw [ByteArray.size_append]; omega)
  have h5 := fun wx => Go.run_string_add_sum (P := Try.prog) (w := wx) (z3 ++ zS K ++ zS A) (zS N) (by rw [ByteArray.size_append, ByteArray.size_append]; omega)
  obtain ⟨z6, hz6⟩ : ∃ z, z = z3 ++ zS K ++ zS A ++ zS N := ⟨_, rfl⟩
  have s6' : z6.size ≤ 1000 := by rw [hz6, ByteArray.size_append, ByteArray.size_append, ByteArray.size_append]; omega
  have h6 := fun wx => Go.run_string_add_sum (P := Try.prog) (w := wx) z6 (xS p) (by omega)
  have h7 := fun wx => Go.run_string_add_sum (P := Try.prog) (w := wx) (z6 ++ xS p) (xS t) (by rw [ByteArray.size_append]; omega)
  have h8 := fun wx => Go.run_string_add_sum (P := Try.prog) (w := wx) (z6 ++ xS p ++ xS t) (xS d) (by rw [ByteArray.size_append, ByteArray.size_append]; omega)
  rw [← hz3] at h2 ⊢
  rw [← hz6] at h5 ⊢
  clear hz3 hz6 sV sC sR sK sA sN sp stt sd s3' s6'
  go_enter Try.func21, Try.ntmps21
  go_wp2_with (first
    | (go_at_call 38; refine (HR.out _).mono ?_; rintro e w1 ⟨rfl, b1⟩; have HB1 := hid (HB0.out.below b1 (by simp)); have HL1 : Hid (Below w.heap.size w w1) := hid ((below_alloc w _).trans (b1.mono (by simp))); clear b1 HR))
  obtain ⟨c0, c1, c2, c3, c4, c5, c6, c7, c8⟩ := HB1.out.cells
  have hq : w.heap.size < w1.heap.size := HB1.out.lt
  go_region_held3 (fun w' => w'.cell? ⟨w.heap.size, 0, none⟩ = some (.int .i64 V) ∧ w'.cell? ⟨w.heap.size, 1, none⟩ = some (.int .i64 C) ∧ w'.cell? ⟨w.heap.size, 2, none⟩ = some (.int .i64 R)) (first | exact ⟨c0, c1, c2⟩ | exact s1 | exact s2 | exact s3 | go_keep) (first
    | (go_at_call 20; have hk := HBa2; clear hk; refine (HU.out _ (by first | exact HV.out | exact HC.out | exact HRr.out) _).mono ?_; rintro e a3 ⟨rfl, hb⟩; have HBa3 : Hid (Below w1.heap.size w1 a3) := hid (HBa2.out.next ⟨hb.os, hb.tape, hb.output, hb.size, hb.block⟩); clear hb; have s3 : a3.cell? ⟨w.heap.size, 0, none⟩ = some (.int .i64 V) ∧ a3.cell? ⟨w.heap.size, 1, none⟩ = some (.int .i64 C) ∧ a3.cell? ⟨w.heap.size, 2, none⟩ = some (.int .i64 R) := ⟨(HBa3.out.cell (p := ⟨w.heap.size, 0, none⟩) hq).trans c0, (HBa3.out.cell (p := ⟨w.heap.size, 1, none⟩) hq).trans c1, (HBa3.out.cell (p := ⟨w.heap.size, 2, none⟩) hq).trans c2⟩)
    | (go_at_call 20; have hk := HBa1; clear hk; refine (HU.out _ (by first | exact HV.out | exact HC.out | exact HRr.out) _).mono ?_; rintro e a2 ⟨rfl, hb⟩; have HBa2 : Hid (Below w1.heap.size w1 a2) := hid (HBa1.out.next ⟨hb.os, hb.tape, hb.output, hb.size, hb.block⟩); clear hb; have s2 : a2.cell? ⟨w.heap.size, 0, none⟩ = some (.int .i64 V) ∧ a2.cell? ⟨w.heap.size, 1, none⟩ = some (.int .i64 C) ∧ a2.cell? ⟨w.heap.size, 2, none⟩ = some (.int .i64 R) := ⟨(HBa2.out.cell (p := ⟨w.heap.size, 0, none⟩) hq).trans c0, (HBa2.out.cell (p := ⟨w.heap.size, 1, none⟩) hq).trans c1, (HBa2.out.cell (p := ⟨w.heap.size, 2, none⟩) hq).trans c2⟩)
    | (go_at_call 20; (fail_if_success (have hk := HBa1)); refine (HU.out _ (by first | exact HV.out | exact HC.out | exact HRr.out) _).mono ?_; rintro e a1 ⟨rfl, hb⟩; have HBa1 : Hid (Below w1.heap.size w1 a1) := hid (⟨hb.os, hb.tape, hb.output, hb.size, hb.block⟩); clear hb; have s1 : a1.cell? ⟨w.heap.size, 0, none⟩ = some (.int .i64 V) ∧ a1.cell? ⟨w.heap.size, 1, none⟩ = some (.int .i64 C) ∧ a1.cell? ⟨w.heap.size, 2, none⟩ = some (.int .i64 R) := ⟨(HBa1.out.cell (p := ⟨w.heap.size, 0, none⟩) hq).trans c0, (HBa1.out.cell (p := ⟨w.heap.size, 1, none⟩) hq).trans c1, (HBa1.out.cell (p := ⟨w.heap.size, 2, none⟩) hq).trans c2⟩))
  all_goals
    have HBa3x := hid (HB1.out.below HBa3.out hq)
    have HLa3x : Hid (Below w.heap.size w a3) := hid (HL1.out.next HBa3.out)
    clear c0 c1 c2 c3 c4 c5 c6 c7 c8 hq s1 s2 s3
    obtain ⟨c0, c1, c2, c3, c4, c5, c6, c7, c8⟩ := HBa3x.out.cells
    have hq : w.heap.size < a3.heap.size := HBa3x.out.lt
    go_wp2_with (go_at_call 40; fail)
    go_region_held3 (fun w' => w'.cell? ⟨w.heap.size, 3, none⟩ = some (.int .i64 K) ∧ w'.cell? ⟨w.heap.size, 4, none⟩ = some (.int .i64 A) ∧ w'.cell? ⟨w.heap.size, 5, none⟩ = some (.int .i64 N)) (first | exact ⟨c3, c4, c5⟩ | exact s1 | exact s2 | exact s3 | go_keep) (first
      | (go_at_call 40; have hk := HBb2; clear hk; refine (HZ.out _ (by first | exact HK.out | exact HA.out | exact HN.out) _).mono ?_; rintro e b3 ⟨rfl, hb⟩; have HBb3 : Hid (Below a3.heap.size a3 b3) := hid (HBb2.out.next ⟨hb.os, hb.tape, hb.output, hb.size, hb.block⟩); clear hb; have s3 : b3.cell? ⟨w.heap.size, 3, none⟩ = some (.int .i64 K) ∧ b3.cell? ⟨w.heap.size, 4, none⟩ = some (.int .i64 A) ∧ b3.cell? ⟨w.heap.size, 5, none⟩ = some (.int .i64 N) := ⟨(HBb3.out.cell (p := ⟨w.heap.size, 3, none⟩) hq).trans c3, (HBb3.out.cell (p := ⟨w.heap.size, 4, none⟩) hq).trans c4, (HBb3.out.cell (p := ⟨w.heap.size, 5, none⟩) hq).trans c5⟩)
      | (go_at_call 40; have hk := HBb1; clear hk; refine (HZ.out _ (by first | exact HK.out | exact HA.out | exact HN.out) _).mono ?_; rintro e b2 ⟨rfl, hb⟩; have HBb2 : Hid (Below a3.heap.size a3 b2) := hid (HBb1.out.next ⟨hb.os, hb.tape, hb.output, hb.size, hb.block⟩); clear hb; have s2 : b2.cell? ⟨w.heap.size, 3, none⟩ = some (.int .i64 K) ∧ b2.cell? ⟨w.heap.size, 4, none⟩ = some (.int .i64 A) ∧ b2.cell? ⟨w.heap.size, 5, none⟩ = some (.int .i64 N) := ⟨(HBb2.out.cell (p := ⟨w.heap.size, 3, none⟩) hq).trans c3, (HBb2.out.cell (p := ⟨w.heap.size, 4, none⟩) hq).trans c4, (HBb2.out.cell (p := ⟨w.heap.size, 5, none⟩) hq).trans c5⟩)
      | (go_at_call 40; (fail_if_success (have hk := HBb1)); refine (HZ.out _ (by first | exact HK.out | exact HA.out | exact HN.out) _).mono ?_; rintro e b1 ⟨rfl, hb⟩; have HBb1 : Hid (Below a3.heap.size a3 b1) := hid (⟨hb.os, hb.tape, hb.output, hb.size, hb.block⟩); clear hb; have s1 : b1.cell? ⟨w.heap.size, 3, none⟩ = some (.int .i64 K) ∧ b1.cell? ⟨w.heap.size, 4, none⟩ = some (.int .i64 A) ∧ b1.cell? ⟨w.heap.size, 5, none⟩ = some (.int .i64 N) := ⟨(HBb1.out.cell (p := ⟨w.heap.size, 3, none⟩) hq).trans c3, (HBb1.out.cell (p := ⟨w.heap.size, 4, none⟩) hq).trans c4, (HBb1.out.cell (p := ⟨w.heap.size, 5, none⟩) hq).trans c5⟩))
    all_goals
      have HBb3x := hid (HBa3x.out.below HBb3.out hq)
      have HLb3x : Hid (Below w.heap.size w b3) := hid (HLa3x.out.next HBb3.out)
      clear c0 c1 c2 c3 c4 c5 c6 c7 c8 hq s1 s2 s3
      obtain ⟨c0, c1, c2, c3, c4, c5, c6, c7, c8⟩ := HBb3x.out.cells
      have hq : w.heap.size < b3.heap.size := HBb3x.out.lt
      go_wp2_with (go_at_call 40; fail)
      go_region_held3 (fun w' => w'.cell? ⟨w.heap.size, 6, none⟩ = some (.string p) ∧ w'.cell? ⟨w.heap.size, 7, none⟩ = some (.string t) ∧ w'.cell? ⟨w.heap.size, 8, none⟩ = some (.string d)) (first | exact ⟨c6, c7, c8⟩ | exact s1 | exact s2 | exact s3 | go_keep) (first
        | (go_at_call 41; have hk := HBc2; clear hk; refine (HXX.out _ (by first | exact HP.out | exact HT.out | exact HD.out) _).mono ?_; rintro e c3 ⟨rfl, hb⟩; have HBc3 : Hid (Below b3.heap.size b3 c3) := hid (HBc2.out.next ⟨hb.os, hb.tape, hb.output, hb.size, hb.block⟩); clear hb; have s3 : c3.cell? ⟨w.heap.size, 6, none⟩ = some (.string p) ∧ c3.cell? ⟨w.heap.size, 7, none⟩ = some (.string t) ∧ c3.cell? ⟨w.heap.size, 8, none⟩ = some (.string d) := ⟨(HBc3.out.cell (p := ⟨w.heap.size, 6, none⟩) hq).trans c6, (HBc3.out.cell (p := ⟨w.heap.size, 7, none⟩) hq).trans c7, (HBc3.out.cell (p := ⟨w.heap.size, 8, none⟩) hq).trans c8⟩)
        | (go_at_call 41; have hk := HBc1; clear hk; refine (HXX.out _ (by first | exact HP.out | exact HT.out | exact HD.out) _).mono ?_; rintro e c2 ⟨rfl, hb⟩; have HBc2 : Hid (Below b3.heap.size b3 c2) := hid (HBc1.out.next ⟨hb.os, hb.tape, hb.output, hb.size, hb.block⟩); clear hb; have s2 : c2.cell? ⟨w.heap.size, 6, none⟩ = some (.string p) ∧ c2.cell? ⟨w.heap.size, 7, none⟩ = some (.string t) ∧ c2.cell? ⟨w.heap.size, 8, none⟩ = some (.string d) := ⟨(HBc2.out.cell (p := ⟨w.heap.size, 6, none⟩) hq).trans c6, (HBc2.out.cell (p := ⟨w.heap.size, 7, none⟩) hq).trans c7, (HBc2.out.cell (p := ⟨w.heap.size, 8, none⟩) hq).trans c8⟩)
        | (go_at_call 41; (fail_if_success (have hk := HBc1)); refine (HXX.out _ (by first | exact HP.out | exact HT.out | exact HD.out) _).mono ?_; rintro e c1 ⟨rfl, hb⟩; have HBc1 : Hid (Below b3.heap.size b3 c1) := hid (⟨hb.os, hb.tape, hb.output, hb.size, hb.block⟩); clear hb; have s1 : c1.cell? ⟨w.heap.size, 6, none⟩ = some (.string p) ∧ c1.cell? ⟨w.heap.size, 7, none⟩ = some (.string t) ∧ c1.cell? ⟨w.heap.size, 8, none⟩ = some (.string d) := ⟨(HBc1.out.cell (p := ⟨w.heap.size, 6, none⟩) hq).trans c6, (HBc1.out.cell (p := ⟨w.heap.size, 7, none⟩) hq).trans c7, (HBc1.out.cell (p := ⟨w.heap.size, 8, none⟩) hq).trans c8⟩))
      all_goals
        go_wp2
        go_ret2
        exact ⟨rfl, HLb3x.out.next HBc3.out⟩
end Go.Proofs.Ytjphfpfagnhelaa
