import Derived.Test.YtokjlgebkihimaaGreatXr
import Derived.Test.YtokjlgebkihimaaGreatXs
import Derived.Test.YtokjlgebkihimaaGreatXt
namespace Go.Proofs.YtokjlgebkihimaaGreat
open Go.RowKit Go.Maps Go.Shelf

theorem names_fd {p q cap m : Nat} {w : World} {B : List ByteArray} {i : Nat} {S : List (List UInt8)} (H : TI sG B) (f : FD B i S) (hi : i < 8) (hv : VI sG p q cap m w sF B) :
    Calls Tryz.prog 17 #[.pointer (some ⟨p, 0, none⟩), .int .i64 (i : Int)] w fun e' w' => ∃ v, e' = .returned (.tuple #[v, .int .i64 0]) ∧ SRow w.heap.size w' v (sortN (namesL S)) ∧ Below w.heap.size w w' := names_dir (slots_fd H f hi hv) (by have := f.len; omega)
/-- a view in memory, and its directory 0 -/
structure DV (w : World) (p : Nat) (B : List ByteArray) (S : List (List UInt8)) (w' : World) : Prop where
  sv : SV w p B w'
  ti : TI sG B
  fd : FD B 0 S
theorem DV.next {w w1 w2 : World} {p : Nat} {B : List ByteArray} {S : List (List UInt8)} (h : DV w p B S w1) (k : Below w1.heap.size w1 w2) : DV w p B S w2 := ⟨h.sv.next k, h.ti, h.fd⟩
theorem SV.vpd {w w1 w2 : World} {p q cap m : Nat} {B B' : List ByteArray} (h : SV w p B w1) (hv : VI sG p q cap m w1 sF B) (hq : w.heap.size ≤ q) (hm : w.heap.size ≤ m) (k : VPd p q cap m B' w1 w2) : SV w p B' w2 := by
  obtain ⟨m', h1, h2, h3⟩ := k
  exact h.only hv hq hm h1 h3 h2
theorem put_dv {w w1 : World} {p : Nat} {B : List ByteArray} {S : List (List UInt8)} (t : ByteArray) (tn : Int) (h : DV w p B S w1) (hl : S.length < 400) :
    ∃ r B' S', PutR B 0 S t tn r B' S' ∧ Calls Tryz.prog 11 #[.pointer (some ⟨p, 0, none⟩), .int .i64 0, .string t, .int .i64 tn] w1 fun e w' => e = .returned (.int .i64 r) ∧ DV w p B' S' w' := by
  obtain ⟨q, cap, m, hv, hq, hm⟩ := h.sv.ex
  obtain ⟨r, B', S', h1, h2⟩ := put_dir (i := 0) t tn h.ti h.fd (by decide) hl hv
  exact ⟨r, B', S', h1, h2.mono fun e w' ⟨k1, k2⟩ => ⟨k1, h.sv.vpd hv hq hm k2, h1.ti, h1.fd⟩⟩
theorem take_dv {w w1 : World} {p : Nat} {B : List ByteArray} {S : List (List UInt8)} (t : ByteArray) (h : DV w p B S w1) (hl : S.length < 400) :
    ∃ B' S', TakR B 0 S t B' S' ∧ Calls Tryz.prog 13 #[.pointer (some ⟨p, 0, none⟩), .int .i64 0, .string t] w1 fun e w' => e = .returned (.tuple #[.int .i64 (tkN S t : Int), .int .i64 (tkE S t)]) ∧ DV w p B' S' w' := by
  obtain ⟨q, cap, m, hv, hq, hm⟩ := h.sv.ex
  obtain ⟨B', S', h1, h2⟩ := take_dir (i := 0) t h.ti h.fd (by decide) hl hv
  exact ⟨B', S', h1, h2.mono fun e w' ⟨k1, k2⟩ => ⟨k1, h.sv.vpd hv hq hm k2, h1.ti, h1.fd⟩⟩
theorem find_dv {w w1 : World} {p : Nat} {B : List ByteArray} {S : List (List UInt8)} (t : ByteArray) (h : DV w p B S w1) :
    Calls Tryz.prog 15 #[.pointer (some ⟨p, 0, none⟩), .int .i64 0, .string t] w1 fun e w' => e = .returned (.tuple #[.int .i64 (tkN S t : Int), .int .i64 (tkE S t)]) ∧ DV w p B S w' := by
  obtain ⟨q, cap, m, hv, hq, hm⟩ := h.sv.ex
  exact (find_dir (i := 0) t h.ti h.fd (by decide) hv).mono fun e w' ⟨k1, k2⟩ => ⟨k1, h.next k2⟩
theorem count_dv {w w1 : World} {p : Nat} {B : List ByteArray} {S : List (List UInt8)} (h : DV w p B S w1) :
    Calls Tryz.prog 19 #[.pointer (some ⟨p, 0, none⟩), .int .i64 0] w1 fun e w' => e = .returned (.tuple #[.int .i64 (S.length : Int), .int .i64 (usedN S : Int), .int .i64 0]) ∧ DV w p B S w' := by
  obtain ⟨q, cap, m, hv, hq, hm⟩ := h.sv.ex
  exact (count_fd (i := 0) h.ti h.fd (by decide) hv).mono fun e w' ⟨k1, k2⟩ => ⟨k1, h.next k2⟩
theorem names_dv {w w1 : World} {p : Nat} {B : List ByteArray} {S : List (List UInt8)} (h : DV w p B S w1) :
    Calls Tryz.prog 17 #[.pointer (some ⟨p, 0, none⟩), .int .i64 0] w1 fun e w' => ∃ v, e = .returned (.tuple #[v, .int .i64 0]) ∧ SRow w1.heap.size w' v (sortN (namesL S)) ∧ DV w p B S w' := by
  obtain ⟨q, cap, m, hv, hq, hm⟩ := h.sv.ex
  exact (names_fd (i := 0) h.ti h.fd (by decide) hv).mono fun e w' ⟨v, k1, k2, k3⟩ => ⟨v, k1, k2, h.next k3⟩
theorem setd_sv {w w1 : World} {p : Nat} {B : List ByteArray} (i : Nat) (hi : i < 8) (h : SV w p B w1) : Calls Tryz.prog 27 #[.pointer (some ⟨p, 0, none⟩), .int .i64 (i : Int), dN.v] w1 fun e w' => e = .returned (.int .i64 0) ∧ SV w p (putB sG B i dN) w' := by
  obtain ⟨q, cap, m, hv, hq, hm⟩ := h.ex
  exact (vset_ok (w := w1) i (show i < sG.z from hi) dN d_c hv).mono fun e w' ⟨he, hv', ho⟩ => ⟨he, h.only hv hq hm hv' (.inl rfl) (ho.wide (by simp))⟩
set_option maxRecDepth 100000 in
set_option maxHeartbeats 1000000 in
theorem start_any (w : World) : Calls Tryz.prog 25 #[] w fun e w' => ∃ p, e = .returned (.pointer (some ⟨p, 0, none⟩)) ∧ DV w p B0 [] w' := by
  go_enter Tryz.func25, Tryz.ntmps25
  go_wp2_with (go_at_call 58; fail)
  refine (little_any _).mono ?_
  rintro e w1 ⟨v1, rfl, hs1, hb1⟩
  obtain ⟨ao, cp, rfl, hnew⟩ := sv_new2 hb1 hs1
  have HNEW := hid (hnew _ (below_alloc w1 (.cells #[.int .i64 40, .int .i64 20, .int .i64 8] 23)))
  clear hnew hs1 hb1
  have q26 : ∀ (w : World) (g : Nat), (binOp .eql 26 (.pointer (some ⟨g, 0, none⟩)) (.pointer none)).run Tryz.prog w = .ok (.bool false) w := fun w g => by kernel_rfl
  go_wp2_with (first | (go_at_call 7; fail))
  refine HNEW.out.mono ?_
  rintro e w4 ⟨p, rfl, hv4, _⟩
  have HV4 := hid (setd_sv 0 (by decide) hv4)
  clear hv4 HNEW
  go_wp2_with (first
    | (go_at_call 27; refine (HV4.out).mono ?_; rintro e w6 ⟨rfl, hv6⟩; have HV6 := hid hv6; clear hv6))
  go_ret
  exact ⟨p, rfl, HV6.out, b0_emp.1.ti, b0_fd⟩
def aN : ByteArray := ⟨#[97]⟩
set_option maxRecDepth 1000000 in
theorem a_facts : pdE [] aN 3 = 0 ∧ tkE [newS aN 3] aN = 0 ∧ tkN [newS aN 3] aN = 3 ∧ tkE [Z32] aN = 301 ∧ (namesL [newS aN 3]).length = 1 ∧ usedN [Z32] = 0 ∧ tkJ [newS aN 3] aN = 0 := by decide +kernel
set_option maxRecDepth 100000 in
set_option maxHeartbeats 1000000 in
theorem speaks_any (w : World) : Calls Tryz.prog 9 #[] w fun e w' => e = .returned (.bool true) ∧ Below w.heap.size w w' := by
  obtain ⟨f1, f2, f3, f4, f5, f6, f7⟩ := a_facts
  go_enter Tryz.func9, Tryz.ntmps9
  go_wp2_with (go_at_call 25; fail)
  refine (start_any _).mono ?_
  rintro e w1 ⟨p, rfl, hd1⟩
  obtain ⟨r, B1, S1, hP, hC⟩ := put_dv aN 3 hd1 (by decide)
  have hr : r = 0 ∧ S1 = [newS aN 3] := by
    rcases hP.res with ⟨h1, _, _, _, h5⟩ | ⟨h1, _, h3, _⟩
    · exact absurd a_put (h5 f1).2
    · exact ⟨h1, h3⟩
  obtain ⟨rfl, rfl⟩ := hr
  have HC := hid hC
  clear hC hP hd1
  have q26 : ∀ (w : World) (g : Nat), (binOp .eql 26 (.pointer (some ⟨g, 0, none⟩)) (.pointer none)).run Tryz.prog w = .ok (.bool false) w := fun w g => by kernel_rfl
  go_wp2_with (go_at_call 11; fail)
  refine HC.out.mono ?_
  rintro e w2 ⟨rfl, hd2⟩
  have HF := hid (find_dv aN hd2)
  rw [f2, f3] at HF
  clear hd2 HC
  go_wp2_with (go_at_call 15; fail)
  refine HF.out.mono ?_
  rintro e w3 ⟨rfl, hd3⟩
  have HN := hid (names_dv hd3)
  clear hd3 HF
  go_wp2_with (go_at_call 17; fail)
  refine HN.out.mono ?_
  rintro e w4 ⟨v, rfl, hr4, hd4⟩
  obtain ⟨ao, cp, rfl⟩ := hr4.len
  rw [sortN_len, f5]
  obtain ⟨B2, S2, hP, hC⟩ := take_dv aN hd4 (by decide)
  rw [f2, f3] at hC
  have hS : S2 = [Z32] := by
    rcases hP.res with ⟨h1, _⟩ | ⟨_, h3, _⟩
    · exact absurd f2 h1
    · rw [h3, f7]; rfl
  subst hS
  have HC := hid hC
  clear hC hP hd4 hr4 HN
  go_wp2_with (go_at_call 13; fail)
  refine HC.out.mono ?_
  rintro e w5 ⟨rfl, hd5⟩
  have HF := hid (find_dv aN hd5)
  rw [f4] at HF
  clear hd5 HC
  go_wp2_with (go_at_call 15; fail)
  refine HF.out.mono ?_
  rintro e w6 ⟨rfl, hd6⟩
  have HN := hid (count_dv hd6)
  rw [f6] at HN
  clear hd6 HF
  go_wp2_with (go_at_call 19; fail)
  refine HN.out.mono ?_
  rintro e w7 ⟨rfl, hd7⟩
  have HD7 := hid hd7
  clear hd7 HN f1 f2 f3 f4 f5 f6 f7
  go_wp2
  go_ret
  exact ⟨rfl, HD7.out.sv.bel⟩
/-- the cells of a step in a block of its own -/
def SB4 (q : Nat) (w : World) (s : Stp) : Prop := w.heap[q]? = some (.cells #[.int .i64 s.k, .int .i64 s.d, .int .i64 s.t, .string s.n] 40 (0, 0))
theorem SB4.cells {q : Nat} {w : World} {s : Stp} (h : SB4 q w s) : w.cell? ⟨q, 0, none⟩ = some (.int .i64 s.k) ∧ w.cell? ⟨q, 1, none⟩ = some (.int .i64 s.d) ∧ w.cell? ⟨q, 2, none⟩ = some (.int .i64 s.t) ∧ w.cell? ⟨q, 3, none⟩ = some (.string s.n) := by
  unfold SB4 at h
  simp [World.cell?, h]
end Go.Proofs.YtokjlgebkihimaaGreat
