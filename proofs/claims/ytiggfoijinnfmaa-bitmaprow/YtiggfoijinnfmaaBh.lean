import Derived.Test.YtiggfoijinnfmaaBg
namespace Go.Proofs.Ytiggfoijinnfmaa
open Go.RowKit

theorem str_eq {a b : ByteArray} (h : a = b) : (a.toList == b.toList) = true := by subst h; simp
set_option maxRecDepth 100000 in
set_option maxHeartbeats 1000000 in
theorem bits_walk (b : ByteArray) (i : Int) (t : Bool) (w : World) : Calls Try.prog 3 #[.string b, .int .i64 i, .bool t] w fun e w' => e = .returned (.bool true) ∧ Below w.heap.size w w' := by
  have HH := hid (has_any b i)
  have HR := hid (rhas_any b i)
  have HS := hid (set_any b i t)
  have HT := hid (rset_any b i t)
  obtain ⟨v, hv⟩ : ∃ v, v = hasV b i := ⟨_, rfl⟩
  obtain ⟨n, hn⟩ : ∃ v, v = bitE b i := ⟨_, rfl⟩
  obtain ⟨s, hs⟩ : ∃ v, v = setV b i t := ⟨_, rfl⟩
  rw [← hv, ← hn] at HH HR
  rw [← hs, ← hn] at HS HT
  clear hv hn hs
  go_enter Try.func3, Try.ntmps3
  go_wp2_with (first
    | (go_at_call 8; refine (HH.out _).mono ?_; rintro e w1 ⟨rfl, k1, rfl⟩)
    | (go_at_call 9; refine (HR.out _).mono ?_; rintro e w2 ⟨rfl, rfl⟩)
    | (go_at_call 10; refine (HS.out _).mono ?_; rintro e w3 ⟨rfl, hb3⟩)
    | (go_at_call 11; refine (HT.out _).mono ?_; rintro e w4 ⟨rfl, hb4⟩)
    | (go_at_call 12; refine (speaks_any _).mono ?_; rintro e w5 ⟨rfl, hb5⟩))
  go_ret
  exact ⟨rfl, ((((Below.refl _ _).dN _).next hb3).next hb4).next hb5⟩
set_option maxRecDepth 100000 in
set_option maxHeartbeats 1000000 in
theorem ranges_walk (b : ByteArray) (x y m : Int) (hm : m ≤ 9223372036854775807) (w : World) : Calls Try.prog 4 #[.string b, .agg #[.int .i64 x, .int .i64 y, .int .i64 m]] w fun e w' => e = .returned (.bool true) ∧ Below w.heap.size w w' := by
  have HL := hid (least_any b x y)
  have HR1 := hid (fun w => rrun_any b x y 1 (by decide) w)
  have HR := hid (fun w => run_any b x y m hm w)
  have HR2 := hid (fun w => rrun_any b x y m hm w)
  have HC := hid (count_any b x y)
  have HC2 := hid (rcount_any b x y)
  go_enter Try.func4, Try.ntmps4
  go_wp2_with (first
    | (go_at_call 13; refine (HL.out _).mono ?_; rintro e w1 ⟨v1, f1, p1, rfl, k1, rfl⟩; replace p1 := hid p1)
    | (go_at_call 14; refine (HR1.out _).mono ?_; rintro e w2 ⟨v2, f2, p2, rfl, rfl⟩; obtain ⟨rfl, rfl⟩ := p1.out.one p2; clear p2 HR1)
    | (go_at_call 15; refine (HR.out _).mono ?_; rintro e w3 ⟨v3, f3, p3, rfl, k3, rfl⟩; replace p3 := hid p3)
    | (go_at_call 14; refine (HR2.out _).mono ?_; rintro e w4 ⟨v4, f4, p4, rfl, rfl⟩; obtain ⟨rfl, rfl⟩ := p3.out.one p4; clear p4)
    | (go_at_call 16; refine (HC.out _).mono ?_; rintro e w5 ⟨rfl, k5, rfl⟩)
    | (go_at_call 17; refine (HC2.out _).mono ?_; rintro e w6 ⟨rfl, rfl⟩)
    | (go_at_call 12; refine (speaks_any _).mono ?_; rintro e w7 ⟨rfl, hb7⟩))
  go_ret
  exact ⟨rfl, ((below_alloc w _).dN _).next hb7⟩
end Go.Proofs.Ytiggfoijinnfmaa
