import Derived.Test.YtjphfpfagnhelaaWt
import Derived.Deep.RegionWith
namespace Go.Proofs.Ytjphfpfagnhelaa
open Go.RowKit

theorem hi_ref (m : Nat) : (m : Int) % 128 + 128 = ((UInt8.ofNat (m % 128 + 128)).toNat : Int) := by
  rw [UInt8.toNat_ofNat']; omega

set_option maxRecDepth 100000 in
set_option maxHeartbeats 1000000 in
theorem refUint (n : Nat) (hn : n ≤ 9223372036854775807) (w : World) : Calls Try.prog 20 #[.int .i64 n] w fun e w' => e = .returned (.string (st (uEnc n))) ∧ Below w.heap.size w w' := by
  have hul := uEnc_len64 n (by omega)
  go_enter Try.func20, Try.ntmps20
  go_wp2
  go_loopw [0, 3] (fun x v wr => ∃ (m : Nat) (done : List UInt8), x = .int .i64 m ∧ m ≤ 9223372036854775807 ∧ uEnc n = done ++ uEnc m ∧ wr.ownsRow w.heap.size 5 1 v done.length (bc done) ∧ Below w.heap.size w wr) (fun x _ _ => (intOf x).toNat)
  case atStart => exact ⟨n, [], rfl, hn, rfl, World.ownsRow_nil _ _ _ _, Below.refl _ _⟩
  case round =>
    obtain ⟨m, done, rfl, hm, hd, hown, hbl⟩ := hrel
    have hdl : done.length ≤ 100000000000 := by have := congrArg List.length hd; simp at this; omega
    have HD : Hid (uEnc n = done ++ uEnc m) := hd
    have hsz := hbl.size
    clear hd
    by_cases hlt : m < 128
    · obtain ⟨b, hb⟩ : ∃ b, b = UInt8.ofNat m := ⟨_, rfl⟩
      have HM : Hid ((m : Int) = (b.toNat : Int)) := by rw [hb]; exact lo_byte m hlt
      have HE : Hid (uEnc n = done ++ [b]) := by show _ = _; rw [HD.out, uEnc_lo hlt, hb]
      clear hb HD
      go_wp2_with (at_builtin; refine push_byte rfl (.tmp 15) (.tmp 18) rfl w.heap.size _ done.length done _ b HM.out rfl rfl hown hdl hsz ?_; intro r cap w1 hown' hbel hsame; have hcv := conv_own (bs := done ++ [b]) (by rw [List.length_append]; exact hown'))
      go_ret
      exact ⟨by rw [HE.out]; rfl, hbl.trans hbel⟩
    · obtain ⟨b, hb⟩ : ∃ b, b = UInt8.ofNat (m % 128 + 128) := ⟨_, rfl⟩
      have HM : Hid ((m : Int) % 128 + 128 = (b.toNat : Int)) := by rw [hb]; exact hi_ref m
      have HE : Hid (uEnc n = (done ++ [b]) ++ uEnc (m / 128)) := by show _ = _; rw [HD.out, uEnc_hi hlt, hb]; simp
      clear hb HD
      go_wp2_with (at_builtin; refine push_byte rfl (.tmp 6) (.tmp 11) rfl w.heap.size _ done.length done _ b HM.out rfl rfl hown hdl hsz ?_)
      intro r cap w1 hown' hbel hsame
      have hown2 : w1.ownsRow w.heap.size 5 1 (.slice (some ⟨r, 0, none⟩) (done.length + 1) cap) (done ++ [b]).length (bc (done ++ [b])) := by rw [List.length_append]; exact hown'
      have hb2 := hbl.trans hbel
      clear hown' hbel hsame hown hbl
      go_wp2
      go_roundw
      case rel => exact ⟨m / 128, done ++ [b], by go_num, by omega, HE.out, hown2, hb2⟩
      case measure => simp [intOf]; omega

theorem refText (s : ByteArray) (hs : s.size ≤ 65535) (w : World) : Calls Try.prog 41 #[.string s] w fun e w' => e = .returned (.string (st (uEnc s.size ++ s.data.toList))) ∧ Below w.heap.size w w' := by
  have hul := uEnc_len64 s.size (by omega)
  have hsz : (st (uEnc s.size)).size ≤ 10 := by rw [st_size]; exact hul.2
  have HE : Hid (st (uEnc s.size) ++ s = st (uEnc s.size ++ s.data.toList)) := by
    show _ = _
    apply ByteArray.ext; simp [st]
  obtain ⟨u, hu⟩ : ∃ u, u = st (uEnc s.size) := ⟨_, rfl⟩
  have HC : Hid (Calls Try.prog 20 #[.int .i64 s.size] w fun e w' => e = .returned (.string u) ∧ Below w.heap.size w w') := by
    show Calls _ _ _ _ _
    rw [hu]; exact refUint s.size (by omega) w
  rw [← hu] at HE hsz
  clear hu hul
  go_enter Try.func41, Try.ntmps41
  go_wp2_with (first | (go_at_call 20; refine HC.out.mono ?_; rintro e w1 ⟨rfl, b1⟩))
  go_ret
  exact ⟨by rw [← HE.out]; rfl, b1⟩

theorem below_alloc' (w : World) (o : Obj) : Below w.heap.size w (w.alloc o) := (Below.refl _ _).alloc (Nat.le_refl _) o
theorem conv_one (b : Nat) (c : UInt8) (w : World) (x : Int) (hx : x = (c.toNat : Int)) (h : w.cell? ⟨b, 0, none⟩ = some (.int .u8 x)) : (convert 43 9 (.slice (some ⟨b, 0, none⟩) 1 1)).run Try.prog w = .ok (.string (st [c])) w := by
  subst hx
  rw [← strOf_bytes]
  exact run_convert_bytes_arg w 43 5 Try.underlying43 Try.underlying5 b 0 1 1 _ rfl (fun i hi => by match i, hi with | 0, _ => simpa using h) 9 Try.underlying9
theorem bcell {W w1 : World} (hb : Below W.heap.size W w1) : (∀ b o, b < W.heap.size → w1.cell? ⟨b, o, none⟩ = W.cell? ⟨b, o, none⟩) ∧ (∀ b o, b < W.heap.size → w1.frozen? ⟨b, o, none⟩ = W.frozen? ⟨b, o, none⟩) :=
  ⟨fun b o h => hb.cell (p := ⟨b, o, none⟩) h, fun b o h => hb.frozen (p := ⟨b, o, none⟩) h⟩
theorem uEnc_zig (z f r : Nat) (hz : z = f + 128 * r) (hf : f < 128) : uEnc z = if r = 0 then [UInt8.ofNat f] else UInt8.ofNat (f + 128) :: uEnc r := by
  by_cases h : r = 0
  · rw [if_pos h, uEnc_lo (by omega), show z = f by omega]
  · rw [if_neg h, uEnc_hi (by omega), show z % 128 = f by omega, show z / 128 = r by omega]

set_option maxRecDepth 100000 in
set_option maxHeartbeats 2000000 in
theorem refInt_pos (n : Nat) (hn : n ≤ 9223372036854775807) (w : World) : Calls Try.prog 40 #[.int .i64 n] w fun e w' => e = .returned (.string (st (uEnc (zig n)))) ∧ Below w.heap.size w w' := by
  have HZ := uEnc_zig (zig n) (n % 64 * 2) (n / 64) (by unfold zig; rw [if_pos (by omega)]; omega) (by omega)
  by_cases hr : n < 64
  · obtain ⟨c, hc⟩ : ∃ c, c = UInt8.ofNat (n % 64 * 2) := ⟨_, rfl⟩
    have hcv := fun b w => conv_one b c w ((n : Int) % 64 * 2) (by rw [hc, UInt8.toNat_ofNat']; omega)
    have HZ' : Hid (uEnc (zig n) = [c]) := by show _ = _; rw [HZ, if_pos (by omega), hc]
    clear HZ hc
    go_enter Try.func40, Try.ntmps40
    go_wp2
    go_ret
    exact ⟨by rw [HZ'.out]; rfl, below_alloc' w _⟩
  · obtain ⟨c, hc⟩ : ∃ c, c = UInt8.ofNat (n % 64 * 2 + 128) := ⟨_, rfl⟩
    obtain ⟨u, hu⟩ : ∃ u, u = st (uEnc (n / 64)) := ⟨_, rfl⟩
    have hus : u.size ≤ 10 := by rw [hu, st_size]; exact (uEnc_len64 (n / 64) (by omega)).2
    have hcs : (st [c]).size = 1 := by rw [st_size]; rfl
    have hcv := fun b w => conv_one b c w (IntKind.u8.wrap (IntKind.i64.wrap ((n : Int) % 64 * 2 + 128))) (by rw [hc, UInt8.toNat_ofNat', IntKind.wrap_i64, IntKind.wrap_u8]; omega)
    have HU : Hid (∀ w, Calls Try.prog 20 #[.int .i64 ((n : Int) / 64)] w fun e w' => e = .returned (.string u) ∧ Below w.heap.size w w') := fun w => by
      have h := refUint (n / 64) (by omega) w
      rw [← hu] at h
      exact h
    have HZ' : Hid (st [c] ++ u = st (uEnc (zig n))) := by
      show _ = _
      rw [HZ, if_neg (by omega), hc, hu]; apply ByteArray.ext; simp [st]
    clear HZ hc hu
    go_enter Try.func40, Try.ntmps40
    go_wp2
    go_region_with (go_at_call 20; refine (HU.out _).mono ?_; rintro e w1 ⟨rfl, b1⟩; obtain ⟨hc1, hz1⟩ := bcell b1; have hs1 := b1.size)
    all_goals
      go_wp2
      go_ret
      refine ⟨by rw [← HZ'.out]; rfl, ?_⟩
      first
        | exact (below_alloc' w _).drew.trans (b1.mono (by simp))
        | exact ((Below.refl w.heap.size w).drew.trans b1).alloc (by have := b1.size; simpa using this) _
set_option maxRecDepth 100000 in
set_option maxHeartbeats 2000000 in
theorem refInt_neg (n : Int) (h0 : n < 0) (hn : -9223372036854775808 ≤ n) (w : World) : Calls Try.prog 40 #[.int .i64 n] w fun e w' => e = .returned (.string (st (uEnc (zig n)))) ∧ Below w.heap.size w w' := by
  obtain ⟨m, hm⟩ : ∃ m : Nat, -(n + 1) = (m : Int) := ⟨(-(n + 1)).toNat, by omega⟩
  have hmu : m ≤ 9223372036854775807 := by omega
  have HZ := uEnc_zig (zig n) (m % 64 * 2 + 1) (m / 64) (by unfold zig; rw [if_neg (by omega)]; omega) (by omega)
  by_cases hr : m < 64
  · obtain ⟨c, hc⟩ : ∃ c, c = UInt8.ofNat (m % 64 * 2 + 1) := ⟨_, rfl⟩
    have hcv := fun b w => conv_one b c w ((m : Int) % 64 * 2 + 1) (by rw [hc, UInt8.toNat_ofNat']; omega)
    have HZ' : Hid (uEnc (zig n) = [c]) := by show _ = _; rw [HZ, if_pos (by omega), hc]
    clear HZ hc
    go_enter Try.func40, Try.ntmps40
    go_wp2
    go_ret
    exact ⟨by rw [HZ'.out]; rfl, below_alloc' w _⟩
  · obtain ⟨c, hc⟩ : ∃ c, c = UInt8.ofNat (m % 64 * 2 + 1 + 128) := ⟨_, rfl⟩
    obtain ⟨u, hu⟩ : ∃ u, u = st (uEnc (m / 64)) := ⟨_, rfl⟩
    have hus : u.size ≤ 10 := by rw [hu, st_size]; exact (uEnc_len64 (m / 64) (by omega)).2
    have hcs : (st [c]).size = 1 := by rw [st_size]; rfl
    have hcv := fun b w => conv_one b c w (IntKind.u8.wrap (IntKind.i64.wrap ((m : Int) % 64 * 2 + 1 + 128))) (by rw [hc, UInt8.toNat_ofNat', IntKind.wrap_i64, IntKind.wrap_u8]; omega)
    have HU : Hid (∀ w, Calls Try.prog 20 #[.int .i64 ((m : Int) / 64)] w fun e w' => e = .returned (.string u) ∧ Below w.heap.size w w') := fun w => by
      have h := refUint (m / 64) (by omega) w
      rw [← hu] at h
      exact h
    have HZ' : Hid (st [c] ++ u = st (uEnc (zig n))) := by
      show _ = _
      rw [HZ, if_neg (by omega), hc, hu]; apply ByteArray.ext; simp [st]
    clear HZ hc hu
    go_enter Try.func40, Try.ntmps40
    go_wp2
    go_region_with (go_at_call 20; refine (HU.out _).mono ?_; rintro e w1 ⟨rfl, b1⟩; obtain ⟨hc1, hz1⟩ := bcell b1; have hs1 := b1.size)
    all_goals
      go_wp2
      go_ret
      refine ⟨by rw [← HZ'.out]; rfl, ?_⟩
      first
        | exact (below_alloc' w _).drew.trans (b1.mono (by simp))
        | exact ((Below.refl w.heap.size w).drew.trans b1).alloc (by have := b1.size; simpa using this) _
end Go.Proofs.Ytjphfpfagnhelaa
