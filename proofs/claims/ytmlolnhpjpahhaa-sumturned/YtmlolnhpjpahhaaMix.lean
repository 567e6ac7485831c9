import Derived.Test.YtmlolnhpjpahhaaTel
import Derived.Deep.DeepCutAuto
import Derived.Deep.DeepFit
import Derived.Deep.CutBlock
namespace Go.Proofs.Ytmlolnhpjpahhaa
open Go.RowKit

/-- one byte more at the end of a row of the call's own, as a step of a region that draws its order: up to 2^47 bytes -/
theorem step_push' {ops : Array Oper} {o : Oper} {a : Act} {w : World} {K : Act → World → Prop} {Q : Exit → Act → World → Prop} {E : Prop} (hg : o.guard = none) (s x : Operand)
    (hop : o.op = .call { callee := .builtin .append, args := #[s, x], argTypes := #[34, 34] }) (base : Nat) (v : Value) (n : Nat) (bs : List UInt8) (z : Int) (b : UInt8) (hz : z = b.toNat)
    (hs : a.eval s = v) (ad : Addr) (hx : a.eval x = .slice (some ad) 1 1) (hc : w.cell? ad = some (.int .u8 z)) (hspot : ad.spot = none) (hown : w.ownsRow base 5 1 v n (bc bs)) (hn : n < 140737488355328) (hbase : base ≤ w.heap.size)
    (h : ∀ r cap w', w'.ownsRow base 5 1 (.slice (some ⟨r, 0, none⟩) (n + 1) cap) (n + 1) (bc (bs ++ [b])) → Below base w w' → K (a.put o.dst (.slice (some ⟨r, 0, none⟩) (n + 1) cap)) w') :
    if Region.wanted o (yielded ops a.tmps) = true then Oper.wp Try.prog o a w K Q else E := by
  have hw : Region.wanted o (yielded ops a.tmps) = true := by simp [Region.wanted, hg]
  rw [if_pos hw]
  obtain ⟨i0, hi, hz0, hz1, hz2⟩ := info_parts Try.info5
  subst hz
  refine wp_append_own w s x 34 hop base 5 i0 (.int .u8 0) 1 1 Try.underlying34 hi hz0 hz1 hz2 rfl (by decide) v n (bc bs) hs hown ad 1 1 [.int .u8 b.toNat] hx rfl ?_ ?_ ?_ ?_ hbase ?_
  · intro j u hj
    match j, hj with
    | 0, hj => simp at hj; subst hj; obtain ⟨bb, oo, sp⟩ := ad; simp at hspot; subst hspot; simpa [Addr.add] using hc
  · intro u hu; simp at hu; subst hu; rfl
  · unfold maxLen; omega
  · omega
  · intro v' w' h1 h2 _
    obtain ⟨r, cap, rfl⟩ : ∃ r cap, v' = .slice (some ⟨r, 0, none⟩) (n + 1) cap := by
      obtain ⟨_, e | ⟨g, cap, cur, e, _⟩⟩ := h1
      · exact absurd e.2 (by omega)
      · exact ⟨g, cap, e⟩
    exact h r cap w' (by rw [bc_append]; exact h1) ((Below.refl base w).grown h2 hbase fun k hk => (hown.lt k hk).1)

theorem mix_snoc : ∀ (a b c : List UInt8) (x y z : UInt8), a.length = b.length → a.length = c.length → mix (a ++ [x]) (b ++ [y]) (c ++ [z]) = mix a b c ++ [x ^^^ y ^^^ z]
  | [], [], [], x, y, z, _, _ => rfl
  | [], _ :: _, _, _, _, _, h, _ => by simp at h
  | [], [], _ :: _, _, _, _, _, h => by simp at h
  | _ :: _, [], _, _, _, _, h, _ => by simp at h
  | _ :: _, _ :: _, [], _, _, _, _, h => by simp at h
  | p :: a, q :: b, r :: c, x, y, z, h1, h2 => by
    show mix (p :: (a ++ [x])) (q :: (b ++ [y])) (r :: (c ++ [z])) = _
    rw [mix, mix, mix_snoc a b c x y z (by simpa using h1) (by simpa using h2), List.cons_append]
theorem bx8 (a b : UInt8) : bits .xor .u8 (a.toNat : Int) (b.toNat : Int) = ((a ^^^ b).toNat : Int) := by
  show IntKind.u8.wrap (((BitVec.ofInt 8 (a.toNat : Int) ^^^ BitVec.ofInt 8 (b.toNat : Int)).toNat : Nat) : Int) = _
  have ha := a.toNat_lt
  have hb := b.toNat_lt
  have hx := (a ^^^ b).toNat_lt
  rw [BitVec.toNat_xor, BitVec.ofInt_natCast, BitVec.ofInt_natCast, BitVec.toNat_ofNat, BitVec.toNat_ofNat, Nat.mod_eq_of_lt (by omega), Nat.mod_eq_of_lt (by omega), ← UInt8.toNat_xor, IntKind.wrap_u8]
  omega
/-- the first j bytes of three texts, mixed -/
def mx (a b c : ByteArray) (j : Nat) : List UInt8 := mix (a.data.toList.take j) (b.data.toList.take j) (c.data.toList.take j)
theorem take_len (s : ByteArray) (j : Nat) (h : j ≤ s.size) : (s.data.toList.take j).length = j := by rw [List.length_take, len_list]; omega
theorem mx_len (a b c : ByteArray) (j : Nat) (ha : j ≤ a.size) (hb : j ≤ b.size) (hc : j ≤ c.size) : (mx a b c j).length = j := by
  unfold mx
  rw [mix_len _ _ _ (by rw [take_len a j ha, take_len b j hb]) (by rw [take_len a j ha, take_len c j hc]), take_len a j ha]
theorem mx_succ (a b c : ByteArray) (j : Nat) (ha : j < a.size) (hb : j < b.size) (hc : j < c.size) : mx a b c (j + 1) = mx a b c j ++ [a[j] ^^^ b[j] ^^^ c[j]] := by
  unfold mx
  rw [take_snoc a j ha, take_snoc b j hb, take_snoc c j hc, mix_snoc _ _ _ _ _ _ (by rw [take_len a j (by omega), take_len b j (by omega)]) (by rw [take_len a j (by omega), take_len c j (by omega)])]
theorem mx_crc (a b c : ByteArray) (j : Nat) (ha : j ≤ a.size) (hb : j ≤ b.size) (hc : j ≤ c.size) : crc (mx a b c j) = crc (a.data.toList.take j) ^^^ crc (b.data.toList.take j) ^^^ crc (c.data.toList.take j) :=
  crc_mix _ _ _ (by rw [take_len a j ha, take_len b j hb]) (by rw [take_len a j ha, take_len c j hc])

def crcS (s : ByteArray) : Nat := crc s.data.toList
theorem crcS_lt (s : ByteArray) : crcS s < 4294967296 := crc_lt _
theorem sumOfS (s : ByteArray) (hs : s.size ≤ maxLen) (w : World) : Calls Try.prog 11 #[.string s] w fun e w' => e = .returned (.int .i64 (crcS s)) ∧ w' = w := sumOf s hs w
set_option maxRecDepth 100000 in
set_option maxHeartbeats 4000000 in
theorem mixed_walk (a b c : ByteArray) (ha : a.size < 140737488355328) (hb : b.size < 140737488355328) (_hc : c.size < 140737488355328) (w : World) :
    Calls Try.prog 7 #[.string a, .string b, .string c] w fun e w' => e = .returned (.bool true) ∧ Below w.heap.size w w' := by
  obtain ⟨n, hn⟩ : ∃ n, n = min (min a.size b.size) c.size := ⟨_, rfl⟩
  have hna : n ≤ a.size := by omega
  have hnb : n ≤ b.size := by omega
  have hnc : n ≤ c.size := by omega
  have HN := hid hn
  clear hn
  go_enter Try.func7, Try.ntmps7
  go_upto_if 15 with fail
  go_cut [7] (fun s7 wx => w = wx ∧ s7 = .int .i64 ((min a.size b.size : Nat) : Int))
  case first =>
    go_wp2
    · go_meet
      exact ⟨rfl, by rw [Nat.min_eq_right (by omega)]⟩
    · go_meet
      exact ⟨rfl, by rw [Nat.min_eq_left (by omega)]⟩
  case rest =>
    obtain ⟨rfl, rfl⟩ := hcut
    obtain ⟨m, hm⟩ : ∃ m, m = min a.size b.size := ⟨_, rfl⟩
    rw [← hm]
    have HN' : Hid (n = min m c.size) := by rw [hm]; exact HN
    have hmb : m < 140737488355328 := by omega
    clear hm HN
    go_upto_if 21 with fail
    go_cut [7] (fun s7 wx => w = wx ∧ s7 = .int .i64 (n : Int))
    case first =>
      go_wp2
      · go_meet
        exact ⟨rfl, by rw [HN'.out, Nat.min_eq_right (by omega)]⟩
      · go_meet
        exact ⟨rfl, by rw [HN'.out, Nat.min_eq_left (by omega)]⟩
    case rest =>
      obtain ⟨rfl, rfl⟩ := hcut
      clear HN' hmb
      go_wp2
      go_loopw [8, 9] (fun v i wr => ∃ (j : Nat), i = .int .i64 j ∧ j ≤ n ∧ wr.ownsRow w.heap.size 5 1 v j (bc (mx a b c j)) ∧ Below w.heap.size w wr) (fun _ i _ => n - (intOf i).toNat)
      case atStart => exact ⟨0, rfl, Nat.zero_le _, World.ownsRow_nil _ _ _ _, Below.refl _ _⟩
      case round =>
        obtain ⟨j, rfl, hj, hown, hbl⟩ := hrel
        have hz := hbl.size
        by_cases hlt : j < n
        · have hja : j < a.size := by omega
          have hjb : j < b.size := by omega
          have hjc : j < c.size := by omega
          obtain ⟨u, hu⟩ : ∃ u, u = a[j] ^^^ b[j] ^^^ c[j] := ⟨_, rfl⟩
          have HU : Hid (bits .xor .u8 (bits .xor .u8 (a[j].toNat : Int) (b[j].toNat : Int)) (c[j].toNat : Int) = (u.toNat : Int)) := by show _ = _; rw [bx8, bx8, hu]
          have HE : Hid (mx a b c (j + 1) = mx a b c j ++ [u]) := by show _ = _; rw [mx_succ a b c j hja hjb hjc, hu]
          clear hu
          obtain ⟨cur, hcur⟩ : ∃ cur, cur = mx a b c j := ⟨_, rfl⟩
          rw [← hcur] at hown HE
          clear hcur
          have HB1 : Hid (∀ o, w.heap.size ≤ (wr.alloc o).drew.heap.size) := fun o => by show w.heap.size ≤ (wr.heap.push o).size; rw [Array.size_push]; omega
          go_wp2
          go_region_law (refine step_push' rfl (.tmp 29) (.tmp 41) rfl w.heap.size _ j cur _ u HU.out (by simp [Act.eval]) ⟨wr.heap.size, 0, none⟩ (by simp [Act.eval]) (one_alloc _ _ _) rfl (hown.alloc _) (by omega) (HB1.out _) ?_; intro r cap w1 hown' hbel)
          all_goals
            have hown2 : w1.ownsRow w.heap.size 5 1 (.slice (some ⟨r, 0, none⟩) (j + 1) cap) (j + 1) (bc (mx a b c (j + 1))) := by rw [HE.out]; exact hown'
            have hb2 := hbl.trans (((Below.refl w.heap.size wr).alloc (by omega) _).drew.trans hbel)
            clear hown' hbel hown hbl
            go_wp2
            go_roundw
            case rel => exact ⟨j + 1, by go_num, by omega, hown2, hb2⟩
            case measure => simp [intOf]; omega
        · have hjn : j = n := by omega
          rw [hjn] at hown
          have hml := mx_len a b c n hna hnb hnc
          have hcv := conv_own (w := wr.drew) (bs := mx a b c n) (by rw [hml]; exact hown)
          have sa : (a.extract 0 n).size ≤ maxLen := by rw [ext_szh a n hna]; unfold maxLen; omega
          have sb : (b.extract 0 n).size ≤ maxLen := by rw [ext_szh b n hnb]; unfold maxLen; omega
          have sc : (c.extract 0 n).size ≤ maxLen := by rw [ext_szh c n hnc]; unfold maxLen; omega
          have sx : (st (mx a b c n)).size ≤ maxLen := by rw [st_size, hml]; unfold maxLen; omega
          have hx : crcS (st (mx a b c n)) = crcS (a.extract 0 n) ^^^ crcS (b.extract 0 n) ^^^ crcS (c.extract 0 n) := by
            unfold crcS
            rw [st_list, ext_head, ext_head, ext_head, mx_crc a b c n hna hnb hnc]
          obtain ⟨M, hM⟩ : ∃ M, M = st (mx a b c n) := ⟨_, rfl⟩
          rw [← hM] at hcv sx hx
          have la := crcS_lt (a.extract 0 n)
          have lb := crcS_lt (b.extract 0 n)
          have lc := crcS_lt (c.extract 0 n)
          obtain ⟨Y, hY⟩ : ∃ Y, Y = crcS (a.extract 0 n) ^^^ crcS (b.extract 0 n) := ⟨_, rfl⟩
          have ly : Y < 4294967296 := by rw [hY]; exact Nat.xor_lt_two_pow (n := 32) la lb
          have h1 : bits .xor .i64 (crcS (a.extract 0 n) : Int) (crcS (b.extract 0 n) : Int) = (Y : Int) := by rw [hY]; exact bx64 la lb
          have h2 : bits .xor .i64 (Y : Int) (crcS (c.extract 0 n) : Int) = (crcS M : Int) := by rw [hx, ← hY]; exact bx64 ly lc
          have SA := hid sa
          have SB := hid sb
          have SC := hid sc
          have SX := hid sx
          clear hM hY hx hown la lb lc ly hml sa sb sc sx
          go_wp2
          go_region_with (first
            | (go_at_call 11; refine (sumOfS _ (by first | exact SA.out | exact SB.out | exact SC.out | exact SX.out) _).mono ?_; rintro e w3 ⟨rfl, rfl⟩)
            | (go_at_call 15; refine (speaks_any _).mono ?_; rintro e w7 ⟨rfl, hb7⟩))
          all_goals
            go_wp2
            go_ret
            exact ⟨rfl, (hbl.drew).trans (hb7.mono hbl.size)⟩
end Go.Proofs.Ytmlolnhpjpahhaa
