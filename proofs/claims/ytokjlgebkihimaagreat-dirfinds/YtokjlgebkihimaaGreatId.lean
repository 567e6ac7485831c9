import Derived.Test.YtokjlgebkihimaaGreatCof
import Derived.Laws.StructEq
import Derived.ChangeKeysEq
namespace Go.Proofs.YtokjlgebkihimaaGreat
open Go.RowKit

theorem len_list (s : ByteArray) : s.data.toList.length = s.size := by rw [Array.length_toList]; rfl
theorem _root_.Go.RowKit.Below.next {w w1 w2 : World} (a : Below w.heap.size w w1) (b : Below w1.heap.size w1 w2) : Below w.heap.size w w2 := a.trans (b.mono a.size)
theorem ext_list (s : ByteArray) (a b : Nat) : (s.extract a b).data.toList = (s.data.toList.take b).drop a := by
  simp [ByteArray.data_extract, List.drop_take]
theorem str_ne {a b : ByteArray} (h : ¬ a = b) : (a.toList == b.toList) = false := by
  rw [Lib.toList_data, Lib.toList_data]
  simp only [beq_eq_false_iff_ne, ne_eq]
  intro hh
  exact h (by rw [← st_toList a, ← st_toList b, hh])
theorem str_eq {a b : ByteArray} (h : a = b) : (a.toList == b.toList) = true := by subst h; simp
theorem _root_.Go.RowKit.Below.dN {B : Nat} {w w' : World} (h : Below B w w') (n : Nat) : Below B w (w'.drewN n) := ⟨h.os, h.tape, h.output, h.size, h.block⟩
theorem _root_.Go.RowKit.Below.nextD {w w1 w2 : World} {k : Nat} (a : Below w.heap.size w w1) (b : Below (w1.drewN k).heap.size (w1.drewN k) w2) : Below w.heap.size w w2 :=
  a.next ⟨b.os, b.tape, b.output, b.size, b.block⟩
def big : List UInt8 → Nat
  | [] => 0
  | b :: l => b.toNat + 256 * big l
theorem fval_big (l : List UInt8) : fval l = big l := by
  induction l with
  | nil => rfl
  | cons b l ih => rw [fval, big, ih]
theorem big_fEnc (k : Nat) : ∀ n, n < 256 ^ k → big (fEnc n k) = n := by
  induction k with
  | zero => intro n h; simp at h; subst h; rfl
  | succ k ih =>
    intro n h
    rw [Nat.pow_succ] at h
    rw [fEnc, big, ih (n / 256) (by omega), UInt8.toNat_ofNat']
    omega
theorem fEnc_big : ∀ l : List UInt8, fEnc (big l) l.length = l
  | [] => rfl
  | b :: l => by
    have hb := b.toNat_lt
    rw [List.length_cons, fEnc, big, show (b.toNat + 256 * big l) / 256 = big l by omega, fEnc_big l, show (b.toNat + 256 * big l) % 256 = b.toNat by omega, UInt8.ofNat_toNat]
def endV (s : ByteArray) (e : Int) : Int := if e ≠ 0 then e else if s.size = 0 then 0 else 4
theorem end_r (g : Nat) (s : ByteArray) (e : Int) (w : World) (h : RIs g w s e) : Calls Tryz.prog 168 #[.pointer (some ⟨g, 0, none⟩)] w fun x w' => x = .returned (.int .i64 (endV s e)) ∧ w' = w := by
  have h0 := h.c0
  have h1 := h.c1
  by_cases he : e = 0
  · subst he
    by_cases hs : s.size = 0
    · have hl : s = ByteArray.empty := by
        apply ByteArray.ext; exact Array.eq_empty_of_size_eq_zero hs
      subst hl
      go_enter Tryz.func168, Tryz.ntmps168
      go_wp2
      go_ret
      exact ⟨rfl, rfl⟩
    · have hl : s.toList.isEmpty = false := by
        rw [Lib.toList_data]
        cases hq : s.data.toList with
        | nil => exact absurd (by have := congrArg List.length hq; simpa using this) hs
        | cons a t => rfl
      have hv : endV s 0 = 4 := by unfold endV; rw [if_neg (by decide), if_neg hs]
      rw [hv]
      go_enter Tryz.func168, Tryz.ntmps168
      go_wp2
      go_ret
      exact ⟨rfl, rfl⟩
  · have he' : (e != 0) = true := by simp [he]
    have hv : endV s e = e := by unfold endV; rw [if_pos he]
    rw [hv]
    clear he hv
    go_enter Tryz.func168, Tryz.ntmps168
    go_wp2
    go_ret
    exact ⟨rfl, rfl⟩
/-- a number of k bytes, read: the number, what is left, what is wrong -/
def fxN (k : Nat) (s : ByteArray) (e : Int) : Nat := if e ≠ 0 then 0 else if s.size < k then 0 else if fval (s.data.toList.take k) < 9223372036854775808 then fval (s.data.toList.take k) else 0
def fxS (k : Nat) (s : ByteArray) (e : Int) : ByteArray := if e ≠ 0 then s else if s.size < k then s else if fval (s.data.toList.take k) < 9223372036854775808 then s.extract k s.size else s
def fxE (k : Nat) (s : ByteArray) (e : Int) : Int := if e ≠ 0 then e else if s.size < k then 20 else if fval (s.data.toList.take k) < 9223372036854775808 then 0 else 4
theorem fix_r (k : Nat) (hk : sized k = true) (hk8 : k ≤ 8) (g : Nat) (s : ByteArray) (e : Int) (hs : s.size ≤ maxLen) (w : World) (h : RIs g w s e) :
    Calls Tryz.prog 166 #[.pointer (some ⟨g, 0, none⟩), .int .i64 k] w fun x w' => (∃ y, x = .returned (.tuple #[.int .i64 (fxN k s e), .int .i64 y])) ∧ RIs g w' (fxS k s e) (fxE k s e) ∧ Kept w.heap.size g w w' := by
  unfold fxN fxS fxE
  by_cases he : e ≠ 0
  · rw [if_pos he, if_pos he, if_pos he]
    exact (fixedr_err g s e k hk w h he).mono fun x w' k => ⟨⟨_, k.1⟩, by rw [k.2]; exact h, by rw [k.2]; exact Kept.refl _ _ _⟩
  · rw [if_neg he, if_neg he, if_neg he]
    have he : e = 0 := by omega
    subst he
    by_cases h2 : s.size < k
    · rw [if_pos h2, if_pos h2, if_pos h2]
      exact (fixedr_cut g s k hk h2 hk8 w h).mono fun x w' k => ⟨⟨_, k.1⟩, k.2⟩
    · rw [if_neg h2, if_neg h2, if_neg h2]
      by_cases h3 : fval (s.data.toList.take k) < 9223372036854775808
      · rw [if_pos h3, if_pos h3, if_pos h3]
        exact (fixedr_ok g s k hk (by omega) hk8 hs h3 w h).mono fun x w' k => ⟨⟨_, k.1⟩, k.2⟩
      · rw [if_neg h3, if_neg h3, if_neg h3]
        exact (fixedr_form g s k hk (by omega) hk8 hs h3 w h).mono fun x w' k => ⟨⟨_, k.1⟩, k.2⟩
theorem fxS_size (k : Nat) (s : ByteArray) (e : Int) : (fxS k s e).size ≤ s.size := by
  unfold fxS
  split
  · exact Nat.le_refl _
  · split
    · exact Nat.le_refl _
    · split
      · rw [ByteArray.size_extract]; omega
      · exact Nat.le_refl _
/-- a reading that went well -/
theorem fx_back (k : Nat) {s : ByteArray} {e : Int} (h : fxE k s e = 0) : e = 0 ∧ s.data.toList = fEnc (fxN k s e) k ++ (fxS k s e).data.toList ∧ fxN k s e < 256 ^ k ∧ fxN k s e < 9223372036854775808 := by
  unfold fxE at h
  by_cases he : e ≠ 0
  · rw [if_pos he] at h; exact absurd h he
  · rw [if_neg he] at h
    have he : e = 0 := by omega
    subst he
    by_cases h2 : s.size < k
    · rw [if_pos h2] at h; exact absurd h (by decide)
    · rw [if_neg h2] at h
      by_cases h3 : fval (s.data.toList.take k) < 9223372036854775808
      · have e2 : fxS k s 0 = s.extract k s.size := by unfold fxS; rw [if_neg (by decide), if_neg h2, if_pos h3]
        have e3 : fxN k s 0 = fval (s.data.toList.take k) := by unfold fxN; rw [if_neg (by decide), if_neg h2, if_pos h3]
        have hl := len_list s
        have htl : (s.data.toList.take k).length = k := by rw [List.length_take]; omega
        have e4 := fEnc_big (s.data.toList.take k)
        rw [htl, ← fval_big, ← e3] at e4
        have e5 : s.data.toList.take s.size = s.data.toList := List.take_of_length_le (by omega)
        refine ⟨rfl, by rw [e4, e2, ext_list, e5, List.take_append_drop], ?_, by rw [e3]; exact h3⟩
        have := fval_lt (s.data.toList.take k)
        rw [htl] at this
        rw [e3]; exact this
      · rw [if_neg h3] at h; exact absurd h (by decide)
theorem fx_of (k : Nat) {s : ByteArray} {n : Nat} {r : List UInt8} (hn : n < 256 ^ k) (hn2 : n < 9223372036854775808) (hs : s.data.toList = fEnc n k ++ r) : fxE k s 0 = 0 ∧ (fxS k s 0).data.toList = r ∧ fxN k s 0 = n := by
  have hl := len_list s
  have hf := fEnc_len k n
  have hsz : ¬ s.size < k := by rw [← hl, hs, List.length_append, hf]; omega
  have ht : s.data.toList.take k = fEnc n k := by
    have := List.take_left (l₁ := fEnc n k) (l₂ := r)
    rw [hf] at this
    rw [hs, this]
  have hd : s.data.toList.drop k = r := by
    have := List.drop_left (l₁ := fEnc n k) (l₂ := r)
    rw [hf] at this
    rw [hs, this]
  have hv : fval (s.data.toList.take k) = n := by rw [ht, fval_big, big_fEnc k _ hn]
  have h3 : fval (s.data.toList.take k) < 9223372036854775808 := by omega
  refine ⟨by unfold fxE; rw [if_neg (by decide), if_neg hsz, if_pos h3], ?_, ?_⟩
  · unfold fxS; rw [if_neg (by decide), if_neg hsz, if_pos h3, ext_list, List.take_of_length_le (l := s.data.toList) (by omega), hd]
  · unfold fxN; rw [if_neg (by decide), if_neg hsz, if_pos h3, hv]
end Go.Proofs.YtokjlgebkihimaaGreat
namespace Go.Proofs.YtokjlgebkihimaaGreat
open Go.RowKit

set_option maxRecDepth 100000 in
theorem eq22 (a b c d e f a1 b1 c1 d1 e1 f1 : Int) (w : World) : (Op.equalIn 9999 34 (.agg #[.int .i64 a, .int .i64 b, .int .i64 c, .int .i64 d, .int .i64 e, .int .i64 f]) (.agg #[.int .i64 a1, .int .i64 b1, .int .i64 c1, .int .i64 d1, .int .i64 e1, .int .i64 f1])).run Tryz.prog w = .ok (a == a1 && (b == b1 && (c == c1 && (d == d1 && (e == e1 && (f == f1)))))) w := by
  have u3 := Tryz.underlying3
  have a3 := Tryz.isAgg3
  have z3 := Tryz.sizeOf3
  rw [show (9999 : Nat) = 9998 + 1 from rfl, Op.equalIn]
  simp only [Sem.run_bind, run_underlying Tryz.underlying34, Result.andThen_ok]
  simp only [Std.Legacy.Range.forIn_eq_forIn_range', Std.Legacy.Range.size, Nat.sub_zero, Nat.add_sub_cancel, Nat.div_one, List.range'_succ, List.range'_zero, List.forIn_cons, List.forIn_nil]
  go_simp
  split
  · split
    · split
      · split
        · split
          · split
            · simp [*]
            · simp [*]
          · simp [*]
        · simp [*]
      · simp [*]
    · simp [*]
  · simp [*]
set_option maxRecDepth 100000 in
theorem eq24 (k l z a b c d e f s t k1 l1 z1 a1 b1 c1 d1 e1 f1 s1 t1 : Int) (w : World) : (Op.equalIn 10000 36 (.agg #[.int .i64 k, .int .i64 l, .int .i64 z, .int .i64 a, .int .i64 b, .int .i64 c, .int .i64 d, .int .i64 e, .int .i64 f, .int .i64 s, .int .i64 t]) (.agg #[.int .i64 k1, .int .i64 l1, .int .i64 z1, .int .i64 a1, .int .i64 b1, .int .i64 c1, .int .i64 d1, .int .i64 e1, .int .i64 f1, .int .i64 s1, .int .i64 t1])).run Tryz.prog w = .ok (k == k1 && (l == l1 && (z == z1 && ((a == a1 && (b == b1 && (c == c1 && (d == d1 && (e == e1 && (f == f1)))))) && (s == s1 && t == t1))))) w := by
  have u3 := Tryz.underlying3
  have a3 := Tryz.isAgg3
  have z3 := Tryz.sizeOf3
  have a22 := Tryz.isAgg34
  have z22 := Tryz.sizeOf34
  have e22 := eq22 a b c d e f a1 b1 c1 d1 e1 f1
  have hS : Tryz.prog.underlying 36 = some (.struct (Tryz.prog.fieldsOf 36)) := by kernel_rfl
  have hp : Tryz.prog.stoodInHeld 36 = false := by kernel_rfl
  rw [show (10000 : Nat) = 9999 + 1 from rfl, run_equalIn_agg w 9999 36 _ _ hS hp]
  obtain ⟨q, hq⟩ : ∃ q, q = (a == a1 && (b == b1 && (c == c1 && (d == d1 && (e == e1 && (f == f1)))))) := ⟨_, rfl⟩
  rw [← hq] at e22 ⊢
  clear hq
  simp only [Program.fieldsOf, Tryz.underlying36]
  go_simp
  cases q with
  | false =>
    split
    · split
      · split
        · simp [*]
        · simp [*]
      · simp [*]
    · simp [*]
  | true =>
    split
    · split
      · split
        · simp only [Bool.true_eq_false, if_false]
          split
          · split
            · simp [*]
            · simp [*]
          · simp [*]
        · simp [*]
      · simp [*]
    · simp [*]
set_option maxRecDepth 100000 in
theorem eqI_iff (n m : Ino) : (n.k == m.k && (n.l == m.l && (n.z == m.z && ((n.a == m.a && (n.b == m.b && (n.c == m.c && (n.d == m.d && (n.e == m.e && n.f == m.f))))) && (n.s == m.s && n.t == m.t))))) = decide (n = m) := by
  rw [Bool.eq_iff_iff, decide_eq_true_iff]
  obtain ⟨k, l, z, a, b, c, d, e, f, s, t⟩ := n
  obtain ⟨k1, l1, z1, a1, b1, c1, d1, e1, f1, s1, t1⟩ := m
  simp
  intro _ _ _
  constructor
  · rintro ⟨⟨h4, h5, h6, h7, h8, h9⟩, h10, h11⟩
    exact ⟨h4, h5, h6, h7, h8, h9, h10, h11⟩
  · rintro ⟨h4, h5, h6, h7, h8, h9, h10, h11⟩
    exact ⟨⟨h4, h5, h6, h7, h8, h9⟩, h10, h11⟩
set_option maxRecDepth 100000 in
theorem eqI (n m : Ino) (w : World) : (Op.equalIn 10000 36 n.v m.v).run Tryz.prog w = .ok (decide (n = m)) w := by
  rw [← eqI_iff]
  exact eq24 n.k n.l n.z n.a n.b n.c n.d n.e n.f n.s n.t m.k m.l m.z m.a m.b m.c m.d m.e m.f m.s m.t w
set_option maxRecDepth 100000 in
theorem build0 (w : World) : (Instr.build 36 #[]).run Tryz.prog w = .ok (Value.agg #[.int .i64 0, .int .i64 0, .int .i64 0, .int .i64 0, .int .i64 0, .int .i64 0, .int .i64 0, .int .i64 0, .int .i64 0, .int .i64 0, .int .i64 0]) w := by kernel_rfl
end Go.Proofs.YtokjlgebkihimaaGreat
namespace Go.Proofs.YtokjlgebkihimaaGreat
open Go.RowKit

def Ino.zero : Ino := ⟨0, 0, 0, 0, 0, 0, 0, 0, 0, 0, 0⟩
/-- an inode that is free, that is used, that is right -/
def freeI (n : Ino) : Bool := decide (n = Ino.zero)
def namesB (n : Ino) : Bool := okN n.a && okN n.b && okN n.c && okN n.d && okN n.e && okN n.f && okN n.s && okN n.t
def usedI (n : Ino) : Bool := lnk n.k n.l && decide (0 ≤ n.z) && decide (n.z ≤ 533248) && namesB n
def rightI (n : Ino) : Bool := freeI n || usedI n
def chkE (n : Ino) : Int := if rightI n then 0 else 120
set_option maxRecDepth 100000 in
theorem free_zero {n : Ino} (h : freeI n = true) : n = Ino.zero := of_decide_eq_true h
set_option maxRecDepth 100000 in
theorem chk_cases (n : Ino) : (n = Ino.zero ∧ chkE n = 0) ∨ (freeI n = false ∧ ((lnk n.k n.l = false ∧ chkE n = 120) ∨ (lnk n.k n.l = true ∧ ((¬ 0 ≤ n.z ∧ chkE n = 120) ∨ (0 ≤ n.z ∧ ((¬ n.z ≤ 533248 ∧ chkE n = 120) ∨ (n.z ≤ 533248 ∧ ((namesB n = true ∧ chkE n = 0) ∨ (namesB n = false ∧ chkE n = 120))))))))) := by
  cases hf : freeI n with
  | true =>
    have := free_zero hf
    exact .inl ⟨this, by unfold chkE rightI; rw [hf]; rfl⟩
  | false =>
    refine .inr ⟨rfl, ?_⟩
    unfold chkE rightI usedI
    rw [hf]
    cases lnk n.k n.l with
    | false => left; exact ⟨rfl, rfl⟩
    | true =>
      right
      refine ⟨rfl, ?_⟩
      by_cases h1 : 0 ≤ n.z
      · right
        refine ⟨h1, ?_⟩
        by_cases h2 : n.z ≤ 533248
        · right
          refine ⟨h2, ?_⟩
          cases namesB n <;> simp [h1, h2]
        · left
          simp [h1, h2]
      · left
        simp [h1]
set_option maxRecDepth 100000 in
theorem wrapv (n : Ino) (w : World) : (Op.equalIn 10000 36 n.v Ino.zero.v).run Tryz.prog w = .ok (freeI n) w := eqI n Ino.zero w
set_option maxRecDepth 100000 in
set_option maxHeartbeats 2000000 in
theorem check_any (n : Ino) (w : World) : Calls Tryz.prog 59 #[n.v] w fun e w' => e = .returned (.int .i64 (chkE n)) ∧ Below w.heap.size w w' := by
  have HL := hid (isLinks_any n.k n.l)
  have HN := hid (names_any n)
  have HR : Hid (∀ w, Calls Tryz.prog 86 #[Ino.names n] w fun e w' => e = .returned (.bool (namesB n)) ∧ Below w.heap.size w w') := areRight_any n
  have heq := wrapv n
  rcases chk_cases n with ⟨rfl, hE⟩ | ⟨hF, hc⟩
  · rw [show lnk Ino.zero.k Ino.zero.l = false from rfl] at HL
    rw [show freeI Ino.zero = true from rfl] at heq
    rw [hE]
    clear hE
    simp only [Ino.v, Ino.zero] at heq HL ⊢
    go_enter Tryz.func59, Tryz.ntmps59
    go_wp2_with (first
      | (go_at_call 84; refine (HL.out _).mono ?_; rintro e w1 ⟨rfl, rfl⟩))
    go_ret
    exact ⟨rfl, by go_grown⟩
  · rw [hF] at heq
    clear hF
    obtain ⟨k, l, z, a, b, c, d, e, f, s, t⟩ := n
    simp only [Ino.v, Ino.names, Ino.zero] at heq HL HN HR hc ⊢
    rcases hc with ⟨h1, hE⟩ | ⟨h1, ⟨h2, hE⟩ | ⟨h2, ⟨h3, hE⟩ | ⟨h3, ⟨h4, hE⟩ | ⟨h4, hE⟩⟩⟩⟩
    · rw [hE]
      rw [h1] at HL
      clear hE h1
      go_enter Tryz.func59, Tryz.ntmps59
      go_wp2_with (first
        | (go_at_call 84; refine (HL.out _).mono ?_; rintro e w1 ⟨rfl, rfl⟩)
        | (go_at_call 85; refine (HN.out _).mono ?_; rintro e w2 ⟨rfl, hb2⟩)
        | (go_at_call 86; refine (HR.out _).mono ?_; rintro e w3 ⟨rfl, hb3⟩))
      go_ret
      exact ⟨rfl, by go_grown⟩
    · rw [hE]
      rw [h1] at HL
      clear hE h1
      go_enter Tryz.func59, Tryz.ntmps59
      go_wp2_with (first
        | (go_at_call 84; refine (HL.out _).mono ?_; rintro e w1 ⟨rfl, rfl⟩)
        | (go_at_call 85; refine (HN.out _).mono ?_; rintro e w2 ⟨rfl, hb2⟩)
        | (go_at_call 86; refine (HR.out _).mono ?_; rintro e w3 ⟨rfl, hb3⟩))
      go_ret
      exact ⟨rfl, by go_grown⟩
    · rw [hE]
      rw [h1] at HL
      clear hE h1
      go_enter Tryz.func59, Tryz.ntmps59
      go_wp2_with (first
        | (go_at_call 84; refine (HL.out _).mono ?_; rintro e w1 ⟨rfl, rfl⟩)
        | (go_at_call 85; refine (HN.out _).mono ?_; rintro e w2 ⟨rfl, hb2⟩)
        | (go_at_call 86; refine (HR.out _).mono ?_; rintro e w3 ⟨rfl, hb3⟩))
      go_ret
      exact ⟨rfl, by go_grown⟩
    · rw [hE]
      rw [h1] at HL
      rw [h4] at HR
      clear hE h1 h4
      go_enter Tryz.func59, Tryz.ntmps59
      go_wp2_with (first
        | (go_at_call 84; refine (HL.out _).mono ?_; rintro e w1 ⟨rfl, rfl⟩)
        | (go_at_call 85; refine (HN.out _).mono ?_; rintro e w2 ⟨rfl, hb2⟩)
        | (go_at_call 86; refine (HR.out _).mono ?_; rintro e w3 ⟨rfl, hb3⟩))
      go_ret
      exact ⟨rfl, ((below_alloc w _).next hb2).next hb3⟩
    · rw [hE]
      rw [h1] at HL
      rw [h4] at HR
      clear hE h1 h4
      go_enter Tryz.func59, Tryz.ntmps59
      go_wp2_with (first
        | (go_at_call 84; refine (HL.out _).mono ?_; rintro e w1 ⟨rfl, rfl⟩)
        | (go_at_call 85; refine (HN.out _).mono ?_; rintro e w2 ⟨rfl, hb2⟩)
        | (go_at_call 86; refine (HR.out _).mono ?_; rintro e w3 ⟨rfl, hb3⟩))
      go_ret
      exact ⟨rfl, ((below_alloc w _).next hb2).next hb3⟩
end Go.Proofs.YtokjlgebkihimaaGreat
namespace Go.Proofs.YtokjlgebkihimaaGreat
open Go.RowKit

set_option maxRecDepth 100000 in
theorem okN_cases (x : Int) : (okN x = true ∧ 0 ≤ x ∧ x < 1024) ∨ (okN x = false ∧ (x < 0 ∨ (0 ≤ x ∧ 1024 ≤ x))) := by
  unfold okN
  by_cases h : 0 ≤ x ∧ x < 1024
  · left; exact ⟨decide_eq_true h, h.1, h.2⟩
  · right; exact ⟨decide_eq_false h, by omega⟩
set_option maxRecDepth 100000 in
theorem right_cases (n : Ino) : (n.k = 0 ∧ rightI n = freeI n) ∨ (¬ n.k = 0 ∧ ((¬ n.k = 1 ∧ ¬ n.k = 2 ∧ rightI n = false) ∨ ((n.k = 1 ∨ n.k = 2) ∧ ((n.l < 1 ∧ rightI n = false) ∨ (¬ n.l < 1 ∧ ((n.l > 100 ∧ rightI n = false) ∨ (¬ n.l > 100 ∧ ((n.k = 2 ∧ ¬ n.l = 1 ∧ rightI n = false) ∨ ((n.k = 1 ∨ n.l = 1) ∧ ((n.z < 0 ∧ rightI n = false) ∨ (¬ n.z < 0 ∧ ((n.z > 533248 ∧ rightI n = false) ∨ (¬ n.z > 533248 ∧ rightI n = namesB n))))))))))))) := by
  have hfree : ¬ n.k = 0 → freeI n = false := fun h => decide_eq_false fun e => h (by rw [e]; rfl)
  by_cases h0 : n.k = 0
  · left
    refine ⟨h0, ?_⟩
    unfold rightI usedI lnk
    rw [h0]
    simp
  · right
    refine ⟨h0, ?_⟩
    have hf := hfree h0
    unfold rightI usedI lnk
    rw [hf]
    by_cases h1 : n.k = 1
    · right
      refine ⟨.inl h1, ?_⟩
      by_cases h2 : n.l < 1
      · left; refine ⟨h2, ?_⟩; rw [h1]; simp; omega
      · right; refine ⟨h2, ?_⟩
        by_cases h3 : n.l > 100
        · left; refine ⟨h3, ?_⟩; rw [h1]; simp; omega
        · right; refine ⟨h3, ?_⟩
          right; refine ⟨.inl h1, ?_⟩
          by_cases h4 : n.z < 0
          · left; refine ⟨h4, ?_⟩; rw [h1]; simp; omega
          · right; refine ⟨h4, ?_⟩
            by_cases h5 : n.z > 533248
            · left; refine ⟨h5, ?_⟩; rw [h1]; simp; omega
            · right; refine ⟨h5, ?_⟩; rw [h1]; simp; omega
    · by_cases h1' : n.k = 2
      · right
        refine ⟨.inr h1', ?_⟩
        by_cases h2 : n.l < 1
        · left; refine ⟨h2, ?_⟩; rw [h1']; simp; omega
        · right; refine ⟨h2, ?_⟩
          by_cases h3 : n.l > 100
          · left; refine ⟨h3, ?_⟩; rw [h1']; simp; omega
          · right; refine ⟨h3, ?_⟩
            by_cases h6 : n.l = 1
            · right; refine ⟨.inr h6, ?_⟩
              by_cases h4 : n.z < 0
              · left; refine ⟨h4, ?_⟩; rw [h1']; simp; omega
              · right; refine ⟨h4, ?_⟩
                by_cases h5 : n.z > 533248
                · left; refine ⟨h5, ?_⟩; rw [h1']; simp; omega
                · right; refine ⟨h5, ?_⟩; rw [h1']; simp; omega
            · left; refine ⟨h1', h6, ?_⟩; rw [h1']; simp [h6]
      · left; exact ⟨h1, h1', by rw [if_neg h1, if_neg h1']; rfl⟩
end Go.Proofs.YtokjlgebkihimaaGreat
namespace Go.Proofs.YtokjlgebkihimaaGreat
open Go.RowKit

/-- an inode's bytes -/
def encN (k l z a b c d e f s t : Nat) : List UInt8 :=
  fEnc k 1 ++ (fEnc l 1 ++ (fEnc z 4 ++ (fEnc a 2 ++ (fEnc b 2 ++ (fEnc c 2 ++ (fEnc d 2 ++ (fEnc e 2 ++ (fEnc f 2 ++ (fEnc s 2 ++ (fEnc t 2 ++ List.replicate 10 0))))))))))
def encL (n : Ino) : List UInt8 := encN n.k.toNat n.l.toNat n.z.toNat n.a.toNat n.b.toNat n.c.toNat n.d.toNat n.e.toNat n.f.toNat n.s.toNat n.t.toNat
def twoN (l : List UInt8) (i : Nat) : Int := ((l.getD i 0).toNat : Int) + 256 * ((l.getD (i + 1) 0).toNat : Int)
def nOf (l : List UInt8) : Ino := ⟨((l.getD 0 0).toNat : Int), ((l.getD 1 0).toNat : Int), twoN l 2 + 65536 * twoN l 4, twoN l 6, twoN l 8, twoN l 10, twoN l 12, twoN l 14, twoN l 16, twoN l 18, twoN l 20⟩
set_option maxRecDepth 100000 in
theorem encN_len (k l z a b c d e f s t : Nat) : (encN k l z a b c d e f s t).length = 32 := by
  unfold encN; simp [fEnc_len]
set_option maxRecDepth 100000 in
theorem nOf_enc (k l z a b c d e f s t : Nat) (hk : k < 256) (hl : l < 256) (hz : z < 4294967296) (ha : a < 65536) (hb : b < 65536) (hc : c < 65536) (hd : d < 65536) (he : e < 65536) (hf : f < 65536) (hs : s < 65536) (ht : t < 65536) :
    nOf (encN k l z a b c d e f s t) = ⟨k, l, z, a, b, c, d, e, f, s, t⟩ := by
  unfold nOf encN twoN
  simp only [fEnc, List.cons_append, List.nil_append, List.getD_cons_zero, List.getD_cons_succ, UInt8.toNat_ofNat']
  rw [Ino.mk.injEq]
  refine ⟨?_, ?_, ?_, ?_, ?_, ?_, ?_, ?_, ?_, ?_, ?_⟩ <;> omega
set_option maxRecDepth 100000 in
theorem lnk_le {k l : Int} (h : lnk k l = true) : (k = 1 ∨ k = 2) ∧ 1 ≤ l ∧ l ≤ 100 := by
  unfold lnk at h
  split at h
  · have := of_decide_eq_true h; omega
  · split at h
    · have := of_decide_eq_true h; omega
    · cases h
set_option maxRecDepth 100000 in
theorem okN_le {x : Int} (h : okN x = true) : 0 ≤ x ∧ x < 1024 := of_decide_eq_true h
set_option maxRecDepth 100000 in
/-- what is right is made of small numbers -/
theorem right_nat {n : Ino} (h : rightI n = true) : ∃ k l z a b c d e f s t : Nat, n = ⟨k, l, z, a, b, c, d, e, f, s, t⟩ ∧ k ≤ 2 ∧ l ≤ 100 ∧ z ≤ 533248 ∧ a < 1024 ∧ b < 1024 ∧ c < 1024 ∧ d < 1024 ∧ e < 1024 ∧ f < 1024 ∧ s < 1024 ∧ t < 1024 := by
  unfold rightI at h
  rw [Bool.or_eq_true] at h
  rcases h with h | h
  · have := free_zero h
    exact ⟨0, 0, 0, 0, 0, 0, 0, 0, 0, 0, 0, this, by decide, by decide, by decide, by decide, by decide, by decide, by decide, by decide, by decide, by decide, by decide⟩
  · unfold usedI namesB at h
    simp only [Bool.and_eq_true, decide_eq_true_iff] at h
    obtain ⟨⟨⟨h1, h2⟩, h3⟩, ⟨⟨⟨⟨⟨⟨⟨ha, hb⟩, hc⟩, hd⟩, he⟩, hf⟩, hs⟩, ht⟩⟩ := h
    have h1 := lnk_le h1
    have ha := okN_le ha
    have hb := okN_le hb
    have hc := okN_le hc
    have hd := okN_le hd
    have he := okN_le he
    have hf := okN_le hf
    have hs := okN_le hs
    have ht := okN_le ht
    obtain ⟨k, l, z, a, b, c, d, e, f, s, t⟩ := n
    simp only at h1 h2 h3 ha hb hc hd he hf hs ht
    exact ⟨k.toNat, l.toNat, z.toNat, a.toNat, b.toNat, c.toNat, d.toNat, e.toNat, f.toNat, s.toNat, t.toNat, by rw [Ino.mk.injEq]; omega, by omega, by omega, by omega, by omega, by omega, by omega, by omega, by omega, by omega, by omega, by omega⟩
set_option maxRecDepth 100000 in
theorem encL_nat (k l z a b c d e f s t : Nat) : encL ⟨k, l, z, a, b, c, d, e, f, s, t⟩ = encN k l z a b c d e f s t := rfl
set_option maxRecDepth 100000 in
theorem nOf_right {n : Ino} (h : rightI n = true) : nOf (encL n) = n := by
  obtain ⟨k, l, z, a, b, c, d, e, f, s, t, rfl, h1, h2, h3, ha, hb, hc, hd, he, hf, hs, ht⟩ := right_nat h
  rw [encL_nat]
  exact nOf_enc k l z a b c d e f s t (by omega) (by omega) (by omega) (by omega) (by omega) (by omega) (by omega) (by omega) (by omega) (by omega) (by omega)
set_option maxRecDepth 100000 in
theorem encL_len (n : Ino) : (encL n).length = 32 := encN_len _ _ _ _ _ _ _ _ _ _ _
/-- the inode that bytes are -/
def decI (l : List UInt8) : Ino := if rightI (nOf l) = true ∧ encL (nOf l) = l then nOf l else Ino.zero
def decE (l : List UInt8) : Int := if rightI (nOf l) = true ∧ encL (nOf l) = l then 0 else 120
set_option maxRecDepth 100000 in
theorem dec_yes {n : Ino} (h : rightI n = true) : decI (encL n) = n ∧ decE (encL n) = 0 := by
  unfold decI decE
  rw [nOf_right h, if_pos ⟨h, rfl⟩, if_pos ⟨h, rfl⟩]
  exact ⟨rfl, rfl⟩
set_option maxRecDepth 100000 in
theorem dec_no {l : List UInt8} (h : ∀ n, rightI n = true → l ≠ encL n) : decI l = Ino.zero ∧ decE l = 120 := by
  unfold decI decE
  have : ¬ (rightI (nOf l) = true ∧ encL (nOf l) = l) := fun ⟨h1, h2⟩ => h _ h1 h2.symm
  rw [if_neg this, if_neg this]
  exact ⟨rfl, rfl⟩
/-- what Encode answers -/
def encV (n : Ino) : ByteArray := if rightI n then st (encL n) else ByteArray.empty
/-- an inode in memory -/
def Box (q : Nat) (w : World) (n : Ino) : Prop := w.heap[q]? = some (.cells #[.int .i64 n.k, .int .i64 n.l, .int .i64 n.z, .int .i64 n.a, .int .i64 n.b, .int .i64 n.c, .int .i64 n.d, .int .i64 n.e, .int .i64 n.f, .int .i64 n.s, .int .i64 n.t] 36 (0, 0))
set_option maxRecDepth 100000 in
theorem Box.cells {q : Nat} {w : World} {k l z a b c d e f s t : Int} (h : Box q w ⟨k, l, z, a, b, c, d, e, f, s, t⟩) : w.cell? ⟨q, 0, none⟩ = some (.int .i64 k) ∧ w.cell? ⟨q, 1, none⟩ = some (.int .i64 l) ∧ w.cell? ⟨q, 2, none⟩ = some (.int .i64 z) ∧ w.cell? ⟨q, 3, none⟩ = some (.int .i64 a) ∧ w.cell? ⟨q, 4, none⟩ = some (.int .i64 b) ∧ w.cell? ⟨q, 5, none⟩ = some (.int .i64 c) ∧ w.cell? ⟨q, 6, none⟩ = some (.int .i64 d) ∧ w.cell? ⟨q, 7, none⟩ = some (.int .i64 e) ∧ w.cell? ⟨q, 8, none⟩ = some (.int .i64 f) ∧ w.cell? ⟨q, 9, none⟩ = some (.int .i64 s) ∧ w.cell? ⟨q, 10, none⟩ = some (.int .i64 t) := by
  unfold Box at h
  simp [World.cell?, h]
set_option maxRecDepth 100000 in
theorem box_at (w : World) (o : Obj) : (w.alloc o).heap[w.heap.size]? = some o := by show (w.heap.push o)[w.heap.size]? = _; simp
/-- while an inode is written -/
structure ES (w0 : World) (q g : Nat) (n : Ino) (w : World) (bs : List UInt8) : Prop where
  wi : WIs g g w bs
  box : Box q w n
  qg : q < g
  w0q : w0.heap.size ≤ q
  gs : g ≤ w.heap.size
  bel : Below w0.heap.size w0 w
set_option maxRecDepth 100000 in
theorem ES.below {w0 : World} {q g : Nat} {n : Ino} {w w' : World} {bs : List UInt8} (h : ES w0 q g n w bs) (k : Below w.heap.size w w') : ES w0 q g n w' bs :=
  ⟨h.wi.below k, (k.block q (by have := h.qg; have := h.gs; omega)).trans h.box, h.qg, h.w0q, Nat.le_trans h.gs k.size, h.bel.next k⟩
set_option maxRecDepth 100000 in
theorem ES.new {w0 w1 : World} {q : Nat} {n : Ino} (hb : Box q w1 n) (hq : q < w1.heap.size) (h0 : w0.heap.size ≤ q) (hbel : Below w0.heap.size w0 w1) : ES w0 q w1.heap.size n (w1.alloc (.cells #[.slice none 0 0] 232)) [] :=
  ⟨WIs.new w1 _, ((below_alloc w1 _).block q hq).trans hb, hq, h0, (below_alloc w1 _).size, hbel.next (below_alloc w1 _)⟩
set_option maxRecDepth 100000 in
theorem ES.fix {w0 : World} {q g : Nat} {n : Ino} {w : World} {bs : List UInt8} (h : ES w0 q g n w bs) (x size : Nat) (hx : x ≤ 9223372036854775807) (hsz : size ≤ 8) (hf : fitsB x size = true) (hlen : bs.length ≤ 100) :
    Calls Tryz.prog 151 #[.pointer (some ⟨g, 0, none⟩), .int .i64 x, .int .i64 size] w fun e w' => e = .returned (.int .i64 0) ∧ ES w0 q g n w' (bs ++ fEnc x size) :=
  (fixed_w g g x size bs hx hsz hf (by omega) w h.wi h.gs).mono fun e w' ⟨he, hw, hk⟩ =>
    ⟨he, hw, (hk.block q h.qg (by have := h.qg; omega)).trans h.box, h.qg, h.w0q, Nat.le_trans h.gs hk.size,
      h.bel.trans (hk.below (by have := h.qg; have := h.w0q; omega) (by have := h.qg; have := h.w0q; omega))⟩
set_option maxRecDepth 100000 in
theorem fitsN {x : Nat} {size : Nat} (hs : size = 1 ∨ size = 2 ∨ size = 4) (h : x < 256 ^ size) : fitsB x size = true := by
  unfold fitsB sized
  rcases hs with rfl | rfl | rfl <;> simp <;> omega
end Go.Proofs.YtokjlgebkihimaaGreat
