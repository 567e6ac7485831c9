import Derived.Test.YtcaedajbkdploaaFd
import Derived.Test.YtcaedajbkdploaaEh
namespace Go.Proofs.Ytcaedajbkdploaa
open Go.RowKit Go.Maps

/-- a log, or none -/
def LN (p : Value) (w : World) (l : List Ent) : Prop := (p = .pointer none ∧ l = []) ∨ ∃ B g v, p = .pointer (some ⟨g, 0, none⟩) ∧ LI 78 B g w v l
theorem LN.below {p : Value} {w w' : World} {l : List Ent} (h : LN p w l) (k : Below w.heap.size w w') : LN p w' l := by
  rcases h with h | ⟨B, g, v, e, h⟩
  · exact .inl h
  · exact .inr ⟨B, g, v, e, h.below k⟩
theorem LN.len {p : Value} {w : World} {l : List Ent} (h : LN p w l) : l.length ≤ 4096 := by
  rcases h with ⟨_, rfl⟩ | ⟨B, g, v, _, h⟩
  · simp
  · exact h.len
theorem len_g {p : Value} {w : World} {l : List Ent} (h : LN p w l) : Calls Try.prog 21 #[p] w fun e w' => e = .returned (.int .i64 l.length) ∧ w' = w := by
  rcases h with ⟨rfl, rfl⟩ | ⟨B, g, v, rfl, h⟩
  · exact len_nil w
  · exact len_any h
theorem cut_g {p : Value} {w : World} {l : List Ent} (h : LN p w l) (a e : Nat) (ha : a ≤ e) (he : e ≤ l.length) : Calls Try.prog 47 #[p, .int .i64 a, .int .i64 e] w fun x w' => ∃ u, x = .returned u ∧ ELie w u ((l.take e).drop a) ∧ w' = w := by
  rcases h with ⟨rfl, rfl⟩ | ⟨B, g, v, rfl, h⟩
  · refine (cut_nil _ _ w).mono fun x w' ⟨h1, h2⟩ => ⟨_, h1, ?_, h2⟩
    rw [List.take_nil, List.drop_nil]
    exact ELie.nil w
  · exact cut_any h a e ha he
/-- whether a list begins with another one -/
def bgs (l m : List Ent) : Bool := decide (m.length ≤ l.length) && decide (l.take m.length = m)
set_option maxRecDepth 100000 in
theorem begins_any {p q : Value} {w : World} {l m : List Ent} (hl : LN p w l) (hm : LN q w m) : Calls Try.prog 28 #[p, q] w fun e w' => e = .returned (.bool (bgs l m)) ∧ ∃ n, w' = w.drewN n := by
  have HL := hid (len_g hl)
  have HM := hid (len_g hm)
  by_cases h : m.length ≤ l.length
  · have HC1 := hid (cut_g hl 0 m.length (Nat.zero_le _) h)
    have HC2 := hid (cut_g hm 0 m.length (Nat.zero_le _) (Nat.le_refl _))
    rw [List.take_of_length_le (Nat.le_refl _), List.drop_zero] at HC2
    rw [List.drop_zero] at HC1
    have HE := hid (fun u v (hu : ELie w u (l.take m.length)) (hv : ELie w v m) => equal_any hu hv)
    have hb : bgs l m = decide (l.take m.length = m) := by unfold bgs; rw [decide_eq_true h]; rfl
    rw [hb]
    obtain ⟨b, hbb⟩ : ∃ b, b = decide (l.take m.length = m) := ⟨_, rfl⟩
    rw [← hbb] at HE ⊢
    clear hb hbb hl hm
    have h' : ((m.length : Int) ≤ l.length) := by omega
    go_enter Try.func28, Try.ntmps28
    go_wp2_with (first
      | (go_at_call 21; have hk := HM; clear hk; refine (HM.out).mono ?_; rintro e w1 ⟨rfl, hw⟩; subst hw; clear HM)
      | (go_at_call 21; refine (HL.out).mono ?_; rintro e w1 ⟨rfl, hw⟩; subst hw; clear HL)
      | (go_at_call 47; have hk := HC1; clear hk; refine (HC1.out).mono ?_; rintro e w1 ⟨u1, rfl, hu1, hw⟩; subst hw; clear HC1)
      | (go_at_call 47; refine (HC2.out).mono ?_; rintro e w1 ⟨u2, rfl, hu2, hw⟩; subst hw; clear HC2)
      | (go_at_call 50; refine (HE.out _ _ hu1 hu2).mono ?_; rintro e w1 ⟨rfl, n, hw⟩; subst hw))
    go_ret
    exact ⟨rfl, n, rfl⟩
  · have hb : bgs l m = false := by unfold bgs; rw [decide_eq_false h]; rfl
    rw [hb]
    clear hb hl hm
    have h' : ¬ ((m.length : Int) ≤ l.length) := by omega
    go_enter Try.func28, Try.ntmps28
    go_wp2_with (first
      | (go_at_call 21; have hk := HM; clear hk; refine (HM.out).mono ?_; rintro e w1 ⟨rfl, hw⟩; subst hw; clear HM)
      | (go_at_call 21; refine (HL.out).mono ?_; rintro e w1 ⟨rfl, hw⟩; subst hw; clear HL))
    go_ret
    exact ⟨rfl, 0, rfl⟩
/-- Append, whatever it answers -/
theorem append_any {B g : Nat} {w : World} {v : Value} {l : List Ent} (x : Ent) (h : LI 78 B g w v l) (hB : B ≤ w.heap.size) : Calls Try.prog 15 #[.pointer (some ⟨g, 0, none⟩), x.v] w fun e w' => e = .returned (.tuple #[.int .i64 (apN l x), .int .i64 (apE l x)]) ∧ After 78 B g v w (apL l x) w' := by
  cases hx : rgt x with
  | false =>
    obtain ⟨e1, e2, e3⟩ := ap_form (l := l) hx
    rw [e1, e2, e3]
    exact (append_no x hx).mono fun e w' ⟨h1, h2⟩ => ⟨h1, After.same h h2⟩
  | true =>
    by_cases h2 : x.V < lastV l
    · obtain ⟨e1, e2, e3⟩ := ap_state hx h2
      rw [e1, e2, e3]
      exact (append_state x h hx h2).mono fun e w' ⟨k1, k2⟩ => ⟨k1, After.same h k2⟩
    · by_cases h3 : 4096 ≤ l.length
      · obtain ⟨e1, e2, e3⟩ := ap_full hx h2 h3
        rw [e1, e2, e3]
        exact (append_full x h hx h2 h3).mono fun e w' ⟨k1, k2⟩ => ⟨k1, After.same h k2⟩
      · obtain ⟨e1, e2, e3⟩ := ap_ok hx h2 h3
        rw [e1, e2, e3]
        exact append_ok x h hx h2 h3 hB
/-- the entry of speaks -/
def PA : ByteArray := { data := #[47, 97] }
def E0 : Ent := ⟨1, 2, 3, 1, 0, 0, PA, ByteArray.empty, ByteArray.empty⟩
theorem e0_rgt : rgt E0 = true := by decide
theorem e0_ok : E0.Ok := ⟨⟨by decide, by decide⟩, ⟨by decide, by decide⟩, ⟨by decide, by decide⟩, ⟨by decide, by decide⟩, ⟨by decide, by decide⟩, ⟨by decide, by decide⟩⟩
theorem e0_enc : encE E0 = [1, 2, 3, 2, 0, 0, 2, 47, 97, 0, 0] := by
  unfold encE txE E0
  simp only []
  rw [show PA.size = 2 from rfl, show ByteArray.empty.size = 0 from rfl, show zig 1 = 2 from by decide, show zig 0 = 0 from by decide]
  rw [show (1 : Int).toNat = 1 from rfl, show (2 : Int).toNat = 2 from rfl, show (3 : Int).toNat = 3 from rfl]
  rw [uEnc_lo (n := 1) (by decide), uEnc_lo (n := 2) (by decide), uEnc_lo (n := 3) (by decide), uEnc_lo (n := 0) (by decide)]
  rfl
theorem e0_ap1 : apE [] E0 = 0 ∧ apN [] E0 = 1 ∧ apL [] E0 = [E0] := by decide
theorem e0_ap2 : apE [E0] E0 = 0 ∧ apN [E0] E0 = 2 ∧ apL [E0] E0 = [E0, E0] := by decide
end Go.Proofs.Ytcaedajbkdploaa
