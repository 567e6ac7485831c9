import Derived.Test.YtglhibmfbbbdiaaXf
import Derived.Test.YtglhibmfbbbdiaaAw
namespace Go.Proofs.Ytglhibmfbbbdiaa
open Go.RowKit Go.Maps

/-- what lasts, as the device has it and as the reference has it -/
def RelL (f : Nat → Option ByteArray) (L : List ByteArray) : Prop := ∀ k, k < L.length → L[k]? = some ((f k).getD ByteArray.empty) ∧ ∀ s, f k = some s → s.size ≠ 0
theorem RelL.xb {f : Nat → Option ByteArray} {L : List ByteArray} (h : RelL f L) (k : Nat) (hk : k < L.length) : xb L[k] = (f k).getD Z := by
  obtain ⟨h1, h2⟩ := h k hk
  rw [List.getElem?_eq_getElem hk] at h1
  have h3 := Option.some.inj h1
  rw [h3]
  unfold Ytglhibmfbbbdiaa.xb
  cases hf : f k with
  | none => rfl
  | some s => exact if_neg (h2 s hf)
theorem RelL.new (n : Nat) : RelL (fun _ => none) (List.replicate n ByteArray.empty) := fun k hk => ⟨by rw [List.getElem?_eq_getElem hk]; simp, fun s e => by cases e⟩
theorem piece_ne (d : ByteArray) (m : Nat) (h : m < cnt d) : (piece d m).size ≠ 0 := by
  unfold piece
  unfold cnt at h
  rw [ByteArray.size_extract]
  omega
theorem RelL.upd {f : Nat → Option ByteArray} {L : List ByteArray} (h : RelL f L) (a : Nat) (s : ByteArray) (hs : s.size ≠ 0) : RelL (upd f a s) (L.set a s) := by
  intro k hk
  rw [List.length_set] at hk
  obtain ⟨h1, h2⟩ := h k hk
  unfold Ytglhibmfbbbdiaa.upd
  by_cases e : k = a
  · subst e
    simp [hk]
    exact fun e => hs (by rw [e]; rfl)
  · rw [List.getElem?_set_ne (fun x => e x.symm)]
    simp only [e, if_false]
    exact ⟨h1, h2⟩
theorem RelL.over {f : Nat → Option ByteArray} {L : List ByteArray} (h : RelL f L) (a : Nat) (d : ByteArray) : ∀ m, m ≤ cnt d → RelL (over f a d m) (setL L a d m)
  | 0, _ => by rw [over_zero]; exact h
  | m + 1, hm => by
    rw [← over_succ]
    exact (RelL.over h a d m (by omega)).upd _ _ (piece_ne d m (by omega))
theorem RelL.crash (pk : Nat → Bool) : ∀ (Q : List (Nat × ByteArray)) (i t : Nat) (f : Nat → Option ByteArray) (L : List ByteArray), RelL f L → RelL (crashFrom pk i t f Q) (crashL pk i t L Q)
  | [], i, t, f, L, h => by rw [crash_end, crashL_end]; exact h
  | q :: Q, i, t, f, L, h => by
    rw [crash_cons, crashL_cons]
    split
    · exact RelL.crash pk Q _ _ _ _ (h.over _ _ _ (Nat.le_refl _))
    · exact RelL.crash pk Q _ _ _ _ (h.over _ _ _ (Nat.min_le_right _ _))
/-- a device and the reference's, that say the same -/
def PX (base gd gx : Nat) (w : World) (S : DS) : Prop :=
  ∃ L fpd fpx, DIs base gd w 1048576 S fpd ∧ XIs base gx w L S.Q fpx ∧ L.length = S.n ∧ RelL S.L L ∧ ∀ k ∈ fpd, k ∉ fpx
theorem PX.keep {base gd gx : Nat} {w w' : World} {S : DS} (h : PX base gd gx w S) (hb : Below w.heap.size w w') : PX base gd gx w' S := by
  obtain ⟨L, fpd, fpx, h1, h2, h3, h4, h5⟩ := h
  exact ⟨L, fpd, fpx, h1.below hb, h2.below hb, h3, h4, h5⟩
set_option maxRecDepth 100000 in
theorem px_same {base gd gx : Nat} {S : DS} (a : Int) (hQ : S.Q.length ≤ 100000) (w : World) (h : PX base gd gx w S) : Calls Try.prog 20 #[.pointer (some ⟨gd, 0, none⟩), .pointer (some ⟨gx, 0, none⟩), .int .i64 a] w fun e w' => e = .returned (.bool true) ∧ Below w.heap.size w w' := by
  obtain ⟨L, fpd, fpx, h1, h2, h3, h4, h5⟩ := h
  by_cases ha : 0 ≤ a ∧ a < S.n
  · obtain ⟨k, rfl⟩ := Int.eq_ofNat_of_zero_le ha.1
    have hk : k < S.n := by omega
    have hkL : k < L.length := by omega
    have H1 := hid (fun w' (hb : Below w.heap.size w w') => read_any k hk w' (h1.below hb))
    have H2 := hid (fun w' (hb : Below w.heap.size w w') => xread_any k hkL hQ w' (h2.below hb))
    have H3 := hid (fun w' (hb : Below w.heap.size w w') => lasts_any k hk w' (h1.below hb))
    have H4 := hid (fun w' (hb : Below w.heap.size w w') => xlasts_any k hkL w' (h2.below hb))
    have e := h4.xb k hkL
    have e2 := seen_sees k S.Q S.L
    rw [e] at H2 H4
    rw [← e2] at H2
    obtain ⟨x, hx⟩ : ∃ x, x = (seen S.L S.Q k).getD Z := ⟨_, rfl⟩
    obtain ⟨y, hy⟩ : ∃ y, y = (S.L k).getD Z := ⟨_, rfl⟩
    rw [← hx] at H1 H2
    rw [← hy] at H3 H4
    clear e e2 hx hy h1 h2 h3 h4 h5 ha
    go_enter Try.func20, Try.ntmps20
    go_wp2_with (first
      | (go_at_call 22; refine (H1.out _ (Below.refl _ _)).mono ?_; rintro e w1 ⟨rfl, b1⟩)
      | (go_at_call 28; refine (H2.out _ b1).mono ?_; rintro e w2 ⟨rfl, b2⟩; have d2 := b1.next b2)
      | (go_at_call 23; refine (H3.out _ d2).mono ?_; rintro e w3 ⟨rfl, b3⟩; have d3 := d2.next b3)
      | (go_at_call 29; refine (H4.out _ d3).mono ?_; rintro e w4 ⟨rfl, b4⟩; have d4 := d3.next b4))
    go_ret
    exact ⟨by simp, d4⟩
  · have haL : ¬ (0 ≤ a ∧ a < L.length) := by rw [h3]; exact ha
    have H1 := hid (fun w' (hb : Below w.heap.size w w') => read_none a ha w' (h1.below hb))
    have H2 := hid (fun w' (hb : Below w.heap.size w w') => xread_none a haL hQ w' (h2.below hb))
    have H3 := hid (fun w' (hb : Below w.heap.size w w') => lasts_none a ha w' (h1.below hb))
    have H4 := hid (fun w' (hb : Below w.heap.size w w') => xlasts_none a haL w' (h2.below hb))
    obtain ⟨x, hx⟩ : ∃ x, x = ByteArray.empty := ⟨_, rfl⟩
    rw [← hx] at H1 H2 H3 H4
    clear hx h1 h2 h3 h4 h5 ha haL
    go_enter Try.func20, Try.ntmps20
    go_wp2_with (first
      | (go_at_call 22; refine (H1.out _ (Below.refl _ _)).mono ?_; rintro e w1 ⟨rfl, hw1⟩; subst hw1)
      | (go_at_call 28; refine (H2.out _ (Below.refl _ _)).mono ?_; rintro e w2 ⟨rfl, b2⟩)
      | (go_at_call 23; refine (H3.out _ b2).mono ?_; rintro e w3 ⟨rfl, hw3⟩; subst hw3)
      | (go_at_call 29; refine (H4.out _ b2).mono ?_; rintro e w4 ⟨rfl, hw4⟩; subst hw4))
    go_ret
    exact ⟨by simp, b2⟩
end Go.Proofs.Ytglhibmfbbbdiaa
