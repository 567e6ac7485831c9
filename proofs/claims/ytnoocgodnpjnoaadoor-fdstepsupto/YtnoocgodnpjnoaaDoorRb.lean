import Derived.Test.YtnoocgodnpjnoaaDoorQd
namespace Go.Proofs.YtnoocgodnpjnoaaDoor
open Go.RowKit

def nextE (D : Nat → Dsc) (fd n : Int) : Int := if opn D fd then (if decide (0 ≤ n) && decide (n ≤ 1024) then 0 else 309) else 311
def nextO (D : Nat → Dsc) (fd n : Int) : Opr := if nextE D fd n = 0 then ⟨5, (D fd.toNat).n, n, (D fd.toNat).p, ByteArray.empty, ByteArray.empty⟩ else Opr.zero
set_option maxRecDepth 100000 in
set_option maxHeartbeats 1000000 in
theorem nextN_bad {g : Nat} {w : World} {D : Nat → Dsc} (k : Nat) (n : Int) (h : TI g w D) (hk : k < 16) (ho : (D k).o = true) (hb : n < 0 ∨ 1024 < n) : Calls Tryd.prog 18 #[.pointer (some ⟨g, 0, none⟩), .int .i64 k, .int .i64 n] w fun e w' => e = .returned (.tuple #[Opr.zero.v, .int .i64 309]) ∧ Below w.heap.size w w' := by
  have HB0 := hid (box_zero w)
  have h' := h.below (below_alloc w (.cells #[.int .i64 0, .int .i64 0, .int .i64 0, .string ⟨#[]⟩, .string ⟨#[]⟩, .string ⟨#[]⟩] 52))
  have HF := hid (find_yes k h' hk ho)
  clear h h' ho
  by_cases h0 : n < 0
  · clear hb
    go_enter Tryd.func18, Tryd.ntmps18
    go_wp2_with (first
      | (go_at_call 26; refine (HF.out).mono ?_; rintro e w2 ⟨rfl, hw2⟩; subst hw2)
      | ((with_reducible refine at_store52 w.heap.size Opr.zero Opr.zero ?_ ?_ HB0.out ?_); rfl; rfl; intro wr hBr hkr))
    exact ret18 hBr rfl rfl rfl ⟨rfl, KP.new (below_alloc w _) hkr (Nat.le_refl _)⟩
  · have h1 : 1024 < n := by omega
    clear hb
    go_enter Tryd.func18, Tryd.ntmps18
    go_wp2_with (first
      | (go_at_call 26; refine (HF.out).mono ?_; rintro e w2 ⟨rfl, hw2⟩; subst hw2)
      | ((with_reducible refine at_store52 w.heap.size Opr.zero Opr.zero ?_ ?_ HB0.out ?_); rfl; rfl; intro wr hBr hkr))
    exact ret18 hBr rfl rfl rfl ⟨rfl, KP.new (below_alloc w _) hkr (Nat.le_refl _)⟩
theorem next_any {g : Nat} {w : World} {D : Nat → Dsc} (fd n : Int) (h : TI g w D) : Calls Tryd.prog 18 #[.pointer (some ⟨g, 0, none⟩), .int .i64 fd, .int .i64 n] w fun e w' => e = .returned (.tuple #[(nextO D fd n).v, .int .i64 (nextE D fd n)]) ∧ Below w.heap.size w w' := by
  unfold nextO nextE
  cases ho : opn D fd with
  | true =>
    obtain ⟨k, rfl, hk, hd⟩ := opn_parts ho
    cases hb : decide (0 ≤ n) && decide (n ≤ 1024) with
    | true =>
      simp at hb
      simpa using next_yes k n h hk hd hb.1 hb.2
    | false =>
      have hb' : n < 0 ∨ 1024 < n := by
        simp at hb
        omega
      simpa using nextN_bad k n h hk hd hb'
  | false => simpa using next_no fd n w (hid fun _ b => find_no fd (h.below b) ho)
def writE (D : Nat → Dsc) (fd : Int) (s : ByteArray) : Int := if opn D fd then (if s.size ≤ 1024 then 0 else 309) else 311
def writO (D : Nat → Dsc) (fd : Int) (s : ByteArray) : Opr := if writE D fd s = 0 then ⟨3, (D fd.toNat).n, 0, (D fd.toNat).p, ByteArray.empty, s⟩ else Opr.zero
set_option maxRecDepth 100000 in
set_option maxHeartbeats 1000000 in
theorem write_bad {g : Nat} {w : World} {D : Nat → Dsc} (k : Nat) (s : ByteArray) (h : TI g w D) (hk : k < 16) (ho : (D k).o = true) (hb : 1024 < s.size) : Calls Tryd.prog 19 #[.pointer (some ⟨g, 0, none⟩), .int .i64 k, .string s] w fun e w' => e = .returned (.tuple #[Opr.zero.v, .int .i64 309]) ∧ Below w.heap.size w w' := by
  have HB0 := hid (box_zero w)
  have h' := h.below (below_alloc w (.cells #[.int .i64 0, .int .i64 0, .int .i64 0, .string ⟨#[]⟩, .string ⟨#[]⟩, .string ⟨#[]⟩] 52))
  have HF := hid (find_yes k h' hk ho)
  clear h h' ho
  go_enter Tryd.func19, Tryd.ntmps19
  go_wp2_with (first
    | (go_at_call 26; refine (HF.out).mono ?_; rintro e w2 ⟨rfl, hw2⟩; subst hw2)
    | ((with_reducible refine at_store52 w.heap.size Opr.zero Opr.zero ?_ ?_ HB0.out ?_); rfl; rfl; intro wr hBr hkr))
  exact ret19 hBr rfl rfl rfl ⟨rfl, KP.new (below_alloc w _) hkr (Nat.le_refl _)⟩
set_option maxRecDepth 100000 in
set_option maxHeartbeats 1000000 in
theorem write_yes {g : Nat} {w : World} {D : Nat → Dsc} (k : Nat) (s : ByteArray) (h : TI g w D) (hk : k < 16) (ho : (D k).o = true) (hb : s.size ≤ 1024) : Calls Tryd.prog 19 #[.pointer (some ⟨g, 0, none⟩), .int .i64 k, .string s] w fun e w' => e = .returned (.tuple #[Opr.v ⟨3, (D k).n, 0, (D k).p, ByteArray.empty, s⟩, .int .i64 0]) ∧ Below w.heap.size w w' := by
  have HB0 := hid (box_zero w)
  have h' := h.below (below_alloc w (.cells #[.int .i64 0, .int .i64 0, .int .i64 0, .string ⟨#[]⟩, .string ⟨#[]⟩, .string ⟨#[]⟩] 52))
  have HF := hid (find_yes k h' hk ho)
  obtain ⟨c0, c1, c2⟩ := h.cells k hk
  have hg := h.lt
  clear h h' ho
  obtain ⟨pl, hpl⟩ : ∃ x, x = (D k).n := ⟨_, rfl⟩
  obtain ⟨pa, hpa⟩ : ∃ x, x = (D k).p := ⟨_, rfl⟩
  rw [← hpl] at c2 ⊢
  rw [← hpa] at c1 ⊢
  clear hpl hpa c0
  go_enter Tryd.func19, Tryd.ntmps19
  go_wp2_with (first
    | (go_at_call 26; refine (HF.out).mono ?_; rintro e w2 ⟨rfl, hw2⟩; subst hw2))
  go_region
  go_wp2
  exact ret19 (m := ⟨3, pl, 0, pa, ByteArray.empty, s⟩) (box_at w _) rfl rfl rfl ⟨rfl, (below_alloc w _).next (drewN_below _ 1)⟩
theorem write_any {g : Nat} {w : World} {D : Nat → Dsc} (fd : Int) (s : ByteArray) (h : TI g w D) : Calls Tryd.prog 19 #[.pointer (some ⟨g, 0, none⟩), .int .i64 fd, .string s] w fun e w' => e = .returned (.tuple #[(writO D fd s).v, .int .i64 (writE D fd s)]) ∧ Below w.heap.size w w' := by
  unfold writO writE
  cases ho : opn D fd with
  | true =>
    obtain ⟨k, rfl, hk, hd⟩ := opn_parts ho
    by_cases hb : s.size ≤ 1024
    · simp only [if_true, if_pos hb]
      simpa using write_yes k s h hk hd hb
    · simp only [if_true, if_neg hb]
      simpa using write_bad k s h hk hd (by omega)
  | false => simpa using write_no fd s w (hid fun _ b => find_no fd (h.below b) ho)
end Go.Proofs.YtnoocgodnpjnoaaDoor
