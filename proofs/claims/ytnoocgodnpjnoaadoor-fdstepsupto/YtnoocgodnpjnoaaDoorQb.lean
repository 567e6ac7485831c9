import Derived.Test.YtnoocgodnpjnoaaDoorQa
namespace Go.Proofs.YtnoocgodnpjnoaaDoor
open Go.RowKit

/-- nothing but a block has changed -/
structure KP (g : Nat) (w w' : World) : Prop where
  os : w'.os = w.os
  tape : w'.tape = w.tape
  output : w'.output = w.output
  size : w.heap.size ≤ w'.heap.size
  block : ∀ k, k < w.heap.size → k ≠ g → w'.heap[k]? = w.heap[k]?
theorem KP.of_below {g : Nat} {w w' : World} (h : Below w.heap.size w w') : KP g w w' := ⟨h.os, h.tape, h.output, h.size, fun k hk _ => h.block k hk⟩
theorem KP.refl (g : Nat) (w : World) : KP g w w := ⟨rfl, rfl, rfl, Nat.le_refl _, fun _ _ _ => rfl⟩
theorem KP.trans {g : Nat} {a b c : World} (h : KP g a b) (k : KP g b c) : KP g a c :=
  ⟨k.os.trans h.os, k.tape.trans h.tape, k.output.trans h.output, Nat.le_trans h.size k.size, fun i hi hg => (k.block i (Nat.lt_of_lt_of_le hi h.size) hg).trans (h.block i hi hg)⟩
theorem KP.set {g : Nat} {w w' : World} (h : KP g w w') (i : Nat) (v : Value) : KP g w (w'.setCell ⟨g, i, none⟩ v) :=
  ⟨h.os, h.tape, h.output, by rw [World.size_setCell]; exact h.size, fun k hk hg => (Below.heap_setCell _ _ _ _ hg).trans (h.block k hk hg)⟩
theorem KP.below {g B : Nat} {w w' : World} (h : KP g w w') (hB : B ≤ w.heap.size) (hg : B ≤ g) : Below B w w' := ⟨h.os, h.tape, h.output, h.size, fun k hk => h.block k (by omega) (by omega)⟩
theorem drewN_below (w : World) (n : Nat) : Below w.heap.size w (w.drewN n) := ⟨rfl, rfl, rfl, Nat.le_refl _, fun _ _ => rfl⟩
theorem box_at (w : World) (o : Obj) : (w.alloc o).heap[w.heap.size]? = some o := by show (w.heap.push o)[w.heap.size]? = _; simp
theorem _root_.Go.RowKit.Below.next {a b c : World} (h : Below a.heap.size a b) (k : Below b.heap.size b c) : Below a.heap.size a c := h.trans (k.mono h.size)
def D0 : Nat → Dsc := fun _ => Dsc.zero
def zCells : Array Value := #[.bool false, .string ⟨#[]⟩, .int .i64 0, .bool false, .string ⟨#[]⟩, .int .i64 0, .bool false, .string ⟨#[]⟩, .int .i64 0, .bool false, .string ⟨#[]⟩, .int .i64 0, .bool false, .string ⟨#[]⟩, .int .i64 0, .bool false, .string ⟨#[]⟩, .int .i64 0, .bool false, .string ⟨#[]⟩, .int .i64 0, .bool false, .string ⟨#[]⟩, .int .i64 0, .bool false, .string ⟨#[]⟩, .int .i64 0, .bool false, .string ⟨#[]⟩, .int .i64 0, .bool false, .string ⟨#[]⟩, .int .i64 0, .bool false, .string ⟨#[]⟩, .int .i64 0, .bool false, .string ⟨#[]⟩, .int .i64 0, .bool false, .string ⟨#[]⟩, .int .i64 0, .bool false, .string ⟨#[]⟩, .int .i64 0, .bool false, .string ⟨#[]⟩, .int .i64 0]
theorem TI.new (w : World) : TI w.heap.size (w.alloc (.cells zCells 62)) D0 := by
  refine ⟨zCells, box_at _ _, rfl, fun i hi => ?_⟩
  match i, hi with
  | 0, _ => exact ⟨rfl, rfl, rfl⟩
  | 1, _ => exact ⟨rfl, rfl, rfl⟩
  | 2, _ => exact ⟨rfl, rfl, rfl⟩
  | 3, _ => exact ⟨rfl, rfl, rfl⟩
  | 4, _ => exact ⟨rfl, rfl, rfl⟩
  | 5, _ => exact ⟨rfl, rfl, rfl⟩
  | 6, _ => exact ⟨rfl, rfl, rfl⟩
  | 7, _ => exact ⟨rfl, rfl, rfl⟩
  | 8, _ => exact ⟨rfl, rfl, rfl⟩
  | 9, _ => exact ⟨rfl, rfl, rfl⟩
  | 10, _ => exact ⟨rfl, rfl, rfl⟩
  | 11, _ => exact ⟨rfl, rfl, rfl⟩
  | 12, _ => exact ⟨rfl, rfl, rfl⟩
  | 13, _ => exact ⟨rfl, rfl, rfl⟩
  | 14, _ => exact ⟨rfl, rfl, rfl⟩
  | 15, _ => exact ⟨rfl, rfl, rfl⟩
  | n + 16, h => exact absurd h (by omega)
set_option maxRecDepth 100000 in
theorem fnew_any (w : World) : Calls Tryd.prog 7 #[] w fun e w' => e = .returned (.pointer (some ⟨w.heap.size, 0, none⟩)) ∧ TI w.heap.size w' D0 ∧ Below w.heap.size w w' := by
  have HT := hid (TI.new w)
  unfold zCells at HT
  go_enter Tryd.func7, Tryd.ntmps7
  go_wp2
  go_ret
  exact ⟨rfl, HT.out, below_alloc w _⟩
/-- the least that is free -/
def lf (D : Nat → Dsc) : Nat → Option Nat
  | 0 => none
  | n + 1 => match lf D n with | some k => some k | none => if (D n).o then none else some n
theorem lf_none {D : Nat → Dsc} : ∀ {n : Nat}, lf D n = none → ∀ j, j < n → (D j).o = true
  | 0, _, j, hj => by omega
  | n + 1, h, j, hj => by
    unfold lf at h
    cases hl : lf D n with
    | some k => rw [hl] at h; simp at h
    | none =>
      rw [hl] at h
      by_cases hn : (D n).o = true
      · by_cases hjn : j = n
        · rw [hjn]; exact hn
        · exact lf_none hl j (by omega)
      · simp [hn] at h
theorem lf_some {D : Nat → Dsc} : ∀ {n k : Nat}, lf D n = some k → k < n ∧ (D k).o = false ∧ ∀ j, j < k → (D j).o = true
  | 0, k, h => by simp [lf] at h
  | n + 1, k, h => by
    unfold lf at h
    cases hl : lf D n with
    | some k' =>
      rw [hl] at h
      have := lf_some hl
      simp at h
      subst h
      exact ⟨by omega, this.2⟩
    | none =>
      rw [hl] at h
      by_cases hn : (D n).o = true
      · simp [hn] at h
      · simp [hn] at h
        subst h
        exact ⟨by omega, by simpa using hn, fun j hj => lf_none hl j hj⟩
theorem lf_stop {D : Nat → Dsc} {j : Nat} (hj : j < 16) (h : lf D j = none) (ho : (D j).o = false) : lf D 16 = some j := by
  cases hl : lf D 16 with
  | none => have := lf_none hl j hj; rw [ho] at this; cases this
  | some k =>
    have ⟨h1, h2, h3⟩ := lf_some hl
    have h4 : ¬ j < k := fun e => by have := h3 j e; rw [ho] at this; cases this
    have h5 : ¬ k < j := fun e => by have := lf_none h k e; rw [h2] at this; cases this
    rw [show k = j by omega]
theorem least_nil (w : World) : Calls Tryd.prog 28 #[.pointer none] w fun e w' => e = .returned (.tuple #[.int .i64 0, .bool false]) ∧ w' = w := by
  go_enter Tryd.func28, Tryd.ntmps28
  go_wp2
  go_ret2
  exact ⟨rfl, rfl⟩
theorem eql_ptr (w : World) (a : Addr) : (binOp .eql 69 (.pointer (some a)) (.pointer none)).run Tryd.prog w = .ok (.bool false) w := by
  have u := Tryd.underlying69
  go_simp
set_option maxRecDepth 100000 in
theorem least_go {g : Nat} {w : World} {D : Nat → Dsc} (h : TI g w D) (r : Int) (b : Bool) (hr : (lf D 16 = none ∧ r = 0 ∧ b = false) ∨ ∃ k : Nat, lf D 16 = some k ∧ r = k ∧ b = true) : Calls Tryd.prog 28 #[.pointer (some ⟨g, 0, none⟩)] w fun e w' => e = .returned (.tuple #[.int .i64 r, .bool b]) ∧ w' = w := by
  have HH := hid h
  have HR := hid hr
  clear h hr
  go_enter Tryd.func28, Tryd.ntmps28
  go_wp2
  go_loop [7] (fun i => ∃ j : Nat, i = .int .i64 j ∧ j ≤ 16 ∧ Hid (lf D j = none)) (fun i => 16 - (intOf i).toNat)
  case atStart => exact ⟨0, rfl, by decide, hid rfl⟩
  case round =>
    obtain ⟨j, rfl, hj, HL⟩ := hrel
    by_cases hlt : j < 16
    · cases ho : (D j).o with
      | true =>
        have HF := hid (find_yes j HH.out hlt ho)
        have HL2 : Hid (lf D (j + 1) = none) := hid (by unfold lf; rw [HL.out]; simp [ho])
        clear ho
        go_wp2_with (first | (go_at_call 26; refine (HF.out).mono ?_; rintro e w1 ⟨rfl, hw⟩; subst hw))
        go_round
        case rel => exact ⟨j + 1, by go_num, by omega, HL2⟩
        case measure => simp [intOf]; omega
      | false =>
        have HF := hid (find_no (j : Int) HH.out (by unfold opn; rw [Int.toNat_natCast, ho]; simp))
        have HS := hid (lf_stop hlt HL.out ho)
        clear ho
        go_wp2_with (first | (go_at_call 26; refine (HF.out).mono ?_; rintro e w1 ⟨rfl, hw⟩; subst hw))
        go_ret2
        rcases HR.out with ⟨h1, _⟩ | ⟨k, h1, h2, h3⟩
        · rw [HS.out] at h1; cases h1
        · rw [HS.out] at h1
          cases h1
          rw [h2, h3]
          exact ⟨rfl, rfl⟩
    · have hjn : j = 16 := by omega
      have HS : Hid (lf D 16 = none) := by have e := HL.out; rw [hjn] at e; exact hid e
      clear hjn
      go_wp2
      go_ret2
      rcases HR.out with ⟨_, h2, h3⟩ | ⟨k, h1, _⟩
      · rw [h2, h3]; exact ⟨rfl, rfl⟩
      · rw [HS.out] at h1; cases h1
end Go.Proofs.YtnoocgodnpjnoaaDoor
