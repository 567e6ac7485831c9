import Derived.Test.YtonejnbflkkapabWw
namespace Go.Proofs.Ytonejnbflkkapab
open Go.RowKit

structure Item where
  K : Int
  N : Int
  Z : Int
  s : ByteArray
instance : Inhabited Item := ⟨⟨0, 0, 0, ByteArray.empty⟩⟩
def Item.e (x : Item) : Int := itE x.K x.N x.Z x.s
def Item.b (x : Item) : List UInt8 := itB x.K x.N x.Z x.s
def Item.v (x : Item) : Value := .agg #[.int .i64 x.K, .int .i64 x.N, .int .i64 x.Z, .string x.s]
/-- the items of a slice, as they lie in memory -/
def Lie (w : World) (ao : Option Addr) (len : Nat) (it : Nat → Item) : Prop :=
  len = 0 ∨ ∃ b off, ao = some ⟨b, off, none⟩ ∧ b < w.heap.size ∧ ∀ i, i < len → w.cell? ⟨b, off + i * 4, none⟩ = some (.int .i64 (it i).K) ∧ w.cell? ⟨b, off + i * 4 + 1, none⟩ = some (.int .i64 (it i).N) ∧ w.cell? ⟨b, off + i * 4 + 2, none⟩ = some (.int .i64 (it i).Z) ∧ w.cell? ⟨b, off + i * 4 + 3, none⟩ = some (.string (it i).s)
/-- the bytes of the first items -/
def outs (it : Nat → Item) : Nat → List UInt8
  | 0 => []
  | j + 1 => outs it j ++ (it j).b

theorem wants_it (x : Item) (hN : -9223372036854775808 ≤ x.N ∧ x.N ≤ 9223372036854775807) (w : World) :
    Calls Try.prog 10 #[.agg #[.int .i64 x.K, .int .i64 x.N, .int .i64 x.Z, .string x.s]] w fun e w' => e = .returned (.tuple #[.string (st x.b), .int .i64 x.e]) ∧ Below w.heap.size w w' := wants_any x.K x.N x.Z x.s hN w
theorem writes_it (base g : Nat) (bs : List UInt8) (x : Item) (hN : -9223372036854775808 ≤ x.N ∧ x.N ≤ 9223372036854775807) (hlen : bs.length ≤ 10000000000) (w : World) (hw : WIs base g w bs) (hbase : base ≤ w.heap.size) :
    Calls Try.prog 11 #[.pointer (some ⟨g, 0, none⟩), .agg #[.int .i64 x.K, .int .i64 x.N, .int .i64 x.Z, .string x.s]] w fun e w' => e = .returned (.int .i64 x.e) ∧ WIs base g w' (bs ++ x.b) ∧ Kept base g w w' := writes_w base g bs x.K x.N x.Z x.s hN hlen w hw hbase
theorem st_add (a b : List UInt8) : st a ++ st b = st (a ++ b) := by apply ByteArray.ext; simp [st]

set_option maxRecDepth 100000 in
set_option maxHeartbeats 4000000 in
theorem writes_walk (ao : Option Addr) (len cap : Nat) (it : Nat → Item) (hlc : len ≤ 1048576) (hN : ∀ i, i < len → -9223372036854775808 ≤ (it i).N ∧ (it i).N ≤ 9223372036854775807) (hout : ∀ j, j ≤ len → (outs it j).length ≤ 100000000) (w : World) (hl : Lie w ao len it) :
    Calls Try.prog 3 #[.slice ao len cap] w fun e w' => e = .returned (.bool true) ∧ Below w.heap.size w w' := by
  go_enter Try.func3, Try.ntmps3
  go_wp2_with (first | (go_at_call 9; refine (new_any _).mono ?_; rintro e w1 ⟨rfl, hw1⟩; have b1 := hw1 ▸ below_alloc w _; have i1 := hw1 ▸ WIs.new w w.heap.size; clear hw1))
  go_loopw [4, 14] (fun u i wr => ∃ (j : Nat), i = .int .i64 j ∧ j ≤ len ∧ u = .string (st (outs it j)) ∧ WIs w.heap.size w.heap.size wr (outs it j) ∧ Below w.heap.size w wr) (fun _ i _ => len - (intOf i).toNat)
  case atStart => exact ⟨0, rfl, Nat.zero_le _, rfl, i1, b1⟩
  case round =>
    obtain ⟨j, rfl, hj, rfl, hwi, hbl⟩ := hrel
    have hz := hbl.size
    by_cases hlt : j < len
    · rcases hl with hl | ⟨b, off, rfl, hb, hcs⟩
      · omega
      obtain ⟨c0, c1, c2, c3⟩ := hcs j hlt
      have d0 : wr.cell? ⟨b, off + j * 4, none⟩ = some (.int .i64 (it j).K) := (hbl.cell (p := ⟨b, off + j * 4, none⟩) hb).trans c0
      have d1 : wr.cell? ⟨b, off + j * 4 + 1, none⟩ = some (.int .i64 (it j).N) := (hbl.cell (p := ⟨b, off + j * 4 + 1, none⟩) hb).trans c1
      have d2 : wr.cell? ⟨b, off + j * 4 + 2, none⟩ = some (.int .i64 (it j).Z) := (hbl.cell (p := ⟨b, off + j * 4 + 2, none⟩) hb).trans c2
      have d3 : wr.cell? ⟨b, off + j * 4 + 3, none⟩ = some (.string (it j).s) := (hbl.cell (p := ⟨b, off + j * 4 + 3, none⟩) hb).trans c3
      clear hcs c0 c1 c2 c3
      have hNj := hN j hlt
      have ho1 := hout j hj
      have ho2 := hout (j + 1) (by omega)
      obtain ⟨A, hA⟩ : ∃ A, A = st (outs it j) := ⟨_, rfl⟩
      obtain ⟨B, hB⟩ : ∃ B, B = st (it j).b := ⟨_, rfl⟩
      have hAs : A.size ≤ 100000000 := by rw [hA, st_size]; exact ho1
      have hBs : B.size ≤ 100000000 := by rw [hB, st_size]; rw [outs, List.length_append] at ho2; omega
      have HAB : Hid (A ++ B = st (outs it (j + 1))) := by show _ = _; rw [hA, hB, st_add]; rfl
      have HWA : Hid (∀ w, Calls Try.prog 10 #[.agg #[.int .i64 (it j).K, .int .i64 (it j).N, .int .i64 (it j).Z, .string (it j).s]] w fun e w' => e = .returned (.tuple #[.string B, .int .i64 (it j).e]) ∧ Below w.heap.size w w') := fun w => by rw [hB]; exact wants_it (it j) hNj w
      have HO : Hid ((outs it j).length ≤ 10000000000) := by show _ ≤ _; omega
      rw [← hA]
      clear hA hB ho1 ho2 hout
      go_wp2_with (first | (go_at_call 10; refine (HWA.out _).mono ?_; rintro e w2 ⟨rfl, b2⟩; obtain ⟨cc, cf⟩ := bcell b2; have z2 : wr.heap.size < w2.heap.size := by { have h := b2.size; simp at h; omega }; have i2 := hwi.below ((below_alloc wr _).trans (b2.mono (by simp)))) | (go_at_call 11; refine (writes_it w.heap.size w.heap.size (outs it j) (it j) hNj HO.out _ i2 (by omega)).mono ?_; rintro e w3 ⟨rfl, i3, k3⟩))
      have hb3 : Below w.heap.size w w3 := (hbl.trans (((below_alloc wr _).trans (b2.mono (by simp))).mono hz)).trans (k3.below (Nat.le_refl _) (Nat.le_refl _))
      go_roundw
      case rel => exact ⟨j + 1, by go_num, by omega, by rw [← HAB.out], i3, hb3⟩
      case measure => simp [intOf]; omega
    · have hjl : j = len := by omega
      subst hjl
      obtain ⟨A, hA⟩ : ∃ A, A = st (outs it j) := ⟨_, rfl⟩
      rw [← hA]
      have HA : Hid (A = st (outs it j)) := hA
      clear hA hout hN
      go_wp2_with (first | (go_at_call 12; refine (out_w _ _ _ _ hwi).mono ?_; rintro e wq ⟨rfl, hwq⟩; have hwq := hwq.symm; subst hwq; rw [← HA.out]) | (go_at_call 13; refine (speaks_any _).mono ?_; rintro e w9 ⟨rfl, b9⟩))
      go_ret
      exact ⟨rfl, hbl.trans (b9.mono hz)⟩
end Go.Proofs.Ytonejnbflkkapab
