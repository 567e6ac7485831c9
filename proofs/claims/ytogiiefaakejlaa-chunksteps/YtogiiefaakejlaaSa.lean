import Derived.Test.YtogiiefaakejlaaRo
import Derived.Test.YtogiiefaakejlaaOf
namespace Go.Proofs.Ytogiiefaakejlaa
open Go.RowKit Go.Maps

/-- a block of n chunks, of which the first q are those of L -/
def Fil (t : TypeId) (g n q : Nat) (w : World) (L : List Ck) : Prop := ∃ cur : Array Value, w.heap[g]? = some (.cells cur t (0, 0)) ∧ cur.size = n * 5 ∧ ∀ i (hi : i < L.length), i < q → ∀ k, k < 5 → cur[i * 5 + k]? = (Ck.cs L[i])[k]?
theorem Fil.same {t : TypeId} {g n q : Nat} {w w' : World} {L : List Ck} (h : Fil t g n q w L) (hb : w'.heap[g]? = w.heap[g]?) : Fil t g n q w' L := by
  obtain ⟨cur, h1, h2⟩ := h
  exact ⟨cur, hb.trans h1, h2⟩
theorem Fil.lt {t : TypeId} {g n q : Nat} {w : World} {L : List Ck} (h : Fil t g n q w L) : g < w.heap.size := by
  obtain ⟨cur, h1, h2⟩ := h
  exact lt_of_block h1
theorem Fil.get {t : TypeId} {g n q : Nat} {w : World} {L : List Ck} (h : Fil t g n q w L) (j : Nat) (hj : j < n * 5) : ∃ x, w.cell? ⟨g, j, none⟩ = some x := by
  obtain ⟨cur, h1, h2, _⟩ := h
  exact ⟨cur[j]'(by omega), by simp [World.cell?, h1]⟩
theorem Fil.free {t : TypeId} {g n q : Nat} {w : World} {L : List Ck} (h : Fil t g n q w L) (j : Nat) : w.frozen? ⟨g, j, none⟩ = false := by
  obtain ⟨cur, h1, h2, _⟩ := h
  simp [World.frozen?, h1]
theorem Fil.lie {t : TypeId} {g n : Nat} {w : World} {L : List Ck} (h : Fil t g n n w L) (hL : L.length = n) (hn : n ≤ 1000) : KLie w (.slice (some ⟨g, 0, none⟩) n n) L := by
  obtain ⟨cur, h1, h2, h3⟩ := h
  refine ⟨_, _, by rw [hL], by omega, by unfold maxLen; omega, fun i hi => ⟨g, 0, rfl, lt_of_block h1, fun q hq => ?_⟩⟩
  have := h3 i hi (by omega) q hq
  rw [Nat.zero_add]
  simp [World.cell?, h1, this]
theorem Fil.set {t : TypeId} {g n q : Nat} {w : World} {L : List Ck} (h : Fil t g n q w L) (hq : q < n) (hL : q < L.length) :
    Fil t g n (q + 1) (((((w.setCell ⟨g, q * 5, none⟩ (.int .i64 L[q].dg)).setCell ⟨g, q * 5 + 1, none⟩ (.int .i64 L[q].tot)).setCell ⟨g, q * 5 + 2, none⟩ (.int .i64 L[q].num)).setCell ⟨g, q * 5 + 3, none⟩ (.string L[q].dat)).setCell ⟨g, q * 5 + 4, none⟩ (.int .i64 L[q].sm)) L := by
  obtain ⟨cur, h1, h2, h3⟩ := h
  refine ⟨_, cells_set (cells_set (cells_set (cells_set (cells_set h1 _) _) _) _) _, by simp [h2], fun i hi hlt k hk => ?_⟩
  simp only [Array.set!_eq_setIfInBounds]
  by_cases hiq : i = q
  · subst hiq
    match k, hk with
    | 0, _ => rw [Array.getElem?_setIfInBounds_ne (by omega), Array.getElem?_setIfInBounds_ne (by omega), Array.getElem?_setIfInBounds_ne (by omega), Array.getElem?_setIfInBounds_ne (by omega)]; rw [Nat.add_zero, Array.getElem?_setIfInBounds_self_of_lt (by omega)]; rfl
    | 1, _ => rw [Array.getElem?_setIfInBounds_ne (by omega), Array.getElem?_setIfInBounds_ne (by omega), Array.getElem?_setIfInBounds_ne (by omega), Array.getElem?_setIfInBounds_self_of_lt (by simp; omega)]; rfl
    | 2, _ => rw [Array.getElem?_setIfInBounds_ne (by omega), Array.getElem?_setIfInBounds_ne (by omega), Array.getElem?_setIfInBounds_self_of_lt (by simp; omega)]; rfl
    | 3, _ => rw [Array.getElem?_setIfInBounds_ne (by omega), Array.getElem?_setIfInBounds_self_of_lt (by simp; omega)]; rfl
    | 4, _ => rw [Array.getElem?_setIfInBounds_self_of_lt (by simp; omega)]; rfl
  · rw [← h3 i hi (by omega) k hk, Array.getElem?_setIfInBounds_ne (by omega), Array.getElem?_setIfInBounds_ne (by omega), Array.getElem?_setIfInBounds_ne (by omega), Array.getElem?_setIfInBounds_ne (by omega), Array.getElem?_setIfInBounds_ne (by omega)]
theorem Try.infoK24 : (Try.prog.info? 24).map (fun i => (i.zero, i.size, i.bytes)) = some (some (.agg #[.int .i64 0, .int .i64 0, .int .i64 0, .string ⟨#[]⟩, .int .i64 0]), 5, 48) := by kernel_rfl
theorem mkK (n : Nat) (hn : n ≤ 1000) : ∃ cs, (∀ w : World, (Instr.makeSlice 26 (.int .i64 (n : Int)) (.int .i64 (n : Int))).run Try.prog w = .ok (.slice (some ⟨w.heap.size, 0, none⟩) n n) (w.alloc (.cells cs 24))) ∧ ∀ (w : World) L, Fil 24 w.heap.size n 0 (w.alloc (.cells cs 24)) L := by
  obtain ⟨i0, hi, hz0, hz1, hz2⟩ := info_parts Try.infoK24
  refine ⟨madeCells (Value.agg #[.int .i64 0, .int .i64 0, .int .i64 0, .string ⟨#[]⟩, .int .i64 0]).cells (n * 5), fun w => ?_, fun w L => ⟨_, box_at _ _, by simp [size_madeCells], fun i hi h => by omega⟩⟩
  have := run_makeSlice (P := Try.prog) w 26 24 i0 (.agg #[.int .i64 0, .int .i64 0, .int .i64 0, .string ⟨#[]⟩, .int .i64 0]) Try.underlying26 hi hz0 .i64 .i64 (n : Int) (n : Int) (by omega) (by omega) (by rw [hz1]; omega) (by rw [hz2]; omega) (by omega)
  have e1 : (n : Int).toNat = n := by omega
  rw [e1, hz1] at this
  exact this
/-- strings, joined -/
theorem join_any {w : World} {v : Value} {l : List ByteArray} (h : SLie w v l) (hb : (allD l).length ≤ 140737488355328) (hn : l.length ≤ 140737488355328) : Calls Try.prog 25 #[v, .string ByteArray.empty] w fun e w' => e = .returned (.string (st (allD l))) ∧ Below w.heap.size w w' := by
  obtain ⟨ao, cap, rfl, hlc, hcm, hcell⟩ := h
  cases l with
  | nil => exact (Try.strings_Join_none ao cap ByteArray.empty w).mono fun e w' ⟨he, hw⟩ => ⟨he, hw ▸ Below.refl _ _⟩
  | cons x r =>
    obtain ⟨gb, off, rfl, hg, _⟩ := hcell 0 (by simp)
    have e0 : (ByteArray.empty).data.toList = [] := rfl
    have hc : ∀ (j : Nat) y, (x :: r)[j]? = some y → w.cell? ⟨gb, off + j, none⟩ = some (.string y) := by
      intro j y hy
      obtain ⟨hj, e⟩ := List.getElem?_eq_some_iff.1 hy
      obtain ⟨gb', off', e1, _, c⟩ := hcell j hj
      cases e1
      rw [← e]; exact c
    have := Try.strings_Join gb off cap (x :: r) ByteArray.empty w hc hg hn hlc (by rw [e0, join_all]; exact hb)
    rw [e0, join_all] at this
    exact this
/-- the blocks of one chunk -/
def part (l : List ByteArray) (i : Nat) : List ByteArray := (l.drop (i * 8)).take 8
theorem part_len (l : List ByteArray) (i : Nat) : (part l i).length = min 8 (l.length - i * 8) := by unfold part; simp
theorem part_get (l : List ByteArray) (i j : Nat) (h : j < (part l i).length) (h' : i * 8 + j < l.length) : (part l i)[j] = l[i * 8 + j] := by
  simp only [part, List.getElem_take, List.getElem_drop]
set_option maxRecDepth 100000 in
theorem cut_any {w : World} {v : Value} {l : List ByteArray} (h : SLie w v l) (i : Nat) (hi : i * 8 < l.length) (hl : l.length ≤ 1024) : Calls Try.prog 27 #[v, .int .i64 i] w fun e w' => ∃ v', e = .returned v' ∧ SLie w v' (part l i) ∧ w' = w := by
  obtain ⟨ao, cap, rfl, hlc, hcm, hcell⟩ := h
  obtain ⟨gb, off, rfl, hg, _⟩ := hcell 0 (by omega)
  have HC := hid hcell
  have hp := part_len l i
  obtain ⟨P, hP⟩ : ∃ P, P = (part l i).length := ⟨_, rfl⟩
  have HP := hid hP
  have hsz : siz (l.length : Int) (i : Int) = (P : Int) := by rw [hP, hp]; unfold siz; omega
  have HSZ := hid (fun w => size_any (l.length : Int) (i : Int) (by omega) (by omega) (by omega) (by omega) w)
  rw [hsz] at HSZ
  have hPb : i * 8 + P ≤ l.length := by omega
  have hP0 : 0 < P := by omega
  have hP1 : ¬ P = 0 := by omega
  have hP2 : ¬ i * 8 + P = i * 8 := by omega
  obtain ⟨n, hn⟩ : ∃ n, n = l.length := ⟨_, rfl⟩
  rw [← hn] at hPb HSZ hlc hl hi ⊢
  have HN := hid hn
  unfold maxLen at hcm
  clear hcell hp hP hsz hn
  go_enter Try.func27, Try.ntmps27
  go_wp2_with (go_at_call 30; refine (HSZ.out _).mono ?_; rintro e w1 ⟨rfl, hw⟩; have hw := hw.symm; subst hw)
  simp only [Nat.add_sub_cancel_left]
  go_ret
  refine ⟨.slice (some ⟨gb, off + i * 8, none⟩) P P, rfl, ⟨some ⟨gb, off + i * 8, none⟩, P, by rw [← HP.out], by rw [← HP.out]; omega, by unfold maxLen; omega, fun j hj => ⟨gb, off + i * 8, rfl, hg, ?_⟩⟩, rfl⟩
  rw [← HP.out] at hj
  obtain ⟨gb', off', e1, _, c⟩ := HC.out (i * 8 + j) (by rw [← HN.out]; omega)
  cases e1
  rw [part_get l i j (by rw [← HP.out]; exact hj) (by rw [← HN.out]; omega), ← c, Nat.add_assoc]
end Go.Proofs.Ytogiiefaakejlaa
