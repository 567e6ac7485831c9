import Derived.Test.YtopebghandojbaaGreatRows
import Derived.Test.YtopebghandojbaaGreatSl
import Derived.Maps.Own
import Derived.Maps.OwnOps
import Derived.Maps.OwnSet
import Derived.Maps.Views
import Derived.Maps.Ext
import Derived.Maps.RangeWalk
import Derived.Lib.SlMapMerge
import Derived.WalkKit
import Derived.ProofKit
import Derived.WalkSpells
import Derived.WalkSmall
import Derived.OneCell
import Derived.Below
import Derived.Deep.Draws
import Derived.Deep.QuietTactic
import Derived.BigQuiet
import Derived.Lib.Strings
namespace Go.Proofs.YtopebghandojbaaGreat
open Go.RowKit Go.Maps

theorem _root_.Go.RowKit.Below.next {w w1 w2 : World} (a : Below w.heap.size w w1) (b : Below w1.heap.size w1 w2) : Below w.heap.size w w2 := a.trans (b.mono a.size)
structure Only (fp : List Nat) (w w' : World) : Prop where
  os : w'.os = w.os
  tape : w'.tape = w.tape
  output : w'.output = w.output
  size : w.heap.size ≤ w'.heap.size
  block : ∀ k, k < w.heap.size → k ∉ fp → w'.heap[k]? = w.heap[k]?
theorem Only.refl (fp : List Nat) (w : World) : Only fp w w := ⟨rfl, rfl, rfl, Nat.le_refl _, fun _ _ _ => rfl⟩
theorem Only.of_below {fp : List Nat} {w w' : World} (h : Below w.heap.size w w') : Only fp w w' := ⟨h.os, h.tape, h.output, h.size, fun k hk _ => h.block k hk⟩
theorem Only.of_grown {fp : List Nat} {w w' : World} {b : Nat} (h : w.grownBy w' (some b)) (hb : b ∈ fp) : Only fp w w' := ⟨h.os, h.tape, h.output, h.size, fun k hk hn => h.block k hk (fun e => hn (by have := Option.some.inj e; subst this; exact hb))⟩
theorem Only.trans {fp : List Nat} {w w1 w2 : World} (h : Only fp w w1) (k : Only fp w1 w2) : Only fp w w2 :=
  ⟨k.os.trans h.os, k.tape.trans h.tape, k.output.trans h.output, Nat.le_trans h.size k.size, fun i hi hn => (k.block i (Nat.lt_of_lt_of_le hi h.size) hn).trans (h.block i hi hn)⟩
theorem Only.below {fp : List Nat} {w w' : World} {B : Nat} (h : Only fp w w') (hB : B ≤ w.heap.size) (hf : ∀ x ∈ fp, B ≤ x) : Below B w w' :=
  ⟨h.os, h.tape, h.output, h.size, fun k hk => h.block k (by omega) (fun hm => by have := hf k hm; omega)⟩
theorem Only.setCell {fp : List Nat} {w : World} {a : Addr} (v : Value) (ha : a.block ∈ fp) : Only fp w (w.setCell a v) :=
  ⟨rfl, rfl, rfl, by simp [World.setCell], fun k _ hn => Below.heap_setCell _ _ _ _ (fun e => hn (by rw [e]; exact ha))⟩
theorem Only.drew {fp : List Nat} {w w' : World} (h : Only fp w w') : Only fp w w'.drew := ⟨h.os, h.tape, h.output, h.size, h.block⟩
theorem Only.drewN {fp : List Nat} {w w' : World} (h : Only fp w w') (n : Nat) : Only fp w (w'.drewN n) := ⟨h.os, h.tape, h.output, h.size, h.block⟩
theorem three_cells {w : World} {g : Nat} {a b c : Value} {t : TypeId} (hh : w.heap[g]? = some (.cells #[a, b, c] t (0, 0))) : w.cell? ⟨g, 0, none⟩ = some a ∧ w.cell? ⟨g, 1, none⟩ = some b ∧ w.cell? ⟨g, 2, none⟩ = some c := by
  refine ⟨?_, ?_, ?_⟩ <;> simp [World.cell?, hh]
theorem frees {w : World} {g : Nat} {cs : Array Value} {t : TypeId} (hh : w.heap[g]? = some (.cells cs t (0, 0))) (i : Nat) : w.frozen? ⟨g, i, none⟩ = false := by simp [World.frozen?, hh]
theorem box_at (w : World) (o : Obj) : (w.alloc o).heap[w.heap.size]? = some o := by show (w.heap.push o)[w.heap.size]? = _; simp
/-- a change: its block, and what it becomes -/
structure Chg where
  b : Int
  d : ByteArray
instance : Inhabited Chg := ⟨⟨0, ByteArray.empty⟩⟩
def encC (c : Chg) : List Value := [.int .i64 c.b, .string c.d]
def valC (c : Chg) : Value := .agg #[.int .i64 c.b, .string c.d]
def inI (n : Int) : Prop := -9223372036854775808 ≤ n ∧ n ≤ 9223372036854775807
/-- a slice that reads as changes -/
def CLie (w : World) (v : Value) (l : List Chg) : Prop :=
  ∃ ao cap, v = .slice ao l.length cap ∧ l.length ≤ cap ∧ cap ≤ maxLen ∧ ∀ i (hi : i < l.length), ∃ gb off, ao = some ⟨gb, off, none⟩ ∧ gb < w.heap.size ∧ w.cell? ⟨gb, off + i * 2, none⟩ = some (.int .i64 l[i].b) ∧ w.cell? ⟨gb, off + i * 2 + 1, none⟩ = some (.string l[i].d)
theorem CLie.below {w w' : World} {v : Value} {l : List Chg} (h : CLie w v l) (k : Below w.heap.size w w') : CLie w' v l := by
  obtain ⟨ao, cap, e, h1, h2, h3⟩ := h
  refine ⟨ao, cap, e, h1, h2, fun i hi => ?_⟩
  obtain ⟨gb, off, e1, hg, c0, c1⟩ := h3 i hi
  exact ⟨gb, off, e1, Nat.lt_of_lt_of_le hg k.size, (k.cell (p := ⟨gb, off + i * 2, none⟩) hg).trans c0, (k.cell (p := ⟨gb, off + i * 2 + 1, none⟩) hg).trans c1⟩
/-- rising from behind a block, each of a block's size -/
def rises (last : Int) : List Chg → Bool
  | [] => true
  | c :: l => decide (last < c.b) && (decide (c.b < 1024) && (decide (c.d.size = 128) && rises c.b l))
/-- right changes -/
def right (l : List Chg) : Bool := decide (l.length ≤ 48) && rises (-1) l
theorem drop_at {α : Type} (l : List α) (q : Nat) (h : q < l.length) : l.drop q = l[q] :: l.drop (q + 1) := List.drop_eq_getElem_cons h
theorem follows_any (a b : Int) (w : World) : Calls Tryz.prog 110 #[.int .i64 a, .int .i64 b] w fun e w' => e = .returned (.bool (decide (a < b) && decide (b < 1024))) ∧ w' = w := by
  by_cases h1 : a < b
  · go_enter Tryz.func110, Tryz.ntmps110
    go_wp2
    go_ret
    exact ⟨by simp [h1], rfl⟩
  · go_enter Tryz.func110, Tryz.ntmps110
    go_wp2
    go_ret
    exact ⟨by have : ¬ a < b := by omega
              simp [this], rfl⟩
set_option maxRecDepth 100000 in
set_option maxHeartbeats 2000000 in
theorem check_any (v : Value) (l : List Chg) (w : World) (h : CLie w v l) : Calls Tryz.prog 63 #[v] w fun e w' => e = .returned (.int .i64 (if right l then 0 else 70)) ∧ Below w.heap.size w w' := by
  obtain ⟨ao, cap, rfl, hlc, hcm, hcell⟩ := h
  have HC := hid hcell
  clear hcell
  unfold maxLen at hcm
  by_cases h48 : l.length ≤ 48
  · have HR : Hid (right l = rises (-1) l) := by show _ = _; unfold right; simp [h48]
    obtain ⟨A, hA⟩ : ∃ A : Int, A = if right l then 0 else 70 := ⟨_, rfl⟩
    rw [← hA]
    rw [HR.out] at hA
    have HA := hid hA
    clear hA
    go_enter Tryz.func63, Tryz.ntmps63
    go_wp2
    go_loopw [3, 11] (fun la i wr => ∃ (q : Nat) (last : Int), i = .int .i64 q ∧ q ≤ l.length ∧ la = .int .i64 last ∧ rises (-1) l = rises last (l.drop q) ∧ Below w.heap.size w wr) (fun _ i _ => l.length - (intOf i).toNat)
    case atStart => exact ⟨0, -1, rfl, Nat.zero_le _, rfl, rfl, Below.refl _ _⟩
    case round =>
      obtain ⟨q, last, rfl, hq, rfl, hr, hB⟩ := hrel
      have HB := hid hB
      have HRR := hid hr
      clear hr hB
      by_cases hqk : q < l.length
      · obtain ⟨gb, off, e, hgl, c0, c1⟩ := HC.out q hqk
        subst e
        have HD := hid (drop_at l q hqk)
        obtain ⟨c, hc⟩ : ∃ c, c = l[q] := ⟨_, rfl⟩
        rw [← hc] at c0 c1 HD
        clear hc
        replace c0 := (HB.out.cell (p := ⟨gb, off + q * 2, none⟩) hgl).trans c0
        replace c1 := (HB.out.cell (p := ⟨gb, off + q * 2 + 1, none⟩) hgl).trans c1
        have hgr : gb < wr.heap.size := Nat.lt_of_lt_of_le hgl HB.out.size
        have HN : Hid (rises (-1) l = (decide (last < c.b) && (decide (c.b < 1024) && (decide (c.d.size = 128) && rises c.b (l.drop (q + 1)))))) := by
          show _ = _
          rw [HRR.out, HD.out]; rfl
        have HF := hid (follows_any last c.b)
        obtain ⟨f, hf⟩ : ∃ f, f = (decide (last < c.b) && decide (c.b < 1024)) := ⟨_, rfl⟩
        rw [← hf] at HF
        have HFF := hid hf
        clear hf
        cases f with
        | false =>
          go_wp2_with (first | (go_at_call 110; refine (HF.out _).mono ?_; rintro e w1 ⟨rfl, hw⟩; have hw := hw.symm; subst hw))
          go_ret
          refine ⟨?_, HB.out.next (below_alloc _ _)⟩
          have hz : rises (-1) l = false := by
            rw [HN.out]
            have := HFF.out
            cases h1 : decide (last < c.b)
            · rfl
            · cases h2 : decide (c.b < 1024)
              · rfl
              · rw [h1, h2] at this; cases this
          rw [HA.out, hz]; rfl
        | true =>
          by_cases hd : c.d.size = 128
          · go_wp2_with (first | (go_at_call 110; refine (HF.out _).mono ?_; rintro e w1 ⟨rfl, hw⟩; have hw := hw.symm; subst hw))
            go_roundw
            case rel =>
              refine ⟨q + 1, c.b, by go_num, by omega, rfl, ?_, HB.out.next (below_alloc _ _)⟩
              rw [HN.out]
              have := HFF.out
              cases h1 : decide (last < c.b)
              · rw [h1] at this; cases this
              · cases h2 : decide (c.b < 1024)
                · rw [h1, h2] at this; cases this
                · simp [hd]
            case measure => simp [intOf]; omega
          · go_wp2_with (first | (go_at_call 110; refine (HF.out _).mono ?_; rintro e w1 ⟨rfl, hw⟩; have hw := hw.symm; subst hw))
            go_ret
            refine ⟨?_, HB.out.next (below_alloc _ _)⟩
            have hz : rises (-1) l = false := by
              rw [HN.out]
              simp [hd]
            rw [HA.out, hz]; rfl
      · have hqe : q = l.length := by omega
        subst hqe
        go_wp2
        go_ret
        refine ⟨?_, HB.out⟩
        rw [HA.out, HRR.out, List.drop_length]; rfl
  · have HR : Hid (right l = false) := by show _ = _; unfold right; simp [h48]
    rw [HR.out]
    go_enter Tryz.func63, Tryz.ntmps63
    go_wp2
    go_ret
    exact ⟨rfl, Below.refl _ _⟩
end Go.Proofs.YtopebghandojbaaGreat
namespace Go.Proofs.YtopebghandojbaaGreat
open Go.RowKit Go.Maps
set_option maxRecDepth 100000 in
set_option maxHeartbeats 2000000 in
theorem right_any (v : Value) (l : List Chg) (w : World) (h : CLie w v l) : Calls Tryz.prog 33 #[v] w fun e w' => e = .returned (.bool (right l)) ∧ Below w.heap.size w w' := by
  obtain ⟨ao, cap, rfl, hlc, hcm, hcell⟩ := h
  have HC := hid hcell
  clear hcell
  unfold maxLen at hcm
  by_cases h48 : l.length ≤ 48
  · have HR : Hid (right l = rises (-1) l) := by show _ = _; unfold right; simp [h48]
    obtain ⟨A, hA⟩ : ∃ A : Bool, A = right l := ⟨_, rfl⟩
    rw [← hA]
    rw [HR.out] at hA
    have HA := hid hA
    clear hA
    go_enter Tryz.func33, Tryz.ntmps33
    go_wp2
    go_loopw [3, 11] (fun la i wr => ∃ (q : Nat) (last : Int), i = .int .i64 q ∧ q ≤ l.length ∧ la = .int .i64 last ∧ rises (-1) l = rises last (l.drop q) ∧ Below w.heap.size w wr) (fun _ i _ => l.length - (intOf i).toNat)
    case atStart => exact ⟨0, -1, rfl, Nat.zero_le _, rfl, rfl, Below.refl _ _⟩
    case round =>
      obtain ⟨q, last, rfl, hq, rfl, hr, hB⟩ := hrel
      have HB := hid hB
      have HRR := hid hr
      clear hr hB
      by_cases hqk : q < l.length
      · obtain ⟨gb, off, e, hgl, c0, c1⟩ := HC.out q hqk
        subst e
        have HD := hid (drop_at l q hqk)
        obtain ⟨c, hc⟩ : ∃ c, c = l[q] := ⟨_, rfl⟩
        rw [← hc] at c0 c1 HD
        clear hc
        replace c0 := (HB.out.cell (p := ⟨gb, off + q * 2, none⟩) hgl).trans c0
        replace c1 := (HB.out.cell (p := ⟨gb, off + q * 2 + 1, none⟩) hgl).trans c1
        have hgr : gb < wr.heap.size := Nat.lt_of_lt_of_le hgl HB.out.size
        have HN : Hid (rises (-1) l = (decide (last < c.b) && (decide (c.b < 1024) && (decide (c.d.size = 128) && rises c.b (l.drop (q + 1)))))) := by
          show _ = _
          rw [HRR.out, HD.out]; rfl
        by_cases h1 : last < c.b
        · by_cases h2 : c.b < 1024
          · by_cases hd : c.d.size = 128
            · go_wp2
              go_roundw
              case rel =>
                refine ⟨q + 1, c.b, by go_num, by omega, rfl, ?_, HB.out.next (below_alloc _ _)⟩
                rw [HN.out]
                simp [h1, h2, hd]
              case measure => simp [intOf]; omega
            · have hdb : (((c.d.size : Nat) : Int) != 128) = true := by simp; omega
              go_wp2
              go_ret
              exact ⟨by rw [HA.out, HN.out]; simp [hd], HB.out.next (below_alloc _ _)⟩
          · go_wp2
            go_ret
            exact ⟨by rw [HA.out, HN.out]; have : ¬ c.b < 1024 := by omega
                      simp [this], HB.out.next (below_alloc _ _)⟩
        · go_wp2
          go_ret
          exact ⟨by rw [HA.out, HN.out]; have : ¬ last < c.b := by omega
                    simp [this], HB.out.next (below_alloc _ _)⟩
      · have hqe : q = l.length := by omega
        subst hqe
        go_wp2
        go_ret
        refine ⟨?_, HB.out⟩
        rw [HA.out, HRR.out, List.drop_length]; rfl
  · have HR : Hid (right l = false) := by show _ = _; unfold right; simp [h48]
    rw [HR.out]
    go_enter Tryz.func33, Tryz.ntmps33
    go_wp2
    go_ret
    exact ⟨rfl, Below.refl _ _⟩
theorem _root_.Go.RowKit.Below.dN {B : Nat} {w w' : World} (h : Below B w w') (n : Nat) : Below B w (w'.drewN n) := ⟨h.os, h.tape, h.output, h.size, h.block⟩
end Go.Proofs.YtopebghandojbaaGreat
namespace Go.Proofs.YtopebghandojbaaGreat
open Go.RowKit Go.Maps

/-- a block of bytes, as cells -/
def CIs (g : Nat) (w : World) (l : List UInt8) : Prop := w.heap[g]? = some (.cells (bc l).toArray 5 (0, 0))
theorem CIs.get {g : Nat} {w : World} {l : List UInt8} (h : CIs g w l) (j : Nat) (hj : j < l.length) : w.cell? ⟨g, j, none⟩ = some (.int .u8 ((l[j]).toNat : Int)) := by
  unfold CIs at h
  simp [World.cell?, h, bc, hj]
theorem CIs.free {g : Nat} {w : World} {l : List UInt8} (h : CIs g w l) (j : Nat) : w.frozen? ⟨g, j, none⟩ = false := by
  unfold CIs at h
  simp [World.frozen?, h]
theorem CIs.set {g : Nat} {w : World} {l : List UInt8} (h : CIs g w l) (j : Nat) (b : UInt8) (x : Int) (hx : x = (b.toNat : Int)) : CIs g (w.setCell ⟨g, j, none⟩ (.int .u8 x)) (l.set j b) := by
  unfold CIs at *
  have hlt := lt_of_block h
  have h' : w.heap[g] = .cells (bc l).toArray 5 (0, 0) := by simpa [Array.getElem?_eq_getElem hlt] using h
  subst hx
  show (w.heap.modify g _)[g]? = _
  rw [Array.getElem?_eq_getElem (by simpa using hlt), Array.getElem_modify_self, h']
  simp [bc, List.map_set]
theorem CIs.conv {g : Nat} {w : World} {l : List UInt8} (h : CIs g w l) (cap : Nat) : (convert 164 9 (.slice (some ⟨g, 0, none⟩) l.length cap)).run Tryz.prog w = .ok (.string (st l)) w := by
  rw [← strOf_bytes]
  refine run_convert_bytes_arg w 164 5 Tryz.underlying164 Tryz.underlying5 g 0 l.length cap _ (by simp) (fun i hi => ?_) 9 Tryz.underlying9
  have hi' : i < l.length := by simpa using hi
  rw [Nat.zero_add, h.get i hi']
  simp [List.getElem?_eq_getElem hi']
theorem made128 : madeCells (Value.int .u8 0).cells 128 = (bc (List.replicate 128 0)).toArray := by kernel_rfl
theorem mk128 (w : World) : (Instr.makeSlice 164 (.int .i64 128) (.int .i64 128)).run Tryz.prog w = .ok (.slice (some ⟨w.heap.size, 0, none⟩) 128 128) (w.alloc (.cells (bc (List.replicate 128 0)).toArray 5)) := by
  obtain ⟨i0, hi, hz0, hz1, hz2⟩ := info_parts Tryz.info5
  have := run_makeSlice (P := Tryz.prog) w 164 5 i0 (.int .u8 0) Tryz.underlying164 hi hz0 .i64 .i64 128 128 (by decide) (by decide) (by rw [hz1]; decide) (by rw [hz2]; decide) (by decide)
  rw [hz1] at this
  have e : (128 : Int).toNat * 1 = 128 := rfl
  rw [e, made128] at this
  exact this
theorem CIs.made (w : World) (l : List UInt8) : CIs w.heap.size (w.alloc (.cells (bc l).toArray 5)) l := by
  show (w.heap.push _)[w.heap.size]? = _
  simp
/-- a block of one byte -/
def B (c : UInt8) : ByteArray := st (List.replicate 128 c)
theorem rep_set (c : UInt8) (j : Nat) (h : j < 128) : (List.replicate j c ++ List.replicate (128 - j) 0).set j c = List.replicate (j + 1) c ++ List.replicate (128 - (j + 1)) 0 := by
  rw [List.set_append_right _ _ (by simp)]
  simp only [List.length_replicate, Nat.sub_self]
  rw [show 128 - j = (128 - (j + 1)) + 1 by omega, List.replicate_succ, List.set_cons_zero, List.replicate_succ', List.append_assoc]
  rfl
end Go.Proofs.YtopebghandojbaaGreat
