import Derived.Test.YtopebghandojbaaGreatCrc
import Derived.Test.YtopebghandojbaaGreatRows
import Derived.Lib.AppendStr
import Derived.OneCell
import Derived.Below
import Derived.Deep.Draws
import Derived.WalkKit
import Derived.ProofKit
import Derived.WalkSpells
import Derived.WalkSmall
import Derived.Deep.QuietTactic
import Derived.BigQuiet
import Derived.Laws.BytesArg
import Derived.Deep.RegionWith
import Derived.Deep.RegionLaw
import Derived.Lib.Strings
import Derived.Laws.BitsAllLaws
namespace Go.Proofs.YtopebghandojbaaGreat
open Go.RowKit

/-- bytes as cells, as a string -/
def bc (bs : List UInt8) : List Value := bs.map fun b => Value.int .u8 (b.toNat : Int)
def st (bs : List UInt8) : ByteArray := ⟨bs.toArray⟩
theorem bc_append (a b : List UInt8) : bc (a ++ b) = bc a ++ bc b := by simp [bc]
theorem st_toList (s : ByteArray) : st s.data.toList = s := by simp [st]
theorem st_list (bs : List UInt8) : (st bs).data.toList = bs := by simp [st]
theorem st_size (bs : List UInt8) : (st bs).size = bs.length := by simp [st, ByteArray.size]
/-- outside block g, below block base, the world is as it was -/
structure Kept (base g : Nat) (w w' : World) : Prop where
  os : w'.os = w.os
  tape : w'.tape = w.tape
  output : w'.output = w.output
  size : w.heap.size ≤ w'.heap.size
  block : ∀ k, k < base → k ≠ g → w'.heap[k]? = w.heap[k]?
theorem Kept.refl (base g : Nat) (w : World) : Kept base g w w := ⟨rfl, rfl, rfl, Nat.le_refl _, fun _ _ _ => rfl⟩
theorem Kept.trans {base g : Nat} {a b c : World} (h : Kept base g a b) (k : Kept base g b c) : Kept base g a c :=
  ⟨k.os.trans h.os, k.tape.trans h.tape, k.output.trans h.output, Nat.le_trans h.size k.size, fun i hi hg => (k.block i hi hg).trans (h.block i hi hg)⟩
theorem Kept.mono {base base' g : Nat} {w w' : World} (h : Kept base g w w') (hb : base' ≤ base) : Kept base' g w w' := ⟨h.os, h.tape, h.output, h.size, fun k hk hg => h.block k (by omega) hg⟩
theorem Kept.below {base g B : Nat} {w w' : World} (h : Kept base g w w') (h1 : B ≤ base) (h2 : B ≤ g) : Below B w w' :=
  ⟨h.os, h.tape, h.output, h.size, fun k hk => h.block k (by omega) (by omega)⟩
theorem Kept.of_below {base g : Nat} {w w' : World} (h : Below base w w') : Kept base g w w' := ⟨h.os, h.tape, h.output, h.size, fun k hk _ => h.block k hk⟩
theorem Kept.drewN {base g : Nat} {w w' : World} (h : Kept base g w w') (n : Nat) : Kept base g w (w'.drewN n) := ⟨h.os, h.tape, h.output, h.size, h.block⟩
theorem Kept.setCell {base g : Nat} {w w' : World} (h : Kept base g w w') (o : Nat) (v : Value) : Kept base g w (w'.setCell ⟨g, o, none⟩ v) :=
  ⟨h.os, h.tape, h.output, by simpa [World.setCell] using h.size, fun k hk hg => (Below.heap_setCell _ _ _ _ hg).trans (h.block k hk hg)⟩
/-- a writer, behind the pointer to block g: what it has written -/
def WIs (base g : Nat) (w : World) (bs : List UInt8) : Prop := ∃ v, w.heap[g]? = some (.cells #[v] 201 (0, 0)) ∧ w.ownsRow base 5 1 v bs.length (bc bs)
/-- a reader, behind the pointer to block g: what is left, and what is wrong -/
def RIs (g : Nat) (w : World) (s : ByteArray) (e : Int) : Prop := w.heap[g]? = some (.cells #[.string s, .int .i64 e] 206 (0, 0))
theorem RIs.kept {g base g' : Nat} {w w' : World} {s : ByteArray} {e : Int} (h : RIs g w s e) (k : Kept base g' w w') (hb : g < base) (hg : g ≠ g') : RIs g w' s e :=
  (k.block g hb hg).trans h
theorem ownBlock_ne {w : World} {base g : Nat} {v u : Value} {n : Nat} {xs : List Value} (hr : w.ownsRow base 5 1 v n xs) (hg : w.heap[g]? = some (.cells #[u] 201 (0, 0))) : v.ownBlock ≠ some g := by
  obtain ⟨_, h | ⟨b, cap, cur, rfl, _, hb, _⟩⟩ := hr
  · rw [h.1]; intro h; cases h
  · intro h
    cases h
    rw [hg] at hb
    simp at hb
theorem WIs.kept {base g base' g' : Nat} {w w' : World} {bs : List UInt8} (h : WIs base g w bs) (k : Kept base' g' w w') (hb : w.heap.size ≤ base') (hg : g ≠ g') (hr : ∀ v, w.heap[g]? = some (.cells #[v] 201 (0, 0)) → v.ownBlock ≠ some g') : WIs base g w' bs := by
  obtain ⟨v, h1, h2⟩ := h
  refine ⟨v, (k.block g (by have := lt_of_block h1; omega) hg).trans h1, ?_⟩
  have hh := h2
  have hlt := h2.lt
  obtain ⟨e1, e2 | ⟨b, cap, cur, rfl, e3, e4, e5⟩⟩ := h2
  · exact ⟨e1, .inl e2⟩
  · refine ⟨e1, .inr ⟨b, cap, cur, rfl, e3, ?_, e5⟩⟩
    have hb2 := (hlt b rfl).2
    exact (k.block b (by omega) (fun e => hr _ h1 (by rw [← e]; rfl))).trans e4
theorem ret_int {k : IntKind} {a b : Int} (h : a = b) : Ending.returned (.int k a) = .returned (.int k b) := by rw [h]
theorem Tryz.info5 : (Tryz.prog.info? 5).map (fun i => (i.zero, i.size, i.bytes)) = some (some (.int .u8 0), 1, 1) := by kernel_rfl
/-- one byte more at the end of a row of the call's own -/
theorem push_byte {ops : Array Oper} {rest : List Oper} {o : Oper} {a : Act} {Q : Exit → Act → World → Prop} {w0 : World} (hgd : o.guard = none) (s x : Operand)
    (ho : o.op = .call { callee := .builtin .append, args := #[s, x], argTypes := #[164, 164] }) (base : Nat) (v : Value) (n : Nat) (bs : List UInt8) (z : Int) (b : UInt8) (hz : z = b.toNat)
    (hs : a.eval s = v) (hx : a.eval x = .slice (some ⟨w0.heap.size, 0, none⟩) 1 1) (hown : w0.ownsRow base 5 1 v n (bc bs)) (hn : n ≤ 100000000000) (hbase : base ≤ w0.heap.size)
    (h : ∀ r cap w', w'.ownsRow base 5 1 (.slice (some ⟨r, 0, none⟩) (n + 1) cap) (n + 1) (bc (bs ++ [b])) → Below base w0 w' → (∀ k, k < w0.heap.size → v.ownBlock ≠ some k → w'.heap[k]? = w0.heap[k]?) → wpList Tryz.prog ops Q rest (a.put o.dst (.slice (some ⟨r, 0, none⟩) (n + 1) cap)) w') :
    wpList Tryz.prog ops Q (o :: rest) a (w0.alloc (.cells #[.int .u8 z] 5)) := by
  obtain ⟨i0, hi, hz0, hz1, hz2⟩ := info_parts Tryz.info5
  subst hz
  refine wpList_append_own _ hgd s x 164 ho base 5 i0 (.int .u8 0) 1 1 Tryz.underlying164 hi hz0 hz1 hz2 rfl (by decide) v n (bc bs) hs (hown.alloc _) ⟨w0.heap.size, 0, none⟩ 1 1 [.int .u8 b.toNat] hx rfl ?_ ?_ ?_ ?_ ?_ ?_
  · intro j u hj
    match j, hj with
    | 0, hj => simp at hj; subst hj; simp [Addr.add]
  · intro u hu; simp at hu; subst hu; rfl
  · unfold maxLen; omega
  · omega
  · simp; omega
  · intro v' w' h1 h2 _
    obtain ⟨r, cap, rfl⟩ : ∃ r cap, v' = .slice (some ⟨r, 0, none⟩) (n + 1) cap := by
      obtain ⟨_, e | ⟨g, cap, cur, e, _⟩⟩ := h1
      · exact absurd e.2 (by omega)
      · exact ⟨g, cap, e⟩
    refine h r cap w' (by rw [bc_append]; exact h1) (((Below.refl base w0).alloc hbase _).grown h2 (by simp; omega) fun k hk => (hown.lt k hk).1) fun k hk hne => ?_
    exact (h2.block k (by simp; omega) (fun e => hne e.symm)).trans (Below.heap_alloc _ _ _ hk)
theorem new_any (w : World) : Calls Tryz.prog 86 #[] w fun e w' => e = .returned (.pointer (some ⟨w.heap.size, 0, none⟩)) ∧ w' = w.alloc (.cells #[.slice none 0 0] 201) := by
  go_enter Tryz.func86, Tryz.ntmps86
  go_wp2
  go_ret
  exact ⟨rfl, rfl⟩
theorem store_writer {base g : Nat} {w w1 : World} {v u : Value} {bs : List UInt8} (hg : w.heap[g]? = some (.cells #[v] 201 (0, 0))) (h1 : w1.heap[g]? = w.heap[g]?)
    (hown : w1.ownsRow base 5 1 u bs.length (bc bs)) : WIs base g (w1.setCell ⟨g, 0, none⟩ u) bs :=
  ⟨u, one_setCell (h1.trans hg), ownsRow_setCell_other hown (ownBlock_ne hown (h1.trans hg)) _⟩
theorem isSize_any (n : Int) (w : World) : Calls Tryz.prog 127 #[.int .i64 n] w fun e w' => e = .returned (.bool (decide (n = 1 ∨ n = 2 ∨ n = 4 ∨ n = 8))) ∧ w' = w := by
  by_cases h : n = 1 ∨ n = 2 ∨ n = 4 ∨ n = 8
  · rw [decide_eq_true h]
    rcases h with rfl | rfl | rfl | rfl
    all_goals
      go_enter Tryz.func127, Tryz.ntmps127
      go_wp2
      go_ret
      exact ⟨rfl, rfl⟩
  · rw [decide_eq_false h]
    have h1 : (n == 1) = false := by simp; omega
    have h2 : (n == 2) = false := by simp; omega
    have h3 : (n == 4) = false := by simp; omega
    have h4 : (n == 8) = false := by simp; omega
    clear h
    go_enter Tryz.func127, Tryz.ntmps127
    go_wp2
    go_ret
    exact ⟨rfl, rfl⟩
theorem strOf_bytes (bs : List UInt8) : strOfNums (bs.map fun b => (b.toNat : Int)) = st bs := by
  unfold strOfNums st; congr 1; simp [Function.comp_def]
theorem conv_own {base : Nat} {v : Value} {bs : List UInt8} {w : World} (h : w.ownsRow base 5 1 v bs.length (bc bs)) : (convert 164 9 v).run Tryz.prog w = .ok (.string (st bs)) w := by
  have hh := h
  obtain ⟨e1, ⟨rfl, e2⟩ | ⟨b, cap, cur, rfl, e3, e4, e5⟩⟩ := h
  · rw [run_convert_bytes_nil w 164 5 Tryz.underlying164 Tryz.underlying5 0 0 9 Tryz.underlying9]
    have : bs = [] := List.eq_nil_of_length_eq_zero e2
    subst this; rfl
  · rw [← strOf_bytes]
    refine run_convert_bytes_arg w 164 5 Tryz.underlying164 Tryz.underlying5 b 0 bs.length cap _ (by simp) (fun i hi => ?_) 9 Tryz.underlying9
    rw [Nat.zero_add, hh.cellAt i (by omega)]
    simp [bc, hi]
theorem out_w (base g : Nat) (bs : List UInt8) (w : World) (hw : WIs base g w bs) : Calls Tryz.prog 89 #[.pointer (some ⟨g, 0, none⟩)] w fun e w' => e = .returned (.string (st bs)) ∧ w' = w := by
  obtain ⟨v, hg, hown⟩ := hw
  have hcell := cell_of_one hg
  have hconv := conv_own hown
  clear hown hg
  go_enter Tryz.func89, Tryz.ntmps89
  go_wp2
  go_ret
  exact ⟨rfl, rfl⟩
theorem take_snoc (s : ByteArray) (k : Nat) (h : k < s.size) : s.data.toList.take (k + 1) = s.data.toList.take k ++ [s[k]] := by
  rw [List.take_succ_eq_append_getElem (by simpa using h)]; rfl
theorem RIs.c0 {g : Nat} {w : World} {s : ByteArray} {e : Int} (h : RIs g w s e) : w.cell? ⟨g, 0, none⟩ = some (.string s) := by unfold RIs at h; simp [World.cell?, h]
theorem RIs.c1 {g : Nat} {w : World} {s : ByteArray} {e : Int} (h : RIs g w s e) : w.cell? ⟨g, 1, none⟩ = some (.int .i64 e) := by unfold RIs at h; simp [World.cell?, h]
theorem RIs.fr {g : Nat} {w : World} {s : ByteArray} {e : Int} (h : RIs g w s e) (i : Nat) : w.frozen? ⟨g, i, none⟩ = false := by unfold RIs at h; simp [World.frozen?, h]
theorem RIs.lt {g : Nat} {w : World} {s : ByteArray} {e : Int} (h : RIs g w s e) : g < w.heap.size := lt_of_block h
theorem RIs.set0 {g : Nat} {w : World} {s s' : ByteArray} {e : Int} (h : RIs g w s e) : RIs g (w.setCell ⟨g, 0, none⟩ (.string s')) s' e := by
  unfold RIs at *; simp [World.setCell, Array.getElem?_modify, h]
theorem RIs.set1 {g : Nat} {w : World} {s : ByteArray} {e e' : Int} (h : RIs g w s e) : RIs g (w.setCell ⟨g, 1, none⟩ (.int .i64 e')) s e' := by
  unfold RIs at *; simp [World.setCell, Array.getElem?_modify, h]
theorem of_any (s : ByteArray) (w : World) : Calls Tryz.prog 96 #[.string s] w fun e w' => e = .returned (.pointer (some ⟨w.heap.size, 0, none⟩)) ∧ w' = w.alloc (.cells #[.string s, .int .i64 0] 206) := by
  go_enter Tryz.func96, Tryz.ntmps96
  go_wp2
  go_ret
  exact ⟨rfl, rfl⟩
theorem RIs.new (s : ByteArray) (w : World) : RIs w.heap.size (w.alloc (.cells #[.string s, .int .i64 0] 206)) s 0 := by
  unfold RIs; show (w.heap.push _)[w.heap.size]? = _; simp
theorem WIs.new (w : World) (base : Nat) : WIs base w.heap.size (w.alloc (.cells #[.slice none 0 0] 201)) [] :=
  ⟨.slice none 0 0, by show (w.heap.push _)[w.heap.size]? = _; simp, World.ownsRow_nil _ _ _ _⟩
theorem fault_r (g : Nat) (s : ByteArray) (e : Int) (w : World) (h : RIs g w s e) : Calls Tryz.prog 128 #[.pointer (some ⟨g, 0, none⟩)] w fun x w' => x = .returned (.int .i64 e) ∧ w' = w := by
  have h1 := h.c1
  go_enter Tryz.func128, Tryz.ntmps128
  go_wp2
  go_ret
  exact ⟨rfl, rfl⟩
theorem take_bad (g : Nat) (s : ByteArray) (e k er : Int) (w : World) (h : RIs g w s e) (he : er ≠ 0) : Calls Tryz.prog 129 #[.pointer (some ⟨g, 0, none⟩), .int .i64 k, .int .i64 er] w fun x w' => x = .returned (.int .i64 er) ∧ RIs g w' s er ∧ Kept w.heap.size g w w' := by
  have h1 := h.c1
  have hf := h.fr 1
  have he' : (er != 0) = true := by simp [he]
  have HE : Hid (er ≠ 0) := he
  clear he
  go_enter Tryz.func129, Tryz.ntmps129
  go_wp2
  go_ret
  exact ⟨rfl, h.set1, (Kept.refl _ _ _).setCell 1 _⟩
theorem take_ok (g : Nat) (s : ByteArray) (k : Nat) (hk : k ≤ s.size) (_hs : s.size ≤ maxLen) (w : World) (h : RIs g w s 0) : Calls Tryz.prog 129 #[.pointer (some ⟨g, 0, none⟩), .int .i64 k, .int .i64 0] w fun x w' => x = .returned (.int .i64 0) ∧ RIs g w' (s.extract k s.size) 0 ∧ Kept w.heap.size g w w' := by
  have h0 := h.c0
  have hf := h.fr 0
  go_enter Tryz.func129, Tryz.ntmps129
  go_wp2
  go_ret
  exact ⟨rfl, h.set0, (Kept.refl _ _ _).setCell 0 _⟩
theorem ext_size (s : ByteArray) (k : Nat) : (s.extract k s.size).size = s.size - k := by simp
theorem WIs.below {base g : Nat} {w w' : World} {bs : List UInt8} (h : WIs base g w bs) (k : Below w.heap.size w w') : WIs base g w' bs := by
  obtain ⟨v, h1, h2⟩ := h
  refine ⟨v, (k.block g (lt_of_block h1)).trans h1, ?_⟩
  have hlt := h2.lt
  obtain ⟨e1, e2 | ⟨b, cap, cur, rfl, e3, e4, e5⟩⟩ := h2
  · exact ⟨e1, .inl e2⟩
  · exact ⟨e1, .inr ⟨b, cap, cur, rfl, e3, (k.block b (hlt b rfl).2).trans e4, e5⟩⟩
theorem RIs.below {g : Nat} {w w' : World} {s : ByteArray} {e : Int} (h : RIs g w s e) (k : Below w.heap.size w w') : RIs g w' s e := (k.block g h.lt).trans h
theorem below_alloc (w : World) (o : Obj) : Below w.heap.size w (w.alloc o) := (Below.refl _ _).alloc (Nat.le_refl _) o
/-- is a size one? -/
def sized (n : Int) : Bool := decide (n = 1 ∨ n = 2 ∨ n = 4 ∨ n = 8)
theorem sized_of {n : Int} (h : sized n = true) : n = 1 ∨ n = 2 ∨ n = 4 ∨ n = 8 := of_decide_eq_true h
theorem isSize_is (n : Int) (w : World) : Calls Tryz.prog 127 #[.int .i64 n] w fun e w' => e = .returned (.bool (sized n)) ∧ w' = w := isSize_any n w
/-- is a number one of a size? -/
def fitsB (n size : Int) : Bool := decide (0 ≤ n) && sized size && (decide (size = 8) || decide (n < 256 ^ size.toNat))
theorem isFixed_any (n size : Int) (hn : -9223372036854775808 ≤ n ∧ n ≤ 9223372036854775807) (w : World) : Calls Tryz.prog 118 #[.int .i64 n, .int .i64 size] w fun e w' => e = .returned (.bool (fitsB n size)) ∧ w' = w := by
  cases hs : sized size with
  | false =>
    have hv : fitsB n size = false := by unfold fitsB; rw [hs]; simp
    rw [hv]
    clear hv
    go_enter Tryz.func118, Tryz.ntmps118
    go_wp2_with (first | (go_at_call 127; refine (isSize_is _ _).mono ?_; rintro x w' ⟨rfl, hw⟩; subst hw; rw [hs]))
    go_ret
    exact ⟨rfl, rfl⟩
  | true =>
    by_cases h0 : n < 0
    · have hv : fitsB n size = false := by unfold fitsB; rw [decide_eq_false (by omega)]; simp
      rw [hv]
      clear hv
      go_enter Tryz.func118, Tryz.ntmps118
      go_wp2_with (first | (go_at_call 127; refine (isSize_is _ _).mono ?_; rintro x w' ⟨rfl, hw⟩; subst hw; rw [hs]))
      go_ret
      exact ⟨rfl, rfl⟩
    · rcases sized_of hs with rfl | rfl | rfl | rfl
      · by_cases hb : n < 256
        · have hv : fitsB n 1 = true := by unfold fitsB; rw [hs]; simp; omega
          rw [hv]; clear hv
          go_enter Tryz.func118, Tryz.ntmps118
          go_wp2_with (first | (go_at_call 127; refine (isSize_is _ _).mono ?_; rintro x w' ⟨rfl, hw⟩; subst hw; rw [hs]))
          go_ret
          exact ⟨rfl, rfl⟩
        · have hv : fitsB n 1 = false := by unfold fitsB; rw [hs]; simp; omega
          have hd : decide (n < 256) = false := decide_eq_false hb
          rw [hv]; clear hv
          go_enter Tryz.func118, Tryz.ntmps118
          go_wp2_with (first | (go_at_call 127; refine (isSize_is _ _).mono ?_; rintro x w' ⟨rfl, hw⟩; subst hw; rw [hs]))
          go_ret
          exact ⟨rfl, rfl⟩
      · by_cases hb : n < 65536
        · have hv : fitsB n 2 = true := by unfold fitsB; rw [hs]; simp; omega
          rw [hv]; clear hv
          go_enter Tryz.func118, Tryz.ntmps118
          go_wp2_with (first | (go_at_call 127; refine (isSize_is _ _).mono ?_; rintro x w' ⟨rfl, hw⟩; subst hw; rw [hs]))
          go_ret
          exact ⟨rfl, rfl⟩
        · have hv : fitsB n 2 = false := by unfold fitsB; rw [hs]; simp; omega
          have hd : decide (n < 65536) = false := decide_eq_false hb
          rw [hv]; clear hv
          go_enter Tryz.func118, Tryz.ntmps118
          go_wp2_with (first | (go_at_call 127; refine (isSize_is _ _).mono ?_; rintro x w' ⟨rfl, hw⟩; subst hw; rw [hs]))
          go_ret
          exact ⟨rfl, rfl⟩
      · by_cases hb : n < 4294967296
        · have hv : fitsB n 4 = true := by unfold fitsB; rw [hs]; simp; omega
          rw [hv]; clear hv
          go_enter Tryz.func118, Tryz.ntmps118
          go_wp2_with (first | (go_at_call 127; refine (isSize_is _ _).mono ?_; rintro x w' ⟨rfl, hw⟩; subst hw; rw [hs]))
          go_ret
          exact ⟨rfl, rfl⟩
        · have hv : fitsB n 4 = false := by unfold fitsB; rw [hs]; simp; omega
          have hd : decide (n < 4294967296) = false := decide_eq_false hb
          rw [hv]; clear hv
          go_enter Tryz.func118, Tryz.ntmps118
          go_wp2_with (first | (go_at_call 127; refine (isSize_is _ _).mono ?_; rintro x w' ⟨rfl, hw⟩; subst hw; rw [hs]))
          go_ret
          exact ⟨rfl, rfl⟩
      · have hv : fitsB n 8 = true := by unfold fitsB; rw [hs]; simp; omega
        rw [hv]; clear hv
        go_enter Tryz.func118, Tryz.ntmps118
        go_wp2_with (first | (go_at_call 127; refine (isSize_is _ _).mono ?_; rintro x w' ⟨rfl, hw⟩; subst hw; rw [hs]))
        go_ret
        exact ⟨rfl, rfl⟩
/-- a number's bytes, the lowest first -/
def fEnc (n : Nat) : Nat → List UInt8
  | 0 => []
  | k + 1 => UInt8.ofNat (n % 256) :: fEnc (n / 256) k
theorem fEnc_len (k : Nat) : ∀ n, (fEnc n k).length = k := by
  induction k with
  | zero => intro n; rfl
  | succ k ih => intro n; simp [fEnc, ih]
set_option maxRecDepth 100000 in
set_option maxHeartbeats 1000000 in
theorem refFixed (n size : Nat) (hn : n ≤ 9223372036854775807) (hsz : size ≤ 8) (w : World) : Calls Tryz.prog 93 #[.int .i64 n, .int .i64 size] w fun e w' => e = .returned (.string (st (fEnc n size))) ∧ Below w.heap.size w w' := by
  go_enter Tryz.func93, Tryz.ntmps93
  go_wp2
  go_loopw [0, 5, 6] (fun x v i wr => ∃ (m j : Nat) (done : List UInt8), x = .int .i64 m ∧ i = .int .i64 j ∧ j ≤ size ∧ m ≤ 9223372036854775807 ∧ done.length = j ∧ fEnc n size = done ++ fEnc m (size - j) ∧ wr.ownsRow w.heap.size 5 1 v j (bc done) ∧ Below w.heap.size w wr) (fun _ _ i _ => size - (intOf i).toNat)
  case atStart => exact ⟨n, 0, [], rfl, rfl, Nat.zero_le _, hn, rfl, rfl, World.ownsRow_nil _ _ _ _, Below.refl _ _⟩
  case round =>
    obtain ⟨m, j, done, rfl, rfl, hj, hm, hdl, hd, hown, hbl⟩ := hrel
    have HD : Hid (fEnc n size = done ++ fEnc m (size - j)) := hd
    have HL : Hid (done.length = j) := hdl
    have hz := hbl.size
    clear hd hdl
    by_cases hlt : j < size
    · obtain ⟨b, hb⟩ : ∃ b, b = UInt8.ofNat (m % 256) := ⟨_, rfl⟩
      have HM : Hid ((m : Int) % 256 = (b.toNat : Int)) := by show _ = _; rw [hb, UInt8.toNat_ofNat']; omega
      have HE : Hid (fEnc n size = (done ++ [b]) ++ fEnc (m / 256) (size - (j + 1))) := by
        show _ = _
        rw [HD.out, show size - j = (size - (j + 1)) + 1 by omega, fEnc, hb]; simp
      clear hb HD
      go_wp2_with (at_builtin; refine push_byte rfl (.tmp 12) (.tmp 16) rfl w.heap.size _ j done _ b HM.out rfl rfl hown (by omega) hz ?_)
      intro r cap w1 hown' hbel hsame
      have hb2 := hbl.trans hbel
      clear hbel hsame hown hbl
      go_wp2
      go_roundw
      case rel => exact ⟨m / 256, j + 1, done ++ [b], by go_num, by go_num, by omega, by omega, by rw [List.length_append, HL.out]; rfl, HE.out, hown', hb2⟩
      case measure => simp [intOf]; omega
    · have HE : Hid (fEnc n size = done) := by show _ = _; rw [HD.out, show size - j = 0 by omega, fEnc, List.append_nil]
      have hcv := conv_own (bs := done) (by rw [HL.out]; exact hown)
      clear HD
      go_wp2
      go_ret
      exact ⟨by rw [HE.out]; rfl, hbl⟩
end Go.Proofs.YtopebghandojbaaGreat
namespace Go.Proofs.YtopebghandojbaaGreat
open Go.RowKit

/-- one byte more at the end of a row of the call's own, as a step of a region that draws its order -/
theorem step_push {ops : Array Oper} {o : Oper} {a : Act} {w : World} {K : Act → World → Prop} {Q : Exit → Act → World → Prop} {E : Prop} (hg : o.guard = none) (s x : Operand)
    (hop : o.op = .call { callee := .builtin .append, args := #[s, x], argTypes := #[164, 164] }) (base : Nat) (v : Value) (n : Nat) (bs : List UInt8) (z : Int) (b : UInt8) (hz : z = b.toNat)
    (hs : a.eval s = v) (ad : Addr) (hx : a.eval x = .slice (some ad) 1 1) (hc : w.cell? ad = some (.int .u8 z)) (hspot : ad.spot = none) (hown : w.ownsRow base 5 1 v n (bc bs)) (hn : n ≤ 100000000000) (hbase : base ≤ w.heap.size)
    (h : ∀ r cap w', w'.ownsRow base 5 1 (.slice (some ⟨r, 0, none⟩) (n + 1) cap) (n + 1) (bc (bs ++ [b])) → Below base w w' → (∀ k, k < w.heap.size → v.ownBlock ≠ some k → w'.heap[k]? = w.heap[k]?) → K (a.put o.dst (.slice (some ⟨r, 0, none⟩) (n + 1) cap)) w') :
    if Region.wanted o (yielded ops a.tmps) = true then Oper.wp Tryz.prog o a w K Q else E := by
  have hw : Region.wanted o (yielded ops a.tmps) = true := by simp [Region.wanted, hg]
  rw [if_pos hw]
  obtain ⟨i0, hi, hz0, hz1, hz2⟩ := info_parts Tryz.info5
  subst hz
  refine wp_append_own w s x 164 hop base 5 i0 (.int .u8 0) 1 1 Tryz.underlying164 hi hz0 hz1 hz2 rfl (by decide) v n (bc bs) hs hown ad 1 1 [.int .u8 b.toNat] hx rfl ?_ ?_ ?_ ?_ hbase ?_
  · intro j u hj
    match j, hj with
    | 0, hj => simp at hj; subst hj; obtain ⟨bb, oo, sp⟩ := ad; simp at hspot; subst hspot; simpa [Addr.add] using hc
  · intro u hu; simp at hu; subst hu; rfl
  · unfold maxLen; omega
  · omega
  · intro v' w' h1 h2 _
    obtain ⟨r, cap, rfl⟩ : ∃ r cap, v' = .slice (some ⟨r, 0, none⟩) (n + 1) cap := by
      obtain ⟨_, e | ⟨g, cap, cur, e, _⟩⟩ := h1
      · exact absurd e.2 (by omega)
      · exact ⟨g, cap, e⟩
    exact h r cap w' (by rw [bc_append]; exact h1) ((Below.refl base w).grown h2 hbase fun k hk => (hown.lt k hk).1) fun k hk hne => h2.block k hk (fun e => hne e.symm)
theorem one_alloc (w : World) (x : Value) (t : TypeId) : (w.alloc (.cells #[x] t)).drew.cell? ⟨w.heap.size, 0, none⟩ = some x := by
  refine cell_of_one (t := t) ?_
  show (w.heap.push _)[w.heap.size]? = _
  simp
theorem fEnc_at (n : Nat) : ∀ (k j : Nat), j ≤ k → fEnc n k = fEnc n j ++ fEnc (n / 256 ^ j) (k - j) := by
  intro k j
  induction j generalizing n k with
  | zero => intro _; simp [fEnc]
  | succ j ih =>
    intro h
    obtain ⟨k, rfl⟩ : ∃ k', k = k' + 1 := ⟨k - 1, by omega⟩
    rw [fEnc, fEnc, List.cons_append, show k + 1 - (j + 1) = k - j by omega, Nat.pow_succ, Nat.mul_comm, ← Nat.div_div_eq_div_mul, ← ih (n / 256) k (by omega)]
set_option maxRecDepth 100000 in
set_option maxHeartbeats 2000000 in
theorem fixed_w (base g n size : Nat) (bs : List UInt8) (hn : n ≤ 9223372036854775807) (hsz : size ≤ 8) (hf : fitsB n size = true) (hlen : bs.length ≤ 10000000000) (w : World) (hw : WIs base g w bs) (hbase : base ≤ w.heap.size) :
    Calls Tryz.prog 87 #[.pointer (some ⟨g, 0, none⟩), .int .i64 n, .int .i64 size] w fun e w' => e = .returned (.int .i64 0) ∧ WIs base g w' (bs ++ fEnc n size) ∧ Kept base g w w' := by
  go_enter Tryz.func87, Tryz.ntmps87
  go_wp2_with (first | (go_at_call 118; refine (isFixed_any _ _ (by omega) _).mono ?_; rintro x wq ⟨rfl, hwq⟩; have hwq := hwq.symm; subst hwq; rw [hf]))
  go_loopw [15] (fun i wr => ∃ (j : Nat), i = .int .i64 j ∧ j ≤ size ∧ WIs base g wr (bs ++ fEnc n j) ∧ Kept base g w wr) (fun i _ => size - (intOf i).toNat)
  case atStart => exact ⟨0, rfl, Nat.zero_le _, by simpa [fEnc] using hw, Kept.refl _ _ _⟩
  case round =>
    obtain ⟨j, rfl, hj, hwi, hk⟩ := hrel
    obtain ⟨cur, hcur⟩ : ∃ cur, cur = bs ++ fEnc n j := ⟨_, rfl⟩
    have hcl : cur.length ≤ 100000000000 := by rw [hcur, List.length_append, fEnc_len]; omega
    rw [← hcur] at hwi
    have HC : Hid (cur = bs ++ fEnc n j) := hcur
    clear hcur
    obtain ⟨v, hg, hown⟩ := hwi
    have hcell := cell_of_one hg
    have hz := hk.size
    have hglt := lt_of_block hg
    have hne := ownBlock_ne hown hg
    by_cases hlt : j < size
    · obtain ⟨b, hb⟩ : ∃ b, b = UInt8.ofNat (n / 256 ^ j % 256) := ⟨_, rfl⟩
      have HE : Hid (bs ++ fEnc n (j + 1) = cur ++ [b]) := by
        show _ = _
        rw [fEnc_at n (j + 1) j (by omega), HC.out, hb, show j + 1 - j = 1 by omega, fEnc, fEnc, List.append_assoc]
      obtain ⟨q, hq⟩ : ∃ q, q = n / 256 ^ j := ⟨_, rfl⟩
      have hsh : ∀ w, (Op.shift BinOp.shr IntKind.i64 (n : Int) IntKind.i64 (IntKind.i64.wrap (8 * (j : Int)))).run Tryz.prog w = .ok (.int .i64 q) w := fun w => by
        rw [IntKind.wrap_i64, show (8 * (j : Int) + 9223372036854775808) % 18446744073709551616 - 9223372036854775808 = ((8 * j : Nat) : Int) by omega, shift_shr_any _ _ _ _ (by omega), Int.toNat_natCast]
        have hm : min (8 * j) IntKind.i64.bits = 8 * j := by show min (8 * j) 64 = 8 * j; omega
        rw [hm, hq, Int.pow_mul]
        simp
      have HB : Hid (IntKind.u8.wrap (q : Int) = (b.toNat : Int)) := by show _ = _; rw [hb, hq, UInt8.toNat_ofNat', IntKind.wrap_u8]; omega
      have HB1 : Hid (∀ o, base ≤ (wr.alloc o).drew.heap.size) := fun o => by show base ≤ (wr.heap.push o).size; rw [Array.size_push]; omega
      have HG2 : Hid (∀ o, g < (wr.alloc o).drew.heap.size) := fun o => by show g < (wr.heap.push o).size; rw [Array.size_push]; omega
      clear hb hq
      go_wp2
      go_region_law (refine step_push rfl (.tmp 22) (.tmp 28) rfl base v cur.length cur (IntKind.u8.wrap (q : Int)) b HB.out (by simp [Act.eval]) ⟨wr.heap.size, 0, none⟩ (by simp [Act.eval]) (one_alloc _ _ _) rfl (hown.alloc _) hcl (HB1.out _) ?_; intro r cap w1 hown' hbel hsame; have hg1 : w1.heap[g]? = wr.heap[g]? := (hsame g (HG2.out _) hne).trans (Below.heap_alloc _ _ _ hglt); have hcell1 := cell_of_one (hg1.trans hg); have hfree1 := free_of_one (hg1.trans hg))
      all_goals
        have hst := store_writer (bs := cur ++ [b]) hg hg1 (by rw [List.length_append]; exact hown')
        have hkk := (hk.trans (Kept.of_below (((((Below.refl base wr).alloc (by omega) _).drew).trans hbel)))).setCell 0 (.slice (some ⟨r, 0, none⟩) (cur.length + 1) cap)
        clear hown' hbel hown hcell hg hg1 hne hk
        go_wp2
        go_roundw
        case rel => exact ⟨j + 1, by go_num, by omega, by rw [HE.out]; exact hst, hkk⟩
        case measure => simp [intOf]; omega
    · have HE : Hid (bs ++ fEnc n size = cur) := by show _ = _; rw [HC.out, show j = size by omega]
      go_wp2
      go_ret
      exact ⟨rfl, by rw [HE.out]; exact ⟨v, hg, hown⟩, hk⟩
/-- the number that bytes are, 8 bits each -/
def fval : List UInt8 → Nat
  | [] => 0
  | c :: t => c.toNat + 256 * fval t
theorem fval_snoc (l : List UInt8) (c : UInt8) : fval (l ++ [c]) = fval l + c.toNat * 256 ^ l.length := by
  induction l with
  | nil => simp [fval]
  | cons a t ih => simp only [List.cons_append, fval, ih, List.length_cons, Nat.pow_succ, Nat.mul_add]; rw [Nat.add_assoc]; congr 2; rw [Nat.mul_left_comm, Nat.mul_comm 256]
theorem fval_lt (l : List UInt8) : fval l < 256 ^ l.length := by
  induction l with
  | nil => simp [fval]
  | cons a t ih =>
    simp only [fval, List.length_cons, Nat.pow_succ]
    have := a.toNat_lt
    omega
theorem toNat_ofInt64 (y : Nat) (z : Int) (hz : z % 18446744073709551616 = (y : Int)) : (BitVec.ofInt 64 z).toNat = y := by
  rw [BitVec.toNat_ofInt]
  have hc : ((2 ^ 64 : Nat) : Int) = 18446744073709551616 := by decide
  rw [hc, hz]; simp
theorem step_fix (x j c : Nat) (hx : x < 256 ^ j) (hj : j ≤ 7) (hc : c < 256) : bits .or .i64 (x : Int) (wrap64 ((c : Int) * 2 ^ (8 * j))) = wrap64 ((x + c * 256 ^ j : Nat) : Int) := by
  have e2 : (2 : Int) ^ (8 * j) = ((256 ^ j : Nat) : Int) := by rw [Int.pow_mul]; simp
  have h1 : 256 ^ j ≤ 256 ^ 7 := Nat.pow_le_pow_right (by decide) hj
  have hy : c * 256 ^ j < 18446744073709551616 := by
    have : c * 256 ^ j ≤ 255 * 256 ^ 7 := Nat.mul_le_mul (by omega) h1
    omega
  rw [e2, ← Int.natCast_mul]
  show IntKind.i64.wrap (((BitVec.ofInt 64 (x : Int) ||| BitVec.ofInt 64 (wrap64 ((c * 256 ^ j : Nat) : Int))).toNat : Nat) : Int) = _
  rw [BitVec.toNat_or, toNat_ofInt64 x _ (by omega), toNat_ofInt64 (c * 256 ^ j) _ (by unfold wrap64; omega), IntKind.wrap_i64]
  have hj2 : x ||| c * 256 ^ j = x + c * 256 ^ j := by
    rw [Nat.or_comm, nat_join (8 * j) _ _ (by rw [Nat.pow_mul]; exact Nat.mul_mod_left _ _) (by rw [Nat.pow_mul]; exact hx), Nat.add_comm]
  rw [hj2]
  unfold wrap64
  omega
theorem start0 (s : ByteArray) : wrap64 ((fval (List.take 0 s.data.toList) : Nat) : Int) = 0 := by show wrap64 0 = 0; unfold wrap64; rfl
theorem ftake (s : ByteArray) (j x : Nat) (h : j < s.size) (hx : x = fval (s.data.toList.take j)) : x < 256 ^ j ∧ fval (s.data.toList.take (j + 1)) = x + s[j].toNat * 256 ^ j := by
  have hl : (s.data.toList.take j).length = j := by rw [List.length_take, Array.length_toList]; exact Nat.min_eq_left (Nat.le_of_lt h)
  refine ⟨by rw [hx]; have := fval_lt (s.data.toList.take j); rwa [hl] at this, ?_⟩
  rw [take_snoc s j h, fval_snoc, hl, ← hx]
theorem fixedr_err (g : Nat) (s : ByteArray) (e z : Int) (hz : sized z = true) (w : World) (h : RIs g w s e) (he : e ≠ 0) : Calls Tryz.prog 97 #[.pointer (some ⟨g, 0, none⟩), .int .i64 z] w fun x w' => x = .returned (.tuple #[.int .i64 0, .int .i64 e]) ∧ w' = w := by
  have he' : (e != 0) = true := by simp [he]
  clear he
  go_enter Tryz.func97, Tryz.ntmps97
  go_wp2_with (first | (go_at_call 127; refine (isSize_is _ _).mono ?_; rintro x w' ⟨rfl, hw⟩; have hw := hw.symm; subst hw; rw [hz]) | (go_at_call 128; refine (fault_r g s e _ h).mono ?_; rintro x w' ⟨rfl, rfl⟩))
  go_ret2
  exact ⟨rfl, rfl⟩
theorem fixedr_cut (g : Nat) (s : ByteArray) (k : Nat) (hz : sized k = true) (hk : s.size < k) (_hk8 : k ≤ 8) (w : World) (h : RIs g w s 0) : Calls Tryz.prog 97 #[.pointer (some ⟨g, 0, none⟩), .int .i64 k] w fun x w' => x = .returned (.tuple #[.int .i64 0, .int .i64 20]) ∧ RIs g w' s 20 ∧ Kept w.heap.size g w w' := by
  have h0 := h.c0
  have HR : Hid (RIs g w s 0) := h
  go_enter Tryz.func97, Tryz.ntmps97
  go_wp2_with (first | (go_at_call 127; refine (isSize_is _ _).mono ?_; rintro x w' ⟨rfl, hw⟩; have hw := hw.symm; subst hw; rw [hz]) | (go_at_call 128; refine (fault_r g s 0 _ h).mono ?_; rintro x w' ⟨rfl, hw⟩; have hw := hw.symm; subst hw) | (go_at_call 129; refine (take_bad g s 0 _ _ _ HR.out (by decide)).mono ?_; rintro x w' ⟨rfl, hr', hk'⟩))
  go_ret2
  exact ⟨rfl, hr', hk'⟩
set_option maxRecDepth 100000 in
set_option maxHeartbeats 2000000 in
theorem fixedr_ok (g : Nat) (s : ByteArray) (k : Nat) (hz : sized k = true) (hks : k ≤ s.size) (hk8 : k ≤ 8) (hs : s.size ≤ maxLen) (hb : fval (s.data.toList.take k) < 9223372036854775808) (w : World) (h : RIs g w s 0) :
    Calls Tryz.prog 97 #[.pointer (some ⟨g, 0, none⟩), .int .i64 k] w fun x w' => x = .returned (.tuple #[.int .i64 (fval (s.data.toList.take k)), .int .i64 0]) ∧ RIs g w' (s.extract k s.size) 0 ∧ Kept w.heap.size g w w' := by
  have h0 := h.c0
  have HR : Hid (RIs g w s 0) := h
  have HM : Hid (s.size ≤ maxLen) := hs
  have HB : Hid (fval (s.data.toList.take k) < 9223372036854775808) := hb
  clear hb
  unfold maxLen at hs
  go_enter Tryz.func97, Tryz.ntmps97
  go_wp2_with (first | (go_at_call 127; refine (isSize_is _ _).mono ?_; rintro x w' ⟨rfl, hw⟩; have hw := hw.symm; subst hw; rw [hz]) | (go_at_call 128; refine (fault_r g s 0 _ h).mono ?_; rintro x w' ⟨rfl, hw⟩; have hw := hw.symm; subst hw))
  go_loop [7, 27] (fun u i => ∃ j : Nat, i = .int .i64 j ∧ j ≤ k ∧ u = .int .i64 (wrap64 (fval (s.data.toList.take j)))) (fun _ i => k - (intOf i).toNat)
  case atStart => exact ⟨0, rfl, Nat.zero_le _, by rw [start0]⟩
  case round =>
    obtain ⟨j, rfl, hj, rfl⟩ := hrel
    by_cases hlt : j < k
    · have hjs : j < s.size := by omega
      have ⟨f1, f2⟩ := ftake s j _ hjs rfl
      have hc := s[j].toNat_lt
      have hsm : 256 ^ j ≤ 256 ^ 7 := Nat.pow_le_pow_right (by decide) (by omega)
      obtain ⟨x, hx⟩ : ∃ x, x = fval (s.data.toList.take j) := ⟨_, rfl⟩
      rw [← hx] at f1 f2 ⊢
      have hw : wrap64 (x : Int) = (x : Int) := by unfold wrap64; omega
      have HS : Hid (bits .or .i64 (x : Int) (wrap64 ((s[j].toNat : Int) * 2 ^ (8 * j))) = wrap64 (fval (s.data.toList.take (j + 1)))) := by
        show _ = _
        rw [step_fix x j _ f1 (by omega) hc, f2]
      rw [hw]
      clear hx f1 f2 hsm hw
      go_wp2
      go_round
      case rel => exact ⟨j + 1, by go_num, by omega, by rw [← HS.out]⟩
      case measure => simp [intOf]; omega
    · have hjk : j = k := by omega
      subst hjk
      have hl : (s.data.toList.take j).length = j := by rw [List.length_take, Array.length_toList]; exact Nat.min_eq_left hks
      have hfl := fval_lt (s.data.toList.take j)
      rw [hl] at hfl
      have hsm : 256 ^ j ≤ 256 ^ 8 := Nat.pow_le_pow_right (by decide) (by omega)
      obtain ⟨x, hx⟩ : ∃ x, x = fval (s.data.toList.take j) := ⟨_, rfl⟩
      rw [← hx] at hfl ⊢
      have hb : x < 9223372036854775808 := by rw [hx]; exact HB.out
      have hw : wrap64 (x : Int) = (x : Int) := by unfold wrap64; omega
      rw [hw]
      have HX : Hid (fval (s.data.toList.take j) = x) := hx.symm
      clear hx hfl hsm hw hl
      go_wp2_with (first | (go_at_call 129; refine (take_ok g s j hks HM.out _ HR.out).mono ?_; rintro x w' ⟨rfl, hr', hk'⟩))
      go_ret2
      exact ⟨by rw [HX.out]; rfl, hr', hk'⟩
set_option maxRecDepth 100000 in
set_option maxHeartbeats 2000000 in
theorem fixedr_form (g : Nat) (s : ByteArray) (k : Nat) (hz : sized k = true) (hks : k ≤ s.size) (hk8 : k ≤ 8) (hs : s.size ≤ maxLen) (hb : ¬ fval (s.data.toList.take k) < 9223372036854775808) (w : World) (h : RIs g w s 0) :
    Calls Tryz.prog 97 #[.pointer (some ⟨g, 0, none⟩), .int .i64 k] w fun x w' => x = .returned (.tuple #[.int .i64 0, .int .i64 4]) ∧ RIs g w' s 4 ∧ Kept w.heap.size g w w' := by
  have h0 := h.c0
  have HR : Hid (RIs g w s 0) := h
  have HB : Hid (¬ fval (s.data.toList.take k) < 9223372036854775808) := hb
  clear hb
  unfold maxLen at hs
  go_enter Tryz.func97, Tryz.ntmps97
  go_wp2_with (first | (go_at_call 127; refine (isSize_is _ _).mono ?_; rintro x w' ⟨rfl, hw⟩; have hw := hw.symm; subst hw; rw [hz]) | (go_at_call 128; refine (fault_r g s 0 _ h).mono ?_; rintro x w' ⟨rfl, hw⟩; have hw := hw.symm; subst hw))
  go_loop [7, 27] (fun u i => ∃ j : Nat, i = .int .i64 j ∧ j ≤ k ∧ u = .int .i64 (wrap64 (fval (s.data.toList.take j)))) (fun _ i => k - (intOf i).toNat)
  case atStart => exact ⟨0, rfl, Nat.zero_le _, by rw [start0]⟩
  case round =>
    obtain ⟨j, rfl, hj, rfl⟩ := hrel
    by_cases hlt : j < k
    · have hjs : j < s.size := by omega
      have ⟨f1, f2⟩ := ftake s j _ hjs rfl
      have hc := s[j].toNat_lt
      have hsm : 256 ^ j ≤ 256 ^ 7 := Nat.pow_le_pow_right (by decide) (by omega)
      obtain ⟨x, hx⟩ : ∃ x, x = fval (s.data.toList.take j) := ⟨_, rfl⟩
      rw [← hx] at f1 f2 ⊢
      have hw : wrap64 (x : Int) = (x : Int) := by unfold wrap64; omega
      have HS : Hid (bits .or .i64 (x : Int) (wrap64 ((s[j].toNat : Int) * 2 ^ (8 * j))) = wrap64 (fval (s.data.toList.take (j + 1)))) := by
        show _ = _
        rw [step_fix x j _ f1 (by omega) hc, f2]
      rw [hw]
      clear hx f1 f2 hsm hw
      go_wp2
      go_round
      case rel => exact ⟨j + 1, by go_num, by omega, by rw [← HS.out]⟩
      case measure => simp [intOf]; omega
    · have hjk : j = k := by omega
      subst hjk
      have hl : (s.data.toList.take j).length = j := by rw [List.length_take, Array.length_toList]; exact Nat.min_eq_left hks
      have hfl := fval_lt (s.data.toList.take j)
      rw [hl] at hfl
      have hsm : 256 ^ j ≤ 256 ^ 8 := Nat.pow_le_pow_right (by decide) (by omega)
      obtain ⟨x, hx⟩ : ∃ x, x = fval (s.data.toList.take j) := ⟨_, rfl⟩
      rw [← hx] at hfl ⊢
      have hb : ¬ x < 9223372036854775808 := by rw [hx]; exact HB.out
      have hw : wrap64 (x : Int) < 0 := by unfold wrap64; omega
      obtain ⟨y, hy⟩ : ∃ y, y = wrap64 (x : Int) := ⟨_, rfl⟩
      rw [← hy] at hw ⊢
      clear hx hfl hsm hl hb hy
      go_wp2_with (first | (go_at_call 129; refine (take_bad g s 0 _ _ _ HR.out (by decide)).mono ?_; rintro x w' ⟨rfl, hr', hk'⟩))
      go_ret2
      exact ⟨rfl, hr', hk'⟩
end Go.Proofs.YtopebghandojbaaGreat
namespace Go.Proofs.YtopebghandojbaaGreat
open Go.RowKit

theorem toNat64 (a : Nat) (h : a < 4294967296) : (BitVec.ofInt 64 (a : Int)).toNat = a := by
  rw [BitVec.ofInt_natCast, BitVec.toNat_ofNat]; exact Nat.mod_eq_of_lt (by omega)
theorem toNat32 (a : Nat) (h : a < 4294967296) : (BitVec.ofInt 32 (a : Int)).toNat = a := by
  rw [BitVec.ofInt_natCast, BitVec.toNat_ofNat]; exact Nat.mod_eq_of_lt (by omega)
theorem bx32 {a b : Nat} (ha : a < 4294967296) (hb : b < 4294967296) : bits .xor .u32 (a : Int) (b : Int) = ((a ^^^ b : Nat) : Int) := by
  show IntKind.u32.wrap (((BitVec.ofInt 32 (a : Int) ^^^ BitVec.ofInt 32 (b : Int)).toNat : Nat) : Int) = _
  rw [BitVec.toNat_xor, toNat32 _ ha, toNat32 _ hb, IntKind.wrap_u32]
  have := Nat.xor_lt_two_pow (n := 32) ha hb
  omega
theorem ba32 {a b : Nat} (ha : a < 4294967296) (hb : b < 4294967296) : bits .and .u32 (a : Int) (b : Int) = ((a &&& b : Nat) : Int) := by
  show IntKind.u32.wrap (((BitVec.ofInt 32 (a : Int) &&& BitVec.ofInt 32 (b : Int)).toNat : Nat) : Int) = _
  rw [BitVec.toNat_and, toNat32 _ ha, toNat32 _ hb, IntKind.wrap_u32]
  have := Nat.and_lt_two_pow (n := 32) a hb
  omega
theorem bx64 {a b : Nat} (ha : a < 4294967296) (hb : b < 4294967296) : bits .xor .i64 (a : Int) (b : Int) = ((a ^^^ b : Nat) : Int) := by
  show IntKind.i64.wrap (((BitVec.ofInt 64 (a : Int) ^^^ BitVec.ofInt 64 (b : Int)).toNat : Nat) : Int) = _
  rw [BitVec.toNat_xor, toNat64 _ ha, toNat64 _ hb, IntKind.wrap_i64]
  have := Nat.xor_lt_two_pow (n := 32) ha hb
  omega
theorem Tn_snoc (k r : Nat) : Tn (k + 1) r = T (Tn k r) := by rw [Tn_add]; rfl
theorem and_one' (a : Nat) : a &&& 1 = a % 2 := by
  exact Nat.and_two_pow_sub_one_eq_mod a 1
theorem step32 (y : Nat) (h : y < 4294967296) : bits .xor .u32 ((y : Int) / 2) (bits .and .u32 2197175160 (-bits .and .u32 (y : Int) 1 % 4294967296)) = (T y : Int) := by
  have e1 : bits .and .u32 (y : Int) 1 = ((y % 2 : Nat) : Int) := by
    have := ba32 h (show 1 < 4294967296 by decide)
    rw [and_one'] at this
    exact this
  rw [e1, show (y : Int) / 2 = ((y / 2 : Nat) : Int) by omega]
  unfold T
  rcases (show y % 2 = 0 ∨ y % 2 = 1 by omega) with h0 | h0
  · rw [h0, if_neg (by decide)]
    have e2 : bits .and .u32 2197175160 (-((0 : Nat) : Int) % 4294967296) = ((0 : Nat) : Int) := by decide +kernel
    rw [e2, bx32 (by omega) (by decide)]
  · rw [h0, if_pos rfl]
    have e2 : bits .and .u32 2197175160 (-((1 : Nat) : Int) % 4294967296) = ((2197175160 : Nat) : Int) := by decide +kernel
    rw [e2, bx32 (by omega) (by decide)]
theorem end32 (y : Nat) (h : y < 4294967296) : wrap64 (bits .xor .u32 IntKind.u32.max (y : Int)) = ((y ^^^ 4294967295 : Nat) : Int) := by
  have e := bx32 (show 4294967295 < 4294967296 by decide) h
  have e2 : bits .xor .u32 IntKind.u32.max (y : Int) = ((4294967295 ^^^ y : Nat) : Int) := e
  have := Nat.xor_lt_two_pow (n := 32) h (show 4294967295 < 2 ^ 32 by decide)
  rw [e2, Nat.xor_comm]
  unfold wrap64
  omega
theorem reg_take (s : ByteArray) (j : Nat) (h : j < s.size) (r : Nat) : reg (s.data.toList.take (j + 1)) r = Tn 8 (reg (s.data.toList.take j) r ^^^ s[j].toNat) := by
  rw [take_snoc s j h, reg_append]; rfl
theorem len_list (s : ByteArray) : s.data.toList.length = s.size := by rw [Array.length_toList]; rfl
theorem crc_all (s : ByteArray) (j : Nat) (h : ¬ j < s.size) {r : Nat} (hr : r = reg (s.data.toList.take j) 4294967295) : crc s.data.toList = r ^^^ 4294967295 := by
  have hl := len_list s
  rw [hr, List.take_of_length_le (by omega)]; rfl
theorem u8_lt (b : UInt8) : b.toNat < 4294967296 := by have := b.toNat_lt; omega

set_option maxRecDepth 100000 in
set_option maxHeartbeats 1000000 in
theorem sumOf (s : ByteArray) (hs : s.size ≤ maxLen) (w : World) : Calls Tryz.prog 141 #[.string s] w fun e w' => e = .returned (.int .i64 (crc s.data.toList)) ∧ w' = w := by
  unfold maxLen at hs
  go_enter Tryz.func141, Tryz.ntmps141
  go_wp2
  go_loop [3, 8] (fun x i => ∃ j : Nat, i = .int .i64 j ∧ j ≤ s.size ∧ x = .int .u32 (reg (s.data.toList.take j) 4294967295)) (fun _ i => s.size - (intOf i).toNat)
  case atStart => exact ⟨0, rfl, Nat.zero_le _, rfl⟩
  case round =>
    obtain ⟨j, rfl, hj, rfl⟩ := hrel
    obtain ⟨r, hr⟩ : ∃ r, r = reg (s.data.toList.take j) 4294967295 := ⟨_, rfl⟩
    have hrl : r < 4294967296 := by rw [hr]; exact reg_lt _ (by decide)
    rw [← hr]
    have HR : Hid (r = reg (s.data.toList.take j) 4294967295) := hr
    clear hr
    by_cases hlt : j < s.size
    · obtain ⟨z, hz⟩ : ∃ z, z = r ^^^ s[j].toNat := ⟨_, rfl⟩
      have hzl : z < 4294967296 := by rw [hz]; exact Nat.xor_lt_two_pow (n := 32) hrl (u8_lt _)
      have HN : Hid (reg (s.data.toList.take (j + 1)) 4294967295 = Tn 8 z) := by show _ = _; rw [reg_take s j hlt, ← HR.out, hz]
      have HZ : Hid (bits .xor .u32 (r : Int) ((s[j].toNat : Int) % 4294967296) = (z : Int)) := by
        show _ = _
        rw [hz, show (s[j].toNat : Int) % 4294967296 = (s[j].toNat : Int) by have := u8_lt s[j]; omega, bx32 hrl (u8_lt _)]
      clear hz HR
      go_wp2
      go_loop [3, 17] (fun x i => ∃ k : Nat, i = .int .i64 k ∧ k ≤ 8 ∧ x = .int .u32 (Tn k z)) (fun _ i => 8 - (intOf i).toNat)
      case atStart => exact ⟨0, rfl, Nat.zero_le _, by rw [HZ.out]; rfl⟩
      case round =>
        obtain ⟨k, rfl, hk, rfl⟩ := hrel
        obtain ⟨y, hy⟩ : ∃ y, y = Tn k z := ⟨_, rfl⟩
        have hyl : y < 4294967296 := by rw [hy]; exact Tn_lt k hzl
        rw [← hy]
        have HY : Hid (Tn (k + 1) z = T y) := by show _ = _; rw [Tn_snoc, hy]
        have HY2 : Hid (y = Tn k z) := hy
        clear hy
        by_cases hk8 : k < 8
        · go_wp2
          go_round
          case rel => exact ⟨k + 1, by go_num, by omega, by rw [HY.out, step32 y hyl]⟩
          case measure => simp [intOf]; omega
        · have h8 : k = 8 := by omega
          go_wp2
          go_round
          case rel => exact ⟨j + 1, by go_num, by omega, by rw [HN.out, HY2.out, h8]⟩
          case measure => simp [intOf]; omega
    · have HC : Hid (crc s.data.toList = r ^^^ 4294967295) := by
        show _ = _
        exact crc_all s j hlt HR.out
      go_wp2
      go_ret
      refine ⟨ret_int ?_, rfl⟩
      rw [HC.out]
      exact end32 r hrl

theorem stepRef0 (y : Nat) (h : y % 2 = 0) : y / 2 = T y := by unfold T; rw [if_neg (by omega), Nat.xor_zero]
theorem stepRef1 (y : Nat) (hl : y < 4294967296) (h : y % 2 = 1) : bits .xor .i64 ((y : Int) / 2) 2197175160 = (T y : Int) := by
  unfold T
  rw [if_pos h, show (y : Int) / 2 = ((y / 2 : Nat) : Int) by omega]
  exact bx64 (show y / 2 < 4294967296 by omega) (show 2197175160 < 4294967296 by decide)
set_option maxRecDepth 100000 in
set_option maxHeartbeats 1000000 in
theorem refOf (s : ByteArray) (hs : s.size ≤ maxLen) (w : World) : Calls Tryz.prog 140 #[.string s] w fun e w' => e = .returned (.int .i64 (crc s.data.toList)) ∧ w' = w := by
  unfold maxLen at hs
  go_enter Tryz.func140, Tryz.ntmps140
  go_wp2
  go_loop [3, 4] (fun x i => ∃ j : Nat, i = .int .i64 j ∧ j ≤ s.size ∧ x = .int .i64 (reg (s.data.toList.take j) 4294967295)) (fun _ i => s.size - (intOf i).toNat)
  case atStart => exact ⟨0, rfl, Nat.zero_le _, rfl⟩
  case round =>
    obtain ⟨j, rfl, hj, rfl⟩ := hrel
    obtain ⟨r, hr⟩ : ∃ r, r = reg (s.data.toList.take j) 4294967295 := ⟨_, rfl⟩
    have hrl : r < 4294967296 := by rw [hr]; exact reg_lt _ (by decide)
    rw [← hr]
    have HR : Hid (r = reg (s.data.toList.take j) 4294967295) := hr
    clear hr
    by_cases hlt : j < s.size
    · obtain ⟨z, hz⟩ : ∃ z, z = r ^^^ s[j].toNat := ⟨_, rfl⟩
      have hzl : z < 4294967296 := by rw [hz]; exact Nat.xor_lt_two_pow (n := 32) hrl (u8_lt _)
      have HN : Hid (reg (s.data.toList.take (j + 1)) 4294967295 = Tn 8 z) := by show _ = _; rw [reg_take s j hlt, ← HR.out, hz]
      have HZ : Hid (bits .xor .i64 (r : Int) (wrap64 (s[j].toNat : Int)) = (z : Int)) := by
        show _ = _
        rw [hz, show wrap64 (s[j].toNat : Int) = (s[j].toNat : Int) by have := u8_lt s[j]; unfold wrap64; omega, bx64 hrl (u8_lt _)]
      clear hz HR
      go_wp2
      go_loop [3, 5] (fun x i => ∃ k : Nat, i = .int .i64 k ∧ k ≤ 8 ∧ x = .int .i64 (Tn k z)) (fun _ i => 8 - (intOf i).toNat)
      case atStart => exact ⟨0, rfl, Nat.zero_le _, by rw [HZ.out]; rfl⟩
      case round =>
        obtain ⟨k, rfl, hk, rfl⟩ := hrel
        obtain ⟨y, hy⟩ : ∃ y, y = Tn k z := ⟨_, rfl⟩
        have hyl : y < 4294967296 := by rw [hy]; exact Tn_lt k hzl
        rw [← hy]
        have HY : Hid (Tn (k + 1) z = T y) := by show _ = _; rw [Tn_snoc, hy]
        have HY2 : Hid (y = Tn k z) := hy
        clear hy HZ
        by_cases hk8 : k < 8
        · by_cases hp : y % 2 = 1
          · have hp' : (y : Int) % 2 = 1 := by omega
            have HP : Hid (y % 2 = 1) := hp
            clear hp
            go_wp2
            go_round
            case rel => exact ⟨k + 1, by go_num, by omega, by rw [HY.out, stepRef1 y hyl HP.out]⟩
            case measure => simp [intOf]; omega
          · have hp' : (y : Int) % 2 = 0 := by omega
            have HP : Hid (y % 2 = 0) := by show _ = _; omega
            clear hp
            go_wp2
            go_round
            case rel => exact ⟨k + 1, by go_num, by omega, by rw [HY.out, ← stepRef0 y HP.out]; rfl⟩
            case measure => simp [intOf]; omega
        · have h8 : k = 8 := by omega
          go_wp2
          go_round
          case rel => exact ⟨j + 1, by go_num, by omega, by rw [HN.out, HY2.out, h8]⟩
          case measure => simp [intOf]; omega
    · have HC : Hid (crc s.data.toList = r ^^^ 4294967295) := by
        show _ = _
        exact crc_all s j hlt HR.out
      go_wp2
      go_ret
      refine ⟨ret_int ?_, rfl⟩
      rw [HC.out]
      exact bx64 hrl (show 4294967295 < 4294967296 by decide)
end Go.Proofs.YtopebghandojbaaGreat
namespace Go.Proofs.YtopebghandojbaaGreat
open Go.RowKit

theorem hid {p : Prop} (h : p) : Hid p := h
theorem fval_big (l : List UInt8) : fval l = big l := by
  induction l with
  | nil => rfl
  | cons b l ih => rw [fval, big, ih]
theorem big_fEnc (k : Nat) : ∀ n, n < 256 ^ k → big (fEnc n k) = n := by
  induction k with
  | zero => intro n h; simp at h; subst h; rfl
  | succ k ih =>
    intro n h
    rw [Nat.pow_succ] at h
    rw [fEnc, big, ih (n / 256) (by omega), UInt8.toNat_ofNat']
    omega
theorem fEnc_big : ∀ l : List UInt8, fEnc (big l) l.length = l
  | [] => rfl
  | b :: l => by
    have hb := b.toNat_lt
    rw [List.length_cons, fEnc, big, show (b.toNat + 256 * big l) / 256 = big l by omega, fEnc_big l, show (b.toNat + 256 * big l) % 256 = b.toNat by omega, UInt8.ofNat_toNat]

/-- a text that carries its sum -/
def sealL (l : List UInt8) : List UInt8 := l ++ fEnc (crc l) 4
theorem sealL_len (l : List UInt8) : (sealL l).length = l.length + 4 := by rw [sealL, List.length_append, fEnc_len]
theorem fits4 (l : List UInt8) : fitsB (crc l) 4 = true := by
  have := crc_lt l
  unfold fitsB sized
  simp
  omega
theorem fits2 (n : Nat) (h : n < 65536) : fitsB n 2 = true := by
  unfold fitsB sized
  simp
  omega

set_option maxRecDepth 100000 in
theorem fixed_any (n size : Nat) (hn : n ≤ 9223372036854775807) (hsz : size ≤ 8) (hf : fitsB n size = true) (w : World) :
    Calls Tryz.prog 120 #[.int .i64 n, .int .i64 size] w fun e w' => e = .returned (.string (st (fEnc n size))) ∧ Below w.heap.size w w' := by
  go_enter Tryz.func120, Tryz.ntmps120
  go_wp2_with (first
    | (go_at_call 86; refine (new_any _).mono ?_; rintro e w1 ⟨rfl, rfl⟩; have hwi := WIs.new w w.heap.size)
    | (go_at_call 87; refine (fixed_w w.heap.size w.heap.size n size [] hn hsz hf (by simp) _ hwi (by simp)).mono ?_; rintro e w2 ⟨rfl, hw2, hk2⟩)
    | (go_at_call 89; refine (out_w _ _ _ _ hw2).mono ?_; rintro e w3 ⟨rfl, rfl⟩))
  go_ret
  exact ⟨rfl, (below_alloc w _).trans (hk2.below (Nat.le_refl _) (Nat.le_refl _))⟩

theorem sealE (s : ByteArray) : s ++ st (fEnc (crc s.data.toList) 4) = st (sealL s.data.toList) := by
  apply ByteArray.ext; simp [st, sealL]
set_option maxRecDepth 100000 in
theorem seal_any (s : ByteArray) (hs : s.size ≤ 150000000000000) (w : World) : Calls Tryz.prog 119 #[.string s] w fun e w' => e = .returned (.string (st (sealL s.data.toList))) ∧ Below w.heap.size w w' := by
  have hf := fits4 s.data.toList
  have hc := crc_lt s.data.toList
  have HE := hid (sealE s)
  have hu : (st (fEnc (crc s.data.toList) 4)).size = 4 := by rw [st_size, fEnc_len]
  obtain ⟨c, hcc⟩ : ∃ c, c = crc s.data.toList := ⟨_, rfl⟩
  have HS := sumOf s (by unfold maxLen; omega)
  rw [← hcc] at HS hf hc HE hu
  have HS' := hid HS
  have HF := hid (fun w => fixed_any c 4 (by omega) (by decide) hf w)
  obtain ⟨u, huu⟩ : ∃ u, u = st (fEnc c 4) := ⟨_, rfl⟩
  rw [← huu] at HF HE hu
  clear hcc HS hf huu
  go_enter Tryz.func119, Tryz.ntmps119
  go_wp2_with (first
    | (go_at_call 141; refine (HS'.out _).mono ?_; rintro e w1 ⟨rfl, rfl⟩)
    | (go_at_call 120; refine (HF.out _).mono ?_; rintro e w2 ⟨rfl, hb⟩))
  go_ret
  exact ⟨by rw [← HE.out]; rfl, hb⟩
set_option maxRecDepth 100000 in
theorem refSeal (s : ByteArray) (hs : s.size ≤ 150000000000000) (w : World) : Calls Tryz.prog 123 #[.string s] w fun e w' => e = .returned (.string (st (sealL s.data.toList))) ∧ Below w.heap.size w w' := by
  have hc := crc_lt s.data.toList
  have HE := hid (sealE s)
  have hu : (st (fEnc (crc s.data.toList) 4)).size = 4 := by rw [st_size, fEnc_len]
  obtain ⟨c, hcc⟩ : ∃ c, c = crc s.data.toList := ⟨_, rfl⟩
  have HS := refOf s (by unfold maxLen; omega)
  rw [← hcc] at HS hc HE hu
  have HS' := hid HS
  have HF := hid (fun w => refFixed c 4 (by omega) (by decide) w)
  obtain ⟨u, huu⟩ : ∃ u, u = st (fEnc c 4) := ⟨_, rfl⟩
  rw [← huu] at HF HE hu
  clear hcc HS huu
  go_enter Tryz.func123, Tryz.ntmps123
  go_wp2_with (first
    | (go_at_call 140; refine (HS'.out _).mono ?_; rintro e w1 ⟨rfl, rfl⟩)
    | (go_at_call 93; refine (HF.out _).mono ?_; rintro e w2 ⟨rfl, hb⟩))
  go_ret
  exact ⟨by rw [← HE.out]; rfl, hb⟩

end Go.Proofs.YtopebghandojbaaGreat
