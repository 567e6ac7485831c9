import Derived.Test.YtopebghandojbaaGreatCrc
import Derived.Test.YtopebghandojbaaGreatRows
import Derived.Lib.AppendStr
import Derived.OneCell
import Derived.Below
import Derived.Deep.Draws
import Derived.WalkKit
import Derived.ProofKit
import Derived.WalkSpells
import Derived.WalkSmall
import Derived.Deep.QuietTactic
import Derived.BigQuiet
import Derived.Laws.BytesArg
import Derived.Deep.RegionWith
import Derived.Deep.RegionLaw
import Derived.Lib.Strings
import Derived.Laws.BitsAllLaws
namespace Go.Proofs.YtopebghandojbaaGreat
open Go.RowKit

/-- bytes as cells, as a string -/
def bc (bs : List UInt8) : List Value := bs.map fun b => Value.int .u8 (b.toNat : Int)
def st (bs : List UInt8) : ByteArray := ⟨bs.toArray⟩
theorem bc_append (a b : List UInt8) : bc (a ++ b) = bc a ++ bc b := by simp [bc]
theorem bc_len (a : List UInt8) : (bc a).length = a.length := by simp [bc]
theorem bc_one (b : UInt8) (n : Int) (h : n = b.toNat) : [Value.int .u8 n] = bc [b] := by subst h; rfl
theorem strCells_eq (s : ByteArray) : Lib.strCells s = bc s.data.toList := rfl
theorem st_toList (s : ByteArray) : st s.data.toList = s := by simp [st]
theorem st_list (bs : List UInt8) : (st bs).data.toList = bs := by simp [st]
theorem st_size (bs : List UInt8) : (st bs).size = bs.length := by simp [st, ByteArray.size]
/-- outside block g, below block base, the world is as it was -/
structure Kept (base g : Nat) (w w' : World) : Prop where
  os : w'.os = w.os
  tape : w'.tape = w.tape
  output : w'.output = w.output
  size : w.heap.size ≤ w'.heap.size
  block : ∀ k, k < base → k ≠ g → w'.heap[k]? = w.heap[k]?
theorem Kept.refl (base g : Nat) (w : World) : Kept base g w w := ⟨rfl, rfl, rfl, Nat.le_refl _, fun _ _ _ => rfl⟩
theorem Kept.trans {base g : Nat} {a b c : World} (h : Kept base g a b) (k : Kept base g b c) : Kept base g a c :=
  ⟨k.os.trans h.os, k.tape.trans h.tape, k.output.trans h.output, Nat.le_trans h.size k.size, fun i hi hg => (k.block i hi hg).trans (h.block i hi hg)⟩
theorem Kept.mono {base base' g : Nat} {w w' : World} (h : Kept base g w w') (hb : base' ≤ base) : Kept base' g w w' := ⟨h.os, h.tape, h.output, h.size, fun k hk hg => h.block k (by omega) hg⟩
theorem Kept.below {base g B : Nat} {w w' : World} (h : Kept base g w w') (h1 : B ≤ base) (h2 : B ≤ g) : Below B w w' :=
  ⟨h.os, h.tape, h.output, h.size, fun k hk => h.block k (by omega) (by omega)⟩
theorem Kept.of_below {base g : Nat} {w w' : World} (h : Below base w w') : Kept base g w w' := ⟨h.os, h.tape, h.output, h.size, fun k hk _ => h.block k hk⟩
theorem Kept.drewN {base g : Nat} {w w' : World} (h : Kept base g w w') (n : Nat) : Kept base g w (w'.drewN n) := ⟨h.os, h.tape, h.output, h.size, h.block⟩
theorem Kept.setCell {base g : Nat} {w w' : World} (h : Kept base g w w') (o : Nat) (v : Value) : Kept base g w (w'.setCell ⟨g, o, none⟩ v) :=
  ⟨h.os, h.tape, h.output, by simpa [World.setCell] using h.size, fun k hk hg => (Below.heap_setCell _ _ _ _ hg).trans (h.block k hk hg)⟩
/-- a writer, behind the pointer to block g: what it has written -/
def WIs (base g : Nat) (w : World) (bs : List UInt8) : Prop := ∃ v, w.heap[g]? = some (.cells #[v] 201 (0, 0)) ∧ w.ownsRow base 5 1 v bs.length (bc bs)
/-- a reader, behind the pointer to block g: what is left, and what is wrong -/
def RIs (g : Nat) (w : World) (s : ByteArray) (e : Int) : Prop := w.heap[g]? = some (.cells #[.string s, .int .i64 e] 206 (0, 0))
theorem RIs.kept {g base g' : Nat} {w w' : World} {s : ByteArray} {e : Int} (h : RIs g w s e) (k : Kept base g' w w') (hb : g < base) (hg : g ≠ g') : RIs g w' s e :=
  (k.block g hb hg).trans h
theorem ownBlock_ne {w : World} {base g : Nat} {v u : Value} {n : Nat} {xs : List Value} (hr : w.ownsRow base 5 1 v n xs) (hg : w.heap[g]? = some (.cells #[u] 201 (0, 0))) : v.ownBlock ≠ some g := by
  obtain ⟨_, h | ⟨b, cap, cur, rfl, _, hb, _⟩⟩ := hr
  · rw [h.1]; intro h; cases h
  · intro h
    cases h
    rw [hg] at hb
    simp at hb
theorem WIs.kept {base g base' g' : Nat} {w w' : World} {bs : List UInt8} (h : WIs base g w bs) (k : Kept base' g' w w') (hb : w.heap.size ≤ base') (hg : g ≠ g') (hr : ∀ v, w.heap[g]? = some (.cells #[v] 201 (0, 0)) → v.ownBlock ≠ some g') : WIs base g w' bs := by
  obtain ⟨v, h1, h2⟩ := h
  refine ⟨v, (k.block g (by have := lt_of_block h1; omega) hg).trans h1, ?_⟩
  have hh := h2
  have hlt := h2.lt
  obtain ⟨e1, e2 | ⟨b, cap, cur, rfl, e3, e4, e5⟩⟩ := h2
  · exact ⟨e1, .inl e2⟩
  · refine ⟨e1, .inr ⟨b, cap, cur, rfl, e3, ?_, e5⟩⟩
    have hb2 := (hlt b rfl).2
    exact (k.block b (by omega) (fun e => hr _ h1 (by rw [← e]; rfl))).trans e4
theorem ret_int {k : IntKind} {a b : Int} (h : a = b) : Ending.returned (.int k a) = .returned (.int k b) := by rw [h]
theorem Tryz.info5 : (Tryz.prog.info? 5).map (fun i => (i.zero, i.size, i.bytes)) = some (some (.int .u8 0), 1, 1) := by kernel_rfl
/-- one byte more at the end of a row of the call's own -/
theorem push_byte {ops : Array Oper} {rest : List Oper} {o : Oper} {a : Act} {Q : Exit → Act → World → Prop} {w0 : World} (hgd : o.guard = none) (s x : Operand)
    (ho : o.op = .call { callee := .builtin .append, args := #[s, x], argTypes := #[164, 164] }) (base : Nat) (v : Value) (n : Nat) (bs : List UInt8) (z : Int) (b : UInt8) (hz : z = b.toNat)
    (hs : a.eval s = v) (hx : a.eval x = .slice (some ⟨w0.heap.size, 0, none⟩) 1 1) (hown : w0.ownsRow base 5 1 v n (bc bs)) (hn : n ≤ 100000000000) (hbase : base ≤ w0.heap.size)
    (h : ∀ r cap w', w'.ownsRow base 5 1 (.slice (some ⟨r, 0, none⟩) (n + 1) cap) (n + 1) (bc (bs ++ [b])) → Below base w0 w' → (∀ k, k < w0.heap.size → v.ownBlock ≠ some k → w'.heap[k]? = w0.heap[k]?) → wpList Tryz.prog ops Q rest (a.put o.dst (.slice (some ⟨r, 0, none⟩) (n + 1) cap)) w') :
    wpList Tryz.prog ops Q (o :: rest) a (w0.alloc (.cells #[.int .u8 z] 5)) := by
  obtain ⟨i0, hi, hz0, hz1, hz2⟩ := info_parts Tryz.info5
  subst hz
  refine wpList_append_own _ hgd s x 164 ho base 5 i0 (.int .u8 0) 1 1 Tryz.underlying164 hi hz0 hz1 hz2 rfl (by decide) v n (bc bs) hs (hown.alloc _) ⟨w0.heap.size, 0, none⟩ 1 1 [.int .u8 b.toNat] hx rfl ?_ ?_ ?_ ?_ ?_ ?_
  · intro j u hj
    match j, hj with
    | 0, hj => simp at hj; subst hj; simp [Addr.add]
  · intro u hu; simp at hu; subst hu; rfl
  · unfold maxLen; omega
  · omega
  · simp; omega
  · intro v' w' h1 h2 _
    obtain ⟨r, cap, rfl⟩ : ∃ r cap, v' = .slice (some ⟨r, 0, none⟩) (n + 1) cap := by
      obtain ⟨_, e | ⟨g, cap, cur, e, _⟩⟩ := h1
      · exact absurd e.2 (by omega)
      · exact ⟨g, cap, e⟩
    refine h r cap w' (by rw [bc_append]; exact h1) (((Below.refl base w0).alloc hbase _).grown h2 (by simp; omega) fun k hk => (hown.lt k hk).1) fun k hk hne => ?_
    exact (h2.block k (by simp; omega) (fun e => hne e.symm)).trans (Below.heap_alloc _ _ _ hk)
theorem new_any (w : World) : Calls Tryz.prog 86 #[] w fun e w' => e = .returned (.pointer (some ⟨w.heap.size, 0, none⟩)) ∧ w' = w.alloc (.cells #[.slice none 0 0] 201) := by
  go_enter Tryz.func86, Tryz.ntmps86
  go_wp2
  go_ret
  exact ⟨rfl, rfl⟩
theorem store_writer {base g : Nat} {w w1 : World} {v u : Value} {bs : List UInt8} (hg : w.heap[g]? = some (.cells #[v] 201 (0, 0))) (h1 : w1.heap[g]? = w.heap[g]?)
    (hown : w1.ownsRow base 5 1 u bs.length (bc bs)) : WIs base g (w1.setCell ⟨g, 0, none⟩ u) bs :=
  ⟨u, one_setCell (h1.trans hg), ownsRow_setCell_other hown (ownBlock_ne hown (h1.trans hg)) _⟩
theorem isSize_any (n : Int) (w : World) : Calls Tryz.prog 127 #[.int .i64 n] w fun e w' => e = .returned (.bool (decide (n = 1 ∨ n = 2 ∨ n = 4 ∨ n = 8))) ∧ w' = w := by
  by_cases h : n = 1 ∨ n = 2 ∨ n = 4 ∨ n = 8
  · rw [decide_eq_true h]
    rcases h with rfl | rfl | rfl | rfl
    all_goals
      go_enter Tryz.func127, Tryz.ntmps127
      go_wp2
      go_ret
      exact ⟨rfl, rfl⟩
  · rw [decide_eq_false h]
    have h1 : (n == 1) = false := by simp; omega
    have h2 : (n == 2) = false := by simp; omega
    have h3 : (n == 4) = false := by simp; omega
    have h4 : (n == 8) = false := by simp; omega
    clear h
    go_enter Tryz.func127, Tryz.ntmps127
    go_wp2
    go_ret
    exact ⟨rfl, rfl⟩
theorem strOf_bytes (bs : List UInt8) : strOfNums (bs.map fun b => (b.toNat : Int)) = st bs := by
  unfold strOfNums st; congr 1; simp [Function.comp_def]
theorem conv_own {base : Nat} {v : Value} {bs : List UInt8} {w : World} (h : w.ownsRow base 5 1 v bs.length (bc bs)) : (convert 164 9 v).run Tryz.prog w = .ok (.string (st bs)) w := by
  have hh := h
  obtain ⟨e1, ⟨rfl, e2⟩ | ⟨b, cap, cur, rfl, e3, e4, e5⟩⟩ := h
  · rw [run_convert_bytes_nil w 164 5 Tryz.underlying164 Tryz.underlying5 0 0 9 Tryz.underlying9]
    have : bs = [] := List.eq_nil_of_length_eq_zero e2
    subst this; rfl
  · rw [← strOf_bytes]
    refine run_convert_bytes_arg w 164 5 Tryz.underlying164 Tryz.underlying5 b 0 bs.length cap _ (by simp) (fun i hi => ?_) 9 Tryz.underlying9
    rw [Nat.zero_add, hh.cellAt i (by omega)]
    simp [bc, hi]
theorem out_w (base g : Nat) (bs : List UInt8) (w : World) (hw : WIs base g w bs) : Calls Tryz.prog 89 #[.pointer (some ⟨g, 0, none⟩)] w fun e w' => e = .returned (.string (st bs)) ∧ w' = w := by
  obtain ⟨v, hg, hown⟩ := hw
  have hcell := cell_of_one hg
  have hconv := conv_own hown
  clear hown hg
  go_enter Tryz.func89, Tryz.ntmps89
  go_wp2
  go_ret
  exact ⟨rfl, rfl⟩
theorem take_snoc (s : ByteArray) (k : Nat) (h : k < s.size) : s.data.toList.take (k + 1) = s.data.toList.take k ++ [s[k]] := by
  rw [List.take_succ_eq_append_getElem (by simpa using h)]; rfl
theorem drop_cons (s : ByteArray) (k : Nat) (h : k < s.size) : s.data.toList.drop k = s[k] :: s.data.toList.drop (k + 1) := by
  rw [List.drop_eq_getElem_cons (by simpa using h)]; rfl
theorem ret_two {k l : IntKind} {a b c d : Int} (h : a = b) (h' : c = d) : Ending.returned (.tuple #[.int k a, .int l c]) = .returned (.tuple #[.int k b, .int l d]) := by rw [h, h']
theorem RIs.c0 {g : Nat} {w : World} {s : ByteArray} {e : Int} (h : RIs g w s e) : w.cell? ⟨g, 0, none⟩ = some (.string s) := by unfold RIs at h; simp [World.cell?, h]
theorem RIs.c1 {g : Nat} {w : World} {s : ByteArray} {e : Int} (h : RIs g w s e) : w.cell? ⟨g, 1, none⟩ = some (.int .i64 e) := by unfold RIs at h; simp [World.cell?, h]
theorem RIs.fr {g : Nat} {w : World} {s : ByteArray} {e : Int} (h : RIs g w s e) (i : Nat) : w.frozen? ⟨g, i, none⟩ = false := by unfold RIs at h; simp [World.frozen?, h]
theorem RIs.lt {g : Nat} {w : World} {s : ByteArray} {e : Int} (h : RIs g w s e) : g < w.heap.size := lt_of_block h
theorem RIs.set0 {g : Nat} {w : World} {s s' : ByteArray} {e : Int} (h : RIs g w s e) : RIs g (w.setCell ⟨g, 0, none⟩ (.string s')) s' e := by
  unfold RIs at *; simp [World.setCell, Array.getElem?_modify, h]
theorem RIs.set1 {g : Nat} {w : World} {s : ByteArray} {e e' : Int} (h : RIs g w s e) : RIs g (w.setCell ⟨g, 1, none⟩ (.int .i64 e')) s e' := by
  unfold RIs at *; simp [World.setCell, Array.getElem?_modify, h]
theorem of_any (s : ByteArray) (w : World) : Calls Tryz.prog 96 #[.string s] w fun e w' => e = .returned (.pointer (some ⟨w.heap.size, 0, none⟩)) ∧ w' = w.alloc (.cells #[.string s, .int .i64 0] 206) := by
  go_enter Tryz.func96, Tryz.ntmps96
  go_wp2
  go_ret
  exact ⟨rfl, rfl⟩
theorem RIs.new (s : ByteArray) (w : World) : RIs w.heap.size (w.alloc (.cells #[.string s, .int .i64 0] 206)) s 0 := by
  unfold RIs; show (w.heap.push _)[w.heap.size]? = _; simp
theorem WIs.new (w : World) (base : Nat) : WIs base w.heap.size (w.alloc (.cells #[.slice none 0 0] 201)) [] :=
  ⟨.slice none 0 0, by show (w.heap.push _)[w.heap.size]? = _; simp, World.ownsRow_nil _ _ _ _⟩
theorem fault_r (g : Nat) (s : ByteArray) (e : Int) (w : World) (h : RIs g w s e) : Calls Tryz.prog 128 #[.pointer (some ⟨g, 0, none⟩)] w fun x w' => x = .returned (.int .i64 e) ∧ w' = w := by
  have h1 := h.c1
  go_enter Tryz.func128, Tryz.ntmps128
  go_wp2
  go_ret
  exact ⟨rfl, rfl⟩
theorem take_bad (g : Nat) (s : ByteArray) (e k er : Int) (w : World) (h : RIs g w s e) (he : er ≠ 0) : Calls Tryz.prog 129 #[.pointer (some ⟨g, 0, none⟩), .int .i64 k, .int .i64 er] w fun x w' => x = .returned (.int .i64 er) ∧ RIs g w' s er ∧ Kept w.heap.size g w w' := by
  have h1 := h.c1
  have hf := h.fr 1
  have he' : (er != 0) = true := by simp [he]
  have HE : Hid (er ≠ 0) := he
  clear he
  go_enter Tryz.func129, Tryz.ntmps129
  go_wp2
  go_ret
  exact ⟨rfl, h.set1, (Kept.refl _ _ _).setCell 1 _⟩
theorem take_ok (g : Nat) (s : ByteArray) (k : Nat) (hk : k ≤ s.size) (_hs : s.size ≤ maxLen) (w : World) (h : RIs g w s 0) : Calls Tryz.prog 129 #[.pointer (some ⟨g, 0, none⟩), .int .i64 k, .int .i64 0] w fun x w' => x = .returned (.int .i64 0) ∧ RIs g w' (s.extract k s.size) 0 ∧ Kept w.heap.size g w w' := by
  have h0 := h.c0
  have hf := h.fr 0
  go_enter Tryz.func129, Tryz.ntmps129
  go_wp2
  go_ret
  exact ⟨rfl, h.set0, (Kept.refl _ _ _).setCell 0 _⟩
theorem ext_size (s : ByteArray) (k : Nat) : (s.extract k s.size).size = s.size - k := by simp
theorem ext_ext (s : ByteArray) (k m : Nat) : (s.extract k s.size).extract m (s.extract k s.size).size = s.extract (k + m) s.size := by
  apply ByteArray.ext; apply Array.ext'
  rw [Lib.extract_data, Lib.extract_data, Lib.extract_data, ext_size]
  have hl : s.data.toList.length = s.size := by rw [Array.length_toList]; rfl
  rw [List.take_of_length_le (l := List.drop k s.data.toList) (by rw [List.length_drop, hl]; exact Nat.le_refl _), List.drop_drop,
    List.take_of_length_le (by rw [List.length_drop, hl]; omega), List.take_of_length_le (by rw [List.length_drop, hl]; omega)]
theorem WIs.below {base g : Nat} {w w' : World} {bs : List UInt8} (h : WIs base g w bs) (k : Below w.heap.size w w') : WIs base g w' bs := by
  obtain ⟨v, h1, h2⟩ := h
  refine ⟨v, (k.block g (lt_of_block h1)).trans h1, ?_⟩
  have hlt := h2.lt
  obtain ⟨e1, e2 | ⟨b, cap, cur, rfl, e3, e4, e5⟩⟩ := h2
  · exact ⟨e1, .inl e2⟩
  · exact ⟨e1, .inr ⟨b, cap, cur, rfl, e3, (k.block b (hlt b rfl).2).trans e4, e5⟩⟩
theorem RIs.below {g : Nat} {w w' : World} {s : ByteArray} {e : Int} (h : RIs g w s e) (k : Below w.heap.size w w') : RIs g w' s e := (k.block g h.lt).trans h
theorem below_alloc (w : World) (o : Obj) : Below w.heap.size w (w.alloc o) := (Below.refl _ _).alloc (Nat.le_refl _) o
theorem bcell {W w1 : World} (hb : Below W.heap.size W w1) : (∀ b o, b < W.heap.size → w1.cell? ⟨b, o, none⟩ = W.cell? ⟨b, o, none⟩) ∧ (∀ b o, b < W.heap.size → w1.frozen? ⟨b, o, none⟩ = W.frozen? ⟨b, o, none⟩) :=
  ⟨fun b o h => hb.cell (p := ⟨b, o, none⟩) h, fun b o h => hb.frozen (p := ⟨b, o, none⟩) h⟩
/-- is a size one? -/
def sized (n : Int) : Bool := decide (n = 1 ∨ n = 2 ∨ n = 4 ∨ n = 8)
theorem sized_of {n : Int} (h : sized n = true) : n = 1 ∨ n = 2 ∨ n = 4 ∨ n = 8 := of_decide_eq_true h
theorem isSize_is (n : Int) (w : World) : Calls Tryz.prog 127 #[.int .i64 n] w fun e w' => e = .returned (.bool (sized n)) ∧ w' = w := isSize_any n w
/-- is a number one of a size? -/
def fitsB (n size : Int) : Bool := decide (0 ≤ n) && sized size && (decide (size = 8) || decide (n < 256 ^ size.toNat))
theorem isFixed_any (n size : Int) (hn : -9223372036854775808 ≤ n ∧ n ≤ 9223372036854775807) (w : World) : Calls Tryz.prog 118 #[.int .i64 n, .int .i64 size] w fun e w' => e = .returned (.bool (fitsB n size)) ∧ w' = w := by
  cases hs : sized size with
  | false =>
    have hv : fitsB n size = false := by unfold fitsB; rw [hs]; simp
    rw [hv]
    clear hv
    go_enter Tryz.func118, Tryz.ntmps118
    go_wp2_with (first | (go_at_call 127; refine (isSize_is _ _).mono ?_; rintro x w' ⟨rfl, hw⟩; subst hw; rw [hs]))
    go_ret
    exact ⟨rfl, rfl⟩
  | true =>
    by_cases h0 : n < 0
    · have hv : fitsB n size = false := by unfold fitsB; rw [decide_eq_false (by omega)]; simp
      rw [hv]
      clear hv
      go_enter Tryz.func118, Tryz.ntmps118
      go_wp2_with (first | (go_at_call 127; refine (isSize_is _ _).mono ?_; rintro x w' ⟨rfl, hw⟩; subst hw; rw [hs]))
      go_ret
      exact ⟨rfl, rfl⟩
    · rcases sized_of hs with rfl | rfl | rfl | rfl
      · by_cases hb : n < 256
        · have hv : fitsB n 1 = true := by unfold fitsB; rw [hs]; simp; omega
          rw [hv]; clear hv
          go_enter Tryz.func118, Tryz.ntmps118
          go_wp2_with (first | (go_at_call 127; refine (isSize_is _ _).mono ?_; rintro x w' ⟨rfl, hw⟩; subst hw; rw [hs]))
          go_ret
          exact ⟨rfl, rfl⟩
        · have hv : fitsB n 1 = false := by unfold fitsB; rw [hs]; simp; omega
          have hd : decide (n < 256) = false := decide_eq_false hb
          rw [hv]; clear hv
          go_enter Tryz.func118, Tryz.ntmps118
          go_wp2_with (first | (go_at_call 127; refine (isSize_is _ _).mono ?_; rintro x w' ⟨rfl, hw⟩; subst hw; rw [hs]))
          go_ret
          exact ⟨rfl, rfl⟩
      · by_cases hb : n < 65536
        · have hv : fitsB n 2 = true := by unfold fitsB; rw [hs]; simp; omega
          rw [hv]; clear hv
          go_enter Tryz.func118, Tryz.ntmps118
          go_wp2_with (first | (go_at_call 127; refine (isSize_is _ _).mono ?_; rintro x w' ⟨rfl, hw⟩; subst hw; rw [hs]))
          go_ret
          exact ⟨rfl, rfl⟩
        · have hv : fitsB n 2 = false := by unfold fitsB; rw [hs]; simp; omega
          have hd : decide (n < 65536) = false := decide_eq_false hb
          rw [hv]; clear hv
          go_enter Tryz.func118, Tryz.ntmps118
          go_wp2_with (first | (go_at_call 127; refine (isSize_is _ _).mono ?_; rintro x w' ⟨rfl, hw⟩; subst hw; rw [hs]))
          go_ret
          exact ⟨rfl, rfl⟩
      · by_cases hb : n < 4294967296
        · have hv : fitsB n 4 = true := by unfold fitsB; rw [hs]; simp; omega
          rw [hv]; clear hv
          go_enter Tryz.func118, Tryz.ntmps118
          go_wp2_with (first | (go_at_call 127; refine (isSize_is _ _).mono ?_; rintro x w' ⟨rfl, hw⟩; subst hw; rw [hs]))
          go_ret
          exact ⟨rfl, rfl⟩
        · have hv : fitsB n 4 = false := by unfold fitsB; rw [hs]; simp; omega
          have hd : decide (n < 4294967296) = false := decide_eq_false hb
          rw [hv]; clear hv
          go_enter Tryz.func118, Tryz.ntmps118
          go_wp2_with (first | (go_at_call 127; refine (isSize_is _ _).mono ?_; rintro x w' ⟨rfl, hw⟩; subst hw; rw [hs]))
          go_ret
          exact ⟨rfl, rfl⟩
      · have hv : fitsB n 8 = true := by unfold fitsB; rw [hs]; simp; omega
        rw [hv]; clear hv
        go_enter Tryz.func118, Tryz.ntmps118
        go_wp2_with (first | (go_at_call 127; refine (isSize_is _ _).mono ?_; rintro x w' ⟨rfl, hw⟩; subst hw; rw [hs]))
        go_ret
        exact ⟨rfl, rfl⟩
/-- a number's bytes, the lowest first -/
def fEnc (n : Nat) : Nat → List UInt8
  | 0 => []
  | k + 1 => UInt8.ofNat (n % 256) :: fEnc (n / 256) k
theorem fEnc_len (k : Nat) : ∀ n, (fEnc n k).length = k := by
  induction k with
  | zero => intro n; rfl
  | succ k ih => intro n; simp [fEnc, ih]
theorem fits_of {n size : Int} (h : fitsB n size = true) : 0 ≤ n ∧ (size = 1 ∨ size = 2 ∨ size = 4 ∨ size = 8) ∧ (size = 8 ∨ n < 256 ^ size.toNat) := by
  unfold fitsB at h
  simp only [Bool.and_eq_true, Bool.or_eq_true, decide_eq_true_eq] at h
  exact ⟨h.1.1, sized_of h.1.2, h.2⟩
set_option maxRecDepth 100000 in
set_option maxHeartbeats 1000000 in
theorem refFixed (n size : Nat) (hn : n ≤ 9223372036854775807) (hsz : size ≤ 8) (w : World) : Calls Tryz.prog 93 #[.int .i64 n, .int .i64 size] w fun e w' => e = .returned (.string (st (fEnc n size))) ∧ Below w.heap.size w w' := by
  go_enter Tryz.func93, Tryz.ntmps93
  go_wp2
  go_loopw [0, 5, 6] (fun x v i wr => ∃ (m j : Nat) (done : List UInt8), x = .int .i64 m ∧ i = .int .i64 j ∧ j ≤ size ∧ m ≤ 9223372036854775807 ∧ done.length = j ∧ fEnc n size = done ++ fEnc m (size - j) ∧ wr.ownsRow w.heap.size 5 1 v j (bc done) ∧ Below w.heap.size w wr) (fun _ _ i _ => size - (intOf i).toNat)
  case atStart => exact ⟨n, 0, [], rfl, rfl, Nat.zero_le _, hn, rfl, rfl, World.ownsRow_nil _ _ _ _, Below.refl _ _⟩
  case round =>
    obtain ⟨m, j, done, rfl, rfl, hj, hm, hdl, hd, hown, hbl⟩ := hrel
    have HD : Hid (fEnc n size = done ++ fEnc m (size - j)) := hd
    have HL : Hid (done.length = j) := hdl
    have hz := hbl.size
    clear hd hdl
    by_cases hlt : j < size
    · obtain ⟨b, hb⟩ : ∃ b, b = UInt8.ofNat (m % 256) := ⟨_, rfl⟩
      have HM : Hid ((m : Int) % 256 = (b.toNat : Int)) := by show _ = _; rw [hb, UInt8.toNat_ofNat']; omega
      have HE : Hid (fEnc n size = (done ++ [b]) ++ fEnc (m / 256) (size - (j + 1))) := by
        show _ = _
        rw [HD.out, show size - j = (size - (j + 1)) + 1 by omega, fEnc, hb]; simp
      clear hb HD
      go_wp2_with (at_builtin; refine push_byte rfl (.tmp 12) (.tmp 16) rfl w.heap.size _ j done _ b HM.out rfl rfl hown (by omega) hz ?_)
      intro r cap w1 hown' hbel hsame
      have hb2 := hbl.trans hbel
      clear hbel hsame hown hbl
      go_wp2
      go_roundw
      case rel => exact ⟨m / 256, j + 1, done ++ [b], by go_num, by go_num, by omega, by omega, by rw [List.length_append, HL.out]; rfl, HE.out, hown', hb2⟩
      case measure => simp [intOf]; omega
    · have HE : Hid (fEnc n size = done) := by show _ = _; rw [HD.out, show size - j = 0 by omega, fEnc, List.append_nil]
      have hcv := conv_own (bs := done) (by rw [HL.out]; exact hown)
      clear HD
      go_wp2
      go_ret
      exact ⟨by rw [HE.out]; rfl, hbl⟩
end Go.Proofs.YtopebghandojbaaGreat
