import Derived.Test.YtjphfpfagnhelaaNum
import Derived.Test.YtjphfpfagnhelaaRows
import Derived.WalkKit
import Derived.ProofKit
import Derived.WalkSpells
import Derived.WalkSmall
import Derived.Deep.QuietTactic
import Derived.BigQuiet
import Derived.Laws.BytesArg
namespace Go.Proofs.Ytjphfpfagnhelaa
open Go.RowKit

theorem ret_int {k : IntKind} {a b : Int} (h : a = b) : Ending.returned (.int k a) = .returned (.int k b) := by rw [h]
theorem Try.info5 : (Try.prog.info? 5).map (fun i => (i.zero, i.size, i.bytes)) = some (some (.int .u8 0), 1, 1) := by kernel_rfl

/-- one byte more at the end of a row of the call's own -/
theorem push_byte {ops : Array Oper} {rest : List Oper} {o : Oper} {a : Act} {Q : Exit → Act → World → Prop} {w0 : World} (hgd : o.guard = none) (s x : Operand)
    (ho : o.op = .call { callee := .builtin .append, args := #[s, x], argTypes := #[43, 43] }) (base : Nat) (v : Value) (n : Nat) (bs : List UInt8) (z : Int) (b : UInt8) (hz : z = b.toNat)
    (hs : a.eval s = v) (hx : a.eval x = .slice (some ⟨w0.heap.size, 0, none⟩) 1 1) (hown : w0.ownsRow base 5 1 v n (bc bs)) (hn : n ≤ 100000000000) (hbase : base ≤ w0.heap.size)
    (h : ∀ r cap w', w'.ownsRow base 5 1 (.slice (some ⟨r, 0, none⟩) (n + 1) cap) (n + 1) (bc (bs ++ [b])) → Below base w0 w' → (∀ k, k < w0.heap.size → v.ownBlock ≠ some k → w'.heap[k]? = w0.heap[k]?) → wpList Try.prog ops Q rest (a.put o.dst (.slice (some ⟨r, 0, none⟩) (n + 1) cap)) w') :
    wpList Try.prog ops Q (o :: rest) a (w0.alloc (.cells #[.int .u8 z] 5)) := by
  obtain ⟨i0, hi, hz0, hz1, hz2⟩ := info_parts Try.info5
  subst hz
  refine wpList_append_own _ hgd s x 43 ho base 5 i0 (.int .u8 0) 1 1 Try.underlying43 hi hz0 hz1 hz2 rfl (by decide) v n (bc bs) hs (hown.alloc _) ⟨w0.heap.size, 0, none⟩ 1 1 [.int .u8 b.toNat] hx rfl ?_ ?_ ?_ ?_ ?_ ?_
  · intro j u hj
    match j, hj with
    | 0, hj => simp at hj; subst hj; simp [Addr.add]
  · intro u hu; simp at hu; subst hu; rfl
  · unfold maxLen; omega
  · omega
  · simp; omega
  · intro v' w' h1 h2 _
    obtain ⟨r, cap, rfl⟩ : ∃ r cap, v' = .slice (some ⟨r, 0, none⟩) (n + 1) cap := by
      obtain ⟨_, e | ⟨g, cap, cur, e, _⟩⟩ := h1
      · exact absurd e.2 (by omega)
      · exact ⟨g, cap, e⟩
    refine h r cap w' (by rw [bc_append]; exact h1) (((Below.refl base w0).alloc hbase _).grown h2 (by simp; omega) fun k hk => (hown.lt k hk).1) fun k hk hne => ?_
    exact (h2.block k (by simp; omega) (fun e => hne e.symm)).trans (Below.heap_alloc _ _ _ hk)

theorem new_any (w : World) : Calls Try.prog 34 #[] w fun e w' => e = .returned (.pointer (some ⟨w.heap.size, 0, none⟩)) ∧ w' = w.alloc (.cells #[.slice none 0 0] 100) := by
  go_enter Try.func34, Try.ntmps34
  go_wp2
  go_ret
  exact ⟨rfl, rfl⟩

theorem or128 : ∀ a : Fin 256, bits .or .u8 (a.val : Int) 128 = ((UInt8.ofNat (a.val % 128 + 128)).toNat : Int) := by decide +kernel
theorem hi_byte (m : Nat) : bits .or .u8 ((m : Int) % 256) 128 = ((UInt8.ofNat (m % 128 + 128)).toNat : Int) := by
  have := or128 ⟨m % 256, Nat.mod_lt _ (by decide)⟩
  simp only at this
  rw [show ((m : Int) % 256) = ((m % 256 : Nat) : Int) by omega, this, show m % 256 % 128 = m % 128 by omega]
theorem lo_byte (m : Nat) (h : m < 128) : (m : Int) = ((UInt8.ofNat m).toNat : Int) := by
  rw [UInt8.toNat_ofNat']; omega

theorem store_writer {base g : Nat} {w w1 : World} {v u : Value} {bs : List UInt8} (hg : w.heap[g]? = some (.cells #[v] 100 (0, 0))) (h1 : w1.heap[g]? = w.heap[g]?)
    (hown : w1.ownsRow base 5 1 u bs.length (bc bs)) : WIs base g (w1.setCell ⟨g, 0, none⟩ u) bs :=
  ⟨u, one_setCell (h1.trans hg), ownsRow_setCell_other hown (ownBlock_ne hown (h1.trans hg)) _⟩

set_option maxHeartbeats 1000000 in
theorem number_w (base g u : Nat) (bs : List UInt8) (hu : u < 18446744073709551616) (hlen : bs.length ≤ 10000000000) (w : World) (hw : WIs base g w bs) (hbase : base ≤ w.heap.size) :
    Calls Try.prog 57 #[.pointer (some ⟨g, 0, none⟩), .int .u64 u] w fun e w' => e = .returned (.int .i64 0) ∧ WIs base g w' (bs ++ uEnc u) ∧ Kept base g w w' := by
  have hul := uEnc_len64 u hu
  go_enter Try.func57, Try.ntmps57
  go_wp2
  go_loopw [1] (fun x wr => ∃ (m : Nat) (done : List UInt8), x = .int .u64 m ∧ uEnc u = done ++ uEnc m ∧ m < 18446744073709551616 ∧ WIs base g wr (bs ++ done) ∧ Kept base g w wr) (fun x _ => (intOf x).toNat)
  case atStart => exact ⟨u, [], rfl, rfl, hu, by simpa using hw, Kept.refl _ _ _⟩
  case round =>
    obtain ⟨m, done, rfl, hd, hm, hwi, hk⟩ := hrel
    have hdl : done.length ≤ 10 := by have := congrArg List.length hd; simp at this; omega
    have HD : Hid (uEnc u = done ++ uEnc m) := hd
    clear hd
    obtain ⟨cur, hcur⟩ : ∃ cur, cur = bs ++ done := ⟨_, rfl⟩
    have hcl : cur.length ≤ 100000000000 := by rw [hcur]; simp; omega
    rw [← hcur] at hwi
    have HC : Hid (cur = bs ++ done) := hcur
    clear hcur
    obtain ⟨v, hg, hown⟩ := hwi
    have hcell := cell_of_one hg
    have hsz := hk.size
    have hglt := lt_of_block hg
    have hne := ownBlock_ne hown hg
    by_cases hlt : m < 128
    · obtain ⟨b, hb⟩ : ∃ b, b = UInt8.ofNat m := ⟨_, rfl⟩
      have hbm : (m : Int) = (b.toNat : Int) := by rw [hb]; exact lo_byte m hlt
      have HB : Hid (b = UInt8.ofNat m) := hb
      have HM : Hid ((m : Int) = (b.toNat : Int)) := hbm
      clear hb hbm
      go_wp2_with (at_builtin; refine push_byte rfl _ _ rfl base v cur.length cur _ b HM.out rfl rfl hown hcl (by omega) ?_)
      intro r cap w1 hown' hbel hsame
      have hg1 := hsame g hglt hne
      have hcell1 := cell_of_one (hg1.trans hg)
      have hfree1 := free_of_one (hg1.trans hg)
      have hst := store_writer (bs := cur ++ [b]) hg hg1 (by rw [List.length_append]; exact hown')
      have hkk := (hk.trans (Kept.of_below hbel)).setCell 0 (.slice (some ⟨r, 0, none⟩) (cur.length + 1) cap)
      clear hown' hbel hsame hown hcell hg hg1 hne hk
      go_wp2
      go_ret
      refine ⟨rfl, ?_, hkk⟩
      have e : bs ++ uEnc u = cur ++ [b] := by rw [HD.out, HC.out, HB.out, uEnc_lo hlt, List.append_assoc]
      rw [e]
      exact hst
    · obtain ⟨b, hb⟩ : ∃ b, b = UInt8.ofNat (m % 128 + 128) := ⟨_, rfl⟩
      have HB : Hid (b = UInt8.ofNat (m % 128 + 128)) := hb
      have HM : Hid (bits .or .u8 ((m : Int) % 256) 128 = (b.toNat : Int)) := by rw [hb]; exact hi_byte m
      have HL : Hid (¬ m < 128) := hlt
      clear hb
      go_wp2_with (at_builtin; refine push_byte rfl _ _ rfl base v cur.length cur _ b HM.out rfl rfl hown hcl (by omega) ?_)
      intro r cap w1 hown' hbel hsame
      have hg1 := hsame g hglt hne
      have hcell1 := cell_of_one (hg1.trans hg)
      have hfree1 := free_of_one (hg1.trans hg)
      have hst := store_writer (bs := cur ++ [b]) hg hg1 (by rw [List.length_append]; exact hown')
      have hkk := (hk.trans (Kept.of_below hbel)).setCell 0 (.slice (some ⟨r, 0, none⟩) (cur.length + 1) cap)
      clear hown' hbel hsame hown hcell hg hg1 hne hk
      go_wp2
      go_roundw
      case rel => exact ⟨m / 128, done ++ [b], by go_num, by rw [HD.out, HB.out, uEnc_hi HL.out]; simp, by omega, by rw [← List.append_assoc, ← HC.out]; exact hst, hkk⟩
      case measure => simp [intOf]; omega
end Go.Proofs.Ytjphfpfagnhelaa
