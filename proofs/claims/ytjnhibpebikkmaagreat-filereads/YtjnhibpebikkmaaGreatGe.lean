import Derived.Test.YtjnhibpebikkmaaGreatGb
import Derived.Shelf.Strings.Builder1
namespace Go.Proofs.YtjnhibpebikkmaaGreat
open Go.RowKit Go.Maps Go.Shelf

theorem bX : Builder.Extra Tryz.prog Tryz.lays169_ren := {
  sizeBuilder := by kernel_rfl
  liesBuilder := by kernel_rfl
  t5 := Tryz.underlying5
  a5 := Tryz.isAgg5
  z5 := Tryz.sizeOf5
  v5 := Tryz.zeroValue5
  infoByte := by kernel_rfl
  cellsByte := by kernel_rfl
  sizeByte := by kernel_rfl
  neB5 := by decide }
theorem string_call (B b : Nat) (l : List UInt8) (w : World) (h : Lib.IsBuilder 114 5 B b (Lib.byteCells l) w) (hBw : B ≤ w.heap.size) : Calls Tryz.prog 65 #[.pointer (some ⟨b, 0, none⟩)] w fun e w' => e = .returned (.string ⟨l.toArray⟩) ∧ Below B w w' := Any.Builder_String_any Tryz.lays169 bX B b l w h hBw
set_option maxRecDepth 100000 in
theorem chk_used (b : Nat) (w : World) (h0 : w.cell? ⟨b, 0, none⟩ = some (.pointer (some ⟨b, 0, none⟩))) : Calls Tryz.prog 86 #[.pointer (some ⟨b, 0, none⟩)] w fun e w' => e = .returned (.tuple #[]) ∧ w' = w := by
  obtain ⟨j, hj, _⟩ := Option.map_eq_some_iff.1 bX.sizeBuilder
  go_enter Tryz.func86, Tryz.ntmps86
  go_wp2
  rw [Lib.run_neq_ptr_same w _ Tryz.underlying112 hj]
  go_wp2
  go_end0
  exact ⟨rfl, rfl⟩
set_option maxRecDepth 100000 in
set_option maxHeartbeats 1000000 in
theorem chk_fresh (b : Nat) (w : World) (h0 : w.cell? ⟨b, 0, none⟩ = some (.pointer none)) (hsh : w.shape? b = some (114, 2)) (hfz : w.frozen? ⟨b, 0, none⟩ = false) : Calls Tryz.prog 86 #[.pointer (some ⟨b, 0, none⟩)] w fun e w' => e = .returned (.tuple #[]) ∧ w' = w.setCell ⟨b, 0, none⟩ (.pointer (some ⟨b, 0, none⟩)) := by
  obtain ⟨j, hj, hjs⟩ := Option.map_eq_some_iff.1 bX.sizeBuilder
  go_enter Tryz.func86, Tryz.ntmps86
  go_wp2
  rw [Lib.run_to_unsafe w ⟨b, 0, none⟩ Tryz.underlying112 Tryz.underlying173 hj (by rw [hjs]; decide) hsh (Nat.zero_lt_succ 1)]
  simp only [Result.andThen]
  rw [Oper.upon_value]
  go_wp2
  rw [run_callFunc_extern Tryz.func113 (by kernel_rfl) (by kernel_rfl) (by kernel_rfl) (e := Extern.AbiNoEscape.same) (by kernel_rfl)]
  rw [Lib.run_noEscape]
  simp only [Result.andThen]
  rw [Oper.upon_value]
  go_wp2
  rw [Lib.run_from_unsafe w ⟨b, 0, none⟩ Tryz.underlying173 Tryz.underlying112 hj hsh bX.liesBuilder]
  simp only [Result.andThen]
  rw [Oper.upon_value]
  go_wp2
  go_end0
  exact ⟨rfl, rfl⟩
theorem chk_any (B b : Nat) (bs : List Value) (w : World) (h : Lib.IsBuilder 114 5 B b bs w) : Calls Tryz.prog 86 #[.pointer (some ⟨b, 0, none⟩)] w fun e w' => e = .returned (.tuple #[]) ∧ Lib.BuilderAt 114 5 B b (.pointer (some ⟨b, 0, none⟩)) bs w' ∧ Below B w w' := by
  rcases h with h | h
  · refine (chk_fresh b w h.cell0 h.shape h.frozen0).mono ?_
    rintro e w' ⟨rfl, rfl⟩
    exact ⟨rfl, h.used _, (Below.refl B w).setCell (p := ⟨b, 0, none⟩) h.1 _⟩
  · refine (chk_used b w h.cell0).mono ?_
    rintro e w' ⟨rfl, rfl⟩
    exact ⟨rfl, h, Below.refl B _⟩
end Go.Proofs.YtjnhibpebikkmaaGreat
namespace Go.Proofs.YtjnhibpebikkmaaGreat
open Go.RowKit Go.Maps Go.Shelf

set_option maxRecDepth 100000 in
set_option maxHeartbeats 1000000 in
theorem wrs_any (B b : Nat) (l : List UInt8) (s : ByteArray) (w : World) (h : Lib.IsBuilder 114 5 B b (Lib.byteCells l) w) (hlen : l.length + s.size ≤ 100000) (hBw : B ≤ w.heap.size) :
    Calls Tryz.prog 64 #[.pointer (some ⟨b, 0, none⟩), .string s] w fun e w' => e = .returned (.tuple #[.int .i64 s.size, .nilIface]) ∧ Lib.IsBuilder 114 5 B b (Lib.byteCells (l ++ s.data.toList)) w' ∧ Below B w w' := by
  obtain ⟨i0, hi, hz0, hz1, hz2⟩ := info_parts Tryz.info5
  have HCK := hid (chk_any B b (Lib.byteCells l) w h)
  clear h
  go_enter Tryz.func64, Tryz.ntmps64
  go_wp2_with (go_at_call 86; fail)
  refine HCK.out.mono ?_
  rintro e w1 ⟨rfl, h1, hb1⟩
  obtain ⟨hB, v, hbk, hown, hne⟩ := h1
  have c0 : w1.cell? ⟨b, 0, none⟩ = some (.pointer (some ⟨b, 0, none⟩)) := by rw [Lib.cell_of_heap hbk]; rfl
  have c1 : w1.cell? ⟨b, 1, none⟩ = some v := by rw [Lib.cell_of_heap hbk]; rfl
  have hbl : (Lib.byteCells l).length = l.length := Lib.byteCells_length l
  rw [hbl] at hown
  clear hbl
  obtain ⟨ao0, cap0, rfl⟩ : ∃ ao cap, v = .slice ao l.length cap := by
    rcases hown.2 with ⟨hv, h0⟩ | ⟨g, cap, cur, hv, _⟩
    · exact ⟨none, 0, by rw [hv, h0]⟩
    · exact ⟨_, _, hv⟩
  go_wp2_with (at_builtin; refine Lib.wpList_append_own_string _ rfl _ _ 45 9 rfl B 5 i0 Tryz.underlying45 Tryz.underlying9 hi hz0 hz1 hz2 _ _ _ rfl hown s rfl ?c3 ?c4 ?c5 ?_)
  case c3 => unfold maxLen; omega
  case c4 => omega
  case c5 => have := hb1.size; omega
  intro v' w2 hown' hgrow _
  have hlt := lt_of_block hbk
  have hb2 : w2.heap[b]? = some (.cells #[.pointer (some ⟨b, 0, none⟩), .slice ao0 l.length cap0] 114 (0, 0)) := (hgrow.block b hlt (fun e => hne e.symm)).trans hbk
  have d0 : w2.cell? ⟨b, 0, none⟩ = some (.pointer (some ⟨b, 0, none⟩)) := by rw [Lib.cell_of_heap hb2]; rfl
  have d1 : w2.cell? ⟨b, 1, none⟩ = some (.slice ao0 l.length cap0) := by rw [Lib.cell_of_heap hb2]; rfl
  have f1 : w2.frozen? ⟨b, 1, none⟩ = false := Lib.frozen_of_heap hb2 1
  obtain ⟨ao, n', cap, rfl⟩ : ∃ ao n' cap, v' = .slice ao n' cap := by
    rcases hown'.2 with ⟨hv, _⟩ | ⟨g, cap, cur, hv, _⟩
    · exact ⟨_, _, _, hv⟩
    · exact ⟨_, _, _, hv⟩
  go_wp2
  go_ret2
  refine ⟨rfl, .inr ?_, ?_⟩
  · have e : Lib.byteCells (l ++ s.data.toList) = Lib.byteCells l ++ Lib.strCells s := by simp [Lib.byteCells, Lib.strCells]
    rw [e]
    exact Lib.BuilderAt.put (T := 114) (e := 5) hB hb2 (bs' := Lib.byteCells l ++ Lib.strCells s) (by rw [List.length_append, Lib.byteCells_length, Lib.strCells_length]; exact hown') (by decide)
  · exact (hb1.grown hgrow (by have := hb1.size; omega) (fun k hk => (hown.lt k hk).1)).setCell (p := ⟨b, 1, none⟩) hB _
/-- the bytes of a file from a place on, so many of them -/
def byt (G : Geo) (B : List ByteArray) (n : Ino) (x : Nat) : UInt8 := if blk G B n (x / 128) = 0 then 0 else (bk B (blk G B n (x / 128))).data.toList.getD (x % 128) 0
def bys (G : Geo) (B : List ByteArray) (n : Ino) (x k : Nat) : List UInt8 := (List.range k).map fun j => byt G B n (x + j)
theorem bys_split (G : Geo) (B : List ByteArray) (n : Ino) (x a b : Nat) : bys G B n x (a + b) = bys G B n x a ++ bys G B n (x + a) b := by
  unfold bys
  rw [List.range_add, List.map_append, List.map_map]
  congr 1
  apply List.map_congr_left
  intro j _
  simp [Nat.add_assoc]
/-- what a round of 'bytes' writes -/
theorem bys_round {G : Geo} {B : List ByteArray} {n : Ino} {x k : Nat} (hx : x % 128 + k ≤ 128) (hs : blk G B n (x / 128) ≠ 0 → (bk B (blk G B n (x / 128))).size = 128) :
    ((if blk G B n (x / 128) = 0 then Zs 128 else bk B (blk G B n (x / 128))).extract (x % 128) (x % 128 + k)).data.toList = bys G B n x k := by
  rw [ext_list]
  apply List.ext_getElem
  · unfold bys
    rw [List.length_drop, List.length_take, List.length_map, List.length_range]
    have : (if blk G B n (x / 128) = 0 then Zs 128 else bk B (blk G B n (x / 128))).data.toList.length = 128 := by
      rw [len_list]
      split
      · exact Zs_size 128
      · rename_i h; exact hs h
    omega
  · intro j h1 h2
    have hj : j < k := by unfold bys at h2; simpa using h2
    have e1 : (x + j) / 128 = x / 128 := by omega
    have e2 : (x + j) % 128 = x % 128 + j := by omega
    simp only [bys, byt, List.getElem_drop, List.getElem_take, List.getElem_map, List.getElem_range, e1, e2]
    by_cases h : blk G B n (x / 128) = 0
    · have e0 : (Zs 128).data.toList = List.replicate 128 0 := st_list _
      simp only [if_pos h, e0, List.getElem_replicate]
    · have hl : x % 128 + j < (bk B (blk G B n (x / 128))).data.toList.length := by rw [len_list, hs h]; omega
      simp only [if_neg h]
      rw [List.getD_eq_getElem?_getD, List.getElem?_eq_getElem hl]
      rfl
end Go.Proofs.YtjnhibpebikkmaaGreat
namespace Go.Proofs.YtjnhibpebikkmaaGreat
open Go.RowKit Go.Maps Go.Shelf

theorem IsB.below {B b : Nat} {bs : List Value} {w w' : World} (h : Lib.IsBuilder 114 5 B b bs w) (k : Below w.heap.size w w') : Lib.IsBuilder 114 5 B b bs w' := by
  have key : ∀ p, Lib.BuilderAt 114 5 B b p bs w → Lib.BuilderAt 114 5 B b p bs w' := by
    rintro p ⟨hB, v, hbk, hown, hne⟩
    refine ⟨hB, v, (k.block b (lt_of_block hbk)).trans hbk, ?_, hne⟩
    obtain ⟨e1, e2 | ⟨x, cap, cur, e3, e4, e5, e6⟩⟩ := hown
    · exact ⟨e1, .inl e2⟩
    · exact ⟨e1, .inr ⟨x, cap, cur, e3, e4, (k.block x (lt_of_block e5)).trans e5, e6⟩⟩
  rcases h with h | h
  · exact .inl (key _ h)
  · exact .inr (key _ h)
set_option maxRecDepth 100000 in
set_option maxHeartbeats 2000000 in
theorem bytes_any {G : Geo} {p q cap m : Nat} {w : World} {F B : List ByteArray} (n : Ino) (x k : Nat) (hx : x + k ≤ 533248) (hk : k ≤ 1024) (h : VI G p q cap m w F B) :
    Calls Tryz.prog 38 #[.pointer (some ⟨p, 0, none⟩), n.v, .int .i64 (x : Int), .int .i64 ((x + k : Nat) : Int)] w fun e w' => e = .returned (.string (st (bys G B n x k))) ∧ Below w.heap.size w w' := by
  have HV := hid h
  have HG := hid h.ok
  have HZ := hid (zeros_any 128 (Nat.le_refl _))
  have HBO := hid (fun w' i (hi : i < 4166) (hv : VI G p q cap m w' F B) => blockOf_any (w := w') n i hi hv)
  have HBK := hid (fun w' b (hb : b < G.n) (hv : VI G p q cap m w' F B) => block_any (w := w') b hb hv)
  have HRN := hid (fun x k (hx : x % 128 + k ≤ 128) => bys_round (G := G) (B := B) (n := n) (x := x) (k := k) hx (fun _ => h.size _ (blk_lt h.ok _ _ _)))
  have HSP := hid (bys_split G B n)
  have HBL := hid (fun i => blk_lt h.ok B n i)
  have HSZ := hid (fun i => h.size _ (blk_lt h.ok B n i))
  obtain ⟨bf, hbf⟩ : ∃ bf, bf = blk G B n := ⟨_, rfl⟩
  obtain ⟨yf, hyf⟩ : ∃ yf, yf = bys G B n := ⟨_, rfl⟩
  rw [← hbf] at HBO HRN HBL HSZ
  rw [← hyf] at HRN HSP ⊢
  have HY0 : Hid (∀ x, yf x 0 = []) := hid (fun x => by rw [hyf]; rfl)
  clear hbf hyf h
  obtain ⟨nk, nl, nz, na, nb, nc, nd, ne, nf, ns, nt⟩ := n
  simp only [Ino.v] at HBO ⊢
  have HXK := hid hx
  have HKK := hid hk
  clear hx hk
  go_enter Tryz.func38, Tryz.ntmps38
  go_wp2
  obtain ⟨w1, hw1⟩ : ∃ w1, w1 = (w.alloc (.cells #[.int .i64 nk, .int .i64 nl, .int .i64 nz, .int .i64 na, .int .i64 nb, .int .i64 nc, .int .i64 nd, .int .i64 ne, .int .i64 nf, .int .i64 ns, .int .i64 nt] 33)).alloc (.cells #[.pointer none, .slice none 0 0] 114) := ⟨_, rfl⟩
  have hX1 : Box w.heap.size w1 ⟨nk, nl, nz, na, nb, nc, nd, ne, nf, ns, nt⟩ := by rw [hw1]; exact Box.below (box_at _ _) (below_alloc _ _)
  have hb1 : w1.heap[w.heap.size + 1]? = some (.cells #[.pointer none, .slice none 0 0] 114 (0, 0)) := by
    rw [hw1]
    have := box_at (w.alloc (.cells #[.int .i64 nk, .int .i64 nl, .int .i64 nz, .int .i64 na, .int .i64 nb, .int .i64 nc, .int .i64 nd, .int .i64 ne, .int .i64 nf, .int .i64 ns, .int .i64 nt] 33)) (.cells #[.pointer none, .slice none 0 0] 114)
    simpa using this
  have hI1 : Lib.IsBuilder 114 5 (w.heap.size + 1) (w.heap.size + 1) (Lib.byteCells []) w1 := .inl ⟨Nat.le_refl _, _, hb1, ⟨rfl, .inl ⟨rfl, rfl⟩⟩, by intro e; cases e⟩
  have hB1 : Below w.heap.size w w1 := by rw [hw1]; exact (below_alloc w _).next (below_alloc _ _)
  have hs1 : w.heap.size + 1 < w1.heap.size := lt_of_block hb1
  rw [← hw1]
  have HX1 := hid hX1
  have HI1 := hid hI1
  have HB1 := hid hB1
  have HS1 := hid hs1
  clear hw1 hX1 hI1 hB1 hs1 hb1
  go_loopw [2] (fun xv wr => ∃ j : Nat, xv = .int .i64 ((x + j : Nat) : Int) ∧ j ≤ k ∧ Lib.IsBuilder 114 5 (w.heap.size + 1) (w.heap.size + 1) (Lib.byteCells (yf x j)) wr ∧ Box w.heap.size wr ⟨nk, nl, nz, na, nb, nc, nd, ne, nf, ns, nt⟩ ∧ Below w.heap.size w wr ∧ w.heap.size + 1 < wr.heap.size ∧ (yf x j).length ≤ j) (fun xv _ => x + k - (intOf xv).toNat)
  case atStart => exact ⟨0, rfl, Nat.zero_le _, by rw [HY0.out]; exact HI1.out, HX1.out, HB1.out, HS1.out, by rw [HY0.out]; exact Nat.le_refl _⟩
  case round =>
    obtain ⟨j, rfl, hj, hI, hX, hB, hs, hyl⟩ := hrel
    have HI := hid hI
    have HX := hid hX
    have HB := hid hB
    have HS := hid hs
    have HYL := hid hyl
    clear hI hX hB hs hyl HX1 HI1 HB1 HS1
    obtain ⟨X, hXe⟩ : ∃ X, X = x + j := ⟨_, rfl⟩
    rw [← hXe]
    by_cases hjk : j < k
    · obtain ⟨ix, hix⟩ : ∃ ix, ix = X / 128 := ⟨_, rfl⟩
      obtain ⟨fo, hfo⟩ : ∃ fo, fo = X % 128 := ⟨_, rfl⟩
      obtain ⟨T, hT⟩ : ∃ T, T = x + k := ⟨_, rfl⟩
      obtain ⟨E, hE⟩ : ∃ E, E = fo + T - X := ⟨_, rfl⟩
      obtain ⟨en, hen⟩ : ∃ en, en = min 128 E := ⟨_, rfl⟩
      obtain ⟨dl, hdl⟩ : ∃ dl, dl = en - fo := ⟨_, rfl⟩
      obtain ⟨dt, hdt⟩ : ∃ dt, dt = (if bf ix = 0 then Zs 128 else bk B (bf ix)) := ⟨_, rfl⟩
      have hxk := HXK.out
      have hkk := HKK.out
      have hds : dt.size = 128 := by
        rw [hdt]
        split
        · exact Zs_size 128
        · exact HSZ.out ix
      have hXT : X < T := by omega
      have hlt : decide (X < T) = true := by simp; omega
      have hq : IntKind.i64.wrap ((X : Int) / 128) = (ix : Int) := by rw [IntKind.wrap_i64] <;> omega
      have hm : (X : Int) % 128 = (fo : Int) := by omega
      have hw1 : IntKind.i64.wrap ((fo : Int) + (T : Int)) = (fo : Int) + (T : Int) := by rw [IntKind.wrap_i64]; omega
      have hw2 : IntKind.i64.wrap ((fo : Int) + (T : Int) - (X : Int)) = (E : Int) := by rw [IntKind.wrap_i64] <;> omega
      have hmn : min (128 : Int) (E : Int) = (en : Int) := by omega
      have hw3 : IntKind.i64.wrap ((en : Int) - (fo : Int)) = (dl : Int) := by rw [IntKind.wrap_i64] <;> omega
      have hw4 : IntKind.i64.wrap ((X : Int) + (dl : Int)) = ((X + dl : Nat) : Int) := by rw [IntKind.wrap_i64] <;> omega
      have hfe : fo ≤ en := by omega
      have hel : en ≤ dt.size := by omega
      have hex : (dt.extract fo en).data.toList = yf X dl := by
        have k1 := HRN.out X dl (by omega)
        rw [← hix, ← hfo, ← hdt, show fo + dl = en by omega] at k1
        exact k1
      have hyy : yf x (j + dl) = yf x j ++ (dt.extract fo en).data.toList := by rw [hex, hXe]; exact HSP.out x j dl
      have hesz : (dt.extract fo en).size = dl := by rw [ByteArray.size_extract]; omega
      have HWS := hid (fun w' (hi' : Lib.IsBuilder 114 5 (w.heap.size + 1) (w.heap.size + 1) (Lib.byteCells (yf x j)) w') (hs' : w.heap.size + 1 < w'.heap.size) => wrs_any (w.heap.size + 1) (w.heap.size + 1) (yf x j) (dt.extract fo en) w' hi' (by have := HYL.out; omega) (by omega))
      rw [← hyy, hesz] at HWS
      have HBO1 := hid (fun w' (hv : VI G p q cap m w' F B) => HBO.out w' ix (by omega) hv)
      have HBK1 := hid (fun w' (hv : VI G p q cap m w' F B) => HBK.out w' (bf ix) (HBL.out ix) hv)
      have HFIN : Hid (∀ wz, Lib.IsBuilder 114 5 (w.heap.size + 1) (w.heap.size + 1) (Lib.byteCells (yf x (j + dl))) wz → Box w.heap.size wz ⟨nk, nl, nz, na, nb, nc, nd, ne, nf, ns, nt⟩ → Below w.heap.size w wz → w.heap.size + 1 < wz.heap.size → ∃ j' : Nat, Value.int .i64 ((X + dl : Nat) : Int) = .int .i64 ((x + j' : Nat) : Int) ∧ j' ≤ k ∧ Lib.IsBuilder 114 5 (w.heap.size + 1) (w.heap.size + 1) (Lib.byteCells (yf x j')) wz ∧ Box w.heap.size wz ⟨nk, nl, nz, na, nb, nc, nd, ne, nf, ns, nt⟩ ∧ Below w.heap.size w wz ∧ w.heap.size + 1 < wz.heap.size ∧ (yf x j').length ≤ j') := hid (fun wz a1 a2 a3 a4 => ⟨j + dl, by rw [show X + dl = x + (j + dl) by omega], by omega, a1, a2, a3, a4, by
        have := HYL.out
        rw [hyy, List.length_append, len_list, hesz]; omega⟩)
      have HMS : Hid (x + k - (X + dl) < x + k - X) := hid (by omega)
      have HDT := hid hdt
      have hXl := HX.out.cells
      rw [show ((x + k : Nat) : Int) = (T : Int) by rw [hT]]
      have hEc : (E ≤ 128 ∧ en = E) ∨ (¬ E ≤ 128 ∧ en = 128) := by omega
      have HHB := HB.out.size
      have HEC := hid hEc
      clear hXe hix hfo hT hE hen hdl hdt hxk hkk hXT hex hyy hesz HSP HRN HBO HBK HY0 HXK HKK HSZ hj hjk hEc HHB
      obtain ⟨x0, x1, x2, x3, x4, x5, x6, x7, x8, x9, x10⟩ := hXl
      clear HEC
      by_cases hb0 : bf ix = 0
      · have hd0 : dt = Zs 128 := by rw [HDT.out, if_pos hb0]
        rw [hb0] at HBO1
        rw [← hd0] at HZ
        clear hb0 hd0 HDT HBK1
        go_wp2_with (first
          | (go_at_call 60; refine (HZ.out _).mono ?_; rintro e w2 ⟨rfl, hb2⟩
             have HW2 := hid (HB.out.next hb2)
             have HI2 := hid (IsB.below HI.out hb2)
             have HX2 := hid (HX.out.below hb2)
             have HS2 : Hid (w.heap.size + 1 < w2.heap.size) := hid (by have := HS.out; have := hb2.size; omega)
             clear x0 x1 x2 x3 x4 x5 x6 x7 x8 x9 x10
             obtain ⟨x0, x1, x2, x3, x4, x5, x6, x7, x8, x9, x10⟩ := HX2.out.cells
             clear hb2)
          | (go_at_call 42; refine (HBO1.out _ (HV.out.below HW2.out)).mono ?_; rintro e w3 ⟨rfl, hb3⟩
             have HW3 := hid (HW2.out.next hb3)
             have HI3 := hid (IsB.below HI2.out hb3)
             have HX3 := hid (HX2.out.below hb3)
             have HS3 : Hid (w.heap.size + 1 < w3.heap.size) := hid (by have := HS2.out; have := hb3.size; omega)
             clear hb3)
          | (go_at_call 64; refine (HWS.out _ HI3.out HS3.out).mono ?_; rintro e w5 ⟨rfl, hi5, hb5⟩
             have HI5 := hid hi5
             have HX5 : Hid (Box w.heap.size w5 ⟨nk, nl, nz, na, nb, nc, nd, ne, nf, ns, nt⟩) := hid ((hb5.block _ (by omega)).trans HX3.out)
             have HW5 := hid (HW3.out.trans (hb5.mono (by omega)))
             have HS5 : Hid (w.heap.size + 1 < w5.heap.size) := hid (by have := HS3.out; have := hb5.size; omega)
             clear hi5 hb5))
        go_roundw
        case rel => exact HFIN.out _ HI5.out HX5.out HW5.out HS5.out
        case measure =>
          have := HMS.out
          simp only [intOf]
          omega
      · have hd0 : dt = bk B (bf ix) := by rw [HDT.out, if_neg hb0]
        rw [← hd0] at HBK1
        have hb1 : ¬ ((bf ix : Int) = 0) := by omega
        obtain ⟨bb, hbb⟩ : ∃ bb, bb = bf ix := ⟨_, rfl⟩
        rw [← hbb] at HBO1 HBK1 hb1
        clear hb0 hd0 HDT hbb
        go_wp2_with (first
          | (go_at_call 60; refine (HZ.out _).mono ?_; rintro e w2 ⟨rfl, hb2⟩
             have HW2 := hid (HB.out.next hb2)
             have HI2 := hid (IsB.below HI.out hb2)
             have HX2 := hid (HX.out.below hb2)
             have HS2 : Hid (w.heap.size + 1 < w2.heap.size) := hid (by have := HS.out; have := hb2.size; omega)
             clear x0 x1 x2 x3 x4 x5 x6 x7 x8 x9 x10
             obtain ⟨x0, x1, x2, x3, x4, x5, x6, x7, x8, x9, x10⟩ := HX2.out.cells
             clear hb2)
          | (go_at_call 42; refine (HBO1.out _ (HV.out.below HW2.out)).mono ?_; rintro e w3 ⟨rfl, hb3⟩
             have HW3 := hid (HW2.out.next hb3)
             have HI3 := hid (IsB.below HI2.out hb3)
             have HX3 := hid (HX2.out.below hb3)
             have HS3 : Hid (w.heap.size + 1 < w3.heap.size) := hid (by have := HS2.out; have := hb3.size; omega)
             clear hb3)
          | (go_at_call 40; refine (HBK1.out _ (HV.out.below HW3.out)).mono ?_; rintro e w4 ⟨rfl, hb4⟩
             replace HW3 := hid (HW3.out.next hb4)
             replace HI3 := hid (IsB.below HI3.out hb4)
             replace HX3 := hid (HX3.out.below hb4)
             replace HS3 : Hid (w.heap.size + 1 < w4.heap.size) := hid (by have := HS3.out; have := hb4.size; omega)
             clear hb4)
          | (go_at_call 64; refine (HWS.out _ HI3.out HS3.out).mono ?_; rintro e w5 ⟨rfl, hi5, hb5⟩
             have HI5 := hid hi5
             have HX5 : Hid (Box w.heap.size w5 ⟨nk, nl, nz, na, nb, nc, nd, ne, nf, ns, nt⟩) := hid ((hb5.block _ (by omega)).trans HX3.out)
             have HW5 := hid (HW3.out.trans (hb5.mono (by omega)))
             have HS5 : Hid (w.heap.size + 1 < w5.heap.size) := hid (by have := HS3.out; have := hb5.size; omega)
             clear hi5 hb5))
        go_roundw
        case rel => exact HFIN.out _ HI5.out HX5.out HW5.out HS5.out
        case measure =>
          have := HMS.out
          simp only [intOf]
          omega
    · have hje : j = k := by omega
      subst hje
      have HXe := hid hXe
      have HST := hid (string_call (w.heap.size + 1) (w.heap.size + 1) (yf x j) wr HI.out (by have := HS.out; omega))
      have hxx : ((x + j : Nat) : Int) = (X : Int) := by rw [hXe]
      clear hXe hj hjk
      rw [hxx]
      go_wp2_with (first | (go_at_call 65; refine HST.out.mono ?_; rintro e w9 ⟨rfl, hb9⟩))
      go_ret
      exact ⟨rfl, HB.out.trans (hb9.mono (by omega))⟩
end Go.Proofs.YtjnhibpebikkmaaGreat
