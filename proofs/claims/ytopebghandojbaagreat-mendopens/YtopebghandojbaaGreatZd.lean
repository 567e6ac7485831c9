import Derived.Test.YtopebghandojbaaGreatHsf
import Derived.Test.YtopebghandojbaaGreatDdo
import Derived.Test.YtopebghandojbaaGreatDcr
import Derived.Test.YtopebghandojbaaGreatJi
import Derived.Test.YtopebghandojbaaGreatLf
import Derived.Test.YtopebghandojbaaGreatZm
namespace Go.Proofs.YtopebghandojbaaGreat
open Go.RowKit Go.Maps

/-- are changes of blocks from one on, ahead of another? -/
def withinB (lo hi : Int) (l : List Chg) : Bool := l.all fun c => decide (lo ≤ c.b) && decide (c.b < hi)
set_option maxRecDepth 100000 in
set_option maxHeartbeats 2000000 in
theorem within_any (v : Value) (l : List Chg) (B J I r0 r1 r2 r3 r4 : Int) (w : World) (h : CLie w v l) :
    Calls Tryz.prog 42 #[v, .agg #[.int .i64 B, .int .i64 J, .int .i64 I], .agg #[.int .i64 r0, .int .i64 r1, .int .i64 r2, .int .i64 r3, .int .i64 r4]] w fun e w' => e = .returned (.bool (withinB r1 B l)) ∧ Below w.heap.size w w' := by
  obtain ⟨ao, cap, rfl, hlc, hcm, hcell⟩ := h
  have HC := hid hcell
  clear hcell
  unfold maxLen at hcm
  obtain ⟨A, hA⟩ : ∃ A : Bool, A = withinB r1 B l := ⟨_, rfl⟩
  rw [← hA]
  have HA := hid hA
  clear hA
  go_enter Tryz.func42, Tryz.ntmps42
  go_wp2
  go_loopw [11] (fun i wr => ∃ q : Nat, i = .int .i64 q ∧ q ≤ l.length ∧ withinB r1 B l = withinB r1 B (l.drop q) ∧ wr.heap[w.heap.size]? = some (.cells #[.int .i64 B, .int .i64 J, .int .i64 I] 23 (0, 0)) ∧
      wr.heap[w.heap.size + 1]? = some (.cells #[.int .i64 r0, .int .i64 r1, .int .i64 r2, .int .i64 r3, .int .i64 r4] 84 (0, 0)) ∧ Below w.heap.size w wr) (fun i _ => l.length - (intOf i).toNat)
  case atStart => exact ⟨0, rfl, Nat.zero_le _, rfl, (Sh.var_2 (Below.refl _ _)).1, (Sh.var_2 (Below.refl _ _)).2, Sh.bel_2 (Below.refl _ _)⟩
  case round =>
    obtain ⟨q, rfl, hq, hr, hv1, hv2, hB⟩ := hrel
    have HV1 := hid hv1
    have HV2 := hid hv2
    obtain ⟨a0, a1, a2⟩ := three_cells hv1
    obtain ⟨b0, b1, b2, b3, b4⟩ := Sh.five_cells hv2
    have hs1 := lt_of_block hv1
    have hs2 := lt_of_block hv2
    have HB := hid hB
    have HRR := hid hr
    clear hv1 hv2 a1 a2 b0 b2 b3 b4 hr hB
    by_cases hqk : q < l.length
    · obtain ⟨gb, off, e, hgl, c0, c1⟩ := HC.out q hqk
      subst e
      have HD := hid (drop_at l q hqk)
      obtain ⟨c, hc⟩ : ∃ c, c = l[q] := ⟨_, rfl⟩
      rw [← hc] at c0 c1 HD
      clear hc
      replace c0 := (HB.out.cell (p := ⟨gb, off + q * 2, none⟩) hgl).trans c0
      replace c1 := (HB.out.cell (p := ⟨gb, off + q * 2 + 1, none⟩) hgl).trans c1
      have hgr : gb < wr.heap.size := Nat.lt_of_lt_of_le hgl HB.out.size
      have HN : Hid (withinB r1 B l = ((decide (r1 ≤ c.b) && decide (c.b < B)) && withinB r1 B (l.drop (q + 1)))) := by
        show _ = _
        rw [HRR.out, HD.out]; rfl
      by_cases h1 : c.b < r1
      · go_wp2
        go_ret
        refine ⟨?_, HB.out.next (below_alloc _ _)⟩
        rw [HA.out, HN.out, decide_eq_false (by omega)]; rfl
      · by_cases h2 : c.b < B
        · go_wp2
          go_roundw
          case rel =>
            refine ⟨q + 1, by go_num, by omega, ?_, (Below.heap_alloc _ _ _ hs1).trans HV1.out, (Below.heap_alloc _ _ _ hs2).trans HV2.out, HB.out.next (below_alloc _ _)⟩
            rw [HN.out, decide_eq_true (by omega), decide_eq_true h2]; rfl
          case measure => simp only [intOf] at *; omega
        · go_wp2
          go_ret
          refine ⟨?_, HB.out.next (below_alloc _ _)⟩
          rw [HA.out, HN.out, decide_eq_false (p := c.b < B) (by omega), Bool.and_false]; rfl
    · have hql : q = l.length := by omega
      subst hql
      go_wp2
      go_ret
      refine ⟨?_, HB.out⟩
      rw [HA.out, HRR.out, List.drop_length]; rfl
theorem CLie.nil (w : World) : CLie w (.slice none 0 0) [] := ⟨none, 0, rfl, Nat.le_refl _, Nat.zero_le _, fun i hi => by simp at hi⟩
theorem right_none (w : World) : Calls Tryz.prog 41 #[.slice none 0 0] w fun e w' => e = .returned (.bool true) ∧ w' = w := by
  go_enter Tryz.func41, Tryz.ntmps41
  go_wp2
  go_loopw [6] (fun i wr => i = .int .i64 0 ∧ wr = w) (fun _ _ => 0)
  case atStart => exact ⟨rfl, rfl⟩
  case round =>
    obtain ⟨rfl, rfl⟩ := hrel
    go_wp2
    go_ret
    exact ⟨rfl, rfl⟩
end Go.Proofs.YtopebghandojbaaGreat
namespace Go.Proofs.YtopebghandojbaaGreat
open Go.RowKit Go.Maps

theorem sealed_size (l : List UInt8) (h : l.length ≤ 122) : (st (sealL (bodyL l))).size = 128 := by
  rw [← len_list, show (st (sealL (bodyL l))).data.toList = sealL (bodyL l) from rfl, sealL_len, bodyL_len l h]
theorem super_size (x y z : Nat) : (Sh.superS x y z).size = 128 := sealed_size _ (by rw [Sh.superL_len]; omega)
theorem hdB_size (T F E : Nat) : (hdB T F E).size = 128 := sealed_size _ (by unfold hdL; simp [fEnc_len])
theorem cnt_one {d : ByteArray} (h : d.size = 128) : Dv.cnt d = 1 := by unfold Dv.cnt; omega
theorem JS.only {g : Nat} {r : Option Nat} {w w' : World} {P : Int} {T F S : Nat} {l : List Int} {fp : List Nat} (h : JS g r w P T F S l) (k : Dv.Only fp w w') (hg : g ∉ fp) (hr : ∀ x, r = some x → x ∉ fp) : JS g r w' P T F S l := by
  have hl := h.lt
  obtain ⟨sv, h0, h1, h2⟩ := h
  refine ⟨sv, h0, (k.block g hl.1 hg).trans h1, h2.same fun x hx => k.block x (hl.2 x (h0 ▸ hx)).1 (hr x (h0 ▸ hx))⟩
/-- two blocks of a call's own, and nothing else has changed -/
def Two (w0 : World) (p q : Nat) (o1 o2 : Obj) (w : World) : Prop := w.heap[p]? = some o1 ∧ w.heap[q]? = some o2 ∧ Below w0.heap.size w0 w
theorem Two.next {w0 w w' : World} {p q : Nat} {o1 o2 : Obj} (h : Two w0 p q o1 o2 w) (k : Below w.heap.size w w') : Two w0 p q o1 o2 w' :=
  ⟨(k.block p (lt_of_block h.1)).trans h.1, (k.block q (lt_of_block h.2.1)).trans h.2.1, h.2.2.next k⟩
theorem Two.only {w0 w w' : World} {p q : Nat} {o1 o2 : Obj} {fp : List Nat} (h : Two w0 p q o1 o2 w) (k : Dv.Only fp w w') (hp : p ∉ fp) (hq : q ∉ fp) (hf : ∀ x ∈ fp, w0.heap.size ≤ x) : Two w0 p q o1 o2 w' :=
  ⟨(k.block p (lt_of_block h.1) hp).trans h.1, (k.block q (lt_of_block h.2.1) hq).trans h.2.1, h.2.2.trans (k.below h.2.2.size hf)⟩
/-- what a device that was formatted has -/
def fmtL (x y z : Nat) : Nat → Option ByteArray := Dv.seen (fun _ => none) [(0, Sh.superS x y z), (1, hdB 0 1 1)]
set_option maxRecDepth 100000 in
set_option maxHeartbeats 4000000 in
theorem format_nil (x y z : Nat) (h : Sh.okS x y z) (w : World) : Calls Tryz.prog 8 #[.agg #[.int .i64 x, .int .i64 y, .int .i64 z], .slice none 0 0] w fun e w' =>
    ∃ g fp, e = .returned (.tuple #[.pointer (some ⟨g, 0, none⟩), .int .i64 0]) ∧ Dv.DIs w.heap.size g w' 4 ⟨x, fmtL x y z, []⟩ fp ∧ Below w.heap.size w w' := by
  have hx := h.1.1
  have hy := h.1.2.1
  have hx1 : 16 ≤ x := by omega
  have hx2 : x ≤ 1024 := by omega
  have hy1 : 8 ≤ y := by omega
  have hy2 : y ≤ 256 := by omega
  have HO := hid (fun w => Sh.of_ok x y z h w)
  unfold Sh.regS at HO
  have HR := hid right_none
  have HW : Hid (∀ (w : World) (r2 r3 r4 : Int), Calls Tryz.prog 42 #[.slice none 0 0, .agg #[.int .i64 x, .int .i64 y, .int .i64 z], .agg #[.int .i64 1, .int .i64 (1 + (y : Int)), .int .i64 r2, .int .i64 r3, .int .i64 r4]] w fun e w' => e = .returned (.bool true) ∧ Below w.heap.size w w') :=
    hid (fun w r2 r3 r4 => within_any _ _ x y z 1 (1 + y) r2 r3 r4 w (CLie.nil w))
  have HD := hid (fun w' (k : w.heap.size ≤ w'.heap.size) => Dv.new_any x (by omega) hx2 w.heap.size w' k)
  have HJ := hid (fun w => new_j y w hy)
  have HS := hid (fun w => Sh.super_ok x y z h w)
  have HF := hid (show fmtL x y z = Dv.seen (fun _ => none) [(0, Sh.superS x y z), (1, hdB 0 1 1)] from rfl)
  have HSZ := super_size x y z
  have HHZ := hdB_size 0 1 1
  obtain ⟨su, hsu⟩ : ∃ su, su = Sh.superS x y z := ⟨_, rfl⟩
  obtain ⟨hd, hhd⟩ : ∃ hd, hd = hdB 0 1 1 := ⟨_, rfl⟩
  rw [← hsu] at HS HF HSZ
  rw [← hhd] at HF HHZ
  have HHD : Hid (∀ (g : Nat) (w : World), JS g none w ((y : Int) - 1) 0 1 0 [] → Calls Tryz.prog 45 #[.pointer (some ⟨g, 0, none⟩)] w fun e w' => e = .returned (.string hd) ∧ Below w.heap.size w w') := by
    refine hid (fun g w hj => ?_)
    rw [hhd]
    exact jheader g none _ 0 1 0 [] (by omega) (by decide) (by decide) w hj
  have HWA : Hid (∀ (base : Nat) (fp : List Nat) (g : Nat) (w : World), Dv.DIs base g w 0 ⟨x, fun _ => none, []⟩ fp → base ≤ w.heap.size → Calls Tryz.prog 29 #[.pointer (some ⟨g, 0, none⟩), .int .i64 0, .string su] w fun e w' => e = .returned (.int .i64 0) ∧ ∃ fp', Dv.DIs base g w' 1 ⟨x, fun _ => none, [(0, su)]⟩ fp' ∧ Dv.Only fp w w' ∧ ∀ k ∈ fp', k ∈ fp ∨ w.heap.size ≤ k) := by
    refine hid (fun base fp g w hD hb => ?_)
    have k := Dv.write_ok 0 su (by omega) (by omega) (by omega) (by rw [cnt_one HSZ]; show 0 + 1 ≤ x; omega) (by omega) (by show (0 : Nat) ≤ _; omega) w hD hb
    rw [cnt_one HSZ] at k
    exact k
  have HWB : Hid (∀ (base : Nat) (fp : List Nat) (g : Nat) (w : World), Dv.DIs base g w 1 ⟨x, fun _ => none, [(0, su)]⟩ fp → base ≤ w.heap.size → Calls Tryz.prog 29 #[.pointer (some ⟨g, 0, none⟩), .int .i64 1, .string hd] w fun e w' => e = .returned (.int .i64 0) ∧ ∃ fp', Dv.DIs base g w' 2 ⟨x, fun _ => none, [(0, su), (1, hd)]⟩ fp' ∧ Dv.Only fp w w' ∧ ∀ k ∈ fp', k ∈ fp ∨ w.heap.size ≤ k) := by
    refine hid (fun base fp g w hD hb => ?_)
    have k := Dv.write_ok 1 hd (by omega) (by omega) (by omega) (by rw [cnt_one HHZ]; show 1 + 1 ≤ x; omega) (by omega) (by show (1 : Nat) ≤ _; omega) w hD hb
    rw [cnt_one HHZ] at k
    exact k
  clear h hsu hx hy hhd
  go_enter Tryz.func8, Tryz.ntmps8
  go_wp2_with (first
    | (go_at_call 40; refine (HO.out _).mono ?_; rintro e w1 ⟨rfl, hb1⟩; obtain ⟨a0, a1, a2⟩ := three_cells (Sh.var_a hb1); have hs1 := lt_of_block (Sh.var_a hb1))
    | (go_at_call 41; refine (HR.out _).mono ?_; rintro e w2 ⟨rfl, hw⟩; have hw := hw.symm; subst hw)
    | (go_at_call 42; refine (HW.out _ _ _ _).mono ?_; rintro e w3 ⟨rfl, hb3⟩
       have hv3 : Hid (Two w w.heap.size w1.heap.size _ _ w3) := hid (Two.next ⟨(Below.heap_alloc _ _ _ hs1).trans (Sh.var_a hb1), box_at _ _, ((below_alloc w _).next hb1).next (below_alloc w1 _)⟩ hb3)
       obtain ⟨a0, a1, a2⟩ := three_cells hv3.out.1)
    | (go_at_call 27; refine (HD.out _ hv3.out.2.2.size).mono ?_; rintro e w4 ⟨rfl, hd4, hb4⟩
       have hv4 := hid (hv3.out.next hb4)
       have hD4 := hid hd4
       clear hd4
       obtain ⟨a0, a1, a2⟩ := three_cells hv4.out.1)
    | (go_at_call 43; refine (HJ.out _).mono ?_; rintro e w5 ⟨rfl, hj5, hb5⟩
       have hJ5 := hid hj5
       clear hj5
       have hv5 := hid (hv4.out.next hb5)
       have hD5 := hid (hD4.out.below hb5)
       obtain ⟨a0, a1, a2⟩ := three_cells hv5.out.1)
    | (go_at_call 44; refine (HS.out _).mono ?_; rintro e w6 ⟨rfl, hb6⟩
       have hv6 := hid (hv5.out.next hb6)
       have hD6 := hid (hD5.out.below hb6)
       have hJ6 := hid (hJ5.out.below hb6)
       obtain ⟨b0, b1, b2, b3, b4⟩ := Sh.five_cells hv6.out.2.1)
    | (go_at_call 29; refine (HWA.out _ _ (w3.heap.size + 2) _ hD6.out hv6.out.2.2.size).mono ?_; rintro e w7 ⟨rfl, fp7, hd7, ho7, hf7⟩
       have hD7 := hid hd7
       have hO7 := hid ho7
       have hF7 := hid hf7
       clear hd7 ho7 hf7
       have hl1 := lt_of_block hv3.out.1
       have hl2 := lt_of_block hv3.out.2.1
       have hl3 := hv6.out.2.2.size
       have hv7 := hid (hv6.out.only hO7.out (by simp; omega) (by simp; omega) (by intro a ha; simp at ha; omega))
       have hl4 := hD4.out.lo (w3.heap.size + 2) (by simp)
       have hJ7 := hid (hJ6.out.only hO7.out (by simp; omega) (fun _ h => by cases h))
       have hN7 : Hid (w.heap.size ∉ fp7 ∧ w1.heap.size ∉ fp7) := by
         have k1 := lt_of_block hv6.out.1
         have k2 := lt_of_block hv6.out.2.1
         constructor <;> (intro hm; have := hF7.out _ hm; simp at this; omega)
       obtain ⟨b0, b1, b2, b3, b4⟩ := Sh.five_cells hv7.out.2.1))
  go_cut [] (fun wx => ∃ fp, Dv.DIs w.heap.size (w3.heap.size + 2) wx 2 ⟨x, fun _ => none, [(0, su), (1, hd)]⟩ fp ∧ Below w.heap.size w wx)
  case first =>
    go_region_with (first
      | (go_at_call 45; refine (HHD.out _ w7.drew hJ7.out).mono ?_; rintro e w8 ⟨rfl, hb8⟩
         have hb8 := hid (Dv.undrew hb8)
         have hv8 := hid (hv7.out.next hb8.out)
         have hD8 := hid (hD7.out.below hb8.out)
         obtain ⟨b0, b1, b2, b3, b4⟩ := Sh.five_cells hv8.out.2.1)
      | (go_at_call 29; refine (HWB.out _ _ (w3.heap.size + 2) _ hD8.out hv8.out.2.2.size).mono ?_; rintro e w9 ⟨rfl, fp9, hd9, ho9, hf9⟩
         have hD9 := hid hd9
         have hv9 := hid (hv8.out.only ho9 hN7.out.1 hN7.out.2 (fun a ha => (hD8.out.lo a ha).1))
         clear hd9 ho9 hf9))
    all_goals
      go_wp2
      go_meet
      exact ⟨fp9, hD9.out, hv9.out.2.2⟩
  case rest =>
    obtain ⟨fp9, hd9, hb9⟩ := hcut
    rename World => w9
    have HFL := hid (Dv.flush_any (by omega) w9 hd9)
    have HB9 := hid hb9
    clear hb9 hd9
    go_wp2
    go_loopw [62] (fun i wr => i = .int .i64 0 ∧ wr = w9) (fun _ _ => 0)
    case atStart => exact ⟨rfl, rfl⟩
    case round =>
      obtain ⟨rfl, rfl⟩ := hrel
      go_wp2_with (first | (go_at_call 31; refine HFL.out.mono ?_; rintro e w10 ⟨rfl, hd10, ho10⟩))
      go_ret2
      refine ⟨_, fp9, rfl, ?_, ?_⟩
      · rw [HF.out]; exact hd10
      · exact HB9.out.trans (ho10.below HB9.out.size (fun a ha => (hd10.lo a ha).1))
end Go.Proofs.YtopebghandojbaaGreat
namespace Go.Proofs.YtopebghandojbaaGreat
open Go.RowKit Go.Maps

/-- a row of strings, q of n of them laid -/
def Fis (g n q : Nat) (w : World) (f : Nat → ByteArray) : Prop :=
  ∃ cur, w.heap[g]? = some (.cells cur 9 (0, 0)) ∧ cur.size = n ∧ ∀ i, i < q → cur[i]? = some (.string (f i))
theorem Fis.get {g n q : Nat} {w : World} {f : Nat → ByteArray} (h : Fis g n q w f) (j : Nat) (hj : j < n) : ∃ x, w.cell? ⟨g, j, none⟩ = some x := by
  obtain ⟨cur, h1, h2, _⟩ := h
  exact ⟨cur[j]'(by omega), by simp [World.cell?, h1]⟩
theorem Fis.free {g n q : Nat} {w : World} {f : Nat → ByteArray} (h : Fis g n q w f) (j : Nat) : w.frozen? ⟨g, j, none⟩ = false := by
  obtain ⟨cur, h1, h2, _⟩ := h
  simp [World.frozen?, h1]
theorem Fis.set {g n q : Nat} {w : World} {f : Nat → ByteArray} (h : Fis g n q w f) (hq : q < n) : Fis g n (q + 1) (w.setCell ⟨g, q, none⟩ (.string (f q))) f := by
  obtain ⟨cur, h1, h2, h3⟩ := h
  refine ⟨_, cells_set h1 _, by simp [h2], fun i hi => ?_⟩
  by_cases hiq : i = q
  · subst hiq
    simp [h2, hq]
  · show (cur.setIfInBounds q (.string (f q)))[i]? = _
    rw [Array.getElem?_setIfInBounds, if_neg (by omega)]
    exact h3 i (by omega)
theorem Fis.below {g n q : Nat} {w w' : World} {f : Nat → ByteArray} (h : Fis g n q w f) (k : Below w.heap.size w w') : Fis g n q w' f := by
  obtain ⟨cur, h1, h2⟩ := h
  exact ⟨cur, (k.block g (lt_of_block h1)).trans h1, h2⟩
theorem Fis.lie {g n : Nat} {w : World} {f : Nat → ByteArray} (h : Fis g n n w f) (hn : n ≤ 1000) : SLie w (.slice (some ⟨g, 0, none⟩) n n) ((List.range n).map f) := by
  obtain ⟨cur, h1, h2, h3⟩ := h
  refine ⟨_, n, by simp, by simp, by unfold maxLen; omega, fun i hi => ⟨g, 0, rfl, lt_of_block h1, ?_⟩⟩
  have hi' : i < n := by simpa using hi
  simp [World.cell?, h1, h3 i hi']
set_option maxRecDepth 100000 in
theorem mkSn (n : Nat) (hn : n ≤ 300) : ∃ cs, (∀ w : World, (Instr.makeSlice 55 (.int .i64 (n : Int)) (.int .i64 (n : Int))).run Tryz.prog w = .ok (.slice (some ⟨w.heap.size, 0, none⟩) n n) (w.alloc (.cells cs 9))) ∧ ∀ (w : World) f, Fis w.heap.size n 0 (w.alloc (.cells cs 9)) f := by
  obtain ⟨i0, hi, hz0, hz1, hz2⟩ := info_parts Tryz.infoR9
  refine ⟨madeCells (Value.string ⟨#[]⟩).cells n, fun w => ?_, fun w f => ⟨_, box_at _ _, by simp [size_madeCells], fun i hi => by omega⟩⟩
  have := run_makeSlice (P := Tryz.prog) w 55 9 i0 (.string ⟨#[]⟩) Tryz.underlying55 hi hz0 .i64 .i64 (n : Int) (n : Int) (by omega) (by omega) (by rw [hz1]; omega) (by rw [hz2]; omega) (by omega)
  have e1 : (n : Int).toNat = n := by omega
  rw [e1, hz1, Nat.mul_one] at this
  exact this
set_option maxRecDepth 100000 in
set_option maxHeartbeats 2000000 in
theorem seen_any {base g N : Nat} {S : Dv.DS} {fp : List Nat} (f c : Nat) (hc : c ≤ 300) (hn : f + c ≤ S.n) (w : World) (h : Dv.DIs base g w N S fp) :
    Calls Tryz.prog 53 #[.pointer (some ⟨g, 0, none⟩), .int .i64 (f : Int), .int .i64 (c : Int)] w fun e w' => e = .returned (.slice (some ⟨w.heap.size, 0, none⟩) c c) ∧ SLie w' (.slice (some ⟨w.heap.size, 0, none⟩) c c) ((List.range c).map fun i => (Dv.seen S.L S.Q (f + i)).getD Dv.Z) ∧ Below w.heap.size w w' := by
  have hn2 := h.n2
  have hf : f ≤ 1024 := by omega
  have HRD : Hid (∀ (q : Nat) (w' : World), q < c → Below w.heap.size w w' → Calls Tryz.prog 25 #[.pointer (some ⟨g, 0, none⟩), .int .i64 ((f : Int) + (q : Int))] w' fun e w'' => e = .returned (.tuple #[.string ((Dv.seen S.L S.Q (f + q)).getD Dv.Z), .int .i64 0]) ∧ Below w'.heap.size w' w'') := by
    refine hid (fun q w' hq hb => ?_)
    rw [show (f : Int) + (q : Int) = ((f + q : Nat) : Int) by omega]
    exact Dv.read_any (f + q) (by omega) w' (h.below hb)
  obtain ⟨F, hF⟩ : ∃ F : Nat → ByteArray, F = fun i => (Dv.seen S.L S.Q (f + i)).getD Dv.Z := ⟨_, rfl⟩
  have HRF : Hid (∀ (q : Nat) (w' : World), q < c → Below w.heap.size w w' → Calls Tryz.prog 25 #[.pointer (some ⟨g, 0, none⟩), .int .i64 ((f : Int) + (q : Int))] w' fun e w'' => e = .returned (.tuple #[.string (F q), .int .i64 0]) ∧ Below w'.heap.size w' w'') := by
    rw [hF]; exact HRD
  rw [← hF]
  clear hF HRD h
  obtain ⟨cs, hmk, hmF⟩ := mkSn c hc
  have HM := hid (hmF w F)
  have hmk := hmk w
  clear hmF
  have HBm : Hid (Below w.heap.size w (w.alloc (.cells cs 9))) := hid (below_alloc w _)
  go_enter Tryz.func53, Tryz.ntmps53
  go_wp2
  go_loopw [13] (fun i wr => ∃ q : Nat, i = .int .i64 q ∧ q ≤ c ∧ Fis w.heap.size c q wr F ∧ Below w.heap.size w wr) (fun i _ => c - (intOf i).toNat)
  case atStart => exact ⟨0, rfl, Nat.zero_le _, HM.out, HBm.out⟩
  case round =>
    obtain ⟨q, rfl, hq, hFi, hB⟩ := hrel
    have HFi := hid hFi
    have HB := hid hB
    clear hFi hB
    by_cases hqc : q < c
    · go_wp2_with (first
        | (go_at_call 25; refine (HRF.out q _ hqc HB.out).mono ?_; rintro e w1 ⟨rfl, hb1⟩
           have HF1 := hid (HFi.out.below hb1)
           have HB1 := hid (HB.out.next hb1)
           obtain ⟨x1, hx1⟩ := HF1.out.get q hqc
           have hf1 := HF1.out.free q))
      go_roundw
      case rel => exact ⟨q + 1, by go_num, by omega, HF1.out.set hqc, HB1.out.setCell (Nat.le_refl _) _⟩
      case measure => simp only [intOf] at *; omega
    · have hqe : q = c := by omega
      subst hqe
      go_wp2
      go_ret
      exact ⟨rfl, HFi.out.lie (by omega), HB.out⟩
end Go.Proofs.YtopebghandojbaaGreat
namespace Go.Proofs.YtopebghandojbaaGreat
open Go.RowKit Go.Maps

/-- a store's own block: its device, its shape, its regions, its journal, its acts, its map, its changes under way, its count -/
def stC (g x y z j : Nat) (av : Value) (m : Nat) (uv : Value) (c : Int) : Array Value :=
  #[.pointer (some ⟨g, 0, none⟩), .int .i64 (x : Int), .int .i64 (y : Int), .int .i64 (z : Int), .int .i64 1, .int .i64 (1 + (y : Int)), .int .i64 (2 + (y : Int)), .int .i64 (2 + (y : Int) + ((z : Int) + 3) / 4), .int .i64 ((x : Int) - (2 + (y : Int) + ((z : Int) + 3) / 4)), .pointer (some ⟨j, 0, none⟩), av, .map (some m), uv, .int .i64 c]
def StIs (s : Nat) (w : World) (g x y z j : Nat) (av : Value) (m : Nat) (uv : Value) (c : Int) : Prop := w.heap[s]? = some (.cells (stC g x y z j av m uv c) 107 (0, 0))
theorem StIs.cell {s : Nat} {w : World} {g x y z j : Nat} {av : Value} {m : Nat} {uv : Value} {c : Int} (h : StIs s w g x y z j av m uv c) (i : Nat) : w.cell? ⟨s, i, none⟩ = (stC g x y z j av m uv c)[i]? := by
  unfold StIs at h; simp [World.cell?, h]
theorem StIs.free {s : Nat} {w : World} {g x y z j : Nat} {av : Value} {m : Nat} {uv : Value} {c : Int} (h : StIs s w g x y z j av m uv c) (i : Nat) : w.frozen? ⟨s, i, none⟩ = false := by
  unfold StIs at h; simp [World.frozen?, h]
theorem StIs.lt {s : Nat} {w : World} {g x y z j : Nat} {av : Value} {m : Nat} {uv : Value} {c : Int} (h : StIs s w g x y z j av m uv c) : s < w.heap.size := lt_of_block h
theorem StIs.below {s : Nat} {w w' : World} {g x y z j : Nat} {av : Value} {m : Nat} {uv : Value} {c : Int} (h : StIs s w g x y z j av m uv c) (k : Below w.heap.size w w') : StIs s w' g x y z j av m uv c := (k.block s h.lt).trans h
theorem StIs.only {s : Nat} {w w' : World} {g x y z j : Nat} {av : Value} {m : Nat} {uv : Value} {c : Int} {fp : List Nat} (h : StIs s w g x y z j av m uv c) (k : Dv.Only fp w w') (hs : s ∉ fp) : StIs s w' g x y z j av m uv c := (k.block s h.lt hs).trans h
theorem StIs.set {s : Nat} {w : World} {g x y z j : Nat} {av : Value} {m : Nat} {uv : Value} {c : Int} (h : StIs s w g x y z j av m uv c) (i : Nat) (v : Value) : (w.setCell ⟨s, i, none⟩ v).heap[s]? = some (.cells ((stC g x y z j av m uv c).set! i v) 107 (0, 0)) := cells_set h v
theorem StIs.acts {s : Nat} {w : World} {g x y z j : Nat} {av : Value} {m : Nat} {uv : Value} {c : Int} (h : StIs s w g x y z j av m uv c) (v : Value) : StIs s (w.setCell ⟨s, 10, none⟩ v) g x y z j v m uv c := h.set 10 v
theorem StIs.under {s : Nat} {w : World} {g x y z j : Nat} {av : Value} {m : Nat} {uv : Value} {c : Int} (h : StIs s w g x y z j av m uv c) (v : Value) : StIs s (w.setCell ⟨s, 12, none⟩ v) g x y z j av m v c := h.set 12 v
theorem StIs.count {s : Nat} {w : World} {g x y z j : Nat} {av : Value} {m : Nat} {uv : Value} {c : Int} (h : StIs s w g x y z j av m uv c) (v : Int) : StIs s (w.setCell ⟨s, 13, none⟩ (.int .i64 v)) g x y z j av m uv v := h.set 13 (.int .i64 v)
set_option maxRecDepth 100000 in
theorem snone_any {s : Nat} {g x y z j : Nat} {av : Value} {m : Nat} {uv : Value} {c : Int} (w : World) (h : StIs s w g x y z j av m uv c) : Calls Tryz.prog 62 #[.pointer (some ⟨s, 0, none⟩)] w fun e w' => e = .returned (.bool false) ∧ w' = w := by
  have c0 := h.cell 0
  simp only [stC, List.getElem?_toArray, List.getElem?_cons_zero] at c0
  clear h
  go_enter Tryz.func62, Tryz.ntmps62
  go_wp2
  go_ret
  exact ⟨rfl, rfl⟩
set_option maxRecDepth 100000 in
theorem busy_any {s : Nat} {g x y z j : Nat} {ao : Option Addr} {n cap : Nat} {m : Nat} {uv : Value} {c : Int} (w : World) (h : StIs s w g x y z j (.slice ao n cap) m uv c) : Calls Tryz.prog 21 #[.pointer (some ⟨s, 0, none⟩)] w fun e w' => e = .returned (.bool (decide (0 < n))) ∧ w' = w := by
  have HN := hid (snone_any w h)
  have c10 : w.cell? ⟨s, 10, none⟩ = some (.slice ao n cap) := (h.cell 10).trans rfl
  clear h
  go_enter Tryz.func21, Tryz.ntmps21
  go_wp2_with (first | (go_at_call 62; refine HN.out.mono ?_; rintro e w1 ⟨rfl, hw⟩; have hw := hw.symm; subst hw))
  go_ret
  refine ⟨?_, rfl⟩
  by_cases h0 : 0 < n
  · simp [h0]
  · simp [h0]
set_option maxRecDepth 100000 in
theorem lay_none {s : Nat} {g x y z j : Nat} {av : Value} {m : Nat} {uv : Value} {c : Int} {r : Option Nat} {P : Int} {T F : Nat} {l : List Int} (hP : 0 < P) (w : World) (h : StIs s w g x y z j av m uv c) (hj : JS j r w P T F 0 l) : Calls Tryz.prog 56 #[.pointer (some ⟨s, 0, none⟩)] w fun e w' => e = .returned (.tuple #[]) ∧ ∃ q, w' = w.drewN q := by
  have c9 : w.cell? ⟨s, 9, none⟩ = some (.pointer (some ⟨j, 0, none⟩)) := (h.cell 9).trans rfl
  have HC := hid (jcount j r P T F 0 l hP w hj)
  clear h hj
  go_enter Tryz.func56, Tryz.ntmps56
  go_wp2_with (first | (go_at_call 102; refine HC.out.mono ?_; rintro e w1 ⟨rfl, q, hw⟩; have hw := hw.symm; subst hw))
  (try simp only [Exit.inBlock, Exit.then]); refine bodyPost_ret (results_none rfl _ _ _) rfl ?_
  exact ⟨rfl, q, rfl⟩
end Go.Proofs.YtopebghandojbaaGreat
