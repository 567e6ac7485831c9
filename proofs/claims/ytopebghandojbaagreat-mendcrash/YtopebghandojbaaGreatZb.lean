import Derived.Test.YtopebghandojbaaGreatZa
import Derived.Test.YtopebghandojbaaGreatDfl
import Derived.Test.YtopebghandojbaaGreatJi
namespace Go.Proofs.YtopebghandojbaaGreat
open Go.RowKit Go.Maps

theorem sealed_size (l : List UInt8) (h : l.length ≤ 122) : (st (sealL (bodyL l))).size = 128 := by
  rw [← len_list, show (st (sealL (bodyL l))).data.toList = sealL (bodyL l) from rfl, sealL_len, bodyL_len l h]
theorem super_size (x y z : Nat) : (Sh.superS x y z).size = 128 := sealed_size _ (by rw [Sh.superL_len]; omega)
theorem hdB_size (T F E : Nat) : (hdB T F E).size = 128 := sealed_size _ (by unfold hdL; simp [fEnc_len])
theorem cnt_one {d : ByteArray} (h : d.size = 128) : Dv.cnt d = 1 := by unfold Dv.cnt; omega
theorem JS.only {g : Nat} {r : Option Nat} {w w' : World} {P : Int} {T F S : Nat} {l : List Int} {fp : List Nat} (h : JS g r w P T F S l) (k : Dv.Only fp w w') (hg : g ∉ fp) (hr : ∀ x, r = some x → x ∉ fp) : JS g r w' P T F S l := by
  have hl := h.lt
  obtain ⟨sv, h0, h1, h2⟩ := h
  refine ⟨sv, h0, (k.block g hl.1 hg).trans h1, h2.same fun x hx => k.block x (hl.2 x (h0 ▸ hx)).1 (hr x (h0 ▸ hx))⟩
/-- two blocks of a call's own, and nothing else has changed -/
def Two (w0 : World) (p q : Nat) (o1 o2 : Obj) (w : World) : Prop := w.heap[p]? = some o1 ∧ w.heap[q]? = some o2 ∧ Below w0.heap.size w0 w
theorem Two.next {w0 w w' : World} {p q : Nat} {o1 o2 : Obj} (h : Two w0 p q o1 o2 w) (k : Below w.heap.size w w') : Two w0 p q o1 o2 w' :=
  ⟨(k.block p (lt_of_block h.1)).trans h.1, (k.block q (lt_of_block h.2.1)).trans h.2.1, h.2.2.next k⟩
theorem Two.only {w0 w w' : World} {p q : Nat} {o1 o2 : Obj} {fp : List Nat} (h : Two w0 p q o1 o2 w) (k : Dv.Only fp w w') (hp : p ∉ fp) (hq : q ∉ fp) (hf : ∀ x ∈ fp, w0.heap.size ≤ x) : Two w0 p q o1 o2 w' :=
  ⟨(k.block p (lt_of_block h.1) hp).trans h.1, (k.block q (lt_of_block h.2.1) hq).trans h.2.1, h.2.2.trans (k.below h.2.2.size hf)⟩
/-- what a device that was formatted has -/
def fmtL (x y z : Nat) : Nat → Option ByteArray := Dv.seen (fun _ => none) [(0, Sh.superS x y z), (1, hdB 0 1 1)]
set_option maxRecDepth 100000 in
set_option maxHeartbeats 4000000 in
theorem format_nil (x y z : Nat) (h : Sh.okS x y z) (w : World) : Calls Tryz.prog 8 #[.agg #[.int .i64 x, .int .i64 y, .int .i64 z], .slice none 0 0] w fun e w' =>
    ∃ g fp, e = .returned (.tuple #[.pointer (some ⟨g, 0, none⟩), .int .i64 0]) ∧ Dv.DIs w.heap.size g w' 4 ⟨x, fmtL x y z, []⟩ fp ∧ Below w.heap.size w w' := by
  have hx := h.1.1
  have hy := h.1.2.1
  have hx1 : 16 ≤ x := by omega
  have hx2 : x ≤ 1024 := by omega
  have hy1 : 8 ≤ y := by omega
  have hy2 : y ≤ 256 := by omega
  have HO := hid (fun w => Sh.of_ok x y z h w)
  unfold Sh.regS at HO
  have HR := hid right_none
  have HW : Hid (∀ (w : World) (r2 r3 r4 : Int), Calls Tryz.prog 42 #[.slice none 0 0, .agg #[.int .i64 x, .int .i64 y, .int .i64 z], .agg #[.int .i64 1, .int .i64 (1 + (y : Int)), .int .i64 r2, .int .i64 r3, .int .i64 r4]] w fun e w' => e = .returned (.bool true) ∧ Below w.heap.size w w') :=
    hid (fun w r2 r3 r4 => within_any _ _ x y z 1 (1 + y) r2 r3 r4 w (CLie.nil w))
  have HD := hid (fun w' (k : w.heap.size ≤ w'.heap.size) => Dv.new_any x (by omega) hx2 w.heap.size w' k)
  have HJ := hid (fun w => new_j y w hy)
  have HS := hid (fun w => Sh.super_ok x y z h w)
  have HF := hid (show fmtL x y z = Dv.seen (fun _ => none) [(0, Sh.superS x y z), (1, hdB 0 1 1)] from rfl)
  have HSZ := super_size x y z
  have HHZ := hdB_size 0 1 1
  obtain ⟨su, hsu⟩ : ∃ su, su = Sh.superS x y z := ⟨_, rfl⟩
  obtain ⟨hd, hhd⟩ : ∃ hd, hd = hdB 0 1 1 := ⟨_, rfl⟩
  rw [← hsu] at HS HF HSZ
  rw [← hhd] at HF HHZ
  have HHD : Hid (∀ (g : Nat) (w : World), JS g none w ((y : Int) - 1) 0 1 0 [] → Calls Tryz.prog 45 #[.pointer (some ⟨g, 0, none⟩)] w fun e w' => e = .returned (.string hd) ∧ Below w.heap.size w w') := by
    refine hid (fun g w hj => ?_)
    rw [hhd]
    exact jheader g none _ 0 1 0 [] (by omega) (by decide) (by decide) w hj
  have HWA : Hid (∀ (base : Nat) (fp : List Nat) (g : Nat) (w : World), Dv.DIs base g w 0 ⟨x, fun _ => none, []⟩ fp → base ≤ w.heap.size → Calls Tryz.prog 29 #[.pointer (some ⟨g, 0, none⟩), .int .i64 0, .string su] w fun e w' => e = .returned (.int .i64 0) ∧ ∃ fp', Dv.DIs base g w' 1 ⟨x, fun _ => none, [(0, su)]⟩ fp' ∧ Dv.Only fp w w' ∧ ∀ k ∈ fp', k ∈ fp ∨ w.heap.size ≤ k) := by
    refine hid (fun base fp g w hD hb => ?_)
    have k := Dv.write_ok 0 su (by omega) (by omega) (by omega) (by rw [cnt_one HSZ]; show 0 + 1 ≤ x; omega) (by omega) (by show (0 : Nat) ≤ _; omega) w hD hb
    rw [cnt_one HSZ] at k
    exact k
  have HWB : Hid (∀ (base : Nat) (fp : List Nat) (g : Nat) (w : World), Dv.DIs base g w 1 ⟨x, fun _ => none, [(0, su)]⟩ fp → base ≤ w.heap.size → Calls Tryz.prog 29 #[.pointer (some ⟨g, 0, none⟩), .int .i64 1, .string hd] w fun e w' => e = .returned (.int .i64 0) ∧ ∃ fp', Dv.DIs base g w' 2 ⟨x, fun _ => none, [(0, su), (1, hd)]⟩ fp' ∧ Dv.Only fp w w' ∧ ∀ k ∈ fp', k ∈ fp ∨ w.heap.size ≤ k) := by
    refine hid (fun base fp g w hD hb => ?_)
    have k := Dv.write_ok 1 hd (by omega) (by omega) (by omega) (by rw [cnt_one HHZ]; show 1 + 1 ≤ x; omega) (by omega) (by show (1 : Nat) ≤ _; omega) w hD hb
    rw [cnt_one HHZ] at k
    exact k
  clear h hsu hx hy hhd
  go_enter Tryz.func8, Tryz.ntmps8
  go_wp2_with (first
    | (go_at_call 40; refine (HO.out _).mono ?_; rintro e w1 ⟨rfl, hb1⟩; obtain ⟨a0, a1, a2⟩ := three_cells (Sh.var_a hb1); have hs1 := lt_of_block (Sh.var_a hb1))
    | (go_at_call 41; refine (HR.out _).mono ?_; rintro e w2 ⟨rfl, hw⟩; have hw := hw.symm; subst hw)
    | (go_at_call 42; refine (HW.out _ _ _ _).mono ?_; rintro e w3 ⟨rfl, hb3⟩
       have hv3 : Hid (Two w w.heap.size w1.heap.size _ _ w3) := hid (Two.next ⟨(Below.heap_alloc _ _ _ hs1).trans (Sh.var_a hb1), box_at _ _, ((below_alloc w _).next hb1).next (below_alloc w1 _)⟩ hb3)
       obtain ⟨a0, a1, a2⟩ := three_cells hv3.out.1)
    | (go_at_call 27; refine (HD.out _ hv3.out.2.2.size).mono ?_; rintro e w4 ⟨rfl, hd4, hb4⟩
       have hv4 := hid (hv3.out.next hb4)
       have hD4 := hid hd4
       clear hd4
       obtain ⟨a0, a1, a2⟩ := three_cells hv4.out.1)
    | (go_at_call 43; refine (HJ.out _).mono ?_; rintro e w5 ⟨rfl, hj5, hb5⟩
       have hJ5 := hid hj5
       clear hj5
       have hv5 := hid (hv4.out.next hb5)
       have hD5 := hid (hD4.out.below hb5)
       obtain ⟨a0, a1, a2⟩ := three_cells hv5.out.1)
    | (go_at_call 44; refine (HS.out _).mono ?_; rintro e w6 ⟨rfl, hb6⟩
       have hv6 := hid (hv5.out.next hb6)
       have hD6 := hid (hD5.out.below hb6)
       have hJ6 := hid (hJ5.out.below hb6)
       obtain ⟨b0, b1, b2, b3, b4⟩ := Sh.five_cells hv6.out.2.1)
    | (go_at_call 29; refine (HWA.out _ _ (w3.heap.size + 2) _ hD6.out hv6.out.2.2.size).mono ?_; rintro e w7 ⟨rfl, fp7, hd7, ho7, hf7⟩
       have hD7 := hid hd7
       have hO7 := hid ho7
       have hF7 := hid hf7
       clear hd7 ho7 hf7
       have hl1 := lt_of_block hv3.out.1
       have hl2 := lt_of_block hv3.out.2.1
       have hl3 := hv6.out.2.2.size
       have hv7 := hid (hv6.out.only hO7.out (by simp; omega) (by simp; omega) (by intro a ha; simp at ha; omega))
       have hl4 := hD4.out.lo (w3.heap.size + 2) (by simp)
       have hJ7 := hid (hJ6.out.only hO7.out (by simp; omega) (fun _ h => by cases h))
       have hN7 : Hid (w.heap.size ∉ fp7 ∧ w1.heap.size ∉ fp7) := by
         have k1 := lt_of_block hv6.out.1
         have k2 := lt_of_block hv6.out.2.1
         constructor <;> (intro hm; have := hF7.out _ hm; simp at this; omega)
       obtain ⟨b0, b1, b2, b3, b4⟩ := Sh.five_cells hv7.out.2.1))
  go_cut [] (fun wx => ∃ fp, Dv.DIs w.heap.size (w3.heap.size + 2) wx 2 ⟨x, fun _ => none, [(0, su), (1, hd)]⟩ fp ∧ Below w.heap.size w wx)
  case first =>
    go_region_with (first
      | (go_at_call 45; refine (HHD.out _ w7.drew hJ7.out).mono ?_; rintro e w8 ⟨rfl, hb8⟩
         have hb8 := hid (Dv.undrew hb8)
         have hv8 := hid (hv7.out.next hb8.out)
         have hD8 := hid (hD7.out.below hb8.out)
         obtain ⟨b0, b1, b2, b3, b4⟩ := Sh.five_cells hv8.out.2.1)
      | (go_at_call 29; refine (HWB.out _ _ (w3.heap.size + 2) _ hD8.out hv8.out.2.2.size).mono ?_; rintro e w9 ⟨rfl, fp9, hd9, ho9, hf9⟩
         have hD9 := hid hd9
         have hv9 := hid (hv8.out.only ho9 hN7.out.1 hN7.out.2 (fun a ha => (hD8.out.lo a ha).1))
         clear hd9 ho9 hf9))
    all_goals
      go_wp2
      go_meet
      exact ⟨fp9, hD9.out, hv9.out.2.2⟩
  case rest =>
    obtain ⟨fp9, hd9, hb9⟩ := hcut
    rename World => w9
    have HFL := hid (Dv.flush_any (by omega) w9 hd9)
    have HB9 := hid hb9
    clear hb9 hd9
    go_wp2
    go_loopw [62] (fun i wr => i = .int .i64 0 ∧ wr = w9) (fun _ _ => 0)
    case atStart => exact ⟨rfl, rfl⟩
    case round =>
      obtain ⟨rfl, rfl⟩ := hrel
      go_wp2_with (first | (go_at_call 31; refine HFL.out.mono ?_; rintro e w10 ⟨rfl, hd10, ho10⟩))
      go_ret2
      refine ⟨_, fp9, rfl, ?_, ?_⟩
      · rw [HF.out]; exact hd10
      · exact HB9.out.trans (ho10.below HB9.out.size (fun a ha => (hd10.lo a ha).1))
end Go.Proofs.YtopebghandojbaaGreat
