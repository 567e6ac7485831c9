import Derived.Test.YtjnhibpebikkmaaGreatFc
import Derived.Deep.RegionHeld3
namespace Go.Proofs.YtjnhibpebikkmaaGreat
open Go.RowKit Go.Maps

theorem bel_self {w w' : World} (h : Below w.heap.size w w') : Below w.heap.size w w' := ⟨h.os, h.tape, h.output, h.size, h.block⟩
/-- the blocks with inode i put -/
def putB (G : Geo) (B : List ByteArray) (i : Nat) (n : Ino) : List ByteArray := B.set (G.t + i / 4) (putV (bk B (G.t + i / 4)) ((i % 4 : Nat) : Int) n)
theorem putV_size (b : ByteArray) (k : Nat) (n : Ino) (hb : b.size = 128) (hk : k < 4) (hn : chkE n = 0) : (putV b (k : Int) n).size = 128 := by
  have h1 : parE b (k : Int) 4 = 0 := by unfold parE; rw [if_pos hb, if_pos]; omega
  have h2 : putE b (k : Int) n = 0 := by unfold putE; rw [if_pos h1]; exact hn
  unfold putV
  rw [if_pos h2]
  exact put_size b k n hb hk
/-- the cells of an inode in memory -/
def cell11 (q : Nat) (w : World) (k l z a b c d e f s t : Int) : Prop := w.cell? ⟨q, 0, none⟩ = some (.int .i64 k) ∧ w.cell? ⟨q, 1, none⟩ = some (.int .i64 l) ∧ w.cell? ⟨q, 2, none⟩ = some (.int .i64 z) ∧ w.cell? ⟨q, 3, none⟩ = some (.int .i64 a) ∧ w.cell? ⟨q, 4, none⟩ = some (.int .i64 b) ∧ w.cell? ⟨q, 5, none⟩ = some (.int .i64 c) ∧ w.cell? ⟨q, 6, none⟩ = some (.int .i64 d) ∧ w.cell? ⟨q, 7, none⟩ = some (.int .i64 e) ∧ w.cell? ⟨q, 8, none⟩ = some (.int .i64 f) ∧ w.cell? ⟨q, 9, none⟩ = some (.int .i64 s) ∧ w.cell? ⟨q, 10, none⟩ = some (.int .i64 t)
set_option maxRecDepth 100000 in
set_option maxHeartbeats 2000000 in
theorem vput_any {G : Geo} {p q cap m : Nat} {w : World} {F B : List ByteArray} (i : Nat) (hi : i < G.z) (n : Ino) (hn : chkE n = 0) (h : VI G p q cap m w F B) : Calls Tryz.prog 32 #[.pointer (some ⟨p, 0, none⟩), .int .i64 (i : Int), n.v] w fun e w' => e = .returned (.tuple #[]) ∧ VI G p q cap m w' F (putB G B i n) ∧ Only [m] w w' := by
  have HO := hid h.ok
  have hbn : G.t + i / 4 < G.n := by have := HO.out.tz; have := HO.out.sum; have := HO.out.c4; omega
  have HSZ := hid (putV_size (bk B (G.t + i / 4)) (i % 4) n (h.size _ hbn) (by omega) hn)
  unfold putB
  obtain ⟨b, hb⟩ : ∃ b, b = G.t + i / 4 := ⟨_, rfl⟩
  have HT := hid (fun w' (hv : VI G p q cap m w' F B) => tableBlock_any (w := w') i hi hv)
  rw [← hb] at HSZ hbn HT ⊢
  have HK := hid (fun w' (hv : VI G p q cap m w' F B) => block_any (w := w') b hbn hv)
  have HP := hid (put_any (bk B b) ((i % 4 : Nat) : Int) n)
  have HC := hid (fun w' (hv : VI G p q cap m w' F B) => change_any (w := w') b hbn (putV (bk B b) ((i % 4 : Nat) : Int) n) HSZ.out hv)
  rw [← mod4] at HP HC ⊢
  have HV := hid h
  clear h HSZ hb hn HO
  obtain ⟨u, hu⟩ : ∃ u, u = putV (bk B b) ((i : Int) % 4) n := ⟨_, rfl⟩
  obtain ⟨x, hx⟩ : ∃ x, x = putE (bk B b) ((i : Int) % 4) n := ⟨_, rfl⟩
  rw [← hu, ← hx] at HP
  rw [← hu] at HC ⊢
  clear hu hx
  obtain ⟨kb, hkb⟩ : ∃ kb, kb = bk B b := ⟨_, rfl⟩
  rw [← hkb] at HK HP
  clear hkb
  obtain ⟨k, l, z, a, bb, c, d, e, f, s, t⟩ := n
  simp only [Ino.v] at HP ⊢
  go_enter Tryz.func32, Tryz.ntmps32
  go_wp2_with (go_at_call 44; fail)
  obtain ⟨w1, hw1⟩ : ∃ w1, w1 = w.alloc (.cells #[.int .i64 k, .int .i64 l, .int .i64 z, .int .i64 a, .int .i64 bb, .int .i64 c, .int .i64 d, .int .i64 e, .int .i64 f, .int .i64 s, .int .i64 t] 33) := ⟨_, rfl⟩
  have hX1 : Box w.heap.size w1 ⟨k, l, z, a, bb, c, d, e, f, s, t⟩ := by rw [hw1]; exact box_at _ _
  have HB1 : Hid (Below w.heap.size w w1) := by rw [hw1]; exact below_alloc w _
  rw [← hw1]
  clear hw1
  have HV1 := hid (HV.out.below HB1.out)
  have HX1 := hid hX1
  have hc1 := hX1.cells
  clear hX1
  go_wp2_with (first
    | (go_at_call 44; refine (HT.out _ HV1.out).mono ?_; rintro e w2 ⟨rfl, hw⟩; have hw := hw.symm; subst hw))
  go_region_held3 (fun w' => w'.cell? ⟨w.heap.size, 0, none⟩ = some (.int .i64 k) ∧ w'.cell? ⟨w.heap.size, 1, none⟩ = some (.int .i64 l) ∧ w'.cell? ⟨w.heap.size, 2, none⟩ = some (.int .i64 z) ∧ w'.cell? ⟨w.heap.size, 3, none⟩ = some (.int .i64 a) ∧ w'.cell? ⟨w.heap.size, 4, none⟩ = some (.int .i64 bb) ∧ w'.cell? ⟨w.heap.size, 5, none⟩ = some (.int .i64 c) ∧ w'.cell? ⟨w.heap.size, 6, none⟩ = some (.int .i64 d) ∧ w'.cell? ⟨w.heap.size, 7, none⟩ = some (.int .i64 e) ∧ w'.cell? ⟨w.heap.size, 8, none⟩ = some (.int .i64 f) ∧ w'.cell? ⟨w.heap.size, 9, none⟩ = some (.int .i64 s) ∧ w'.cell? ⟨w.heap.size, 10, none⟩ = some (.int .i64 t)) (first | exact hc1 | exact hc6 | exact hc5 | go_keep) (first
    | (go_at_call 40; refine (HK.out _ (by exact HV1.out.below ⟨rfl, rfl, rfl, Nat.le_refl _, fun _ _ => rfl⟩)).mono ?_; rintro e w5 ⟨rfl, hb5⟩
       have HB5 : Hid (Below w1.heap.size w1 w5) := hid ⟨hb5.os, hb5.tape, hb5.output, hb5.size, hb5.block⟩
       have hc5 := (HX1.out.below HB5.out).cells
       clear hb5)
    | (go_at_call 55; refine (HP.out _).mono ?_; rintro e w6 ⟨rfl, hb6⟩
       have HB6 : Hid (Below w5.heap.size w5 w6) := hid ⟨hb6.os, hb6.tape, hb6.output, hb6.size, hb6.block⟩
       have hc6 := (HX1.out.below (HB5.out.next HB6.out)).cells
       clear hb6))
  all_goals
    go_wp2_with (first
      | (go_at_call 54; refine (HC.out _ (by exact (HV1.out.below (HB5.out.next HB6.out)).below ⟨rfl, rfl, rfl, Nat.le_refl _, fun _ _ => rfl⟩)).mono ?_; rintro e w7 ⟨rfl, hv7, ho7⟩))
    go_end0
    exact ⟨rfl, hv7, (Only.of_below ((HB1.out.next HB5.out).next HB6.out)).trans ⟨ho7.os, ho7.tape, ho7.output, ho7.size, ho7.block⟩⟩
end Go.Proofs.YtjnhibpebikkmaaGreat
