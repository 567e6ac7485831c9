import Derived.Test.YtjnhibpebikkmaaGreatFf
namespace Go.Proofs.YtjnhibpebikkmaaGreat
open Go.RowKit Go.Maps

/-- the number at a place of an inode -/
def Ino.at (n : Ino) : Nat → Int | 0 => n.a | 1 => n.b | 2 => n.c | 3 => n.d | 4 => n.e | 5 => n.f | 6 => n.s | _ => n.t
theorem Box.at {q : Nat} {w : World} {n : Ino} (h : Box q w n) (pl : Nat) (hp : pl < 8) : w.cell? ⟨q, 3 + pl, none⟩ = some (.int .i64 (n.at pl)) := by
  unfold Box at h
  have e : pl = 0 ∨ pl = 1 ∨ pl = 2 ∨ pl = 3 ∨ pl = 4 ∨ pl = 5 ∨ pl = 6 ∨ pl = 7 := by omega
  rcases e with rfl | rfl | rfl | rfl | rfl | rfl | rfl | rfl <;> simp [World.cell?, h, Ino.at]
/-- a number, if it is a data block's -/
def datN (G : Geo) (x : Int) : Int := if (G.da : Int) ≤ x ∧ x < (G.n : Int) then x else 0
/-- what stands at a spot -/
def nmx (B : List ByteArray) (n : Ino) (inn pl : Nat) : Int := if inn = 0 then n.at pl else namV (bk B inn) (pl : Int)
def nmd (G : Geo) (B : List ByteArray) (n : Ino) (inn pl : Nat) : Int := datN G (nmx B n inn pl)
theorem datN_cases (G : Geo) (x : Int) : (x < G.da ∧ datN G x = 0) ∨ (¬ x < G.da ∧ (G.n : Int) ≤ x ∧ datN G x = 0) ∨ (¬ x < G.da ∧ ¬ (G.n : Int) ≤ x ∧ datN G x = x) := by
  unfold datN
  by_cases h1 : x < G.da
  · exact .inl ⟨h1, if_neg (by omega)⟩
  · by_cases h2 : (G.n : Int) ≤ x
    · exact .inr (.inl ⟨h1, h2, if_neg (by omega)⟩)
    · exact .inr (.inr ⟨h1, h2, if_pos (by omega)⟩)
set_option maxRecDepth 100000 in
set_option maxHeartbeats 2000000 in
theorem named_in {G : Geo} {p q cap m : Nat} {w : World} {F B : List ByteArray} (n : Ino) (pl : Nat) (hp : pl < 8) (h : VI G p q cap m w F B) : Calls Tryz.prog 58 #[.pointer (some ⟨p, 0, none⟩), n.v, .agg #[.int .i64 0, .int .i64 (pl : Int)]] w fun e w' => e = .returned (.int .i64 (datN G (n.at pl))) ∧ Below w.heap.size w w' := by
  have HV := hid h
  have HNu := hid (fun g => number_any g pl hp)
  have HE := hid (fun w' (hv : VI G p q cap m w' F B) => end_any (w := w') hv)
  have HAT := hid (fun w' (hb : Box w.heap.size w' n) => hb.at pl hp)
  obtain ⟨x, hx⟩ : ∃ x, x = n.at pl := ⟨_, rfl⟩
  rw [← hx] at HAT ⊢
  have HD := hid (datN_cases G x)
  obtain ⟨y, hy⟩ : ∃ y, y = datN G x := ⟨_, rfl⟩
  rw [← hy] at HD ⊢
  clear h hp hx hy
  obtain ⟨k, l, z, a, b, c, d, e, f, s, t⟩ := n
  simp only [Ino.v]
  go_enter Tryz.func58, Tryz.ntmps58
  go_wp2_with (go_at_call 83; fail)
  obtain ⟨w1, hw1⟩ : ∃ w1, w1 = (w.alloc (.cells #[.int .i64 k, .int .i64 l, .int .i64 z, .int .i64 a, .int .i64 b, .int .i64 c, .int .i64 d, .int .i64 e, .int .i64 f, .int .i64 s, .int .i64 t] 33)).alloc (.cells #[.int .i64 0, .int .i64 (pl : Int)] 102) := ⟨_, rfl⟩
  have HB1 : Hid (Below w.heap.size w w1) := by rw [hw1]; exact (below_alloc w _).next (below_alloc _ _)
  have hX1 : Box w.heap.size w1 ⟨k, l, z, a, b, c, d, e, f, s, t⟩ := by rw [hw1]; exact Box.below (box_at _ _) (below_alloc _ _)
  rw [← hw1]
  clear hw1
  have cx := HAT.out _ hX1
  have HV1 := hid (HV.out.below HB1.out)
  have c3 : w1.cell? ⟨p, 3, none⟩ = some (.int .i64 (G.da : Int)) := (HV1.out.cell 3).trans rfl
  clear hX1 HAT
  have HE1 := hid (HE.out w1 HV1.out)
  clear HE HV
  rcases HD.out with ⟨g1, e0⟩ | ⟨g1, g2, e0⟩ | ⟨g1, g2, e0⟩
  all_goals subst e0; clear HD
  · have d1 : decide (x < (G.da : Int)) = true := by simp [g1]
    clear g1
    go_wp2_with (first
      | (go_at_call 83; refine (HNu.out _ _).mono ?_; rintro e w2 ⟨rfl, hw⟩; have hw := hw.symm; subst hw)
      | (go_at_call 41; refine HE1.out.mono ?_; rintro e w2 ⟨rfl, j, hw⟩; have hw := hw.symm; subst hw))
    go_ret
    exact ⟨rfl, HB1.out⟩
  · have d1 : decide (x < (G.da : Int)) = false := by simp; omega
    have d2 : decide ((G.n : Int) ≤ x) = true := by simp [g2]
    clear g1 g2
    go_wp2_with (first
      | (go_at_call 83; refine (HNu.out _ _).mono ?_; rintro e w2 ⟨rfl, hw⟩; have hw := hw.symm; subst hw)
      | (go_at_call 41; refine HE1.out.mono ?_; rintro e w2 ⟨rfl, j, hw⟩; have hw := hw.symm; subst hw))
    go_ret
    exact ⟨rfl, HB1.out.dN _⟩
  · have d1 : decide (y < (G.da : Int)) = false := by simp; omega
    have d2 : decide ((G.n : Int) ≤ y) = false := by simp; omega
    clear g1 g2
    go_wp2_with (first
      | (go_at_call 83; refine (HNu.out _ _).mono ?_; rintro e w2 ⟨rfl, hw⟩; have hw := hw.symm; subst hw)
      | (go_at_call 41; refine HE1.out.mono ?_; rintro e w2 ⟨rfl, j, hw⟩; have hw := hw.symm; subst hw))
    go_ret
    exact ⟨rfl, HB1.out.dN _⟩
set_option maxRecDepth 100000 in
set_option maxHeartbeats 2000000 in
theorem named_out {G : Geo} {p q cap m : Nat} {w : World} {F B : List ByteArray} (n : Ino) (inn pl : Nat) (hi0 : inn ≠ 0) (hi : inn < G.n) (h : VI G p q cap m w F B) : Calls Tryz.prog 58 #[.pointer (some ⟨p, 0, none⟩), n.v, .agg #[.int .i64 (inn : Int), .int .i64 (pl : Int)]] w fun e w' => e = .returned (.int .i64 (datN G (namV (bk B inn) (pl : Int)))) ∧ Below w.heap.size w w' := by
  have HV := hid h
  have HK := hid (fun w' (hv : VI G p q cap m w' F B) => block_any (w := w') inn hi hv)
  have HN := hid (name_any (bk B inn) (pl : Int))
  have HE := hid (fun w' (hv : VI G p q cap m w' F B) => end_any (w := w') hv)
  obtain ⟨x, hx⟩ : ∃ x, x = namV (bk B inn) (pl : Int) := ⟨_, rfl⟩
  obtain ⟨pe, hpe⟩ : ∃ x, x = parE (bk B inn) (pl : Int) 64 := ⟨_, rfl⟩
  rw [← hx, ← hpe] at HN
  rw [← hx]
  have HD := hid (datN_cases G x)
  obtain ⟨y, hy⟩ : ∃ y, y = datN G x := ⟨_, rfl⟩
  rw [← hy] at HD ⊢
  obtain ⟨kb, hkb⟩ : ∃ kb, kb = bk B inn := ⟨_, rfl⟩
  rw [← hkb] at HK HN
  have hi0' : ¬ ((inn : Int) = 0) := by omega
  clear h hx hy hpe hkb hi hi0
  obtain ⟨k, l, z, a, b, c, d, e, f, s, t⟩ := n
  simp only [Ino.v]
  go_enter Tryz.func58, Tryz.ntmps58
  go_wp2_with (go_at_call 40; fail)
  obtain ⟨w1, hw1⟩ : ∃ w1, w1 = (w.alloc (.cells #[.int .i64 k, .int .i64 l, .int .i64 z, .int .i64 a, .int .i64 b, .int .i64 c, .int .i64 d, .int .i64 e, .int .i64 f, .int .i64 s, .int .i64 t] 33)).alloc (.cells #[.int .i64 (inn : Int), .int .i64 (pl : Int)] 102) := ⟨_, rfl⟩
  have HB1 : Hid (Below w.heap.size w w1) := by rw [hw1]; exact (below_alloc w _).next (below_alloc _ _)
  have hS1 : Spt (w.heap.size + 1) w1 (inn : Int) (pl : Int) := by rw [hw1]; exact (show _ = _ by have := box_at (w.alloc (.cells #[.int .i64 k, .int .i64 l, .int .i64 z, .int .i64 a, .int .i64 b, .int .i64 c, .int .i64 d, .int .i64 e, .int .i64 f, .int .i64 s, .int .i64 t] 33)) (.cells #[.int .i64 (inn : Int), .int .i64 (pl : Int)] 102); simpa using this)
  rw [← hw1]
  clear hw1
  have hc1 := hS1.cells
  have HS1 := hid hS1
  have HV1 := hid (HV.out.below HB1.out)
  clear hS1 HV
  go_region_held3 (fun w' => w'.cell? ⟨w.heap.size + 1, 0, none⟩ = some (.int .i64 (inn : Int)) ∧ w'.cell? ⟨w.heap.size + 1, 1, none⟩ = some (.int .i64 (pl : Int))) (first | exact hc1 | exact hc6 | exact hc5 | go_keep) (first
    | (go_at_call 40; refine (HK.out _ (by exact HV1.out.below ⟨rfl, rfl, rfl, Nat.le_refl _, fun _ _ => rfl⟩)).mono ?_; rintro e w5 ⟨rfl, hb5⟩
       have HB5 : Hid (Below w1.heap.size w1 w5) := hid ⟨hb5.os, hb5.tape, hb5.output, hb5.size, hb5.block⟩
       have hc5 := (HS1.out.below HB5.out).cells
       clear hb5)
    | (go_at_call 84; refine (HN.out _).mono ?_; rintro e w6 ⟨rfl, hb6⟩
       have HB6 : Hid (Below w5.heap.size w5 w6) := hid ⟨hb6.os, hb6.tape, hb6.output, hb6.size, hb6.block⟩
       have hc6 := (HS1.out.below (HB5.out.next HB6.out)).cells
       have HV6 := hid (HV1.out.below (HB5.out.next HB6.out))
       have c3 : w6.cell? ⟨p, 3, none⟩ = some (.int .i64 (G.da : Int)) := (HV6.out.cell 3).trans rfl
       clear hb6))
  all_goals
    rcases HD.out with ⟨g1, e0⟩ | ⟨g1, g2, e0⟩ | ⟨g1, g2, e0⟩
    all_goals subst e0; clear HD
    · have d1 : decide (x < (G.da : Int)) = true := by simp [g1]
      clear g1
      go_wp2_with (first
        | (go_at_call 41; refine (HE.out _ (by exact HV6.out.below ⟨rfl, rfl, rfl, Nat.le_refl _, fun _ _ => rfl⟩)).mono ?_; rintro e w2 ⟨rfl, j, hw⟩; have hw := hw.symm; subst hw))
      go_ret
      exact ⟨rfl, by first | exact (HB1.out.next HB5.out).next HB6.out | exact ((HB1.out.next HB5.out).next HB6.out).dN _⟩
    · have d1 : decide (x < (G.da : Int)) = false := by simp; omega
      have d2 : decide ((G.n : Int) ≤ x) = true := by simp [g2]
      clear g1 g2
      go_wp2_with (first
        | (go_at_call 41; refine (HE.out _ (by exact HV6.out.below ⟨rfl, rfl, rfl, Nat.le_refl _, fun _ _ => rfl⟩)).mono ?_; rintro e w2 ⟨rfl, j, hw⟩; have hw := hw.symm; subst hw))
      go_ret
      exact ⟨rfl, by first | exact (HB1.out.next HB5.out).next HB6.out | exact ((HB1.out.next HB5.out).next HB6.out).dN _⟩
    · have d1 : decide (y < (G.da : Int)) = false := by simp; omega
      have d2 : decide ((G.n : Int) ≤ y) = false := by simp; omega
      clear g1 g2
      go_wp2_with (first
        | (go_at_call 41; refine (HE.out _ (by exact HV6.out.below ⟨rfl, rfl, rfl, Nat.le_refl _, fun _ _ => rfl⟩)).mono ?_; rintro e w2 ⟨rfl, j, hw⟩; have hw := hw.symm; subst hw))
      go_ret
      exact ⟨rfl, by first | exact (HB1.out.next HB5.out).next HB6.out | exact ((HB1.out.next HB5.out).next HB6.out).dN _⟩
theorem named_any {G : Geo} {p q cap m : Nat} {w : World} {F B : List ByteArray} (n : Ino) (inn pl : Nat) (hi : inn < G.n) (hp : inn = 0 → pl < 8) (h : VI G p q cap m w F B) : Calls Tryz.prog 58 #[.pointer (some ⟨p, 0, none⟩), n.v, .agg #[.int .i64 (inn : Int), .int .i64 (pl : Int)]] w fun e w' => e = .returned (.int .i64 (nmd G B n inn pl)) ∧ Below w.heap.size w w' := by
  unfold nmd nmx
  by_cases e : inn = 0
  · subst e
    rw [if_pos rfl]
    exact named_in n pl (hp rfl) h
  · rw [if_neg e]
    exact named_out n inn pl e hi h
end Go.Proofs.YtjnhibpebikkmaaGreat
