import Derived.Test.YtogiiefaakejlaaCo
namespace Go.Proofs.Ytogiiefaakejlaa
open Go.RowKit Go.Maps

theorem any_ent (L : List Ck) (n : Int) : (L.map entC).any (fun x => x.b == n) = hasN L n := by
  unfold hasN
  rw [List.any_map]
  rfl
theorem look_nil (w : World) (n : Int) (hn : inI n) : (Instr.lookup 68 (.map none) (.int .i64 n) true).run Try.prog w = .ok (.tuple #[blk ByteArray.empty, .bool false]) w :=
  Maps.look_nil true law Try.underlying68 (zero72 w) (hkey n hn)
set_option maxRecDepth 100000 in
set_option maxHeartbeats 1000000 in
theorem has_any {base g : Nat} {w : World} {L : List Ck} (h : CI base g w L) (n : Int) (hn : inI n) : Calls Try.prog 32 #[.pointer (some ⟨g, 0, none⟩), .int .i64 n] w fun e w' => e = .returned (.bool (hasN L n)) ∧ Below w.heap.size w w' := by
  obtain ⟨mv, c0, c1, c2, ⟨rfl, rfl⟩ | ⟨hne, m, rfl, hbm, hm⟩⟩ := h.cells
  · have hlk := look_nil w n hn
    unfold blk at hlk
    go_enter Try.func32, Try.ntmps32
    go_wp2
    go_ret
    exact ⟨rfl, below_alloc _ _⟩
  · have hlk := hm.look2 n hn
    rw [findE_any, any_ent] at hlk
    obtain ⟨z, hz⟩ : ∃ z, z = (findE (L.map entC) n).getD ByteArray.empty := ⟨_, rfl⟩
    rw [← hz] at hlk
    unfold blk at hlk
    obtain ⟨r, hr⟩ : ∃ r, r = hasN L n := ⟨_, rfl⟩
    rw [← hr] at hlk ⊢
    clear hr hz hm h hne
    go_enter Try.func32, Try.ntmps32
    go_wp2
    go_ret
    exact ⟨rfl, below_alloc _ _⟩
theorem KBox.same {t : TypeId} {b : Nat} {w w' : World} {c : Ck} (h : KBox t b w c) (k : w'.heap[b]? = w.heap[b]?) : KBox t b w' c := k.trans h
theorem KBox.lt {t : TypeId} {b : Nat} {w : World} {c : Ck} (h : KBox t b w c) : b < w.heap.size := lt_of_block h
theorem CI.drew {base g : Nat} {w : World} {L : List Ck} (h : CI base g w L) (n : Nat) : CI base g (w.drewN n) L := h.same fun _ _ _ => rfl
theorem KBox.drew {t : TypeId} {b : Nat} {w : World} {c : Ck} (h : KBox t b w c) (n : Nat) : KBox t b (w.drewN n) c := h
theorem CFr.drew {g : Nat} {w w' : World} (h : CFr g w w') (n : Nat) : CFr g w (w'.drewN n) := ⟨h.size, h.block⟩
theorem begun_yes {base g : Nat} {w : World} {x : Ck} {r : List Ck} (h : CI base g w (x :: r)) : Calls Try.prog 31 #[.pointer (some ⟨g, 0, none⟩)] w fun e w' => e = .returned (.bool true) ∧ w' = w := begun_any h
theorem begun_no {base g : Nat} {w : World} (h : CI base g w []) : Calls Try.prog 31 #[.pointer (some ⟨g, 0, none⟩)] w fun e w' => e = .returned (.bool false) ∧ w' = w := begun_any h
/-- what Add tells -/
def AddR (base g : Nat) (w : World) (L : List Ck) (c : Ck) (e : Ending) (w' : World) : Prop :=
  e = .returned (.tuple #[.bool (addB L c), .int .i64 (addE L c)]) ∧ CI base g w' (addL L c) ∧ Below base w w' ∧ CFr g w w'
set_option maxRecDepth 100000 in
set_option maxHeartbeats 1000000 in
theorem add_bad {base g : Nat} {w : World} {L : List Ck} (h : CI base g w L) (c : Ck) (hs : c.dat.size ≤ maxLen) (hbw : base ≤ w.heap.size) (hr : rgt c = false) : Calls Try.prog 15 #[.pointer (some ⟨g, 0, none⟩), c.v] w (AddR base g w L c) := by
  have hA : addB L c = false ∧ addE L c = 4 ∧ addL L c = L := by unfold addL addE addB; rw [hr]; exact ⟨rfl, rfl, rfl⟩
  have HCK := hid (check_any c hs)
  rw [hr] at HCK
  obtain ⟨dg, t, n, d, sm⟩ := c
  have HB := hid (below_alloc w (.cells #[.int .i64 dg, .int .i64 t, .int .i64 n, .string d, .int .i64 sm] 24))
  unfold AddR
  rw [hA.1, hA.2.1, hA.2.2]
  have H := hid h
  clear hA h hr hs
  go_enter Try.func15, Try.ntmps15
  go_wp2_with (go_at_call 11; fail)
  refine (HCK.out _).mono ?_
  rintro e w1 ⟨rfl, hb1⟩
  have HB1 := hid (HB.out.next hb1)
  clear hb1
  go_wp2
  go_ret2
  exact ⟨rfl, H.out.below HB1.out, HB1.out.mono hbw, CFr.of_below HB1.out⟩
set_option maxRecDepth 100000 in
set_option maxHeartbeats 1000000 in
/-- a chunk of another snapshot -/
theorem add_other {base g : Nat} {w : World} {L : List Ck} (h : CI base g w L) (c : Ck) (hs : c.dat.size ≤ maxLen) (hbw : base ≤ w.heap.size) (hr : rgt c = true) (ho : okIn L c = false) : Calls Try.prog 15 #[.pointer (some ⟨g, 0, none⟩), c.v] w (AddR base g w L c) := by
  have hA : addB L c = false ∧ addE L c = 7 ∧ addL L c = L := by unfold addL addE addB; rw [hr, ho]; exact ⟨rfl, rfl, rfl⟩
  have HCK := hid (check_any c hs)
  rw [hr] at HCK
  obtain ⟨x, r, rfl⟩ : ∃ x r, L = x :: r := by cases L with | nil => cases ho | cons x r => exact ⟨x, r, rfl⟩
  have ho2 : ¬ (c.dg = x.dg ∧ c.tot = x.tot) := by simpa [okIn] using ho
  obtain ⟨dg, t, n, d, sm⟩ := c
  have HB := hid (below_alloc w (.cells #[.int .i64 dg, .int .i64 t, .int .i64 n, .string d, .int .i64 sm] 24))
  have HK := hid (KBox.made 24 w ⟨dg, t, n, d, sm⟩)
  unfold AddR
  rw [hA.1, hA.2.1, hA.2.2]
  have H := hid h
  clear hA h hr hs ho
  go_enter Try.func15, Try.ntmps15
  go_wp2_with (go_at_call 11; fail)
  refine (HCK.out _).mono ?_
  rintro e w1 ⟨rfl, hb1⟩
  have HB1 := hid (HB.out.next hb1)
  have hk1 : KBox 24 w.heap.size w1 ⟨dg, t, n, d, sm⟩ := KBox.same HK.out (hb1.block _ (by simp))
  obtain ⟨k0, k1, k2, k3, k4⟩ := hk1.cell
  have h1 := H.out.below HB1.out
  obtain ⟨mv, c0, c1, c2, hmv⟩ := h1.cells
  have HC1 := hid h1
  clear hb1 hk1 hmv h1
  simp only [dgOf, totOf] at c0 c1
  obtain ⟨xd, hxd⟩ : ∃ xd, xd = x.dg := ⟨_, rfl⟩
  obtain ⟨xt, hxt⟩ : ∃ xt, xt = x.tot := ⟨_, rfl⟩
  rw [← hxd] at c0 ho2
  rw [← hxt] at c1 ho2
  clear hxd hxt
  by_cases hd : dg = xd
  · have hd2 : (dg != xd) = false := by simpa using hd
    have ht2 : (t != xt) = true := by simp; exact fun e => ho2 ⟨hd, e⟩
    go_wp2_with (go_quiet ((go_at_call 31; exact Calls.quiet_of_same (begun_yes (HC1.out.drew _)))))
    go_ret2
    exact ⟨rfl, H.out.below (HB1.out.dN _), (HB1.out.dN _).mono hbw, CFr.of_below (HB1.out.dN _)⟩
  · have hd2 : (dg != xd) = true := by simpa using hd
    go_wp2_with (go_quiet ((go_at_call 31; exact Calls.quiet_of_same (begun_yes (HC1.out.drew _)))))
    go_ret2
    exact ⟨rfl, H.out.below (HB1.out.dN _), (HB1.out.dN _).mono hbw, CFr.of_below (HB1.out.dN _)⟩
end Go.Proofs.Ytogiiefaakejlaa
