import Derived.Test.YtglhibmfbbbdiaaMp
import Derived.Laws.IdiomRangeMap
import Derived.Deep.LoopGhost
namespace Go.Proofs.Ytglhibmfbbbdiaa
open Go.RowKit Go.Maps

theorem inv_gen {P : Program} {k : TypeId} {f0 : Field} (hk : P.underlying k = some (.struct #[f0])) (hoff : f0.offset = 0) (ht : P.underlying f0.type = some (.int .i64)) (hc : P.cellsOf k = 1) (hc0 : P.cellsOf f0.type = 1)
    (d : Nat) (hd : P.types.size = d + 1) {v : Value} {l : Lit} (h : keyOf P k v = some l) : ∃ n : Int, v = .agg #[.int .i64 n] := by
  unfold keyOf at h
  rw [hk, hd] at h
  simp only at h
  split at h
  · rename_i hh
    simp only [Bool.and_eq_true] at hh
    have hf := hh.2
    unfold Value.formed at hf
    rw [hk] at hf
    cases v <;> simp at hf
    rename_i a
    rw [hc] at hf
    obtain ⟨al⟩ := a
    match al, hf with
    | [x], _ =>
      cases x <;> simp [Program.keyLits, hk, hc, hoff, hc0, ht, Value.cells] at h
      rename_i q n _
      by_cases hq : q = .i64
      · subst hq; exact ⟨n, rfl⟩
      · obtain ⟨_, ⟨_, hh2⟩, _⟩ := h
        simp [hq] at hh2
  · cases h
theorem inv65 {v : Value} {l : Lit} (h : keyOf Try.prog 65 v = some l) : ∃ n : Int, v = .agg #[.int .i64 n] :=
  inv_gen Try.underlying65 rfl Try.underlying3 cells65 cells3 87 types_n h

/-- what a map has behind another one's entries were laid in -/
def over2 (fd fs : Nat → Option ByteArray) : Nat → Option ByteArray := fun k => match fs k with | some s => some s | none => fd k
set_option maxHeartbeats 4000000 in
set_option maxRecDepth 100000 in
theorem copy_any (bd bs Nd Ns : Nat) (fd fs : Nat → Option ByteArray) (w : World) (hd : MIs bd w Nd fd) (hs : MIs bs w Ns fs) (hne : bd ≠ bs) (hroom : Nd + Ns ≤ 1000000000) :
    Calls Try.prog 26 #[.map (some bd), .map (some bs)] w fun e w' => e = .returned (.tuple #[]) ∧ MIs bd w' (Nd + Ns) (over2 fd fs) ∧ MIs bs w' Ns fs ∧ w.grownBy w' (some bd) := by
  obtain ⟨nd, Dd, hod, hnd, hfd⟩ := hd
  obtain ⟨ns, Ds, hos, hns, hfs⟩ := hs
  have hbd := hod.lt
  have hbs := hos.lt
  have hsz := hos.size_le
  have HFD := hid hfd
  have HFS := hid hfs
  clear hfd hfs
  go_enter Try.func26, Try.ntmps26
  go_wp2_with (first
    | (at_range; refine wpList_range_own _ rfl _ 53 rfl 65 67 law Try.underlying53 RB bs ns _ rfl hos ?_; intro w0 hrg0 hg0 hs0)
    | go_in)
  go_frame
  go_loopw [8] (fun _ wr => ∃ (left : Lit → Bool) (cnt : Nat) (Dout : DataW Unit), wr.ranges Try.prog 65 RB bs w.heap.size ns Ds left cnt ∧ cnt ≤ Maps.size Ds ∧
      wr.ownsMap Try.prog 65 RB bd (nd + (Maps.size Ds - cnt)) Dout ∧ Merged Dout Dd Ds left ∧ w.grownBy wr (some bd))
    (fun _ wr => wr.rangeLeft bs w.heap.size)
  case atStart =>
    exact ⟨_, _, Dd, hrg0, Nat.le_refl _, (hod.kept hg0 (by simp)).mono (by omega), merged_start Dd Ds, hg0.but _⟩
  case round =>
    obtain ⟨left, cnt, Dout, hrg, hcs, hout, hM, hgw⟩ := hrel
    go_wp2_with (first
      | (at_next; refine wpList_next_ranges _ rfl _ rfl 65 law RB (fun n : Int => .agg #[.int .i64 n]) (fun s : ByteArray => .agg #[.string s]) (fun key _ h => inv65 h) (fun v _ h => by obtain ⟨s, e, _⟩ := RB_inv h; exact ⟨s, e⟩) bs w.heap.size ns _ _ _ rfl hrg ?_ ?_)
      | go_in)
    · intro hc0 hl0
      go_wp2
      go_end0
      subst hc0
      have HA := HFD.out
      have HB := HFS.out
      refine ⟨rfl, ⟨_, _, hout, by omega, fun k hk => ?_, fun l hl => ?_⟩, ⟨ns, Ds, hrg.owns, hns, HB⟩, hgw⟩
      rotate_left
      · rw [hM.1 l, hl0 l] at hl
        simp only [Bool.not_false, Bool.and_true, Bool.or_eq_true] at hl
        rcases hl with hl | hl
        · exact HA.2 l hl
        · exact HB.2 l hl
      have h1 := hM.1 (kl k)
      have h2 := hM.2 (kl k)
      rw [hl0 (kl k)] at h1 h2
      simp only [Bool.not_false, Bool.and_true] at h1 h2
      obtain ⟨a1, a2⟩ := HA.1 k hk
      obtain ⟨b1, b2⟩ := HB.1 k hk
      refine ⟨?_, fun s hss z => ?_⟩
      · rw [h1, a1, b1]
        unfold over2
        cases fs k <;> simp
      · rw [h2, b1]
        unfold over2 at hss
        cases hk2 : fs k with
        | none => rw [hk2] at hss; simp; exact a2 s hss z
        | some x => rw [hk2] at hss; simp; exact b2 s (by rw [hk2]; exact hss) z
    · intro x c kl yd yp w1 cnt1 hkey hlx hv hat hrg1 hlt hg1 hs1 hen
      have hout1 := hout.kept hg1 (fun e => by have := Option.some.inj e; omega)
      have hout2 := (hout1.alloc (Obj.cells #[Value.int IntKind.i64 x] 65)).alloc (Obj.cells #[Value.string c] 67)
      have hrg2 := (hrg1.kept (World.grownBy_alloc w1 (Obj.cells #[Value.int IntKind.i64 x] 65) none) (by simp) (by simp)).kept (World.grownBy_alloc _ (Obj.cells #[Value.string c] 67) none) (by simp) (by simp)
      go_wp2_with (first
        | (at_mapUpdate; refine wpList_mapUpdate_own _ rfl _ _ _ 53 rfl 65 67 law Try.underlying53 RB bd _ _ rfl hout2 (by unfold maxLen; omega) _ _ _ rfl rfl hkey yd yp hv ?_; intro w2 hout3 hg2; go_frame)
        | go_in)
      have hrg3 := hrg2.kept hg2 (fun e => hne (Option.some.inj e).symm) (fun e => by have := Option.some.inj e; omega)
      go_roundw
      case rel =>
        refine ⟨_, cnt1, _, hrg3, by omega, hout3.mono (by omega), merged_step hM hout.isMap (law.key hkey) hat, ?_⟩
        refine (((hgw.andThen hg1 (fun j hj => .inl (by cases hj; exact Nat.le_refl _))).andThen (World.grownBy_alloc w1 (Obj.cells #[Value.int IntKind.i64 x] 65) none) (fun j hj => by cases hj)).andThen (World.grownBy_alloc _ (Obj.cells #[Value.string c] 67) none) (fun j hj => by cases hj)).andThen hg2 (fun j hj => .inr hj)
      case measure => rw [hrg3.left_eq, hrg.left_eq]; exact hlt
end Go.Proofs.Ytglhibmfbbbdiaa
