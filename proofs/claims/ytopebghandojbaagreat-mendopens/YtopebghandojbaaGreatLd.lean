import Derived.Test.YtopebghandojbaaGreatTv
import Derived.Test.YtopebghandojbaaGreatRp
import Derived.Test.YtopebghandojbaaGreatLc
namespace Go.Proofs.YtopebghandojbaaGreat
open Go.RowKit
/-- blocks begin with a transaction: its number and changes -/
def decOk (R : List ByteArray) (s : Nat) (L : List Chg) : Prop :=
  ∃ b bl ps sm, R = b :: bl ∧ isHead b s ps sm ∧ ps.length ≤ bl.length ∧ blocksB (bl.take ps.length) = true ∧ crc (allD (bl.take ps.length)) = sm ∧ L = zipC ps (bl.take ps.length)
set_option maxRecDepth 100000 in
theorem head_only {b : ByteArray} {s s' : Nat} {ps ps' : List Int} {sm sm' : Nat} (h : isHead b s ps sm) (h' : isHead b s' ps' sm') : s' = s ∧ ps' = ps ∧ sm' = sm := by
  have hin := places_in (Int.le_refl _) (placesB_iff.1 h.2.2.2.1).1
  exact isHead_only h.1 (by have := h.2.2.1; omega) (fun p hp => by have := hin p hp; omega) h.2.2.2.2 h'
set_option maxRecDepth 100000 in
theorem decOk.only {R : List ByteArray} {s s' : Nat} {L L' : List Chg} (h : decOk R s L) (h' : decOk R s' L') : s' = s ∧ L' = L := by
  obtain ⟨b, bl, ps, sm, rfl, h1, h2, h3, h4, rfl⟩ := h
  obtain ⟨b', bl', ps', sm', e, k1, k2, k3, k4, rfl⟩ := h'
  injection e with e1 e2
  subst e1 e2
  obtain ⟨rfl, rfl, rfl⟩ := head_only h1 k1
  exact ⟨rfl, rfl⟩
set_option maxRecDepth 100000 in
theorem decOk.len {R : List ByteArray} {s : Nat} {L : List Chg} (h : decOk R s L) : L.length + 1 ≤ R.length ∧ L.length ≤ 48 := by
  obtain ⟨b, bl, ps, sm, rfl, h1, h2, h3, h4, rfl⟩ := h
  have hl : (bl.take ps.length).length = ps.length := by rw [List.length_take]; omega
  rw [zipC_len hl]
  exact ⟨by simp; omega, (placesB_iff.1 h1.2.2.2.1).2⟩
set_option maxRecDepth 100000 in
theorem dec_yes (v : Value) (R : List ByteArray) (s : Nat) (L : List Chg) (hR : ∀ b ∈ R, b.size ≤ 150000000000000) (h : decOk R s L) (w : World) (hv : SLie w v R) : Calls Tryz.prog 101 #[v] w fun e w' => ∃ v', e = .returned (.tuple #[.int .i64 s, v', .int .i64 (1 + (L.length : Int)), .int .i64 0]) ∧ CLie w' v' L ∧ (∀ x, v'.ownBlock = some x → w.heap.size ≤ x ∧ x < w'.heap.size) ∧ Below w.heap.size w w' := by
  obtain ⟨b, bl, ps, sm, rfl, h1, h2, h3, h4, rfl⟩ := h
  have hl : (bl.take ps.length).length = ps.length := by rw [List.length_take]; omega
  refine (decode_fresh v b bl w hv (hR b (by simp)) s ps sm h1 h2).mono fun e w' ⟨hd, hb⟩ => ?_
  obtain ⟨v', he, hc, hx⟩ := hd.1 ⟨h3, h4⟩
  rw [zipC_len hl]
  exact ⟨v', he, hc, hx, hb⟩
set_option maxRecDepth 100000 in
theorem dec_no (v : Value) (R : List ByteArray) (hR : ∀ b ∈ R, b.size ≤ 150000000000000) (h : ¬ ∃ s L, decOk R s L) (w : World) (hv : SLie w v R) : Calls Tryz.prog 101 #[v] w fun e w' => ∃ c : Int, e = .returned (.tuple #[.int .i64 0, .slice none 0 0, .int .i64 0, .int .i64 c]) ∧ c ≠ 0 ∧ Below w.heap.size w w' := by
  cases R with
  | nil =>
    obtain ⟨ao, cap, rfl, _⟩ := hv
    exact (decode_none ao cap w).mono fun e w' ⟨he, hw⟩ => ⟨20, he, by decide, by rw [hw]; exact Below.refl _ _⟩
  | cons b bl =>
    have hb := hR b (by simp)
    by_cases hh : ∃ s ps sm, isHead b s ps sm
    · obtain ⟨s, ps, sm, hd⟩ := hh
      by_cases hs : bl.length < ps.length
      · exact (decode_cut v b bl w hv hb s ps sm hd hs).mono fun e w' ⟨he, hb⟩ => ⟨20, he, by decide, hb⟩
      · refine (decode_data v b bl w hv hb s ps sm hd (by omega)).mono fun e w' ⟨he, hb⟩ => ⟨4, he.2 fun hx => h ⟨s, _, b, bl, ps, sm, rfl, hd, by omega, hx.1, hx.2, rfl⟩, by decide, hb⟩
    · exact (decode_form v b bl w hv hb hh).mono fun e w' ⟨he, hb⟩ => ⟨4, he, by decide, hb⟩
/-- blocks begin with so many transactions, numbered from s on -/
def decs : Nat → List ByteArray → List (List Chg) → Prop
  | _, _, [] => True
  | s, R, L :: Ls => decOk R s L ∧ decs (s + 1) (R.drop (L.length + 1)) Ls
/-- how many blocks transactions have -/
def used : List (List Chg) → Nat
  | [] => 0
  | L :: Ls => L.length + 1 + used Ls
set_option maxRecDepth 100000 in
theorem used_snoc : ∀ (Ls : List (List Chg)) (L : List Chg), used (Ls ++ [L]) = used Ls + (L.length + 1)
  | [], L => by simp [used]
  | K :: Ls, L => by
    show K.length + 1 + used (Ls ++ [L]) = K.length + 1 + used Ls + (L.length + 1)
    rw [used_snoc Ls L]; omega
set_option maxRecDepth 100000 in
theorem decs.snoc : ∀ {s : Nat} {R : List ByteArray} {Ls : List (List Chg)} {L : List Chg}, decs s R Ls → decOk (R.drop (used Ls)) (s + Ls.length) L → decs s R (Ls ++ [L])
  | s, R, [], L, _, h => ⟨h, trivial⟩
  | s, R, K :: Ls, L, h, k => by
    refine ⟨h.1, decs.snoc h.2 ?_⟩
    rw [List.drop_drop]
    have e : s + 1 + Ls.length = s + (K :: Ls).length := by simp; omega
    rw [e]
    exact k
set_option maxRecDepth 100000 in
theorem decs.at : ∀ {s : Nat} {R : List ByteArray} {Ls Ks : List (List Chg)}, decs s R Ls → decs s R Ks → Ls.length < Ks.length → ∃ L, decOk (R.drop (used Ls)) (s + Ls.length) L
  | s, R, [], K :: Ks, _, k, _ => ⟨K, k.1⟩
  | s, R, L :: Ls, K :: Ks, h, k, hl => by
    obtain ⟨_, rfl⟩ := h.1.only k.1
    obtain ⟨M, hM⟩ := decs.at h.2 k.2 (by simpa using hl)
    rw [List.drop_drop] at hM
    have e : s + 1 + Ls.length = s + (K :: Ls).length := by simp; omega
    rw [e] at hM
    exact ⟨M, hM⟩
set_option maxRecDepth 100000 in
theorem decs.only : ∀ {s : Nat} {R : List ByteArray} {Ls Ks : List (List Chg)}, decs s R Ls → decs s R Ks → Ls.length = Ks.length → Ls = Ks
  | s, R, [], [], _, _, _ => rfl
  | s, R, L :: Ls, K :: Ks, h, k, hl => by
    obtain ⟨_, rfl⟩ := h.1.only k.1
    rw [decs.only h.2 k.2 (by simpa using hl)]
  | s, R, [], K :: Ks, _, _, hl => by simp at hl
  | s, R, L :: Ls, [], _, _, hl => by simp at hl
set_option maxRecDepth 100000 in
theorem decs.used_le : ∀ {s : Nat} {R : List ByteArray} {Ls : List (List Chg)}, decs s R Ls → used Ls ≤ R.length
  | s, R, [], _ => Nat.zero_le _
  | s, R, L :: Ls, h => by
    have h1 := h.1.len
    have h2 := decs.used_le h.2
    rw [List.length_drop] at h2
    show L.length + 1 + used Ls ≤ R.length
    omega
def szL (L : List Chg) : Int := (L.length : Int) + 1
set_option maxRecDepth 100000 in
theorem sum_used : ∀ (Ls : List (List Chg)), sumI (Ls.map szL) = (used Ls : Int)
  | [] => rfl
  | L :: Ls => by
    show szL L + sumI (Ls.map szL) = ((L.length + 1 + used Ls : Nat) : Int)
    rw [sum_used Ls]; unfold szL; omega
set_option maxRecDepth 100000 in
theorem add_block (a : Addr) (k : Nat) : (a.add k).block = a.block := by
  unfold Addr.add
  repeat' split
  all_goals rfl
set_option maxRecDepth 100000 in
theorem SLie.same {w w' : World} {v : Value} {l : List ByteArray} (h : SLie w v l) (hs : w.heap.size ≤ w'.heap.size) (k : ∀ x, v.ownBlock = some x → w'.heap[x]? = w.heap[x]?) : SLie w' v l := by
  obtain ⟨ao, cap, rfl, h1, h2, h3⟩ := h
  refine ⟨ao, cap, rfl, h1, h2, fun i hi => ?_⟩
  obtain ⟨gb, off, e, hg, c0⟩ := h3 i hi
  subst e
  exact ⟨gb, off, rfl, Nat.lt_of_lt_of_le hg hs, (World.cell?_of_block (a := ⟨gb, _, none⟩) (k gb rfl)).trans c0⟩
set_option maxRecDepth 100000 in
theorem SLie.cut {ao : Option Addr} {n cap k : Nat} (hk : k ≤ n) (hn : n ≤ cap) (hcm : cap ≤ maxLen) :
    ∃ ao' m m', (∀ w : World, (Instr.slice 55 (.slice ao n cap) (some (.int .i64 (k : Int))) none none).run Tryz.prog w = .ok (.slice ao' m m') w) ∧ (∀ (w : World) (l : List ByteArray), SLie w (.slice ao n cap) l → SLie w (.slice ao' m m') (l.drop k)) ∧ (Value.slice ao' m m').ownBlock = (Value.slice ao n cap).ownBlock := by
  refine ⟨(if cap = k then ao else ao.map (·.add (k * 1))), n - k, cap - k, fun w => ?_, fun w l h => ?_, ?_⟩
  · have := run_slice_l (P := Tryz.prog) w 55 ao n cap under58 .i64 (k : Int) (by omega) (by omega)
    rw [this, run_size9]
    simp [Result.andThen, sliced]
  · obtain ⟨ao', cap', e, h1, h2, h3⟩ := h
    injection e with e1 e2 e3
    subst e1 e2 e3
    have hl : (l.drop k).length = l.length - k := List.length_drop
    refine ⟨_, cap - k, by rw [hl], by omega, by omega, fun i hi => ?_⟩
    have hne : ¬ cap = k := by omega
    rw [if_neg hne]
    obtain ⟨gb, of9, e, hg, c⟩ := h3 (k + i) (by omega)
    subst e
    refine ⟨gb, of9 + k, by simp [Addr.add], hg, ?_⟩
    rw [List.getElem_drop, show of9 + k + i = of9 + (k + i) by omega]
    exact c
  · split
    · cases ao <;> rfl
    · cases ao with
      | none => rfl
      | some a => simp only [Option.map_some, Value.ownBlock, add_block]
end Go.Proofs.YtopebghandojbaaGreat
