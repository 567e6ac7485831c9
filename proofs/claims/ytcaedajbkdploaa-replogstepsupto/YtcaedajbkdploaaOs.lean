import Derived.Test.YtcaedajbkdploaaOe
namespace Go.Proofs.Ytcaedajbkdploaa
open Go.ChangeShapes Go.WideShapes Go.ChangeAt Go.RowKit Go.Joins Go.Deep

/-- a step -/
structure Stp where
  k : Int
  n : Int
  e : Ent
  lv : Value
  L : List Ent
instance : Inhabited Stp := ⟨⟨0, 0, Ent.zero, .slice none 0 0, []⟩⟩
/-- a step at a place of memory -/
def SAt (w : World) (g o : Nat) (s : Stp) : Prop := w.cell? ⟨g, o, none⟩ = some (.int .i64 s.k) ∧ w.cell? ⟨g, o + 1, none⟩ = some (.int .i64 s.n) ∧ EAt w g (o + 2) s.e ∧ w.cell? ⟨g, o + 11, none⟩ = some s.lv
/-- a slice that reads as steps -/
def TLie (w : World) (v : Value) (l : List Stp) : Prop :=
  ∃ ao cap, v = .slice ao l.length cap ∧ l.length ≤ cap ∧ cap ≤ maxLen ∧ ∀ i (hi : i < l.length), ∃ gb off, ao = some ⟨gb, off, none⟩ ∧ gb < w.heap.size ∧ SAt w gb (off + i * 12) l[i] ∧ ELie w l[i].lv l[i].L ∧ i64B l[i].n ∧ l[i].L.length ≤ 1048576
theorem cells45 : Try.prog.cellsOf 45 = 12 := by kernel_rfl
theorem bulk_pos {H : Type} (d : DataW H) : 1 ≤ Rows.uptoBulk d := by
  cases d with
  | lit x => cases x <;> simp [Rows.uptoBulk]
  | nil => simp [Rows.uptoBulk]
  | ptr d => simp [Rows.uptoBulk]
  | slice a b => simp [Rows.uptoBulk]
  | agg a => simp [Rows.uptoBulk]
  | iface a b => simp [Rows.uptoBulk]
  | map a => simp [Rows.uptoBulk]
  | held a => simp [Rows.uptoBulk]
theorem bulk_len {H : Type} : ∀ l : List (DataW H), l.length ≤ Rows.uptoBulkAll l
  | [] => Nat.le_refl _
  | d :: l => by
    have h1 := bulk_len l
    have h2 := bulk_pos d
    rw [Rows.uptoBulkAll, List.length_cons]
    omega
theorem bulk_mem {H : Type} : ∀ (l : List (DataW H)) (d : DataW H), d ∈ l → Rows.uptoBulk d ≤ Rows.uptoBulkAll l
  | [], d, h => by simp at h
  | x :: l, d, h => by
    rw [Rows.uptoBulkAll]
    rcases List.mem_cons.1 h with rfl | h
    · omega
    · have := bulk_mem l d h
      omega
set_option maxRecDepth 100000 in
theorem open_entries2 {H : Type} {enc : TypeId × Value → H} {W : World} {fuel : Nat} {v : Value} {x : DataW H × List MemPlace}
    (h : DataW.trod enc Try.prog W 0 (fun _ => true) true fuel 41 [v] = some x) : ∃ l, ELie W v l ∧ l.length ≤ Rows.uptoBulk x.1 := by
  rcases open_slice Try.underlying41 h with ⟨h0, hx⟩ | ⟨a, len', cap', m, n, D, Pl, hcs, hb, hl, hm, hmm, hx, hel⟩
  · simp at h0
    subst h0
    exact ⟨[], ELie.nil W, by simp⟩
  · simp at hcs
    subst hcs
    obtain ⟨l, hl2, _⟩ := open_entries h
    refine ⟨l, hl2, ?_⟩
    obtain ⟨ao, cap, e, _⟩ := hl2
    have e2 : len' = l.length := by cases e; rfl
    rw [hx, ← e2]
    have := bulk_len ((List.range len').map D)
    simp only [List.length_map, List.length_range] at this
    simp only [Rows.uptoBulk]
    omega
set_option maxRecDepth 100000 in
/-- the cells of a step -/
theorem trod45 {H : Type} {enc : TypeId × Value → H} {W : World} {fuel : Nat} {cs : List Value} {x : DataW H × List MemPlace} (hcs : cs.length = 12)
    (hf : DataW.trod enc Try.prog W 0 (fun _ => true) true fuel 45 cs = some x) : ∃ s : Stp, cs = [.int .i64 s.k, .int .i64 s.n] ++ s.e.cs ++ [s.lv] ∧ ELie W s.lv s.L ∧ i64B s.n ∧ s.L.length ≤ Rows.uptoBulk x.1 := by
  obtain ⟨xs, n', _, hxy, hcl, hxl, hfl⟩ := DataW.trod_struct Try.underlying45 hf
  match cs, hcs with
  | [v0, v1, v2, v3, v4, v5, v6, v7, v8, v9, v10, v11], _ =>
    match xs, hxl with
    | [y0, y1, y2, y3], _ =>
      have g0 := hfl 0 _ rfl
      have g1 := hfl 1 _ rfl
      have g2 := hfl 2 _ rfl
      have g3 := hfl 3 _ rfl
      simp [cells3] at g0 g1
      simp [cells25] at g2
      simp [cells41] at g3
      obtain ⟨a0, q0, _, b0⟩ := DataW.trod_int Try.underlying3 g0
      obtain ⟨a1, q1, _, b1⟩ := DataW.trod_int Try.underlying3 g1
      obtain ⟨e, qe, he⟩ := trod25 (by simp) g2
      obtain ⟨L, hL, hb⟩ := open_entries2 g3
      simp at q0 q1
      subst q0 q1
      refine ⟨⟨a0, a1, e, v11, L⟩, ?_, hL, bounds_i64 b1, ?_⟩
      · rw [← qe]; rfl
      · rw [hxy]
        simp only [Rows.uptoBulk, Rows.uptoBulkAll, List.map_cons, List.map_nil]
        have := hb
        omega
set_option maxRecDepth 100000 in
theorem open_steps {H : Type} {enc : TypeId × Value → H} {W : World} {fuel : Nat} {ao : Option Addr} {len cap : Nat} {x : DataW H × List MemPlace}
    (h : DataW.trod enc Try.prog W 0 (fun _ => true) true fuel 37 [.slice ao len cap] = some x) (hk : Rows.uptoBulk x.1 ≤ 1048576) : ∃ l, TLie W (.slice ao len cap) l := by
  rcases open_slice Try.underlying37 h with ⟨h0, hx⟩ | ⟨a, len', cap', m, n, D, Pl, hcs, hb, hl, hm, hmm, hx, hel⟩
  · simp at h0
    obtain ⟨rfl, rfl, rfl⟩ := h0
    exact ⟨[], none, 0, rfl, Nat.le_refl _, by decide, fun i hi => by simp at hi⟩
  · simp at hcs
    obtain ⟨rfl, rfl, rfl⟩ := hcs
    have hlm : len ≤ m := by rw [hmm]; split <;> omega
    have hall : Rows.uptoBulkAll ((List.range len).map D) ≤ 1048576 := by
      rw [hx] at hk
      simp only [Rows.uptoBulk] at hk
      omega
    have each : ∀ i, i < len → ∃ y : Stp, (∀ q, q < 12 → W.cell? (a.add (i * 12 + q)) = ([.int .i64 y.k, .int .i64 y.n] ++ y.e.cs ++ [y.lv])[q]?) ∧ ELie W y.lv y.L ∧ i64B y.n ∧ y.L.length ≤ 1048576 := by
      intro i hi
      obtain ⟨cs', h1, h2⟩ := hel i (by omega)
      rw [cells45] at h1
      obtain ⟨_, hlen, hcell⟩ := World.cells?_some h1
      obtain ⟨y, rfl, hy1, hy2, hy3⟩ := trod45 hlen h2
      refine ⟨y, fun q hq => ?_, hy1, hy2, Nat.le_trans hy3 (Nat.le_trans (bulk_mem _ (D i) (List.mem_map.2 ⟨i, List.mem_range.2 hi, rfl⟩)) hall)⟩
      have := hcell q hq
      rw [Deep.add_add] at this
      exact this
    obtain ⟨it, hit⟩ := choose_lt each
    refine ⟨(List.range len).map it, some a, cap, by simp, by simpa using hl, hm, fun i hi => ?_⟩
    rw [range_get]
    have hi' : i < len := by simpa using hi
    obtain ⟨hat, e1, e2, e3⟩ := hit i hi'
    obtain ⟨b, off, sp⟩ := a
    have a00 : W.cell? (Addr.add ⟨b, off, sp⟩ (0 * 12 + 0)) = some (.int .i64 (it 0).k) := (hit 0 (by omega)).1 0 (by decide)
    have hsp : sp = none := by simpa [Addr.add] using World.cell?_spot a00
    subst hsp
    have hblk : b < W.heap.size := by
      obtain ⟨cs', h1, _⟩ := hel i (by omega)
      rw [cells45, add_at] at h1
      exact World.cells?_block h1 (by decide)
    have at_ : ∀ q, q < 12 → W.cell? ⟨b, off + i * 12 + q, none⟩ = ([.int .i64 (it i).k, .int .i64 (it i).n] ++ (it i).e.cs ++ [(it i).lv])[q]? := fun q hq => by
      have := hat q hq
      rw [add_at, ← Nat.add_assoc] at this
      exact this
    exact ⟨b, off, rfl, hblk, ⟨at_ 0 (by decide), at_ 1 (by decide), ⟨at_ 2 (by decide), at_ 3 (by decide), at_ 4 (by decide), at_ 5 (by decide), at_ 6 (by decide), at_ 7 (by decide), at_ 8 (by decide), at_ 9 (by decide), at_ 10 (by decide)⟩, at_ 11 (by decide)⟩, e1, e2, e3⟩
end Go.Proofs.Ytcaedajbkdploaa
