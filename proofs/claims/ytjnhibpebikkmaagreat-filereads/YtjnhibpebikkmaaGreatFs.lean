import Derived.Test.YtjnhibpebikkmaaGreatFr
import Derived.Laws.IdiomCopy
namespace Go.Proofs.YtjnhibpebikkmaaGreat
open Go.RowKit Go.Maps

/-- bytes laid over a row from a place on -/
def ovl : List UInt8 → Nat → List UInt8 → List UInt8
  | l, _, [] => l
  | l, o, b :: bs => ovl (l.set o b) (o + 1) bs
theorem ovl_len : ∀ (bs l : List UInt8) (o : Nat), (ovl l o bs).length = l.length
  | [], _, _ => rfl
  | b :: bs, l, o => by unfold ovl; rw [ovl_len bs]; simp
theorem BIs.over : ∀ (bs : List UInt8) {g : Nat} {w : World} {l : List UInt8} (o : Nat), BIs g w l → BIs g (w.setCells g o (bc bs)) (ovl l o bs)
  | [], _, _, _, _, h => h
  | b :: bs, g, w, l, o, h => by
    show BIs g ((w.setCell ⟨g, o, none⟩ (.int .u8 (b.toNat : Int))).setCells g (o + 1) (bc bs)) (ovl (l.set o b) (o + 1) bs)
    exact BIs.over bs (o + 1) (h.set o b _ rfl)
theorem setCells_kept : ∀ (vs : List Value) (w : World) (g o : Nat), Kept w.heap.size g w (w.setCells g o vs)
  | [], w, g, _ => Kept.refl _ _ _
  | v :: vs, w, g, o => by
    have h1 := kept_set w g o v
    have h2 := setCells_kept vs (w.setCell ⟨g, o, none⟩ v) g (o + 1)
    refine h1.trans ⟨h2.os, h2.tape, h2.output, h2.size, fun k hk => h2.block k (Nat.lt_of_lt_of_le hk h1.size)⟩
theorem copy_run {g : Nat} {w : World} {l : List UInt8} (h : BIs g w l) (o : Nat) (ho : o ≤ l.length) (s : ByteArray) (cap : Nat) (ty : TypeId) :
    (Builtin.copy_ #[45, 9] ty #[.slice (some ⟨g, o, none⟩) (l.length - o) cap, .string s]).run Tryz.prog w = .ok (.int .i64 ((min s.size (l.length - o) : Nat) : Int)) (w.setCells g o (bc (s.data.toList.take (min s.size (l.length - o))))) := by
  obtain ⟨i0, hi, hz0, hz1, hz2⟩ := info_parts Tryz.info5
  have hmin : Nat.min s.size (l.length - o) = min s.size (l.length - o) := rfl
  have hl : (bc (s.data.toList.take (min s.size (l.length - o)))).length = min s.size (l.length - o) := by rw [bc_len, List.length_take, len_list]; omega
  have hst := run_storeCells_cells (P := Tryz.prog) g o (bc (s.data.toList.take (min s.size (l.length - o)))) 0 w (fun j hj => by
      rw [hl] at hj
      rw [Nat.add_zero, h.get (o + j) (by omega)]
      rfl) (fun j hj => by
      rw [hl] at hj
      rw [Nat.add_zero]
      exact h.free (o + j) (by omega)) (by
      intro v hv
      obtain ⟨x, _, rfl⟩ := List.mem_map.1 hv
      rfl)
  have e : List.take (min s.size (l.length - o)) (List.map (fun x : UInt8 => Value.int .u8 (x.toNat : Int)) s.data.toList) = bc (s.data.toList.take (min s.size (l.length - o))) := by
    unfold bc
    rw [List.map_take]
  simp [Builtin.copy_, run_underlying Tryz.underlying45, Builtin.lenOf, Builtin.firstCells, sizeOf, typeInfo, hi, hmin]
  rw [e, hst]
  simp [Result.andThen, goInt]
/-- what 'lay' comes to -/
def layS (G : Geo) : Nat → List ByteArray → Ino → Nat → List UInt8 → Int × List ByteArray × Ino
  | 0, B, n, _, _ => (0, B, n)
  | f + 1, B, n, x, d => if d.length = 0 then (0, B, n) else match rchS G B n (x / 128) with
    | (none, B1, n1) => (306, B1, n1)
    | (some b, B1, n1) => layS G f (B1.set b (st (ovl (bk B1 b).data.toList (x % 128) (d.take (min d.length (128 - x % 128)))))) n1 (x + min d.length (128 - x % 128)) (d.drop (min d.length (128 - x % 128)))
end Go.Proofs.YtjnhibpebikkmaaGreat
