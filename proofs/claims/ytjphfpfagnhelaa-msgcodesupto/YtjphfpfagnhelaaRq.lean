import Derived.Test.YtjphfpfagnhelaaRf
import Derived.Laws.BitsAllLaws
namespace Go.Proofs.Ytjphfpfagnhelaa
open Go.RowKit

/-- the reference's reader -/
def QIs (g : Nat) (w : World) (s : ByteArray) (e : Int) : Prop := w.heap[g]? = some (.cells #[.string s, .int .i64 e] 61 (0, 0))
theorem QIs.kept {g base g' : Nat} {w w' : World} {s : ByteArray} {e : Int} (h : QIs g w s e) (k : Kept base g' w w') (hb : g < base) (hg : g ≠ g') : QIs g w' s e := (k.block g hb hg).trans h
theorem QIs.c0 {g : Nat} {w : World} {s : ByteArray} {e : Int} (h : QIs g w s e) : w.cell? ⟨g, 0, none⟩ = some (.string s) := by unfold QIs at h; simp [World.cell?, h]
theorem QIs.c1 {g : Nat} {w : World} {s : ByteArray} {e : Int} (h : QIs g w s e) : w.cell? ⟨g, 1, none⟩ = some (.int .i64 e) := by unfold QIs at h; simp [World.cell?, h]
theorem QIs.fr {g : Nat} {w : World} {s : ByteArray} {e : Int} (h : QIs g w s e) (i : Nat) : w.frozen? ⟨g, i, none⟩ = false := by unfold QIs at h; simp [World.frozen?, h]
theorem QIs.lt {g : Nat} {w : World} {s : ByteArray} {e : Int} (h : QIs g w s e) : g < w.heap.size := lt_of_block h
theorem QIs.set0 {g : Nat} {w : World} {s s' : ByteArray} {e : Int} (h : QIs g w s e) : QIs g (w.setCell ⟨g, 0, none⟩ (.string s')) s' e := by
  unfold QIs at *; simp [World.setCell, Array.getElem?_modify, h]
theorem QIs.set1 {g : Nat} {w : World} {s : ByteArray} {e e' : Int} (h : QIs g w s e) : QIs g (w.setCell ⟨g, 1, none⟩ (.int .i64 e')) s e' := by
  unfold QIs at *; simp [World.setCell, Array.getElem?_modify, h]
theorem QIs.drew {g : Nat} {w : World} {s : ByteArray} {e : Int} (h : QIs g w s e) (n : Nat) : QIs g (w.drewN n) s e := h
theorem QIs.new (s : ByteArray) (w : World) : QIs w.heap.size (w.alloc (.cells #[.string s, .int .i64 0] 61)) s 0 := by
  unfold QIs; show (w.heap.push _)[w.heap.size]? = _; simp
theorem QIs.below {g : Nat} {w w' : World} {s : ByteArray} {e : Int} (h : QIs g w s e) (k : Below w.heap.size w w') : QIs g w' s e := (k.block g h.lt).trans h

theorem fin7 {s : ByteArray} {most last k : Nat} {er : Int} (hsc : scan most last s.data.toList 0 = (er, k)) {a b : Int} (ha : a = k) (hb : b = er) (w : World) :
    ∃ (k' : Nat) (er' : Int), Ending.returned (.tuple #[.int .i64 a, .int .i64 b]) = .returned (.tuple #[.int .i64 k', .int .i64 er']) ∧ scan most last s.data.toList 0 = (er', k') ∧ w = w := ⟨k, er, by rw [ha, hb], hsc, rfl⟩

set_option maxRecDepth 100000 in
set_option maxHeartbeats 2000000 in
theorem seven_any (s : ByteArray) (most last : Nat) (hm1 : 9 ≤ most) (hm2 : most ≤ 10) (hl : last ≤ 127) (hs : s.size ≤ maxLen) (w : World) :
    Calls Try.prog 49 #[.string s, .int .i64 most, .int .i64 last] w fun e w' => ∃ (k : Nat) (er : Int), e = .returned (.tuple #[.int .i64 k, .int .i64 er]) ∧ scan most last s.data.toList 0 = (er, k) ∧ w' = w := by
  unfold maxLen at hs
  go_enter Try.func49, Try.ntmps49
  go_wp2
  go_loop [8] (fun i => ∃ j : Nat, j ≤ s.size ∧ j < most ∧ i = .int .i64 j ∧ scan most last s.data.toList 0 = scan most last (s.data.toList.drop j) j) (fun i => most - (intOf i).toNat)
  case atStart => exact ⟨0, Nat.zero_le _, by omega, rfl, rfl⟩
  case round =>
    obtain ⟨j, hj, hjm, rfl, hsc⟩ := hrel
    have HS : Hid (scan most last s.data.toList 0 = scan most last (s.data.toList.drop j) j) := hsc
    clear hsc
    by_cases hlt : j < s.size
    · have hc : s[j].toNat < 256 := s[j].toNat_lt
      have SC : Hid (scan most last s.data.toList 0 = if (s[j].toNat = 0 ∧ 0 < j) ∨ (last < s[j].toNat ∧ j + 1 = most) then (4, 0) else if s[j].toNat < 128 then (0, j + 1) else scan most last (s.data.toList.drop (j + 1)) (j + 1)) := by
        show _ = _
        rw [HS.out, drop_cons s j hlt, scan]
      clear HS
      by_cases hj0 : j = 0
      · subst hj0
        have hE : ¬ s = ByteArray.empty := fun h => by rw [h] at hlt; exact absurd hlt (by decide)
        by_cases hc0 : s[0].toNat < 128
        · go_wp2
          all_goals
            go_ret2
            exact fin7 (k := 1) (er := 0) (by rw [SC.out, if_neg (by omega), if_pos hc0]) rfl rfl _
        · go_wp2
          go_round
          case rel => exact ⟨1, by omega, by omega, rfl, by rw [SC.out, if_neg (by omega), if_neg hc0]⟩
          case measure => simp [intOf]; omega
      have hj1 : 0 < j := by omega
      clear hj0
      by_cases hz0 : s[j].toNat = 0
      · have hzb : ((s[j].toNat : Int) == 0) = true := by simp; omega
        go_wp2
        all_goals (go_ret2; exact fin7 (k := 0) (er := 4) (by rw [SC.out, if_pos (by omega)]) rfl rfl _)
      have hzb : ((s[j].toNat : Int) == 0) = false := by simp; omega
      by_cases hjm2 : j + 1 = most
      · go_wp2
        all_goals first
          | (go_ret2; exact fin7 (k := j + 1) (er := 0) (by rw [SC.out, if_neg (by omega), if_pos (by omega)]) (by omega) rfl _)
          | (go_ret2; exact fin7 (k := 0) (er := 4) (by rw [SC.out, if_pos (by omega)]) rfl rfl _)
      · go_wp2
        all_goals first
          | (go_ret2; exact fin7 (k := j + 1) (er := 0) (by rw [SC.out, if_neg (by omega), if_pos (by omega)]) (by omega) rfl _)
          | (go_ret2; exact fin7 (k := 0) (er := 4) (by rw [SC.out, if_pos (by omega)]) rfl rfl _)
          | skip
        go_round
        case rel => exact ⟨j + 1, by omega, by omega, by go_num, by rw [SC.out, if_neg (by omega), if_neg (by omega)]⟩
        case measure => simp [intOf]; omega
    · go_wp2
      go_ret2
      exact fin7 (k := 0) (er := 20) (by rw [HS.out, List.drop_of_length_le (by rw [Array.length_toList]; exact Nat.le_of_not_lt hlt)]; rfl) rfl rfl _
end Go.Proofs.Ytjphfpfagnhelaa
