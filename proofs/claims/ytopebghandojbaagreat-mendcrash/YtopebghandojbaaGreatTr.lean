import Derived.Test.YtopebghandojbaaGreatTq
namespace Go.Proofs.YtopebghandojbaaGreat
open Go.RowKit
theorem rises_risesI : ∀ {last : Int} {l : List Chg}, rises last l = true → risesI last (l.map (·.b)) = true
  | _, [], _ => rfl
  | last, c :: l, h => by
    unfold rises at h
    simp only [Bool.and_eq_true, decide_eq_true_eq] at h
    rw [List.map_cons]
    unfold risesI
    rw [rises_risesI h.2.2.2]
    simp [h.1, h.2.1]
theorem rises_blocks : ∀ {last : Int} {l : List Chg}, rises last l = true → blocksB (l.map (·.d)) = true
  | _, [], _ => rfl
  | last, c :: l, h => by
    unfold rises at h
    simp only [Bool.and_eq_true, decide_eq_true_eq] at h
    rw [List.map_cons, blocksB_cons, rises_blocks h.2.2.2]
    simp [h.2.2.1]
theorem zip_back : ∀ l : List Chg, zipC (l.map (·.b)) (l.map (·.d)) = l
  | [] => rfl
  | c :: l => by
    show (⟨c.b, c.d⟩ : Chg) :: zipC (l.map (·.b)) (l.map (·.d)) = _
    rw [zip_back l]
/-- the head of what is encoded -/
def headB (seq : Nat) (l : List Chg) : ByteArray := st (sealL (bodyL (headL seq (l.map (·.b)) (crc (allD (l.map (·.d)))))))
theorem encL_eq (seq : Nat) (l : List Chg) : encL seq l = headB seq l :: l.map (·.d) := rfl
theorem headL_short {l : List Chg} (seq sm : Nat) (hr : right l = true) : (headL seq (l.map (·.b)) sm).length ≤ 122 := by
  have := right_len hr
  rw [headL_len, List.length_map]
  omega
theorem headB_size {l : List Chg} (seq : Nat) (hr : right l = true) : (headB seq l).size = 128 := by
  unfold headB
  rw [st_size, sealL_len, bodyL_len _ (headL_short _ _ hr)]
theorem isHead_enc {seq : Nat} {l : List Chg} (h1 : 1 ≤ seq) (h2 : seq ≤ 1099511627776) (hr : right l = true) : isHead (headB seq l) seq (l.map (·.b)) (crc (allD (l.map (·.d)))) := by
  refine ⟨un_block _ (headL_short _ _ hr), h1, h2, placesB_iff.2 ⟨rises_risesI (right_rises hr), ?_⟩, crc_lt _⟩
  rw [List.length_map]
  exact right_len hr
theorem dec_enc (v : Value) (seq : Nat) (l : List Chg) (more : List ByteArray) (w : World) (h : SLie w v (encL seq l ++ more)) (h1 : 1 ≤ seq) (h2 : seq ≤ 1099511627776) (hr : right l = true) :
    Calls Tryz.prog 101 #[v] w fun e w' => (∃ v', e = .returned (.tuple #[.int .i64 seq, v', .int .i64 (1 + (l.length : Int)), .int .i64 0]) ∧ CLie w' v' l) ∧ Below w.heap.size w w' := by
  rw [encL_eq, List.cons_append] at h
  have hl : (l.map (·.b)).length = l.length := List.length_map ..
  have hd : (l.map (·.d) ++ more).take (l.map (·.b)).length = l.map (·.d) := by
    rw [hl, List.take_append_of_le_length (by rw [List.length_map]; exact Nat.le_refl _), List.take_of_length_le (by rw [List.length_map]; exact Nat.le_refl _)]
  refine (decode_data v (headB seq l) (l.map (·.d) ++ more) w h (by rw [headB_size seq hr]; decide) seq _ _ (isHead_enc h1 h2 hr) (by rw [hl, List.length_append, List.length_map]; omega)).mono fun e w' ⟨hD, hb⟩ => ⟨?_, hb⟩
  rw [hd] at hD
  obtain ⟨v', he, hL⟩ := hD.1 ⟨rises_blocks (right_rises hr), rfl⟩
  rw [hl] at he
  rw [zip_back] at hL
  exact ⟨v', he, hL⟩
end Go.Proofs.YtopebghandojbaaGreat
