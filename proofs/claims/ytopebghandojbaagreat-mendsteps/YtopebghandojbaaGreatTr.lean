import Derived.Test.YtopebghandojbaaGreatTq
namespace Go.Proofs.YtopebghandojbaaGreat
open Go.RowKit
theorem rises_risesI : ∀ {last : Int} {l : List Chg}, rises last l = true → risesI last (l.map (·.b)) = true
  | _, [], _ => rfl
  | last, c :: l, h => by
    unfold rises at h
    simp only [Bool.and_eq_true, decide_eq_true_eq] at h
    rw [List.map_cons]
    unfold risesI
    rw [rises_risesI h.2.2.2]
    simp [h.1, h.2.1]
theorem rises_blocks : ∀ {last : Int} {l : List Chg}, rises last l = true → blocksB (l.map (·.d)) = true
  | _, [], _ => rfl
  | last, c :: l, h => by
    unfold rises at h
    simp only [Bool.and_eq_true, decide_eq_true_eq] at h
    rw [List.map_cons, blocksB_cons, rises_blocks h.2.2.2]
    simp [h.2.2.1]
theorem zip_back : ∀ l : List Chg, zipC (l.map (·.b)) (l.map (·.d)) = l
  | [] => rfl
  | c :: l => by
    show (⟨c.b, c.d⟩ : Chg) :: zipC (l.map (·.b)) (l.map (·.d)) = _
    rw [zip_back l]
/-- the head of what is encoded -/
def headB (seq : Nat) (l : List Chg) : ByteArray := st (sealL (bodyL (headL seq (l.map (·.b)) (crc (allD (l.map (·.d)))))))
theorem encL_eq (seq : Nat) (l : List Chg) : encL seq l = headB seq l :: l.map (·.d) := rfl
theorem headL_short {l : List Chg} (seq sm : Nat) (hr : right l = true) : (headL seq (l.map (·.b)) sm).length ≤ 122 := by
  have := right_len hr
  rw [headL_len, List.length_map]
  omega
theorem headB_size {l : List Chg} (seq : Nat) (hr : right l = true) : (headB seq l).size = 128 := by
  unfold headB
  rw [st_size, sealL_len, bodyL_len _ (headL_short _ _ hr)]
theorem isHead_enc {seq : Nat} {l : List Chg} (h1 : 1 ≤ seq) (h2 : seq ≤ 1099511627776) (hr : right l = true) : isHead (headB seq l) seq (l.map (·.b)) (crc (allD (l.map (·.d)))) := by
  refine ⟨un_block _ (headL_short _ _ hr), h1, h2, placesB_iff.2 ⟨rises_risesI (right_rises hr), ?_⟩, crc_lt _⟩
  rw [List.length_map]
  exact right_len hr
end Go.Proofs.YtopebghandojbaaGreat
