import Derived.Test.YtglhibmfbbbdiaaXc
import Derived.Test.YtglhibmfbbbdiaaAl
namespace Go.Proofs.Ytglhibmfbbbdiaa
open Go.RowKit Go.Maps

/-- one true pick more, in a row of the call's own -/
theorem push_t {ops : Array Oper} {rest : List Oper} {o : Oper} {a : Act} {Q : Exit → Act → World → Prop} {w0 : World} (hgd : o.guard = none) (s x : Operand)
    (ho : o.op = .call { callee := .builtin .append, args := #[s, x], argTypes := #[31, 31] }) (base m : Nat) (pv : Value)
    (hs : a.eval s = pv) (hx : a.eval x = .slice (some ⟨w0.heap.size, 0, none⟩) 1 1) (hA : w0.ownsRow base 4 1 pv m (List.replicate m (.bool true))) (hn : m ≤ 1000000) (hbase : base ≤ w0.heap.size)
    (h : ∀ v' w', w'.ownsRow base 4 1 v' (m + 1) (List.replicate (m + 1) (.bool true)) → Below base w0 w' → wpList Try.prog ops Q rest (a.put o.dst v') w') :
    wpList Try.prog ops Q (o :: rest) a (w0.alloc (.cells #[.bool true] 4)) := by
  obtain ⟨i0, hi, hz0, hz1, hz2⟩ := info_parts Try.info4
  refine wpList_append_own_at _ hgd s x 31 ho base 4 i0 (.bool false) 1 1 Try.underlying31 hi hz0 hz1 hz2 rfl (by decide) pv m _ hs (hA.alloc _) ⟨w0.heap.size, 0, none⟩ 1 1 [.bool true] hx rfl ?_ ?_ ?_ ?_ ?_ ?_
  · intro j u hj
    match j, hj with
    | 0, hj => simp at hj; subst hj; simp [Addr.add]
  · intro u hu; simp at hu; subst hu; rfl
  · unfold maxLen; omega
  · omega
  · simp; omega
  · intro v' w' g1 g2 _ g4
    have hsz : (w0.alloc (.cells #[.bool true] 4)).heap.size = w0.heap.size + 1 := by simp
    have hs2 := g2.size
    have hblk : ∀ b, b < w0.heap.size → pv.ownBlock ≠ some b → w'.heap[b]? = w0.heap[b]? := fun b hb hne => (g2.block b (by omega) (fun e => hne e.symm)).trans (Below.heap_alloc _ _ _ hb)
    exact h v' w' (by rw [← rep_snoc]; exact g1) ⟨g2.os, g2.tape, g2.output, by omega, fun b hb => hblk b (by omega) (fun e => by have := (hA.lt b e).1; omega)⟩
theorem row_picks {w : World} {base m : Nat} {pv : Value} {fp : List Nat} (hm : m ≤ 1000000) (h4 : w.ownsRow base 4 1 pv m (List.replicate m (.bool true))) (h5 : ∀ b, pv.ownBlock = some b → b ∉ fp) : PIs w pv m (fun i => if i < m then true else false) fp := by
  refine ⟨?_, by unfold maxLen; omega, fun i hi => if_neg (by omega)⟩
  have hh := h4
  obtain ⟨e1, ⟨rfl, rfl⟩ | ⟨b, cap, cur, rfl, e3, e4, e5, e6, e7, e8⟩⟩ := hh
  · exact ⟨none, 0, rfl, fun i hi => by omega⟩
  · refine ⟨_, cap, rfl, fun i hi => ⟨b, 0, rfl, h5 b rfl, lt_of_block e4, ?_⟩⟩
    have hc : cur.toList[i]? = some (.bool true) := by
      have h9 : (cur.toList.take (m * 1))[i]? = some (.bool true) := by rw [e8]; simp [hi]
      rw [List.getElem?_take_of_lt (by omega)] at h9
      exact h9
    simp only [World.cell?, e4]
    simpa [hi] using hc
set_option maxRecDepth 100000 in
theorem xflush_any {base g : Nat} {L : List ByteArray} {Q : List (Nat × ByteArray)} {fp : List Nat} (hQ : Q.length ≤ 100000) (w : World) (h : XIs base g w L Q fp) :
    Calls Try.prog 15 #[.pointer (some ⟨g, 0, none⟩)] w fun e w' => e = .returned (.tuple #[]) ∧ XIs base g w' (crashL (fun i => if i < Q.length then true else false) 0 0 L Q) [] fp ∧ Only fp w w' := by
  have HH := hid h
  obtain ⟨⟨bl, qv, e1, e2, e3, m1, m2, m3⟩, n1, _, hok, hlo⟩ := h
  have hlen : ∃ ao cap, qv = .slice ao Q.length cap := by
    obtain ⟨_, e | ⟨b, cap, cur, e, _⟩⟩ := e3
    · exact ⟨none, 0, by rw [e.2]; exact e.1⟩
    · exact ⟨_, cap, e⟩
  obtain ⟨ao, cap, rfl⟩ := hlen
  have HE := hid e1
  have HLO := hid hlo
  clear e1 e2 e3 m1 m2 m3 hok hlo
  go_enter Try.func15, Try.ntmps15
  go_wp2
  go_loopw [2, 3] (fun v i wr => ∃ j : Nat, i = .int .i64 j ∧ j ≤ Q.length ∧ wr.ownsRow w.heap.size 4 1 v j (List.replicate j (.bool true)) ∧ Below w.heap.size w wr) (fun _ i _ => Q.length - (intOf i).toNat)
  case atStart => exact ⟨0, rfl, Nat.zero_le _, World.ownsRow_nil _ _ _ _, Below.refl _ _⟩
  case round =>
    rename_i v _
    obtain ⟨j, rfl, hj, hown, hb⟩ := hrel
    have hg := (hb.block g (lt_of_block HE.out)).trans HE.out
    obtain ⟨c0, c1⟩ := two_cells hg
    have hsz := hb.size
    clear hg
    by_cases hlt : j < Q.length
    · go_wp2_with (first | (at_builtin; refine push_t rfl (.tmp 13) (.tmp 14) rfl w.heap.size j _ rfl rfl hown (by omega) hsz ?_; intro v' w' hown' hb'))
      go_roundw
      case rel => exact ⟨j + 1, by go_num, by omega, hown', hb.trans hb'⟩
      case measure => simp [intOf]; omega
    · have hjm : j = Q.length := by omega
      subst hjm
      have hX := HH.out.below hb
      have hP := row_picks (fp := fp) (by omega) hown (fun b e hm => by have := (HLO.out b hm).2; have := (hown.lt b e).1; omega)
      have HCR := hid (xcrash_any _ _ _ 0 (by omega) hQ _ hX hP)
      clear hX hP
      go_wp2_with (first | (go_at_call 17; refine HCR.out.mono ?_; rintro e w2 ⟨rfl, hX2, hO2⟩))
      go_end0
      exact ⟨rfl, hX2, (Only.of_below (fp := fp) hb).trans hO2 (fun x hx => .inl hx)⟩
end Go.Proofs.Ytglhibmfbbbdiaa
