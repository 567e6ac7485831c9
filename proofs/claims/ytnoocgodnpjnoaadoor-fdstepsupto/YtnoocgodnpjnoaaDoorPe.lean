import Derived.Test.YtnoocgodnpjnoaaDoorPc
namespace Go.Proofs.YtnoocgodnpjnoaaDoor
open Go.RowKit

/-- a row of the call's own: strings -/
def SRow (base : Nat) (w : World) (v : Value) (l : List ByteArray) : Prop := w.ownsRow base 9 1 v l.length (l.map Value.string)
theorem Tryd.infoR9 : (Tryd.prog.info? 9).map (fun i => (i.zero, i.size, i.bytes)) = some (some (.string ⟨#[]⟩), 1, 16) := by kernel_rfl
theorem SRow.nil (base : Nat) (w : World) : SRow base w (.slice none 0 0) [] := ⟨rfl, .inl ⟨rfl, rfl⟩⟩
theorem SRow.own {base : Nat} {w : World} {v : Value} {l : List ByteArray} (h : SRow base w v l) : ∀ x, v.ownBlock = some x → base ≤ x ∧ ∃ cur, w.heap[x]? = some (.cells cur 9 (0, 0)) := by
  obtain ⟨e1, ⟨rfl, _⟩ | ⟨x, cap, cur, rfl, e4, e5, e6⟩⟩ := h
  · intro x hx; cases hx
  · intro y hy; cases hy; exact ⟨e4, _, e5⟩
theorem SRow.len {base : Nat} {w : World} {v : Value} {l : List ByteArray} (h : SRow base w v l) : ∃ ao cap, v = .slice ao l.length cap ∧ l.length ≤ cap ∧ cap ≤ maxLen := by
  rcases h.2 with ⟨rfl, hz⟩ | ⟨gb, cap, cur, rfl, _, _, r1, r2, _⟩
  · exact ⟨none, 0, by rw [hz], by omega, by decide⟩
  · exact ⟨_, cap, rfl, r1, r2⟩
theorem SRow.lie {base : Nat} {w : World} {v : Value} {l : List ByteArray} (h : SRow base w v l) : SLie w v l := by
  rcases h.2 with ⟨rfl, hz⟩ | ⟨gb, cap, cur, rfl, hbase, hgb, r1, r2, r3, r4⟩
  · have : l = [] := List.eq_nil_of_length_eq_zero hz
    subst this
    exact ⟨none, 0, rfl, Nat.le_refl _, by decide, fun i hi => by simp at hi⟩
  · refine ⟨_, cap, rfl, r1, r2, fun i hi => ⟨gb, 0, rfl, lt_of_block hgb, ?_⟩⟩
    have e1 : cur.toList[i]? = (l.map Value.string)[i]? := by rw [← r4, List.getElem?_take_of_lt (by omega)]
    rw [Array.getElem?_toList, List.getElem?_map, List.getElem?_eq_getElem hi] at e1
    simp [World.cell?, hgb, e1]
theorem pushS {ops : Array Oper} {rest : List Oper} {o : Oper} {a : Act} {Q : Exit → Act → World → Prop} {w0 : World} (hgd : o.guard = none) (s x : Operand)
    (ho : o.op = .call { callee := .builtin .append, args := #[s, x], argTypes := #[46, 46] }) (B1 bb : Nat) (v : Value) (T : List ByteArray) (y : ByteArray)
    (hs : a.eval s = v) (hx : a.eval x = .slice (some ⟨bb, 0, none⟩) 1 1) (hbb : bb = w0.heap.size) (hA : SRow B1 w0 v T) (hn : T.length ≤ 2000000) (hbase : B1 ≤ w0.heap.size)
    (h : ∀ v' w', SRow B1 w' v' (T ++ [y]) → Below B1 w0 w' → wpList Tryd.prog ops Q rest (a.put o.dst v') w') :
    wpList Tryd.prog ops Q (o :: rest) a (w0.alloc (.cells #[.string y] 9)) := by
  subst hbb
  obtain ⟨i0, hi, hz0, hz1, hz2⟩ := info_parts Tryd.infoR9
  have ho2 := hA.own
  refine wpList_append_own _ hgd s x 46 ho B1 9 i0 (.string ⟨#[]⟩) 1 16 Tryd.underlying46 hi hz0 hz1 hz2 rfl (by decide) v T.length (T.map Value.string) hs (World.ownsRow.alloc hA _) ⟨w0.heap.size, 0, none⟩ 1 1 [.string y] hx rfl (by
      intro j u hu
      match j, hu with
      | 0, hu => simp at hu; subst hu; simp [Addr.add]
      | j + 1, hu => simp at hu) (by intro u hu; simp at hu; subst hu; rfl) (by unfold maxLen; omega) (by omega) (by simp; omega) ?_
  intro v' w' hown hg _
  refine h v' w' ?_ ?_
  · unfold SRow
    rw [List.map_append, List.length_append]
    exact hown
  · refine (below_alloc w0 (.cells #[.string y] 9)).mono hbase |>.trans ⟨hg.os, hg.tape, hg.output, hg.size, fun k hk => hg.block k ?_ ?_⟩
    · simp; omega
    · intro e
      have := (ho2 k e.symm).1
      omega
theorem ext_list (s : ByteArray) (a b : Nat) : (s.extract a b).data.toList = (s.data.toList.take b).drop a := by
  simp [ByteArray.data_extract, List.drop_take]
theorem names_map (D : List ByteArray) : (D.map (·.data.toList)).map st = D := by
  rw [List.map_map]
  simp [Function.comp_def, st_toList]
/-- where the pieces stand, when done of them are read, the next one from f on -/
def At (p : List UInt8) (done : List ByteArray) (f i : Nat) : Prop :=
  (i ≤ p.length ∧ f ≤ i ∧ pieces (p.drop 1) = done.map (·.data.toList) ++ pieces (p.drop f) ∧ ∀ b ∈ (p.take i).drop f, b ≠ 47) ∨ (i = p.length + 1 ∧ f = p.length + 1 ∧ namesOf (p.drop 1) = done)
theorem take_drop_split (p : List UInt8) (f i : Nat) (hf : f ≤ i) (hi : i < p.length) : p.drop f = (p.take i).drop f ++ p[i] :: p.drop (i + 1) := by
  rw [← List.drop_eq_getElem_cons hi]
  conv => lhs; rw [← List.take_append_drop i p]
  rw [List.drop_append_of_le_length (by rw [List.length_take]; omega)]
theorem At.next {p : List UInt8} {done : List ByteArray} {f i : Nat} (h : At p done f i) (hi : i < p.length) (hb : p[i] ≠ 47) : At p done f (i + 1) := by
  rcases h with ⟨h1, h2, h3, h4⟩ | ⟨h1, _⟩
  · refine .inl ⟨hi, by omega, h3, ?_⟩
    rw [List.take_succ_eq_append_getElem hi, List.drop_append_of_le_length (by rw [List.length_take]; omega)]
    intro b hbm
    rcases List.mem_append.1 hbm with hm | hm
    · exact h4 b hm
    · simp at hm; subst hm; exact hb
  · omega
theorem At.push {s : ByteArray} {done : List ByteArray} {f i : Nat} (h : At s.data.toList done f i) (hi : i ≤ s.data.toList.length) (hb : ∀ h : i < s.data.toList.length, s.data.toList[i] = 47) :
    At s.data.toList (done ++ [s.extract f i]) (i + 1) (i + 1) ∧ ∃ rest, namesOf (s.data.toList.drop 1) = done ++ s.extract f i :: rest := by
  rcases h with ⟨h1, h2, h3, h4⟩ | ⟨h1, _⟩
  · by_cases hl : i < s.data.toList.length
    · have e := pieces_pre _ h4 (s.data.toList.drop (i + 1))
      have e2 := take_drop_split _ f i h2 hl
      rw [hb hl] at e2
      rw [e2, e] at h3
      have e3 : done.map (·.data.toList) ++ (s.data.toList.take i).drop f :: pieces (s.data.toList.drop (i + 1)) = (done ++ [s.extract f i]).map (·.data.toList) ++ pieces (s.data.toList.drop (i + 1)) := by
        simp [List.drop_take]
      refine ⟨.inl ⟨hl, Nat.le_refl _, h3.trans e3, fun b hbm => by simp at hbm⟩, (pieces (s.data.toList.drop (i + 1))).map st, ?_⟩
      unfold namesOf
      rw [h3, e3, List.map_append, names_map]
      simp
    · have hie : i = s.data.toList.length := by omega
      have e1 : (s.data.toList.take i).drop f = s.data.toList.drop f := by rw [List.take_of_length_le (by omega)]
      rw [e1] at h4
      rw [pieces_one _ h4, ← e1] at h3
      have e3 : done.map (·.data.toList) ++ [(s.data.toList.take i).drop f] = (done ++ [s.extract f i]).map (·.data.toList) := by simp [List.drop_take]
      have hn : namesOf (s.data.toList.drop 1) = done ++ [s.extract f i] := by
        unfold namesOf
        rw [h3, e3, names_map]
      exact ⟨.inr ⟨by omega, by omega, hn⟩, [], hn⟩
  · omega
theorem chkE_at {done : List ByteArray} {x : ByteArray} {rest : List ByteArray} (h : chkN done = 0) (hx : nmB x ≠ 0) : chkE (done ++ x :: rest) = nmB x := by
  have e : chkN (done ++ x :: rest) = nmB x := by rw [chkN_append h, chkN, if_neg hx]
  rw [chkE_err (by rw [e]; exact hx), e]
theorem chkN_snoc {done : List ByteArray} {x : ByteArray} (h : chkN done = 0) (hx : nmB x = 0) : chkN (done ++ [x]) = 0 := by
  rw [chkN_append h, chkN, if_pos hx]; rfl
set_option maxRecDepth 100000 in
set_option maxHeartbeats 2000000 in
/-- the reference's Split -/
theorem rsplit_any (s : ByteArray) (w : World) (hs : s.size ≤ 1048576) : Calls Tryd.prog 15 #[.string s] w fun e w' => ∃ v, e = .returned (.tuple #[v, .int .i64 (splE s.data.toList)]) ∧ SLie w' v (splL s.data.toList) ∧ Below w.heap.size w w' := by
  have hll := len_list s
  by_cases h1 : s = ⟨#[]⟩
  · subst h1
    have e1 : splE (⟨#[]⟩ : ByteArray).data.toList = 309 := splE_not (fun r => by simp)
    have e2 : splL (⟨#[]⟩ : ByteArray).data.toList = [] := splL_err (by rw [e1]; omega)
    rw [e1, e2]
    go_enter Tryd.func15, Tryd.ntmps15
    go_wp2
    go_ret2
    exact ⟨_, rfl, SLie.nil _, Below.refl _ _⟩
  have k1 : s.toList.isEmpty = false := by
    rw [Lib.toList_data]
    cases hl : s.data.toList with
    | nil => exact absurd (ba_ext hl) h1
    | cons _ _ => rfl
  have h0 : 0 < s.size := by
    rw [← hll]
    cases hl : s.data.toList with
    | nil => exact absurd (ba_ext hl) h1
    | cons _ _ => simp
  have e0 : s[0]'h0 = s.data.toList[0]'(by omega) := by simp; rfl
  by_cases h2 : s[0]'h0 = 47
  · obtain ⟨r, hr⟩ : ∃ r, s.data.toList = 47 :: r := by
      cases hl : s.data.toList with
      | nil => exact absurd (ba_ext hl) h1
      | cons b r =>
        refine ⟨r, ?_⟩
        have : b = 47 := by rw [← h2, e0]; simp [hl]
        rw [this]
    have q1 : (((s[0]'h0).toNat : Int) != 47) = false := by rw [h2]; rfl
    by_cases h3 : r = []
    · subst h3
      have es : s = ⟨#[47]⟩ := ba_ext hr
      rw [hr, splE_root, splL_root]
      have k2 : (s.toList == [47]) = true := by rw [Lib.toList_data, hr]; rfl
      clear h1 e0 h2 hr es
      go_enter Tryd.func15, Tryd.ntmps15
      go_wp2
      go_ret2
      exact ⟨_, rfl, SLie.nil _, Below.refl _ _⟩
    · have k2 := st47 hr h3
      have HE : Hid (splE s.data.toList = chkE (namesOf (s.data.toList.drop 1))) := by
        show _ = _
        rw [hr, splE_some h3]; rfl
      have HL : Hid (chkE (namesOf (s.data.toList.drop 1)) = 0 → splL s.data.toList = namesOf (s.data.toList.drop 1)) := by
        intro h
        rw [hr] at h ⊢
        exact splL_some h3 h
      have HL2 : Hid (chkE (namesOf (s.data.toList.drop 1)) ≠ 0 → splL s.data.toList = []) := fun h => splL_err (by rw [HE.out]; exact h)
      have H1 : 1 ≤ s.data.toList.length := by rw [hr]; simp
      have HAT : Hid (At s.data.toList [] 1 1) := .inl ⟨H1, Nat.le_refl _, rfl, fun b hb => by simp at hb⟩
      clear h1 e0 h2 hr h3
      go_enter Tryd.func15, Tryd.ntmps15
      go_wp2
      go_loopw [4, 5, 6] (fun s4 s5 s6 wr => ∃ (done : List ByteArray) (f i : Nat), s5 = .int .i64 f ∧ s6 = .int .i64 i ∧ SRow w.heap.size wr s4 done ∧ Below w.heap.size w wr ∧ Hid (At s.data.toList done f i) ∧ Hid (chkN done = 0) ∧ i ≤ s.size + 1 ∧ f ≤ i ∧ done.length ≤ f) (fun _ _ s6 _ => s.size + 1 - (intOf s6).toNat)
      case atStart => exact ⟨[], 1, 1, rfl, rfl, SRow.nil _ _, Below.refl _ _, HAT, rfl, by omega, by omega, by simp⟩
      case round =>
        obtain ⟨done, f, i, rfl, rfl, hrow, hB, HA, HCK, hi, hfi, hdf⟩ := hrel
        have HB := hid hB
        have HR := hid hrow
        clear hB hrow
        by_cases hlt : i ≤ s.size
        · by_cases hl : i < s.size
          · have e : s[i]'hl = s.data.toList[i]'(by omega) := by simp; rfl
            by_cases hb : s[i]'hl = 47
            · have q2 : (((s[i]'hl).toNat : Int) != 47) = false := by rw [hb]; rfl
              obtain ⟨hp1, rest, hp2⟩ := HA.out.push (by omega) (fun h => by rw [← e]; exact hb)
              have HP1 := hid hp1
              have HP2 := hid hp2
              clear hp1 hp2 e hb HA
              have hxs : (s.extract f i).size ≤ maxLen := by
                rw [← len_list, ext_list, List.length_drop, List.length_take]; unfold maxLen; omega
              have HN := hid (fun w => rname_any (s.extract f i) w hxs)
              clear hxs
              by_cases hx : nmB (s.extract f i) = 0
              · have HCK2 := hid (chkN_snoc HCK.out hx)
                rw [hx] at HN
                clear hx HE HL HL2 HP2 HCK
                go_wp2_with (first
                  | (go_at_call 29; refine (HN.out _).mono ?_; rintro e w1 ⟨rfl, hw⟩; have hw := hw.symm; subst hw)
                  | (at_builtin; refine pushS rfl (.tmp 41) (.tmp 46) rfl w.heap.size wr.heap.size _ done (s.extract f i) rfl rfl rfl HR.out (by omega) HB.out.size ?_; intro v2 w2 hr2 hb2; have HR2 := hid hr2; have HB2 : Hid (Below w.heap.size w w2) := hid (HB.out.trans hb2); clear hr2 hb2))
                go_roundw
                case rel => exact ⟨done ++ [s.extract f i], i + 1, i + 1, by go_num, by go_num, HR2.out, HB2.out, HP1, HCK2, by omega, by omega, by simp; omega⟩
                case measure => simp [intOf]; omega
              · have E1 := HE.out
                have E2 := HL2.out
                rw [HP2.out, chkE_at HCK.out hx] at E1 E2
                have F1 := hid E1
                have F2 := hid (E2 hx)
                obtain ⟨E, hE⟩ : ∃ E, E = nmB (s.extract f i) := ⟨_, rfl⟩
                rw [← hE] at HN hx F1
                have hne : (E != 0) = true := by simpa using hx
                clear E1 E2 HE HL HL2 HP2 HP1 HCK hE hx
                go_wp2_with (first
                  | (go_at_call 29; refine (HN.out _).mono ?_; rintro e w1 ⟨rfl, hw⟩; have hw := hw.symm; subst hw))
                go_ret2
                exact ⟨_, ret_two F1.out.symm, by rw [F2.out]; exact SLie.nil _, HB.out⟩
            · have q2 : (((s[i]'hl).toNat : Int) != 47) = true := by
                have := u8_ne hb
                simp only [bne, Bool.not_eq_true']
                exact this
              have HA2 := hid (HA.out.next (by omega) (by rw [← e]; exact hb))
              clear HA e hb
              go_wp2
              go_roundw
              case rel => exact ⟨done, f, i + 1, rfl, by go_num, HR.out, HB.out, HA2, HCK, by omega, by omega, hdf⟩
              case measure => simp [intOf]; omega
          · have hie : i = s.size := by omega
            obtain ⟨hp1, rest, hp2⟩ := HA.out.push (by omega) (fun h => by omega)
            have HP1 := hid hp1
            have HP2 := hid hp2
            clear hp1 hp2 HA hie
            have hxs : (s.extract f i).size ≤ maxLen := by
              rw [← len_list, ext_list, List.length_drop, List.length_take]; unfold maxLen; omega
            have HN := hid (fun w => rname_any (s.extract f i) w hxs)
            clear hxs
            by_cases hx : nmB (s.extract f i) = 0
            · have HCK2 := hid (chkN_snoc HCK.out hx)
              rw [hx] at HN
              clear hx HE HL HL2 HP2 HCK
              go_wp2_with (first
                | (go_at_call 29; refine (HN.out _).mono ?_; rintro e w1 ⟨rfl, hw⟩; have hw := hw.symm; subst hw)
                | (at_builtin; refine pushS rfl (.tmp 41) (.tmp 46) rfl w.heap.size wr.heap.size _ done (s.extract f i) rfl rfl rfl HR.out (by omega) HB.out.size ?_; intro v2 w2 hr2 hb2; have HR2 := hid hr2; have HB2 : Hid (Below w.heap.size w w2) := hid (HB.out.trans hb2); clear hr2 hb2))
              go_roundw
              case rel => exact ⟨done ++ [s.extract f i], i + 1, i + 1, by go_num, by go_num, HR2.out, HB2.out, HP1, HCK2, by omega, by omega, by simp; omega⟩
              case measure => simp [intOf]; omega
            · have E1 := HE.out
              have E2 := HL2.out
              rw [HP2.out, chkE_at HCK.out hx] at E1 E2
              have F1 := hid E1
              have F2 := hid (E2 hx)
              obtain ⟨E, hE⟩ : ∃ E, E = nmB (s.extract f i) := ⟨_, rfl⟩
              rw [← hE] at HN hx F1
              have hne : (E != 0) = true := by simpa using hx
              clear E1 E2 HE HL HL2 HP2 HP1 HCK hE hx
              go_wp2_with (first
                | (go_at_call 29; refine (HN.out _).mono ?_; rintro e w1 ⟨rfl, hw⟩; have hw := hw.symm; subst hw))
              go_ret2
              exact ⟨_, ret_two F1.out.symm, by rw [F2.out]; exact SLie.nil _, HB.out⟩
        · have hie : i = s.size + 1 := by omega
          have E : Hid (namesOf (s.data.toList.drop 1) = done) := by
            rcases HA.out with ⟨h, _⟩ | ⟨_, _, h⟩
            · omega
            · exact h
          obtain ⟨ao, cap, e, hc1, hc2⟩ := HR.out.len
          subst e
          unfold maxLen at hc2
          by_cases h8 : 8 < done.length
          · have e8 : chkE done = 308 := by unfold chkE; rw [if_pos HCK.out, if_pos h8]
            have E1 := HE.out
            have E2 := HL2.out
            rw [E.out, e8] at E1 E2
            have F1 := hid E1
            have F2 := hid (E2 (by omega))
            clear E1 E2 E HE HL HL2 e8
            go_wp2
            go_ret2
            exact ⟨_, ret_two F1.out.symm, by rw [F2.out]; exact SLie.nil _, HB.out⟩
          · have e8 : chkE done = 0 := by unfold chkE; rw [if_pos HCK.out, if_neg h8]
            have E1 := HE.out
            have E2 := HL.out
            rw [E.out, e8] at E1 E2
            have F1 := hid E1
            have F2 := hid (E2 rfl)
            clear E1 E2 E HE HL HL2 e8
            go_wp2
            go_ret2
            exact ⟨_, ret_two F1.out.symm, by rw [F2.out]; exact HR.out.lie, HB.out⟩
  · have hp : ∀ r, s.data.toList ≠ 47 :: r := by
      intro r e
      exact h2 (by rw [e0]; simp [e])
    rw [splL_err (by rw [splE_not hp]; omega), splE_not hp]
    have q1 : (((s[0]'h0).toNat : Int) != 47) = true := by
      have := u8_ne h2
      simp only [bne, Bool.not_eq_true']
      exact this
    clear hp h2 e0 h1
    go_enter Tryd.func15, Tryd.ntmps15
    go_wp2
    go_ret2
    exact ⟨_, rfl, SLie.nil _, Below.refl _ _⟩
end Go.Proofs.YtnoocgodnpjnoaaDoor
