import Derived.Test.YtokjlgebkihimaaGreatXl
import Derived.Test.YtokjlgebkihimaaGreatVa
import Derived.Test.YtokjlgebkihimaaGreatFw
import Derived.Test.YtokjlgebkihimaaGreatGg
import Derived.Test.YtokjlgebkihimaaGreatGe
import Derived.Lib.DecodeN
import Derived.Lib.SplitLaws
import Derived.Laws.RangeAny
import Derived.Lib.OthersKept
namespace Go.Proofs.YtokjlgebkihimaaGreat
open Go.RowKit Go.Maps

theorem bys_len (G : Geo) (B : List ByteArray) (n : Ino) (x k : Nat) : (bys G B n x k).length = k := by simp [bys]
theorem bys_part (G : Geo) (B : List ByteArray) (n : Ino) (x k z : Nat) (hx : x ≤ z) : bys G B n x (min (x + k) z - x) = ((bys G B n 0 z).drop x).take k := by
  apply List.ext_getElem
  · simp [bys]; omega
  · intro j h1 h2
    simp [bys]
/-- a directory's bytes, as the view has them, are its slots -/
theorem slots_vi {G : Geo} {p q cap m : Nat} {w : World} {F B : List ByteArray} (i : Int) (z : Nat) (hv : VI G p q cap m w F B) (hu : usdE G B i = 0) (hk : (usdI G B i).k = 2) (hz : (usdI G B i).z = (z : Int)) (hl : z ≤ 30000) : SlotsAt (.pointer (some ⟨p, 0, none⟩)) (.int .i64 i) w (chop (bys G B (usdI G B i) 0 z)) := by
  intro W hW
  have hv2 := hv.below hW
  obtain ⟨_, e1, e2, _⟩ := usd_ok hu
  have HI := node_any i hv2
  rw [e1, ← e2] at HI
  have HR := fun (W' : World) (hW' : Below W.heap.size W W') (x : Nat) (hx : x < z) => read_ok i x 1024 z (by omega) (by omega) hu hz (by omega) (hv2.below hW')
  obtain ⟨n, hn⟩ : ∃ n, n = usdI G B i := ⟨_, rfl⟩
  rw [← hn] at HI HR hk hz ⊢
  clear hn
  have HR2 : Hid (∀ W', Below W.heap.size W W' → ∀ x : Nat, x < z → Calls Tryz.prog 76 #[.pointer (some ⟨p, 0, none⟩), .int .i64 i, .int .i64 (x : Int), .int .i64 1024] W' fun e' w' => e' = .returned (.tuple #[.string (st (((bys G B n 0 z).drop x).take 1024)), .int .i64 0]) ∧ Below W'.heap.size W' w') := hid (fun W' hW' x hx => by
    have h1 := HR W' hW' x hx
    rw [show min x z = x by omega, bys_part G B n x 1024 z (by omega)] at h1
    exact h1)
  obtain ⟨nk, nl, nz, na, nb, nc, nd, ne, nf, ns, nt⟩ := n
  cases hk
  cases hz
  exact slots_of z (hid (bys_len _ _ _ _ _).symm) hl nl na nb nc nd ne nf ns nt (hid HI) HR2
end Go.Proofs.YtokjlgebkihimaaGreat
namespace Go.Proofs.YtokjlgebkihimaaGreat
open Go.RowKit Go.Maps

/-- a directory's slots are these; it has the blocks that they want, and no others -/
structure FD (B : List ByteArray) (i : Nat) (S : List (List UInt8)) : Prop where
  k : (nd sG B i).k = 2
  z : (nd sG B i).z = ((S.length * 32 : Nat) : Int)
  len : S.length ≤ 400
  all : ∀ s ∈ S, s.length = 32
  get : ∀ a, a < 533248 → fby sG B (nd sG B) i a = (S.getD (a / 32) []).getD (a % 32) 0
  ful : ∀ q, okp q = true → (vl (ab sG B (nd sG B)) i q ≠ 0 ↔ ∃ y, y * 128 < S.length * 32 ∧ onp y q)
theorem FD.usd {B : List ByteArray} (H : TI sG B) {i : Nat} {S : List (List UInt8)} (hi : i < 8) (f : FD B i S) : usdE sG B (i : Int) = 0 ∧ usdI sG B (i : Int) = nd sG B i := by
  have hn := H.ne i (show i < sG.z from hi)
  have hk : (nodeI sG B (i : Int)).k = 2 := f.k
  have hc : ¬ (nodeE sG B (i : Int) = 0 ∧ (nodeI sG B (i : Int)).k = 0) := by rintro ⟨_, h⟩; omega
  unfold usdE usdI
  rw [if_neg hc, if_neg hc]
  exact ⟨hn, rfl⟩
theorem fby_same {G : Geo} {B : List ByteArray} {N N' : Nat → Ino} (e : ab G B N = ab G B N') (j a : Nat) : fby G B N j a = fby G B N' j a := by
  unfold fby; rw [e]
theorem fby_put {G : Geo} (hG : G.Ok) {B : List ByteArray} (hl : B.length = G.n) {i : Nat} (hi : i < G.z) (n : Ino) (N : Nat → Ino) (j a : Nat) : fby G (putB G B i n) N j a = fby G B N j a := by
  unfold fby
  rw [put_ab hG hl hi]
  by_cases e : vl (ab G B N) j (pth (a / 128)) = 0
  · rw [if_pos e, if_pos e]
  · rw [if_neg e, if_neg e]
    have := inn_rng e
    obtain ⟨h1, _⟩ := tab_rng hG hi
    unfold putB
    rw [bk_set _ (by have := hG.dan; omega), if_neg (by omega)]
/-- what is named on the way to what is named is named -/
theorem vl_up {S : NS} {i : Nat} : ∀ (t q : List Nat), q ≠ [] → vl S i (t ++ q) ≠ 0 → vl S i q ≠ 0
  | [], _, _, h => h
  | a :: t, q, hq, h => by
    refine vl_up t q hq fun e => h ?_
    rw [List.cons_append]
    cases htq : t ++ q with
    | nil => exact absurd (List.append_eq_nil_iff.1 htq).2 hq
    | cons b r =>
      rw [htq] at e
      exact child0 e a
theorem onp_self (y : Nat) : onp y (pth y) := ⟨[], rfl⟩
theorem pth_ne (y : Nat) : pth y ≠ [] := by
  unfold pth
  split
  · simp
  · split <;> simp
theorem chopN_get : ∀ (n : Nat) (h : List UInt8) (i : Nat), i < n → (chopN n h)[i]? = some ((h.drop (i * 32)).take 32)
  | 0, _, _, h => by omega
  | n + 1, h, 0, _ => by rw [chopN]; simp
  | n + 1, h, i + 1, hi => by
    rw [chopN, List.getElem?_cons_succ, chopN_get n (h.drop 32) i (by omega), List.drop_drop, show (i + 1) * 32 = 32 + i * 32 by omega]
theorem chop_eq {h : List UInt8} {S : List (List UInt8)} (hl : h.length = S.length * 32) (hall : ∀ s ∈ S, s.length = 32) (hg : ∀ a, a < h.length → h.getD a 0 = (S.getD (a / 32) []).getD (a % 32) 0) : chop h = S := by
  have hn : h.length / 32 = S.length := by omega
  unfold chop
  rw [hn]
  apply List.ext_getElem?
  intro i
  by_cases hi : i < S.length
  · rw [chopN_get _ _ _ hi, List.getElem?_eq_getElem hi]
    congr 1
    have hs := hall _ (List.getElem_mem hi)
    apply List.ext_getElem
    · rw [List.length_take, List.length_drop, hs]; omega
    · intro j h1 h2
      rw [hs] at h2
      have e := hg (i * 32 + j) (by omega)
      rw [show (i * 32 + j) / 32 = i by omega, show (i * 32 + j) % 32 = j by omega] at e
      rw [List.getElem_take, List.getElem_drop]
      have e1 : h.getD (i * 32 + j) 0 = h[i * 32 + j]'(by omega) := by rw [List.getD_eq_getElem?_getD, List.getElem?_eq_getElem (by omega)]; rfl
      have e2 : S.getD i [] = S[i] := by rw [List.getD_eq_getElem?_getD, List.getElem?_eq_getElem hi]; rfl
      have e3 : (S[i]).getD j 0 = (S[i])[j]'(by omega) := by rw [List.getD_eq_getElem?_getD, List.getElem?_eq_getElem (by omega)]; rfl
      rw [e1, e2, e3] at e
      exact e
  · rw [List.getElem?_eq_none (by rw [chopN_len]; omega), List.getElem?_eq_none (by omega)]
theorem FD.bys {B : List ByteArray} {i : Nat} {S : List (List UInt8)} (f : FD B i S) : chop (bys sG B (nd sG B i) 0 (S.length * 32)) = S := by
  have hl := f.len
  have key : ∀ a, a < 30000 → byt sG B (nd sG B i) a = (S.getD (a / 32) []).getD (a % 32) 0 := by
    intro a ha
    rw [← f.get a (by omega)]
    unfold byt fby
    rw [blk_vl s_ok (by omega)]
  refine chop_eq (by rw [bys_len]) f.all fun a ha => ?_
  rw [bys_len] at ha
  rw [← key a (by omega), List.getD_eq_getElem?_getD]
  unfold YtokjlgebkihimaaGreat.bys
  rw [List.getElem?_map, List.getElem?_range ha]
  simp
/-- the slots with one written -/
def putS (S : List (List UInt8)) (k : Nat) (d : List UInt8) : List (List UInt8) := if k < S.length then S.set k d else S ++ [d]
theorem putS_len (S : List (List UInt8)) (k : Nat) (d : List UInt8) : (putS S k d).length = if k < S.length then S.length else S.length + 1 := by
  unfold putS
  split <;> simp
theorem putS_all {S : List (List UInt8)} {k : Nat} {d : List UInt8} (h : ∀ s ∈ S, s.length = 32) (hd : d.length = 32) : ∀ s ∈ putS S k d, s.length = 32 := by
  intro s hs
  unfold putS at hs
  split at hs
  · rcases List.mem_or_eq_of_mem_set hs with h1 | rfl
    · exact h s h1
    · exact hd
  · rcases List.mem_append.1 hs with h1 | h1
    · exact h s h1
    · rw [List.mem_singleton] at h1; rw [h1]; exact hd
theorem putS_get {S : List (List UInt8)} {k : Nat} (hk : k ≤ S.length) (d : List UInt8) (j : Nat) : (putS S k d).getD j [] = if j = k then d else S.getD j [] := by
  unfold putS
  simp only [List.getD_eq_getElem?_getD]
  by_cases c : k < S.length
  · rw [if_pos c]
    by_cases e : j = k
    · rw [if_pos e, e, List.getElem?_set_self c]; rfl
    · rw [if_neg e, List.getElem?_set_ne (fun h => e h.symm)]
  · rw [if_neg c]
    have hk' : k = S.length := by omega
    by_cases e : j = k
    · rw [if_pos e, e, hk', List.getElem?_append_right (Nat.le_refl _), Nat.sub_self]; rfl
    · rw [if_neg e]
      by_cases hj : j < S.length
      · rw [List.getElem?_append_left hj]
      · rw [List.getElem?_append_right (by omega), List.getElem?_eq_none (by simp; omega), List.getElem?_eq_none (by omega)]
/-- a slot that is written where there is a block goes well -/
theorem lay_there {B : List ByteArray} {i k : Nat} {S : List (List UInt8)} {d : ByteArray} (H : TI sG B) (f : FD B i S) (hi : i < 8) (hk : k < S.length) (hd : d.size = 32) : (layR sG B (usdI sG B (i : Int)) (k * 32) d).1 = 0 := by
  have hl := f.len
  rw [(f.usd H hi).2]
  have hv : vl (ab sG B (upd (nd sG B) i { nd sG B i with z := max (nd sG B i).z (((k * 32 : Nat) : Int) + d.size) })) i (pth (k * 32 / 128)) ≠ 0 := by
    rw [ab_z, upd_self, f.ful _ (pth_ok (by omega))]
    exact ⟨k * 32 / 128, by omega, onp_self _⟩
  have hb := blk_vl (G := sG) s_ok (B := B) (N := upd (nd sG B) i { nd sG B i with z := max (nd sG B i).z (((k * 32 : Nat) : Int) + d.size) }) (i := i) (x := k * 32 / 128) (by omega)
  rw [upd_at] at hb
  rw [← hb] at hv
  have hdl : d.data.toList.length = 32 := by rw [len_list]; exact hd
  unfold layR
  rw [hd] at hv ⊢
  have hr : rchS sG B { nd sG B i with z := max (nd sG B i).z (((k * 32 : Nat) : Int) + (32 : Nat)) } (k * 32 / 128) = (some (blk sG B { nd sG B i with z := max (nd sG B i).z (((k * 32 : Nat) : Int) + (32 : Nat)) } (k * 32 / 128)), B, { nd sG B i with z := max (nd sG B i).z (((k * 32 : Nat) : Int) + (32 : Nat)) }) := by
    unfold rchS
    rw [if_neg hv]
  rw [layS_next (by omega) hr, layS_done (by rw [List.length_drop]; omega)]
/-- what a write of a slot comes to -/
theorem FD.write {B B' : List ByteArray} {i k : Nat} {S : List (List UInt8)} {d : ByteArray} {r : Int} (H : TI sG B) (f : FD B i S) (hi : i < 8) (hk : k ≤ S.length) (hl : S.length < 400) (hd : d.size = 32) (h0 : k = S.length → d.data.toList.getD 0 0 ≠ 0) (h : WrR sG B (i : Int) ((k * 32 : Nat) : Int) d r B') :
    (B' = B ∧ r ≠ 0) ∨ (r = 0 ∧ TI sG B' ∧ FD B' i (putS S k d.data.toList) ∧ ∀ j, j < 8 → j ≠ i → ∀ T, FD B j T → FD B' j T) := by
  rcases h with ⟨e, h1 | h1⟩ | ⟨hr, i', y, ei, ey, hi', hy, hd0, hu, hL, hB⟩
  · exact .inl ⟨e, h1⟩
  · omega
  · have ei' : i' = i := by omega
    have ey' : y = k * 32 := by omega
    subst ei' ey'
    have hG := H.si.ok
    obtain ⟨hT, N, hN, e1, e2, e3, hl'⟩ := write_ti H hi' hy hu hL
    rw [← hB] at e2 e3 hT
    have hsz : d.data.toList.length = 32 := by rw [len_list]; exact hd
    have hfb : ∀ j a, j < 8 → a < 533248 → fby sG B' (nd sG B') j a = if j = i' ∧ k * 32 ≤ a ∧ a < k * 32 + 32 then d.data.toList.getD (a - k * 32) 0 else fby sG B (nd sG B) j a := by
      intro j a hj ha
      rw [e2, hB, fby_put hG hl'.si.bl (show i' < sG.z from hi), hl'.fby j a (show j < sG.z from hj) ha, hsz, fby_same e1]
    have hnd : ∀ j, nd sG B' j = if j = i' then (layR sG B (usdI sG B (i' : Int)) (k * 32) d).2.2 else nd sG B j := by
      intro j
      rw [e2]
      by_cases e : j = i'
      · rw [if_pos e, e, upd_at]
      · rw [if_neg e, upd_ne _ _ e, hN, upd_ne _ _ e]
    have hkeep : ∀ j q, j < 8 → okp q = true → vl (ab sG B (nd sG B)) j q ≠ 0 → vl (ab sG B' (nd sG B')) j q ≠ 0 := by
      intro j q hj hq hv
      rw [e2, e3, hl'.keep j q (show j < sG.z from hj) hq (by rw [e1]; exact hv), e1]
      exact hv
    have hnew : ∀ j q, j < 8 → okp q = true → vl (ab sG B (nd sG B)) j q = 0 → vl (ab sG B' (nd sG B')) j q ≠ 0 → j = i' ∧ ∃ y, y * 128 < k * 32 + 32 ∧ onp y q := by
      intro j q hj hq hv hv'
      rw [e2, e3] at hv'
      obtain ⟨h1, y, _, h2, h3, _⟩ := hl'.new j q (show j < sG.z from hj) hq (by rw [e1]; exact hv) hv'
      rw [hsz] at h2
      exact ⟨h1, y, h2, h3⟩
    refine .inr ⟨hr, hT, ⟨?_, ?_, ?_, putS_all f.all hsz, ?_, ?_⟩, ?_⟩
    · have hd := hl'.hd
      rw [upd_at, hN, upd_at] at hd
      rw [hnd, if_pos rfl, hd.1]; exact f.k
    · have hd2 := hl'.hd
      rw [upd_at, hN, upd_at] at hd2
      rw [hnd, if_pos rfl, hd2.2.2]
      show max (nd sG B i').z (((k * 32 : Nat) : Int) + d.size) = _
      rw [f.z, putS_len, hd]
      split <;> omega
    · rw [putS_len]; split <;> omega
    · intro a ha
      rw [hfb i' a hi ha, putS_get hk]
      by_cases c : k * 32 ≤ a ∧ a < k * 32 + 32
      · rw [if_pos ⟨rfl, c⟩, if_pos (by omega), show a - k * 32 = a % 32 by omega]
      · rw [if_neg (fun h => c h.2), if_neg (by omega), f.get a ha]
    · have hle : k * 32 + 32 ≤ (putS S k d.data.toList).length * 32 ∧ S.length ≤ (putS S k d.data.toList).length := by
        rw [putS_len]; split <;> omega
      intro q hq
      constructor
      · intro hv
        by_cases e : vl (ab sG B (nd sG B)) i' q = 0
        · obtain ⟨_, y, h2, h3⟩ := hnew i' q hi hq e hv
          exact ⟨y, by omega, h3⟩
        · obtain ⟨y, h2, h3⟩ := (f.ful q hq).1 e
          exact ⟨y, by omega, h3⟩
      · rintro ⟨y, h2, h3⟩
        by_cases c : y * 128 < S.length * 32
        · exact hkeep i' q hi hq ((f.ful q hq).2 ⟨y, c, h3⟩)
        · rw [putS_len] at h2
          have hkS : k = S.length := by split at h2 <;> omega
          rw [if_neg (by omega)] at h2
          have hy2 : y * 128 = k * 32 := by omega
          have hfy := hfb i' (k * 32) hi (by omega)
          rw [if_pos ⟨rfl, by omega⟩, Nat.sub_self] at hfy
          have hne := h0 hkS
          rw [← hfy] at hne
          have hpv : vl (ab sG B' (nd sG B')) i' (pth y) ≠ 0 := by
            intro e
            refine hne ?_
            unfold fby
            rw [show k * 32 / 128 = y by omega, if_pos e]
          obtain ⟨t, ht⟩ := h3
          rw [← ht] at hpv
          exact vl_up t q (okp_ne hq) hpv
    · intro j hj hji T fT
      refine ⟨by rw [hnd, if_neg hji]; exact fT.k, by rw [hnd, if_neg hji]; exact fT.z, fT.len, fT.all, ?_, ?_⟩
      · intro a ha
        rw [hfb j a hj ha, if_neg (fun h => hji h.1), fT.get a ha]
      · intro q hq
        rw [← fT.ful q hq]
        constructor
        · intro hv e
          exact absurd (hnew j q hj hq e hv).1 hji
        · exact hkeep j q hj hq
end Go.Proofs.YtokjlgebkihimaaGreat
namespace Go.Proofs.YtokjlgebkihimaaGreat
open Go.RowKit Go.Maps

theorem ba_ext {a b : ByteArray} (h : a.data.toList = b.data.toList) : a = b := by rw [← st_toList a, ← st_toList b, h]
/-- is it no name's letter? -/
def badB (b : UInt8) : Bool := b == 47 || b == 0
/-- what is wrong with a name -/
def nmE (l : List UInt8) : Int := if l = [] ∨ l = [46] ∨ l = [46, 46] ∨ l.any badB = true then 309 else if 24 < l.length then 308 else 0
def nmB (s : ByteArray) : Int := nmE s.data.toList
theorem nmE_cases (l : List UInt8) : nmE l = 309 ∨ nmE l = 308 ∨ nmE l = 0 := by
  unfold nmE; split
  · exact .inl rfl
  · split
    · exact .inr (.inl rfl)
    · exact .inr (.inr rfl)
theorem nmB_24 {s : ByteArray} (h : nmB s = 0) : s.size ≤ 24 := by
  unfold nmB nmE at h
  split at h
  · exact absurd h (by decide)
  · split at h
    · exact absurd h (by decide)
    · rename_i h1; rw [len_list] at h1; omega
/-- the bytes of a letter: none of them is / or 0 unless the letter is -/
theorem conts (n b0 b1 b2 b3 : Nat) :
    (2 ≤ (Lib.decodeN n b0 b1 b2 b3).2 → b1 / 64 = 2 ∧ 1 < n) ∧ (3 ≤ (Lib.decodeN n b0 b1 b2 b3).2 → b2 / 64 = 2 ∧ 2 < n) ∧ (4 ≤ (Lib.decodeN n b0 b1 b2 b3).2 → b3 / 64 = 2 ∧ 3 < n) ∧ (Lib.decodeN n b0 b1 b2 b3).2 ≤ 4 ∧ 1 ≤ (Lib.decodeN n b0 b1 b2 b3).2 := by
  unfold Lib.decodeN
  repeat' split
  all_goals (simp only; omega)
theorem get_list (s : ByteArray) (i : Nat) (h : i < s.size) : s.get! i = s.data.toList[i]'(by rw [len_list]; exact h) := by
  simp [ByteArray.get!, getElem!_pos s.data i (by exact h)]
theorem badB_cont {b : UInt8} (h : b.toNat / 64 = 2) : badB b = false := by
  unfold badB
  have h1 : b ≠ 47 := by intro e; subst e; simp at h
  have h2 : b ≠ 0 := by intro e; subst e; simp at h
  simp [h1, h2]
theorem badB_high {b : UInt8} (h : 128 ≤ b.toNat) : badB b = false := by
  unfold badB
  have h1 : b ≠ 47 := by intro e; subst e; simp at h
  have h2 : b ≠ 0 := by intro e; subst e; simp at h
  simp [h1, h2]
theorem next_bad (s : ByteArray) (pos : Nat) (h : pos < s.size) :
    pos + (Utf8.decode s pos).2 ≤ s.size ∧ 1 ≤ (Utf8.decode s pos).2 ∧
    (((Utf8.decode s pos).1 = 47 ∨ (Utf8.decode s pos).1 = 0) → ∃ b ∈ s.data.toList, badB b = true) ∧
    (((Utf8.decode s pos).1 ≠ 47 ∧ (Utf8.decode s pos).1 ≠ 0) → ∀ j, pos ≤ j → j < pos + (Utf8.decode s pos).2 → ∀ (hj : j < s.data.toList.length), badB (s.data.toList[j]) = false) := by
  have hl := len_list s
  by_cases ha : (s[pos]'h).toNat < 128
  · rw [decode_ascii s pos h ha]
    have e : s[pos]'h = s.data.toList[pos]'(by omega) := by simp; rfl
    refine ⟨by simp; omega, by simp, fun hb => ⟨s[pos]'h, ?_, ?_⟩, fun hb j h1 h2 hj => ?_⟩
    · rw [e]; exact List.getElem_mem _
    · unfold badB
      simp only at hb
      rcases hb with hb | hb
      · have : s[pos]'h = 47 := UInt8.toNat_inj.1 (by simpa using hb)
        simp [this]
      · have : s[pos]'h = 0 := UInt8.toNat_inj.1 (by simpa using hb)
        simp [this]
    · simp only at hb h2
      obtain rfl : j = pos := by omega
      rw [← e]
      unfold badB
      have h1 : s[j]'h ≠ 47 := by intro e; rw [e] at hb; simp at hb
      have h2 : s[j]'h ≠ 0 := by intro e; rw [e] at hb; simp at hb
      simp [h1, h2]
  · have hh := decode_high s pos h (by omega)
    have hc := conts (s.size - pos) (s.get! pos).toNat (s.get! (pos + 1)).toNat (s.get! (pos + 2)).toNat (s.get! (pos + 3)).toNat
    rw [← Lib.decode_at] at hc
    obtain ⟨c2, c3, c4, c5, c6⟩ := hc
    have e : s[pos]'h = s.data.toList[pos]'(by omega) := by simp; rfl
    obtain ⟨D, hD⟩ : ∃ D, D = Utf8.decode s pos := ⟨_, rfl⟩
    rw [← hD] at c2 c3 c4 c5 c6 hh ⊢
    refine ⟨?_, c6, fun hb => by omega, fun _ j h1 h2 hj => ?_⟩
    · by_cases k4 : 4 ≤ D.2
      · have := c4 k4; omega
      · by_cases k3 : 3 ≤ D.2
        · have := c3 k3; omega
        · by_cases k2 : 2 ≤ D.2
          · have := c2 k2; omega
          · omega
    · by_cases j0 : j = pos
      · subst j0; rw [← e]; exact badB_high (by omega)
      by_cases j1 : j = pos + 1
      · subst j1
        have := (c2 (by omega)).1
        rw [get_list s _ (by omega)] at this
        exact badB_cont this
      by_cases j2 : j = pos + 2
      · subst j2
        have := (c3 (by omega)).1
        rw [get_list s _ (by omega)] at this
        exact badB_cont this
      · obtain rfl : j = pos + 3 := by omega
        have := (c4 (by omega)).1
        rw [get_list s _ (by omega)] at this
        exact badB_cont this
theorem iterPos_of {w : World} {k : Nat} {s : ByteArray} {p : Nat} (h : w.heap[k]? = some (.stringIter s p)) : w.iterPos k = p := by simp [World.iterPos, h]
theorem nmB_bad {s : ByteArray} (h : ∃ b ∈ s.data.toList, badB b = true) : nmB s = 309 := by
  unfold nmB nmE
  rw [if_pos (.inr (.inr (.inr (List.any_eq_true.2 h))))]
theorem nmB_empty : nmB ⟨#[]⟩ = 309 := by unfold nmB nmE; simp
theorem nmB_one : nmB ⟨#[46]⟩ = 309 := by unfold nmB nmE; simp
theorem nmB_two : nmB ⟨#[46, 46]⟩ = 309 := by unfold nmB nmE; simp
theorem nmB_good {s : ByteArray} (h1 : s ≠ ⟨#[]⟩) (h2 : s ≠ ⟨#[46]⟩) (h3 : s ≠ ⟨#[46, 46]⟩) (h4 : ∀ j (hj : j < s.data.toList.length), badB (s.data.toList[j]) = false) : nmB s = if 24 < s.size then 308 else 0 := by
  unfold nmB nmE
  rw [if_neg, len_list]
  rintro (h | h | h | h)
  · exact h1 (ba_ext h)
  · exact h2 (ba_ext h)
  · exact h3 (ba_ext h)
  · obtain ⟨b, hb, hbad⟩ := List.any_eq_true.1 h
    obtain ⟨j, hj, rfl⟩ := List.mem_iff_getElem.1 hb
    rw [h4 j hj] at hbad; cases hbad
set_option maxRecDepth 100000 in
set_option maxHeartbeats 1000000 in
theorem pname_any (s : ByteArray) (w : World) : Calls Tryz.prog 68 #[.string s] w fun e w' => e = .returned (.int .i64 (nmB s)) ∧ Below w.heap.size w w' := by
  by_cases h1 : s = ⟨#[]⟩
  · subst h1
    rw [nmB_empty]
    go_enter Tryz.func68, Tryz.ntmps68
    go_wp2
    go_ret
    exact ⟨rfl, Below.refl _ _⟩
  by_cases h2 : s = ⟨#[46]⟩
  · subst h2
    rw [nmB_one]
    go_enter Tryz.func68, Tryz.ntmps68
    go_wp2
    go_ret
    exact ⟨rfl, Below.refl _ _⟩
  by_cases h3 : s = ⟨#[46, 46]⟩
  · subst h3
    rw [nmB_two]
    go_enter Tryz.func68, Tryz.ntmps68
    go_wp2
    go_ret
    exact ⟨rfl, Below.refl _ _⟩
  have k1 : s.toList.isEmpty = false := by
    rw [Lib.toList_data]
    cases hl : s.data.toList with
    | nil => exact absurd (ba_ext hl) h1
    | cons _ _ => rfl
  have k2 : (s.toList == [46]) = false := by have := str_ne h2; rw [Lib.toList_data ⟨#[46]⟩] at this; exact this
  have k3 : (s.toList == [46, 46]) = false := by have := str_ne h3; rw [Lib.toList_data ⟨#[46, 46]⟩] at this; exact this
  have HG := hid (nmB_good h1 h2 h3)
  clear h1 h2 h3
  go_enter Tryz.func68, Tryz.ntmps68
  go_wp2
  go_loopw [4] (fun _ wr => ∃ pos : Nat, wr.heap[w.heap.size]? = some (.stringIter s pos) ∧ Below w.heap.size w wr ∧ pos ≤ s.size ∧ Hid (∀ j, j < pos → ∀ (hj : j < s.data.toList.length), badB (s.data.toList[j]) = false)) (fun _ wr => s.size - wr.iterPos w.heap.size)
  case atStart => exact ⟨0, World.iter_heap w s 0, (Below.refl _ _).alloc (Nat.le_refl _) _, Nat.zero_le _, fun j hj => absurd hj (by omega)⟩
  case round =>
    obtain ⟨pos, hit, hbw, hps, HB⟩ := hrel
    have hpos0 := iterPos_of hit
    by_cases hp : pos < s.size
    · have hnx : ∀ ty, (Instr.next (.pointer (some ⟨w.heap.size, 0, none⟩)) true ty).run Tryz.prog wr = _ := fun ty => Lib.run_next_any_at wr w.heap.size s pos ty hit hp
      have hit2 := Lib.iterAt_heap wr w.heap.size s pos (pos + (Utf8.decode s pos).2) hit
      have hbw2 := Lib.below_iterAt hbw (k := w.heap.size) (Nat.le_refl _) s (pos + (Utf8.decode s pos).2)
      obtain ⟨W1, hW1⟩ : ∃ W1, W1 = wr.iterAt w.heap.size s (pos + (Utf8.decode s pos).2) := ⟨_, rfl⟩
      rw [← hW1] at hnx hit2 hbw2
      obtain ⟨n1, n2, n3, n4⟩ := next_bad s pos hp
      have N3 := hid n3
      have N4 := hid n4
      obtain ⟨D, hD⟩ : ∃ D, D = Utf8.decode s pos := ⟨_, rfl⟩
      rw [← hD] at hnx hit2 n1 n2 N3 N4
      clear hW1 hit hD n3 n4 hbw
      by_cases hb : D.1 = 47 ∨ D.1 = 0
      · have E := hid (nmB_bad (N3.out hb))
        rcases hb with hb | hb
        · rw [hb] at hnx
          clear N3 N4 HB HG
          go_wp2
          go_ret
          exact ⟨ret_int E.out.symm, hbw2⟩
        · rw [hb] at hnx
          clear N3 N4 HB HG
          go_wp2
          go_ret
          exact ⟨ret_int E.out.symm, hbw2⟩
      · have q1 : ((D.1 : Int) == 47) = false := beq_eq_false_iff_ne.2 (by omega)
        have q2 : ((D.1 : Int) == 0) = false := beq_eq_false_iff_ne.2 (by omega)
        have HB2 : Hid (∀ j, j < pos + D.2 → ∀ (hj : j < s.data.toList.length), badB (s.data.toList[j]) = false) := by
          intro j hj hl
          by_cases hjp : j < pos
          · exact HB.out j hjp hl
          · exact N4.out ⟨by omega, by omega⟩ j (by omega) hj hl
        clear N3 N4 HB HG hb
        go_wp2
        go_roundw
        case rel => exact ⟨pos + D.2, hit2, hbw2, n1, HB2⟩
        case measure => rw [iterPos_of hit2, hpos0]; omega
    · have hnx : ∀ ty, (Instr.next (.pointer (some ⟨w.heap.size, 0, none⟩)) true ty).run Tryz.prog wr = _ := fun ty => Lib.run_next_end_at wr w.heap.size s pos ty hit hp
      have E := hid (HG.out (fun j hj => HB.out j (by rw [len_list] at hj; omega) hj))
      clear HG HB
      by_cases h24 : 24 < s.size
      · go_wp2
        go_ret
        exact ⟨ret_int (by rw [E.out, if_pos h24]), hbw⟩
      · go_wp2
        go_ret
        exact ⟨ret_int (by rw [E.out, if_neg h24]), hbw⟩
theorem u8_ne {b c : UInt8} (h : b ≠ c) : ((b.toNat : Int) == (c.toNat : Int)) = false := by
  rw [beq_eq_false_iff_ne]
  intro e
  exact h (UInt8.toNat_inj.1 (by omega))
set_option maxRecDepth 100000 in
set_option maxHeartbeats 1000000 in
theorem rname_any (s : ByteArray) (w : World) (hs : s.size ≤ maxLen) : Calls Tryz.prog 26 #[.string s] w fun e w' => e = .returned (.int .i64 (nmB s)) ∧ w' = w := by
  unfold maxLen at hs
  by_cases h1 : s = ⟨#[]⟩
  · subst h1
    rw [nmB_empty]
    go_enter Tryz.func26, Tryz.ntmps26
    go_wp2
    go_ret
    exact ⟨rfl, rfl⟩
  by_cases h2 : s = ⟨#[46]⟩
  · subst h2
    rw [nmB_one]
    go_enter Tryz.func26, Tryz.ntmps26
    go_wp2
    go_ret
    exact ⟨rfl, rfl⟩
  by_cases h3 : s = ⟨#[46, 46]⟩
  · subst h3
    rw [nmB_two]
    go_enter Tryz.func26, Tryz.ntmps26
    go_wp2
    go_ret
    exact ⟨rfl, rfl⟩
  have k1 : s.toList.isEmpty = false := by
    rw [Lib.toList_data]
    cases hl : s.data.toList with
    | nil => exact absurd (ba_ext hl) h1
    | cons _ _ => rfl
  have k2 : (s.toList == [46]) = false := by have := str_ne h2; rw [Lib.toList_data ⟨#[46]⟩] at this; exact this
  have k3 : (s.toList == [46, 46]) = false := by have := str_ne h3; rw [Lib.toList_data ⟨#[46, 46]⟩] at this; exact this
  have HG := hid (nmB_good h1 h2 h3)
  clear h1 h2 h3
  go_enter Tryz.func26, Tryz.ntmps26
  go_wp2
  go_loop [3] (fun i => ∃ k : Nat, k ≤ s.size ∧ i = .int .i64 k ∧ Hid (∀ j, j < k → ∀ (hj : j < s.data.toList.length), badB (s.data.toList[j]) = false)) (fun i => s.size - (intOf i).toNat)
  case atStart => exact ⟨0, Nat.zero_le _, rfl, fun j hj => absurd hj (by omega)⟩
  case round =>
    obtain ⟨k, hk, rfl, HB⟩ := hrel
    by_cases hp : k < s.size
    · have e : s[k]'hp = s.data.toList[k]'(by rw [len_list]; exact hp) := by simp; rfl
      by_cases h47 : s[k]'hp = 47
      · have E := hid (nmB_bad (s := s) ⟨s[k]'hp, by rw [e]; exact List.getElem_mem _, by rw [h47]; rfl⟩)
        have q1 : (((s[k]'hp).toNat : Int) == 47) = true := by rw [h47]; rfl
        clear HB HG e h47
        go_wp2
        go_ret
        exact ⟨ret_int E.out.symm, rfl⟩
      by_cases h0 : s[k]'hp = 0
      · have E := hid (nmB_bad (s := s) ⟨s[k]'hp, by rw [e]; exact List.getElem_mem _, by rw [h0]; rfl⟩)
        have q1 : (((s[k]'hp).toNat : Int) == 47) = false := by rw [h0]; rfl
        have q2 : (((s[k]'hp).toNat : Int) == 0) = true := by rw [h0]; rfl
        clear HB HG e h47 h0
        go_wp2
        go_ret
        exact ⟨ret_int E.out.symm, rfl⟩
      · have q1 : (((s[k]'hp).toNat : Int) == 47) = false := u8_ne h47
        have q2 : (((s[k]'hp).toNat : Int) == 0) = false := u8_ne h0
        have HB2 : Hid (∀ j, j < k + 1 → ∀ (hj : j < s.data.toList.length), badB (s.data.toList[j]) = false) := by
          intro j hj hl
          by_cases hjp : j < k
          · exact HB.out j hjp hl
          · obtain rfl : j = k := by omega
            rw [← e]
            simp [badB, h47, h0]
        clear HB HG e h47 h0
        go_wp2
        go_round
        case rel => exact ⟨k + 1, by omega, by go_num, HB2⟩
        case measure => simp [intOf]; omega
    · have E := hid (HG.out (fun j hj => HB.out j (by rw [len_list] at hj; omega) hj))
      clear HG HB
      by_cases h24 : 24 < s.size
      · go_wp2
        go_ret
        exact ⟨ret_int (by rw [E.out, if_pos h24]), rfl⟩
      · go_wp2
        go_ret
        exact ⟨ret_int (by rw [E.out, if_neg h24]), rfl⟩
end Go.Proofs.YtokjlgebkihimaaGreat
