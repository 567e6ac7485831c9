import Derived.Test.YtjnhibpebikkmaaGreatVa
import Derived.Maps.AppendAt
import Derived.Deep.CutBlock
namespace Go.Proofs.YtjnhibpebikkmaaGreat
open Go.RowKit Go.Maps Go.Shelf

/-- bytes, with bytes 0 behind them up to a length -/
def padl (h : List UInt8) (n : Nat) : List UInt8 := h ++ List.replicate (n - h.length) 0
/-- bytes with others laid over them -/
def wrt (h : List UInt8) (x : Nat) (d : List UInt8) : List UInt8 := ovl (padl h (x + d.length)) x d
/-- bytes cut, or made longer, to a length -/
def cutl (h : List UInt8) (x : Nat) : List UInt8 := (padl h x).take x
theorem padl_len (h : List UInt8) (n : Nat) : (padl h n).length = max h.length n := by
  unfold padl; rw [List.length_append, List.length_replicate]; omega
theorem padl_get (h : List UInt8) (n a : Nat) : (padl h n).getD a 0 = h.getD a 0 := by
  unfold padl
  simp only [List.getD_eq_getElem?_getD]
  by_cases e : a < h.length
  · rw [List.getElem?_append_left e]
  · rw [List.getElem?_append_right (by omega), List.getElem?_replicate, List.getElem?_eq_none (by omega)]
    split <;> rfl
theorem wrt_len (h : List UInt8) (x : Nat) (d : List UInt8) : (wrt h x d).length = max h.length (x + d.length) := by
  unfold wrt; rw [ovl_sz, padl_len]
theorem wrt_get (h : List UInt8) (x : Nat) (d : List UInt8) (a : Nat) : (wrt h x d).getD a 0 = if x ≤ a ∧ a < x + d.length then d.getD (a - x) 0 else h.getD a 0 := by
  unfold wrt
  rw [ovl_get _ _ _ _ (by rw [padl_len]; omega), padl_get]
theorem cutl_len (h : List UInt8) (x : Nat) : (cutl h x).length = x := by
  unfold cutl; rw [List.length_take, padl_len]; omega
theorem cutl_get (h : List UInt8) (x a : Nat) : (cutl h x).getD a 0 = if x ≤ a then 0 else h.getD a 0 := by
  unfold cutl
  rw [← padl_get h x a]
  simp only [List.getD_eq_getElem?_getD]
  by_cases e : x ≤ a
  · rw [if_pos e, List.getElem?_eq_none (by rw [List.length_take]; omega)]; rfl
  · rw [if_neg e, List.getElem?_take_of_lt (by omega)]
/-- one file's bytes are these -/
structure FI (B : List ByteArray) (i : Nat) (h : List UInt8) : Prop where
  k : (nd sG B i).k = 1
  z : (nd sG B i).z = (h.length : Int)
  len : h.length ≤ 30000
  get : ∀ a, a < 533248 → fby sG B (nd sG B) i a = h.getD a 0
/-- two files' bytes are these, and there are no others -/
structure FR (B : List ByteArray) (h1 h2 : List UInt8) : Prop where
  ti : TI sG B
  one : FI B 1 h1
  two : FI B 2 h2
  no0 : ∀ q, okp q = true → vl (ab sG B (nd sG B)) 0 q = 0
  no3 : ∀ q, okp q = true → vl (ab sG B (nd sG B)) 3 q = 0
theorem FI.usd {B : List ByteArray} (H : TI sG B) {i : Nat} {h : List UInt8} (hi : i < 4) (f : FI B i h) : usdE sG B (i : Int) = 0 ∧ usdI sG B (i : Int) = nd sG B i := by
  have hn := H.ne i (show i < sG.z from hi)
  have hk : (nodeI sG B (i : Int)).k = 1 := f.k
  have hc : ¬ (nodeE sG B (i : Int) = 0 ∧ (nodeI sG B (i : Int)).k = 0) := by rintro ⟨_, h⟩; omega
  unfold usdE usdI
  rw [if_neg hc, if_neg hc]
  exact ⟨hn, rfl⟩
theorem fby_same {G : Geo} {B : List ByteArray} {N N' : Nat → Ino} (e : ab G B N = ab G B N') (j a : Nat) : fby G B N j a = fby G B N' j a := by
  unfold fby; rw [e]
theorem fby_put {G : Geo} (hG : G.Ok) {B : List ByteArray} (hl : B.length = G.n) {i : Nat} (hi : i < G.z) (n : Ino) (N : Nat → Ino) (j a : Nat) : fby G (putB G B i n) N j a = fby G B N j a := by
  unfold fby
  rw [put_ab hG hl hi]
  by_cases e : vl (ab G B N) j (pth (a / 128)) = 0
  · rw [if_pos e, if_pos e]
  · rw [if_neg e, if_neg e]
    have := inn_rng e
    obtain ⟨h1, _⟩ := tab_rng hG hi
    unfold putB
    rw [bk_set _ (by have := hG.dan; omega), if_neg (by omega)]
/-- what a write that goes well makes of a file's bytes -/
theorem FI.write {B : List ByteArray} (H : TI sG B) {i x : Nat} {d : ByteArray} (hi : i < 4) (hx : x + d.size ≤ 533248) (hu : usdE sG B (i : Int) = 0) (hL : (layR sG B (usdI sG B (i : Int)) x d).1 = 0) (hx2 : x ≤ 20000) (hd2 : d.size ≤ 1024)
    {B' : List ByteArray} (hB : B' = putB sG (layR sG B (usdI sG B (i : Int)) x d).2.1 i (layR sG B (usdI sG B (i : Int)) x d).2.2) {j : Nat} (hj : j < 4) {h : List UInt8} (f : FI B j h) : FI B' j (if j = i then wrt h x d.data.toList else h) := by
  have hG := H.si.ok
  obtain ⟨_, N, hN, e1, e2, e3, hl⟩ := write_ti H (show i < sG.z from hi) hx hu hL
  rw [← hB] at e2 e3
  have hsz : d.data.toList.length = d.size := len_list d
  have hfb : ∀ a, a < 533248 → fby sG B' (nd sG B') j a = if j = i ∧ x ≤ a ∧ a < x + d.size then d.data.toList.getD (a - x) 0 else h.getD a 0 := by
    intro a ha
    rw [e2, hB, fby_put hG hl.si.bl (show i < sG.z from hi), hl.fby j a (show j < sG.z from hj) ha, hsz, fby_same e1, f.get a ha]
  have hnd : nd sG B' j = if j = i then (layR sG B (usdI sG B (i : Int)) x d).2.2 else nd sG B j := by
    rw [e2]
    by_cases e : j = i
    · rw [if_pos e, e, upd_at]
    · rw [if_neg e, upd_ne _ _ e, hN, upd_ne _ _ e]
  by_cases e : j = i
  · subst e
    rw [if_pos rfl] at hnd ⊢
    have hd := hl.hd
    rw [upd_at, hN, upd_at] at hd
    refine ⟨?_, ?_, ?_, ?_⟩
    · rw [hnd, hd.1]; exact f.k
    · rw [hnd, hd.2.2]
      show max (nd sG B j).z ((x : Int) + d.size) = _
      rw [f.z, wrt_len, hsz]
      omega
    · rw [wrt_len, hsz]; have := f.len; omega
    · intro a ha
      rw [hfb a ha, wrt_get, hsz]
      by_cases c : x ≤ a ∧ a < x + d.size
      · rw [if_pos ⟨rfl, c⟩, if_pos c]
      · rw [if_neg (fun h => c h.2), if_neg c]
  · rw [if_neg e] at hnd ⊢
    refine ⟨by rw [hnd]; exact f.k, by rw [hnd]; exact f.z, f.len, ?_⟩
    intro a ha
    rw [hfb a ha, if_neg (fun h => e h.1)]
theorem FI.cut {B : List ByteArray} (H : TI sG B) {i x : Nat} (hi : i < 4) (hx : x ≤ 20000) (hu : usdE sG B (i : Int) = 0)
    {B' : List ByteArray} (hB : B' = cutB sG B i (usdI sG B (i : Int)) x) {j : Nat} (hj : j < 4) {h : List UInt8} (f : FI B j h) : FI B' j (if j = i then cutl h x else h) := by
  have hG := H.si.ok
  obtain ⟨_, B1, n1, hc, k1, _, e2, e3, e4⟩ := cut_ti H (show i < sG.z from hi) (show x ≤ 533248 by omega) hu
  rw [← hB] at e2 e3 e4
  have hfb : ∀ a, a < 533248 → fby sG B' (nd sG B') j a = if j = i ∧ x ≤ a then 0 else h.getD a 0 := by
    intro a ha
    rw [e2, e4, fby_put hG hc.si.bl (show i < sG.z from hi), fby_same (ab_z sG B1 (nd sG B) i n1 (x : Int)), hc.fby j a (show j < sG.z from hj) ha, f.get a ha]
  have hnd : nd sG B' j = if j = i then { n1 with z := (x : Int) } else nd sG B j := by
    rw [e2]
    by_cases e : j = i
    · rw [if_pos e, e, upd_at]
    · rw [if_neg e, upd_ne _ _ e]
  by_cases e : j = i
  · subst e
    rw [if_pos rfl] at hnd ⊢
    refine ⟨?_, ?_, ?_, ?_⟩
    · rw [hnd]
      show n1.k = 1
      rw [k1]; exact f.k
    · rw [hnd, cutl_len]
    · rw [cutl_len]; omega
    · intro a ha
      rw [hfb a ha, cutl_get]
      by_cases c : x ≤ a
      · rw [if_pos ⟨rfl, c⟩, if_pos c]
      · rw [if_neg (fun h => c h.2), if_neg c]
  · rw [if_neg e] at hnd ⊢
    refine ⟨by rw [hnd]; exact f.k, by rw [hnd]; exact f.z, f.len, ?_⟩
    intro a ha
    rw [hfb a ha, if_neg (fun h => e h.1)]
theorem write_other {B : List ByteArray} (H : TI sG B) {i x : Nat} {d : ByteArray} (hi : i < 4) (hx : x + d.size ≤ 533248) (hu : usdE sG B (i : Int) = 0) (hL : (layR sG B (usdI sG B (i : Int)) x d).1 = 0)
    {B' : List ByteArray} (hB : B' = putB sG (layR sG B (usdI sG B (i : Int)) x d).2.1 i (layR sG B (usdI sG B (i : Int)) x d).2.2) {j : Nat} (hj : j < 4) (hij : j ≠ i) (h : ∀ q, okp q = true → vl (ab sG B (nd sG B)) j q = 0) : ∀ q, okp q = true → vl (ab sG B' (nd sG B')) j q = 0 := by
  obtain ⟨_, N, _, e1, e2, e3, hl⟩ := write_ti H (show i < sG.z from hi) hx hu hL
  rw [← hB] at e2 e3
  intro q hq
  rw [e2, e3]
  by_cases c : vl (ab sG (layR sG B (usdI sG B (i : Int)) x d).2.1 (upd N i (layR sG B (usdI sG B (i : Int)) x d).2.2)) j q = 0
  · exact c
  · exact absurd (hl.new j q (show j < sG.z from hj) hq (by rw [e1]; exact h q hq) c).1 hij
theorem cut_other {B : List ByteArray} (H : TI sG B) {i x : Nat} (hi : i < 4) (hx : x ≤ 533248) (hu : usdE sG B (i : Int) = 0)
    {B' : List ByteArray} (hB : B' = cutB sG B i (usdI sG B (i : Int)) x) {j : Nat} (hj : j < 4) (h : ∀ q, okp q = true → vl (ab sG B (nd sG B)) j q = 0) : ∀ q, okp q = true → vl (ab sG B' (nd sG B')) j q = 0 := by
  obtain ⟨_, B1, n1, hc, _, _, e2, e3, _⟩ := cut_ti H (show i < sG.z from hi) hx hu
  rw [← hB] at e2 e3
  intro q hq
  rw [e3]
  rcases hc.vlq j q (show j < sG.z from hj) hq with e | e
  · rw [e, h q hq]
  · exact e.2
theorem cut_none {B : List ByteArray} (H : TI sG B) {i : Nat} (hi : i < 4) (hu : usdE sG B (i : Int) = 0)
    {B' : List ByteArray} (hB : B' = cutB sG B i (usdI sG B (i : Int)) 0) : ∀ q, okp q = true → vl (ab sG B' (nd sG B')) i q = 0 := by
  obtain ⟨_, B1, n1, hc, _, _, e2, e3, _⟩ := cut_ti H (show i < sG.z from hi) (show 0 ≤ 533248 by decide) hu
  rw [← hB] at e2 e3
  intro q hq
  rw [e3]
  by_cases c : vl (ab sG B1 (upd (nd sG B) i n1)) i q = 0
  · exact c
  · have hl : q.length ≤ 3 := by
      match q, hq with
      | [], _ => simp
      | [_], _ => simp
      | [_, _], _ => simp
      | [_, _, _], _ => simp
      | a :: b :: c :: d :: r, hq => simp [okp] at hq
    obtain ⟨x, x1, x2, _⟩ := to_leaf hc.bsy (4 - q.length) q (by omega) hq c
    exact absurd (hc.out x (by omega) x1) x2
theorem FR.write1 {B B' : List ByteArray} {h1 h2 : List UInt8} {x : Int} {d : ByteArray} {r : Int} (H : FR B h1 h2) (h : WrR sG B ((1 : Nat) : Int) x d r B') (hx : x ≤ 20000) (hd : d.size ≤ 1024) : (B' = B ∧ (r ≠ 0 ∨ d.size = 0)) ∨ (r = 0 ∧ d.size ≠ 0 ∧ ∃ y : Nat, x = (y : Int) ∧ FR B' (wrt h1 y d.data.toList) h2) := by
  rcases h with h | ⟨hr, j, y, ej, rfl, hj, hy, hd0, hu, hL, hB⟩
  · exact .inl h
  · have e : j = 1 := by omega
    subst e
    have ht : TI sG B' := by rw [hB]; exact (write_ti H.ti hj hy hu hL).1
    exact .inr ⟨hr, hd0, y, rfl, ht, FI.write H.ti hj hy hu hL (by omega) hd hB (j := 1) (by decide) H.one, FI.write H.ti hj hy hu hL (by omega) hd hB (j := 2) (by decide) H.two, write_other H.ti hj hy hu hL hB (j := 0) (by decide) (by decide) H.no0, write_other H.ti hj hy hu hL hB (j := 3) (by decide) (by decide) H.no3⟩
theorem FR.write2 {B B' : List ByteArray} {h1 h2 : List UInt8} {x : Int} {d : ByteArray} {r : Int} (H : FR B h1 h2) (h : WrR sG B ((2 : Nat) : Int) x d r B') (hx : x ≤ 20000) (hd : d.size ≤ 1024) : (B' = B ∧ (r ≠ 0 ∨ d.size = 0)) ∨ (r = 0 ∧ d.size ≠ 0 ∧ ∃ y : Nat, x = (y : Int) ∧ FR B' h1 (wrt h2 y d.data.toList)) := by
  rcases h with h | ⟨hr, j, y, ej, rfl, hj, hy, hd0, hu, hL, hB⟩
  · exact .inl h
  · have e : j = 2 := by omega
    subst e
    have ht : TI sG B' := by rw [hB]; exact (write_ti H.ti hj hy hu hL).1
    exact .inr ⟨hr, hd0, y, rfl, ht, FI.write H.ti hj hy hu hL (by omega) hd hB (j := 1) (by decide) H.one, FI.write H.ti hj hy hu hL (by omega) hd hB (j := 2) (by decide) H.two, write_other H.ti hj hy hu hL hB (j := 0) (by decide) (by decide) H.no0, write_other H.ti hj hy hu hL hB (j := 3) (by decide) (by decide) H.no3⟩
theorem FR.cut1 {B : List ByteArray} {h1 h2 : List UInt8} (H : FR B h1 h2) {x : Nat} (hx : x ≤ 20000) : FR (cutB sG B 1 (usdI sG B ((1 : Nat) : Int)) x) (cutl h1 x) h2 := by
  have hu := (FI.usd H.ti (by decide) H.one).1
  exact ⟨(cut_ti H.ti (show 1 < sG.z by decide) (show x ≤ 533248 by omega) hu).1, FI.cut H.ti (by decide) hx hu rfl (j := 1) (by decide) H.one, FI.cut H.ti (by decide) hx hu rfl (j := 2) (by decide) H.two, cut_other H.ti (by decide) (by omega) hu rfl (j := 0) (by decide) H.no0, cut_other H.ti (by decide) (by omega) hu rfl (j := 3) (by decide) H.no3⟩
theorem FR.cut2 {B : List ByteArray} {h1 h2 : List UInt8} (H : FR B h1 h2) {x : Nat} (hx : x ≤ 20000) : FR (cutB sG B 2 (usdI sG B ((2 : Nat) : Int)) x) h1 (cutl h2 x) := by
  have hu := (FI.usd H.ti (by decide) H.two).1
  exact ⟨(cut_ti H.ti (show 2 < sG.z by decide) (show x ≤ 533248 by omega) hu).1, FI.cut H.ti (by decide) hx hu rfl (j := 1) (by decide) H.one, FI.cut H.ti (by decide) hx hu rfl (j := 2) (by decide) H.two, cut_other H.ti (by decide) (by omega) hu rfl (j := 0) (by decide) H.no0, cut_other H.ti (by decide) (by omega) hu rfl (j := 3) (by decide) H.no3⟩
/-- cut to nothing, both: all blocks are free -/
theorem FR.free {B B1 B2 : List ByteArray} {h1 h2 : List UInt8} (H : FR B h1 h2) (e1 : B1 = cutB sG B 1 (usdI sG B ((1 : Nat) : Int)) 0) (e2 : B2 = cutB sG B1 2 (usdI sG B1 ((2 : Nat) : Int)) 0) : usdE sG B1 ((2 : Nat) : Int) = 0 ∧ freN sG B2 = 17 := by
  have hu1 := (FI.usd H.ti (by decide) H.one).1
  have H1 : FR B1 (cutl h1 0) h2 := by rw [e1]; exact H.cut1 (by decide)
  have hu2 := (FI.usd H1.ti (by decide) H1.two).1
  have H2 : FR B2 (cutl h1 0) (cutl h2 0) := by rw [e2]; exact H1.cut2 (by decide)
  refine ⟨hu2, ?_⟩
  have n1 := cut_none H.ti (by decide) hu1 e1
  have n1' := cut_other H1.ti (by decide) (by decide) hu2 e2 (j := 1) (by decide) n1
  have n2 := cut_none H1.ti (by decide) hu2 e2
  have hc : cnt (bk B2 sG.bm).data.toList 23 17 = 0 := by
    rw [cnt_zero]
    intro b hb1 hb2
    cases ht : tk (bk B2 sG.bm).data.toList b with
    | false => rfl
    | true =>
      obtain ⟨j, q, hj, hq, e⟩ := H2.ti.si.inv.all b hb1 hb2 ht
      have hj4 : j < 4 := hj
      have : vl (ab sG B2 (nd sG B2)) j q = 0 := by
        have hc : j = 0 ∨ j = 1 ∨ j = 2 ∨ j = 3 := by omega
        rcases hc with rfl | rfl | rfl | rfl
        · exact H2.no0 q hq
        · exact n1' q hq
        · exact n2 q hq
        · exact H2.no3 q hq
      omega
  rw [s_fr, hc]
  rfl
end Go.Proofs.YtjnhibpebikkmaaGreat
namespace Go.Proofs.YtjnhibpebikkmaaGreat
open Go.RowKit Go.Maps Go.Shelf

theorem wr_vi {G : Geo} {p q cap m : Nat} {w : World} {F B : List ByteArray} (i x : Int) (d : ByteArray) (hv : VI G p q cap m w F B) : Calls Tryz.prog 11 #[.pointer (some ⟨p, 0, none⟩), .int .i64 i, .int .i64 x, .string d] w fun e w' => ∃ r B' m', e = .returned (.int .i64 r) ∧ WrR G B i x d r B' ∧ VI G p q cap m' w' F B' ∧ Only [p, m] w w' ∧ (m' = m ∨ w.heap.size ≤ m') := by
  have nop : ∀ r, (r ≠ 0 ∨ d.size = 0) → (Calls Tryz.prog 11 #[.pointer (some ⟨p, 0, none⟩), .int .i64 i, .int .i64 x, .string d] w fun e w' => e = .returned (.int .i64 r) ∧ Below w.heap.size w w') → Calls Tryz.prog 11 #[.pointer (some ⟨p, 0, none⟩), .int .i64 i, .int .i64 x, .string d] w fun e w' => ∃ r B' m', e = .returned (.int .i64 r) ∧ WrR G B i x d r B' ∧ VI G p q cap m' w' F B' ∧ Only [p, m] w w' ∧ (m' = m ∨ w.heap.size ≤ m') :=
    fun r hr k => k.mono fun e w' ⟨he, hb⟩ => ⟨r, B, m, he, .inl ⟨rfl, hr⟩, hv.below hb, Only.of_below hb, .inl rfl⟩
  by_cases hx : x < 0
  · exact nop _ (.inl (by decide)) (write_neg i x d hx hv)
  · by_cases hd : 1024 < d.size
    · exact nop _ (.inl (by decide)) (write_long i x d hx hd hv)
    · by_cases hu : usdE G B i = 0
      · by_cases hd0 : d.size = 0
        · exact nop _ (.inr hd0) (write_empty i x d hx hd0 hu hv)
        · by_cases hb : 533248 - (d.size : Int) < x
          · exact nop _ (.inl (by decide)) (write_big i x d hx (by omega) hd0 hu hb hv)
          · obtain ⟨⟨hi0, hi1⟩, _⟩ := usd_ok hu
            obtain ⟨j, rfl⟩ : ∃ j : Nat, i = j := ⟨i.toNat, by omega⟩
            obtain ⟨y, rfl⟩ : ∃ y : Nat, x = y := ⟨x.toNat, by omega⟩
            rcases layS_01 G d.size B { usdI G B (j : Int) with z := max (usdI G B (j : Int)).z ((y : Int) + d.size) } y d.data.toList with h0 | h1
            · exact (write_ok j y d (by omega) hd0 (by omega) hu h0 hv).mono fun e w' ⟨he, hv', ho⟩ => ⟨0, _, m, he, .inr ⟨rfl, j, y, rfl, rfl, by omega, by omega, hd0, hu, h0, rfl⟩, hv', ho.wide (by simp), .inl rfl⟩
            · exact (write_fail j y d (by omega) hd0 (by omega) hu h1 hv).mono fun e w' ⟨he, m', hv', ho, hm'⟩ => ⟨306, B, m', he, .inl ⟨rfl, .inl (by decide)⟩, hv', ho, hm'⟩
      · exact nop _ (.inl hu) (write_used i x d hx (by omega) hu hv)
/-- what is read of bytes: from a place on, at most so many -/
def wnt (h : List UInt8) (x : Nat) : List UInt8 := (h.drop x).take 700
theorem rd_wnt {B : List ByteArray} {i : Nat} {h : List UInt8} (f : FI B i h) (x : Nat) : bys sG B (nd sG B i) (min x h.length) (min (min x h.length + 700) h.length - min x h.length) = wnt h x := by
  have hl := f.len
  have key : ∀ a, a < 30000 → byt sG B (nd sG B i) a = h.getD a 0 := by
    intro a ha
    rw [← f.get a (by omega)]
    unfold byt fby
    rw [blk_vl s_ok (by omega)]
  unfold bys wnt
  apply List.ext_getElem
  · rw [List.length_map, List.length_range, List.length_take, List.length_drop]; omega
  · intro j h1 h2
    rw [List.length_map, List.length_range] at h1
    rw [List.getElem_map, List.getElem_range, List.getElem_take, List.getElem_drop, key _ (by omega)]
    have e : min x h.length = x := by omega
    simp only [e]
    rw [List.getD_eq_getElem?_getD, List.getElem?_eq_getElem (by omega)]
    rfl
/-- the view, in a world above W; its own block and its first blocks lie below g0 -/
structure RV (W : World) (p q cap g0 : Nat) (B : List ByteArray) (wr : World) : Prop where
  vi : ∃ m, VI sG p q cap m wr sF B ∧ W.heap.size ≤ m
  pq : p < g0 ∧ q < g0 ∧ W.heap.size ≤ p
  bel : Below W.heap.size W wr
  gW : W.heap.size ≤ g0
  gl : g0 ≤ wr.heap.size
theorem RV.next {W : World} {p q cap g0 : Nat} {B : List ByteArray} {wr w' : World} (h : RV W p q cap g0 B wr) (k : Below wr.heap.size wr w') : RV W p q cap g0 B w' := by
  obtain ⟨m, hv, hm⟩ := h.vi
  exact ⟨⟨m, hv.below k, hm⟩, h.pq, h.bel.next k, h.gW, Nat.le_trans h.gl k.size⟩
theorem RV.over {W : World} {p q cap g0 x : Nat} {B : List ByteArray} {wr w' : World} (h : RV W p q cap g0 B wr) (k : Only [x] wr w') (hx : g0 ≤ x) (hc : ∀ es c, wr.heap[x]? ≠ some (.map es c)) : RV W p q cap g0 B w' := by
  obtain ⟨m, hv, hm⟩ := h.vi
  obtain ⟨h1, h2, h3⟩ := h.pq
  have hmx : m ≠ x := by
    rintro rfl
    obtain ⟨M, hM, _⟩ := hv.map
    obtain ⟨es, c, e⟩ := hM.isMap
    exact hc es c e
  have hgW := h.gW
  have hs := h.bel.size
  exact ⟨⟨m, hv.only k (by simp; omega) (by simp; omega) (by simpa using hmx), hm⟩, h.pq, h.bel.trans (k.below hs (fun y hy => by rw [List.mem_singleton] at hy; omega)), hgW, Nat.le_trans h.gl k.size⟩
theorem RV.view {W : World} {p q cap g0 m m' : Nat} {B B' : List ByteArray} {wr w' : World} (h : RV W p q cap g0 B wr) (hm : W.heap.size ≤ m) (hv' : VI sG p q cap m' w' sF B') (ho : Only [p, m] wr w') (hm' : m' = m ∨ wr.heap.size ≤ m') : RV W p q cap g0 B' w' := by
  have hs := h.bel.size
  obtain ⟨h1, h2, h3⟩ := h.pq
  refine ⟨⟨m', hv', by omega⟩, h.pq, h.bel.trans (ho.below hs ?_), h.gW, Nat.le_trans h.gl ho.size⟩
  intro x hx
  simp at hx
  rcases hx with rfl | rfl
  · exact h3
  · exact hm
/-- the array of two files' bytes: its block g, the slices V, the bytes L -/
structure HM (g0 g : Nat) (V : Nat → Value) (L : Nat → List UInt8) (wr : World) : Prop where
  gg : g0 ≤ g
  blk : wr.heap[g]? = some (.cells #[V 0, V 1, V 2] 46 (0, 0))
  row : ∀ i, i < 3 → wr.ownsRow g0 5 1 (V i) (L i).length (bc (L i))
  apt : ∀ i j x, i < 3 → j < 3 → i ≠ j → (V i).ownBlock = some x → (V j).ownBlock ≠ some x
theorem own_same {base n : Nat} {v : Value} {xs : List Value} {w w' : World} (h : w.ownsRow base 5 1 v n xs) (k : ∀ x, v.ownBlock = some x → w'.heap[x]? = w.heap[x]?) : w'.ownsRow base 5 1 v n xs := by
  obtain ⟨e1, e2 | ⟨x, cap, cur, e3, e4, e5, e6⟩⟩ := h
  · exact ⟨e1, .inl e2⟩
  · exact ⟨e1, .inr ⟨x, cap, cur, e3, e4, (k x (by rw [e3]; rfl)).trans e5, e6⟩⟩
theorem own_blk {base n : Nat} {v : Value} {xs : List Value} {w : World} (h : w.ownsRow base 5 1 v n xs) {x : Nat} (hx : v.ownBlock = some x) : base ≤ x ∧ ∃ cur, w.heap[x]? = some (.cells cur 5 (0, 0)) := by
  obtain ⟨e1, ⟨rfl, _⟩ | ⟨y, cap, cur, rfl, e4, e5, e6⟩⟩ := h
  · cases hx
  · cases hx; exact ⟨e4, cur, e5⟩
theorem HM.same {g0 g : Nat} {V : Nat → Value} {L : Nat → List UInt8} {wr w' : World} (h : HM g0 g V L wr) (k : ∀ x, g0 ≤ x → x < wr.heap.size → (∃ cs T fz, wr.heap[x]? = some (.cells cs T fz)) → w'.heap[x]? = wr.heap[x]?) : HM g0 g V L w' := by
  refine ⟨h.gg, (k g h.gg (lt_of_block h.blk) ⟨_, _, _, h.blk⟩).trans h.blk, fun i hi => own_same (h.row i hi) ?_, h.apt⟩
  intro x hx
  obtain ⟨h1, cur, h2⟩ := own_blk (h.row i hi) hx
  exact k x h1 (lt_of_block h2) ⟨_, _, _, h2⟩
theorem HM.next {g0 g : Nat} {V : Nat → Value} {L : Nat → List UInt8} {wr w' : World} (h : HM g0 g V L wr) (k : Below wr.heap.size wr w') : HM g0 g V L w' := h.same fun x _ hx _ => k.block x hx
theorem HM.view {W : World} {p q cap g0 g m : Nat} {B : List ByteArray} {V : Nat → Value} {L : Nat → List UInt8} {wr w' : World} (h : HM g0 g V L wr) (hr : RV W p q cap g0 B wr) (hv : VI sG p q cap m wr sF B) (ho : Only [p, m] wr w') : HM g0 g V L w' := by
  refine h.same fun x h1 h2 ⟨cs, T, fz, h3⟩ => ho.block x h2 ?_
  have hp := hr.pq.1
  intro hx
  simp at hx
  rcases hx with rfl | rfl
  · omega
  · obtain ⟨M, hM, _⟩ := hv.map
    obtain ⟨es, c, e⟩ := hM.isMap
    rw [e] at h3
    cases h3
theorem HM.val {g0 g : Nat} {V : Nat → Value} {L : Nat → List UInt8} {wr : World} (h : HM g0 g V L wr) {i : Nat} (hi : i < 3) : wr.cell? ⟨g, i, none⟩ = some (V i) ∧ wr.frozen? ⟨g, i, none⟩ = false := by
  have hc : i = 0 ∨ i = 1 ∨ i = 2 := by omega
  rcases hc with rfl | rfl | rfl <;> simp [World.cell?, World.frozen?, h.blk]
theorem HM.sl {g0 g : Nat} {V : Nat → Value} {L : Nat → List UInt8} {wr : World} (h : HM g0 g V L wr) {i : Nat} (hi : i < 3) : ∃ ao cap, V i = .slice ao (L i).length cap ∧ (L i).length ≤ cap := by
  obtain ⟨e1, ⟨e2, e3⟩ | ⟨x, cap, cur, e3, e4, e5, e6, _⟩⟩ := h.row i hi
  · exact ⟨none, 0, by rw [e2, e3], by omega⟩
  · exact ⟨_, cap, e3, e6⟩
/-- functions with another value at a place -/
def upv {α : Type} (f : Nat → α) (i : Nat) (v : α) : Nat → α := fun j => if j = i then v else f j
theorem upv_at {α : Type} (f : Nat → α) (i : Nat) (v : α) : upv f i v i = v := by simp [upv]
theorem upv_ne {α : Type} (f : Nat → α) {i j : Nat} (v : α) (h : j ≠ i) : upv f i v j = f j := by simp [upv, h]
/-- row i has become another one, which the array does not name yet -/
structure HP (g0 g i : Nat) (V : Nat → Value) (L : Nat → List UInt8) (v : Value) (l : List UInt8) (wr : World) : Prop where
  gg : g0 ≤ g
  blk : wr.heap[g]? = some (.cells #[V 0, V 1, V 2] 46 (0, 0))
  row : ∀ j, j < 3 → j ≠ i → wr.ownsRow g0 5 1 (V j) (L j).length (bc (L j))
  new : wr.ownsRow g0 5 1 v l.length (bc l)
  apt : ∀ a b x, a < 3 → b < 3 → a ≠ b → (upv V i v a).ownBlock = some x → (upv V i v b).ownBlock ≠ some x
theorem HP.store {g0 g i : Nat} {V : Nat → Value} {L : Nat → List UInt8} {v : Value} {l : List UInt8} {wr : World} (h : HP g0 g i V L v l wr) (hi : i < 3) : HM g0 g (upv V i v) (upv L i l) (wr.setCell ⟨g, i, none⟩ v) ∧ Only [g] wr (wr.setCell ⟨g, i, none⟩ v) := by
  have hlt := lt_of_block h.blk
  have h' : wr.heap[g] = .cells #[V 0, V 1, V 2] 46 (0, 0) := by simpa [Array.getElem?_eq_getElem hlt] using h.blk
  have hO : Only [g] wr (wr.setCell ⟨g, i, none⟩ v) := by
    refine ⟨rfl, rfl, rfl, by simp [World.setCell], fun k hk hn => ?_⟩
    have : k ≠ g := by simpa using hn
    show (wr.heap.modify g _)[k]? = _
    rw [Array.getElem?_modify, if_neg (fun e => this e.symm)]
  refine ⟨⟨h.gg, ?_, ?_, h.apt⟩, hO⟩
  · show (wr.heap.modify g _)[g]? = _
    rw [Array.getElem?_eq_getElem (by simpa using hlt), Array.getElem_modify_self, h']
    have hc : i = 0 ∨ i = 1 ∨ i = 2 := by omega
    rcases hc with rfl | rfl | rfl <;> rfl
  · intro j hj
    have hap : ∀ x, (upv V i v j).ownBlock = some x → (wr.setCell ⟨g, i, none⟩ v).heap[x]? = wr.heap[x]? := by
      intro x hx
      by_cases e : j = i
      · rw [e, upv_at] at hx
        obtain ⟨_, cur, h2⟩ := own_blk h.new hx
        refine hO.block x (lt_of_block h2) ?_
        intro hm
        rw [List.mem_singleton] at hm
        rw [hm, h.blk] at h2
        simp at h2
      · rw [upv_ne _ _ e] at hx
        obtain ⟨_, cur, h2⟩ := own_blk (h.row j hj e) hx
        refine hO.block x (lt_of_block h2) ?_
        intro hm
        rw [List.mem_singleton] at hm
        rw [hm, h.blk] at h2
        simp at h2
    by_cases e : j = i
    · subst e
      rw [upv_at] at hap ⊢
      rw [upv_at]
      exact own_same h.new hap
    · rw [upv_ne _ _ e] at hap ⊢
      rw [upv_ne _ _ e]
      exact own_same (h.row j hj e) hap
theorem infoB5 : (Tryz.prog.info? 5).map (fun i => (i.zero, i.size, i.bytes)) = some (some (.int .u8 0), 1, 1) := by kernel_rfl
theorem bc_app (l : List UInt8) (b : UInt8) : bc (l ++ [b]) = bc l ++ [.int .u8 (b.toNat : Int)] := by simp [bc]
theorem pushB {ops : Array Oper} {rest : List Oper} {o : Oper} {a : Act} {Q : Exit → Act → World → Prop} {w0 : World} (hgd : o.guard = none) (s x : Operand)
    (ho : o.op = .call { callee := .builtin .append, args := #[s, x], argTypes := #[45, 45] }) (g0 g i bb : Nat) (V : Nat → Value) (L : Nat → List UInt8)
    (hs : a.eval s = V i) (hx : a.eval x = .slice (some ⟨bb, 0, none⟩) 1 1) (hbb : bb = w0.heap.size) (hA : HM g0 g V L w0) (hi : i < 3) (hn : (L i).length ≤ 40000) (hbase : g0 ≤ w0.heap.size)
    (h : ∀ v' w', HP g0 g i V L v' (L i ++ [0]) w' → (∀ W p q cap B, RV W p q cap g0 B w0 → RV W p q cap g0 B w') → w0.heap.size ≤ w'.heap.size → wpList Tryz.prog ops Q rest (a.put o.dst v') w') :
    wpList Tryz.prog ops Q (o :: rest) a (w0.alloc (.cells #[.int .u8 0] 5)) := by
  subst hbb
  obtain ⟨i0, hi0, hz0, hz1, hz2⟩ := info_parts infoB5
  have hk := below_alloc w0 (.cells #[.int .u8 0] 5)
  have hA1 := hA.next hk
  refine wpList_append_own_at _ hgd s x 45 ho g0 5 i0 (.int .u8 0) 1 1 Tryz.underlying45 hi0 hz0 hz1 hz2 rfl (by decide) (V i) (L i).length (bc (L i)) hs (hA1.row i hi) ⟨w0.heap.size, 0, none⟩ 1 1 [.int .u8 0] hx rfl (by
      intro j u hu
      match j, hu with
      | 0, hu => simp at hu; subst hu; simp [Addr.add]
      | j + 1, hu => simp at hu) (by intro u hu; simp at hu; subst hu; rfl) (by unfold maxLen; omega) (by omega) (by simp; omega) ?_
  intro v' w' hown hg _ hb5
  have hns : ∀ j y, j < 3 → j ≠ i → (V j).ownBlock = some y → w'.heap[y]? = (w0.alloc (.cells #[.int .u8 0] 5)).heap[y]? := by
    intro j y hj hne hy
    obtain ⟨_, cur, h2⟩ := own_blk (hA1.row j hj) hy
    refine hg.block y (lt_of_block h2) ?_
    intro e
    exact hA1.apt j i y hj hi hne hy e.symm
  have hlt1 : ∀ j y, j < 3 → (V j).ownBlock = some y → y < w0.heap.size := by
    intro j y hj hy
    obtain ⟨_, cur, h2⟩ := own_blk (hA.row j hj) hy
    exact lt_of_block h2
  refine h v' w' ⟨hA.gg, ?_, ?_, ?_, ?_⟩ ?_ ?_
  · refine (hg.block g (lt_of_block hA1.blk) ?_).trans hA1.blk
    intro e
    obtain ⟨_, cur, h2⟩ := own_blk (hA1.row i hi) e.symm
    have h3 := hA1.blk
    rw [h2] at h3
    simp at h3
  · intro j hj hne
    exact own_same (hA1.row j hj) (fun y hy => hns j y hj hne hy)
  · rw [bc_app, List.length_append]
    exact hown
  · intro c d y hc hd hcd hy
    have hsz : (w0.alloc (.cells #[.int .u8 0] 5)).heap.size = w0.heap.size + 1 := by simp
    have hnew : ∀ y, v'.ownBlock = some y → (V i).ownBlock = some y ∨ y = w0.heap.size + 1 := by
      intro y hy
      rcases hb5 with e | e
      · left; rw [← e]; exact hy
      · right; rw [e, hsz] at hy; cases hy; rfl
    by_cases e1 : c = i
    · rw [e1, upv_at] at hy
      have e2 : d ≠ i := fun e => hcd (e1.trans e.symm)
      rw [upv_ne _ _ e2]
      intro h4
      rcases hnew y hy with h5 | h5
      · exact hA.apt i d y hi hd (fun e => e2 e.symm) h5 h4
      · have := hlt1 d y hd h4
        omega
    · rw [upv_ne _ _ e1] at hy
      by_cases e2 : d = i
      · rw [e2, upv_at]
        intro h4
        rcases hnew y h4 with h5 | h5
        · exact hA.apt i c y hi hc (fun e => e1 e.symm) h5 hy
        · have := hlt1 c y hc hy
          omega
      · rw [upv_ne _ _ e2]
        exact hA.apt c d y hc hd hcd hy
  · intro W p q cap B hR
    have hR1 := hR.next hk
    cases ho2 : (V i).ownBlock with
    | none =>
      refine hR1.next ⟨hg.os, hg.tape, hg.output, hg.size, fun k hk => hg.block k hk ?_⟩
      rw [ho2]; simp
    | some y =>
      obtain ⟨h1, cur, h2⟩ := own_blk (hA1.row i hi) ho2
      refine hR1.over (x := y) ⟨hg.os, hg.tape, hg.output, hg.size, fun k hk hn => hg.block k hk ?_⟩ h1 (fun es c e => by rw [h2] at e; cases e)
      rw [ho2]
      intro e
      cases e
      simp at hn
  · exact Nat.le_trans hk.size hg.size
/-- a byte put into a row that the array names -/
theorem HM.put {g0 g i x : Nat} {V : Nat → Value} {L : Nat → List UInt8} {wr : World} (h : HM g0 g V L wr) (hi : i < 3) {n cap : Nat} (hv : V i = .slice (some ⟨x, 0, none⟩) n cap) {a : Nat} (ha : a < (L i).length) (b : UInt8) :
    HM g0 g V (upv L i ((L i).set a b)) (wr.setCell ⟨x, a, none⟩ (.int .u8 (b.toNat : Int))) ∧ Only [x] wr (wr.setCell ⟨x, a, none⟩ (.int .u8 (b.toNat : Int))) ∧ g0 ≤ x ∧ wr.frozen? ⟨x, a, none⟩ = false ∧ (∃ y, wr.cell? ⟨x, a, none⟩ = some (.int .u8 y)) ∧ (∀ es c, wr.heap[x]? ≠ some (.map es c)) := by
  obtain ⟨e1, ⟨e2, _⟩ | ⟨y, cap', cur, e3, e4, e5, e6, e7, e8, e9⟩⟩ := h.row i hi
  · rw [hv] at e2; cases e2
  · rw [hv] at e3
    cases e3
    rw [Nat.mul_one] at e8 e9
    have hlt := lt_of_block e5
    have h' : wr.heap[x] = .cells cur 5 (0, 0) := by simpa [Array.getElem?_eq_getElem hlt] using e5
    have hO : Only [x] wr (wr.setCell ⟨x, a, none⟩ (.int .u8 (b.toNat : Int))) := by
      refine ⟨rfl, rfl, rfl, by simp [World.setCell], fun k hk hn => ?_⟩
      have : k ≠ x := by simpa using hn
      show (wr.heap.modify x _)[k]? = _
      rw [Array.getElem?_modify, if_neg (fun e => this e.symm)]
    have hX : (wr.setCell ⟨x, a, none⟩ (.int .u8 (b.toNat : Int))).heap[x]? = some (.cells (cur.setIfInBounds a (.int .u8 (b.toNat : Int))) 5 (0, 0)) := by
      show (wr.heap.modify x _)[x]? = _
      rw [Array.getElem?_eq_getElem (by simpa using hlt), Array.getElem_modify_self, h']
      rfl
    have hgx : g ≠ x := by
      rintro rfl
      rw [h.blk] at e5
      simp at e5
    refine ⟨⟨h.gg, (hO.block g (lt_of_block h.blk) (by simpa using hgx)).trans h.blk, ?_, h.apt⟩, hO, e4, ?_, ?_, fun es c e => by rw [e5] at e; cases e⟩
    · intro j hj
      by_cases e : j = i
      · subst e
        rw [upv_at, List.length_set]
        refine ⟨by simp [bc], .inr ⟨x, cap, _, hv, e4, hX, e6, e7, by simpa using e8, ?_⟩⟩
        rw [Nat.mul_one, Array.toList_setIfInBounds, List.take_set, e9]
        simp [bc, List.map_set]
      · rw [upv_ne _ _ e]
        refine own_same (h.row j hj) (fun y hy => ?_)
        obtain ⟨_, cur', h2⟩ := own_blk (h.row j hj) hy
        refine hO.block y (lt_of_block h2) ?_
        intro hm
        rw [List.mem_singleton] at hm
        subst hm
        exact h.apt j i y hj hi e hy (by rw [hv]; rfl)
    · simp [World.frozen?, e5]
    · have hl : (bc (L i))[a]? = some (.int .u8 (((L i)[a]).toNat : Int)) := by simp [bc, ha]
      rw [← e9, List.getElem?_take_of_lt (by omega), Array.getElem?_toList] at hl
      exact ⟨_, by simp only [World.cell?, e5]; exact hl⟩
/-- a row cut: the array is to name its first bytes alone -/
theorem HM.cut {g0 g i n : Nat} {V : Nat → Value} {L : Nat → List UInt8} {wr : World} (h : HM g0 g V L wr) (hi : i < 3) {ao : Option Addr} {m cap : Nat} (hv : V i = .slice ao m cap) (hn : n ≤ (L i).length) : HP g0 g i V L (.slice ao n cap) ((L i).take n) wr := by
  obtain ⟨e1, ⟨e2, e3⟩ | ⟨y, cap', cur, e3, e4, e5, e6, e7, e8, e9⟩⟩ := h.row i hi
  · rw [hv] at e2
    cases e2
    have hn0 : n = 0 := by omega
    subst hn0
    refine ⟨h.gg, h.blk, fun j hj _ => h.row j hj, ⟨by simp [bc], .inl ⟨rfl, by simp⟩⟩, ?_⟩
    intro c d y hc hd hcd hy
    by_cases e1 : c = i
    · rw [e1, upv_at] at hy; cases hy
    · rw [upv_ne _ _ e1] at hy
      by_cases e2 : d = i
      · rw [e2, upv_at]; intro h4; cases h4
      · rw [upv_ne _ _ e2]; exact h.apt c d y hc hd hcd hy
  · rw [hv] at e3
    cases e3
    rw [Nat.mul_one] at e8 e9
    have hl : ((L i).take n).length = n := by rw [List.length_take]; omega
    refine ⟨h.gg, h.blk, fun j hj _ => h.row j hj, ⟨by simp [bc], .inr ⟨y, cap, cur, by rw [hl], e4, e5, by rw [hl]; omega, e7, by rw [Nat.mul_one]; exact e8, ?_⟩⟩, ?_⟩
    · rw [hl, Nat.mul_one]
      have e : cur.toList.take n = (cur.toList.take (L i).length).take n := by rw [List.take_take, Nat.min_eq_left hn]
      rw [e, e9]
      simp [bc, List.map_take]
    · have hob : (V i).ownBlock = some y := by rw [hv]; rfl
      intro c d z hc hd hcd hz
      by_cases e1 : c = i
      · rw [e1, upv_at] at hz
        cases hz
        have e2 : d ≠ i := fun e => hcd (e1.trans e.symm)
        rw [upv_ne _ _ e2]
        exact h.apt i d y hi hd (fun e => e2 e.symm) hob
      · rw [upv_ne _ _ e1] at hz
        by_cases e2 : d = i
        · rw [e2, upv_at]
          intro h4
          cases h4
          exact h.apt i c y hi hc (fun e => e1 e.symm) hob hz
        · rw [upv_ne _ _ e2]
          exact h.apt c d z hc hd hcd hz
set_option maxRecDepth 100000 in
theorem HM.one {g0 g i x p : Nat} {V : Nat → Value} {L : Nat → List UInt8} {wr : World} (h : HM g0 g V L wr) (hi : i < 3) {n cap c : Nat} (hv : V i = .slice (some ⟨x, 0, none⟩) n cap) (hp : p < (L i).length) : (convert 45 9 (.slice (some ⟨x, p, none⟩) 1 c)).run Tryz.prog wr = .ok (.string (st [(L i)[p]])) wr := by
  obtain ⟨e1, ⟨e2, _⟩ | ⟨y, cap', cur, e3, e4, e5, e6, e7, e8, e9⟩⟩ := h.row i hi
  · rw [hv] at e2; cases e2
  · rw [hv] at e3
    cases e3
    rw [Nat.mul_one] at e8 e9
    have hl : (bc (L i))[p]? = some (.int .u8 (((L i)[p]).toNat : Int)) := by simp [bc, hp]
    rw [← e9, List.getElem?_take_of_lt (by omega), Array.getElem?_toList] at hl
    have hc : wr.cell? ⟨x, p, none⟩ = some (.int .u8 (((L i)[p]).toNat : Int)) := by simp only [World.cell?, e5]; exact hl
    rw [← strOf_bytes]
    refine run_convert_bytes_arg wr 45 5 Tryz.underlying45 Tryz.underlying5 x p 1 c _ (by simp) (fun j hj => ?_) 9 Tryz.underlying9
    have hj0 : j = 0 := by simp at hj; omega
    subst hj0
    rw [Nat.add_zero, hc]
    simp
theorem wnt_len (h : List UInt8) (x : Nat) : (wnt h x).length = min 700 (h.length - x) := by unfold wnt; rw [List.length_take, List.length_drop]
theorem wnt_get (h : List UInt8) (x t : Nat) (ht : t < (wnt h x).length) (hx : x + t < h.length) : (wnt h x)[t] = h[x + t] := by
  have e : (wnt h x)[t]? = h[x + t]? := by
    have h7 : t < 700 := by rw [wnt_len] at ht; omega
    unfold wnt
    rw [List.getElem?_take_of_lt h7, List.getElem?_drop]
  rw [List.getElem?_eq_getElem ht, List.getElem?_eq_getElem hx] at e
  exact Option.some.inj e
theorem st_app (a b : List UInt8) : st a ++ st b = st (a ++ b) := by
  apply ByteArray.ext
  simp [st]
set_option maxRecDepth 100000 in
theorem load_at (w : World) (gb o : Nat) (ty : TypeId) (cs : Array Value) (d : TypeDesc) (hc : ∀ j v, cs.toList[j]? = some v → w.cell? ⟨gb, o + j, none⟩ = some v)
    (hu : Tryz.prog.underlying ty = some d) (hd : (match d with | .struct _ | .array _ _ => true | _ => false) = true) (hi : (Tryz.prog.info? ty).map (·.size) = some cs.size) :
    (loadVar ty ⟨gb, o, none⟩).run Tryz.prog w = .ok (.agg cs) w := by
  have hl : (loadCells ⟨gb, o, none⟩ cs.toList.length).run Tryz.prog w = .ok cs.toList.toArray w :=
    run_loadCells_list (P := Tryz.prog) w ⟨gb, o, none⟩ cs.toList (fun j v hv => by
      have hadd : (⟨gb, o, none⟩ : Addr).add j = ⟨gb, o + j, none⟩ := by unfold Addr.add; split <;> simp_all
      rw [hadd]
      exact hc j v hv)
  cases hq : Tryz.prog.info? ty with
  | none => simp [hq] at hi
  | some i =>
    have hs : i.size = cs.size := by simpa [hq] using hi
    have hagg : (isAgg ty).run Tryz.prog w = .ok true w := by
      unfold isAgg
      rw [Sem.run_bind, run_underlying hu w]
      cases d <;> simp_all
    simp only [Array.length_toList, Array.toArray_toList] at hl
    simp [loadVar, Sem.run_bind, hagg, sizeOf, typeInfo, hq, hs, hl]
set_option maxRecDepth 100000 in
theorem size35 : (Tryz.prog.info? 35).map (·.size) = some 16 := by kernel_rfl
set_option maxRecDepth 100000 in
theorem load35 {ops : Array Oper} {rest : List Oper} {o : Oper} {a : Act} {Q : Exit → Act → World → Prop} {w : World} (hgd : o.guard = none) (x : Operand) (ho : o.op = .load 35 x) (gb n : Nat) (hx : a.eval x = .pointer (some ⟨gb, n, none⟩)) (sk si sa sn : Int) (sd : ByteArray) (k l z a0 b0 c0 d0 e0 f0 s0 t0 : Int) (hs : SAt w gb n ⟨sk, si, sa, sn, sd, ⟨k, l, z, a0, b0, c0, d0, e0, f0, s0, t0⟩⟩)
    (h : wpList Tryz.prog ops Q rest (a.put o.dst (.agg #[.int .i64 sk, .int .i64 si, .int .i64 sa, .int .i64 sn, .string sd, .int .i64 k, .int .i64 l, .int .i64 z, .int .i64 a0, .int .i64 b0, .int .i64 c0, .int .i64 d0, .int .i64 e0, .int .i64 f0, .int .i64 s0, .int .i64 t0])) w) : wpList Tryz.prog ops Q (o :: rest) a w := by
  refine wpList_plain hgd fun K hK => ?_
  unfold SAt at hs
  simp only at hs
  obtain ⟨u0, u1, u2, u3, u4, u5, u6, u7, u8, u9, u10, u11, u12, u13, u14, u15⟩ := hs
  have hl := load_at w gb n 35 #[.int .i64 sk, .int .i64 si, .int .i64 sa, .int .i64 sn, .string sd, .int .i64 k, .int .i64 l, .int .i64 z, .int .i64 a0, .int .i64 b0, .int .i64 c0, .int .i64 d0, .int .i64 e0, .int .i64 f0, .int .i64 s0, .int .i64 t0] _ (by
    intro j v hv
    match j, hv with
    | 0, hv => simp at hv; rw [← hv]; exact u0
    | 1, hv => simp at hv; rw [← hv]; exact u1
    | 2, hv => simp at hv; rw [← hv]; exact u2
    | 3, hv => simp at hv; rw [← hv]; exact u3
    | 4, hv => simp at hv; rw [← hv]; exact u4
    | 5, hv => simp at hv; rw [← hv]; exact u5
    | 6, hv => simp at hv; rw [← hv]; exact u6
    | 7, hv => simp at hv; rw [← hv]; exact u7
    | 8, hv => simp at hv; rw [← hv]; exact u8
    | 9, hv => simp at hv; rw [← hv]; exact u9
    | 10, hv => simp at hv; rw [← hv]; exact u10
    | 11, hv => simp at hv; rw [← hv]; exact u11
    | 12, hv => simp at hv; rw [← hv]; exact u12
    | 13, hv => simp at hv; rw [← hv]; exact u13
    | 14, hv => simp at hv; rw [← hv]; exact u14
    | 15, hv => simp at hv; rw [← hv]; exact u15
    | j + 16, hv => simp at hv) Tryz.underlying35 rfl (by rw [size35]; rfl)
  unfold Oper.wp execOp
  simp only [ho, hx, Instr.loadAt, Instr.sureAddr, Sem.run_bind, Sem.run_pure, Result.andThen_ok, hl]
  exact hK _ _ h
set_option maxRecDepth 100000 in
theorem elem45 : Tryz.prog.elem 45 = 5 := by unfold Program.elem; rw [Tryz.underlying45]
set_option maxRecDepth 100000 in
theorem run_size45 (w : World) : (sizeOf (Tryz.prog.elem 45)).run Tryz.prog w = .ok 1 w := by
  rw [elem45]
  obtain ⟨i, hi, _, hz, _⟩ := info_parts infoB5
  simp [sizeOf, typeInfo, hi, hz]
set_option maxRecDepth 100000 in
theorem under45 : Tryz.prog.underlying 45 = some (.slice (Tryz.prog.elem 45)) := by rw [elem45]; exact Tryz.underlying45
theorem run_one (x n cap p : Nat) (hp : p + 1 ≤ cap) (w : World) : (Instr.slice 45 (.slice (some ⟨x, 0, none⟩) n cap) (some (.int .i64 (p : Int))) (some (.int .i64 ((p : Int) + 1))) none).run Tryz.prog w = .ok (.slice (some ⟨x, p, none⟩) 1 (cap - p)) w := by
  have := run_slice_lh (P := Tryz.prog) w 45 (some ⟨x, 0, none⟩) n cap under45 .i64 .i64 (p : Int) ((p : Int) + 1) (by omega) (by omega) (by omega)
  rw [this, run_size45]
  have e1 : ((p : Int) + 1).toNat = p + 1 := by omega
  have e2 : (⟨x, 0, none⟩ : Addr).add (p * 1) = ⟨x, p, none⟩ := by
    simp [Addr.add]
    exact fun h => h.symm
  simp only [Result.andThen, Int.toNat_natCast, e1, sliced]
  rw [if_neg (by omega)]
  simp only [Option.map_some, e2]
  rw [Nat.add_sub_cancel_left]
theorem run_upto (ao : Option Addr) (n cap k : Nat) (hk : k ≤ cap) (w : World) : (Instr.slice 45 (.slice ao n cap) none (some (.int .i64 (k : Int))) none).run Tryz.prog w = .ok (.slice ao k cap) w := by
  have := run_slice_h (P := Tryz.prog) w 45 ao n cap under45 .i64 (k : Int) (by omega) (by omega)
  rw [this, run_size45]
  have e : (ao.map fun x : Addr => x.add 0) = ao := by cases ao <;> simp [Addr.add]
  simp [Result.andThen, sliced, e]
end Go.Proofs.YtjnhibpebikkmaaGreat
namespace Go.Proofs.YtjnhibpebikkmaaGreat
open Go.RowKit Go.Maps Go.Shelf

set_option maxRecDepth 100000 in
theorem pushB2 {ops : Array Oper} {rest : List Oper} {o : Oper} {a : Act} {Q : Exit → Act → World → Prop} {w0 : World} (hgd : o.guard = none) (s x : Operand)
    (ho : o.op = .call { callee := .builtin .append, args := #[s, x], argTypes := #[45, 45] }) (g0 g i bb : Nat) (V : Nat → Value) (L : Nat → List UInt8)
    (hs : a.eval s = V i) (hx : a.eval x = .slice (some ⟨bb, 0, none⟩) 1 1) (hbb : bb = w0.heap.size) (hA : HM g0 g V L w0) (hi : i < 3) (hn : (L i).length ≤ 40000) (hbase : g0 ≤ w0.heap.size)
    (h : ∀ v' w', HP g0 g i V L v' (L i ++ [0]) w' → (∀ W p q cap B, RV W p q cap g0 B w0 → RV W p q cap g0 B w') → w0.heap.size ≤ w'.heap.size → (∀ k, k < w0.heap.size → some k ≠ (V i).ownBlock → w'.heap[k]? = w0.heap[k]?) → wpList Tryz.prog ops Q rest (a.put o.dst v') w') :
    wpList Tryz.prog ops Q (o :: rest) a (w0.alloc (.cells #[.int .u8 0] 5)) := by
  subst hbb
  obtain ⟨i0, hi0, hz0, hz1, hz2⟩ := info_parts infoB5
  have hk := below_alloc w0 (.cells #[.int .u8 0] 5)
  have hA1 := hA.next hk
  refine wpList_append_own_at _ hgd s x 45 ho g0 5 i0 (.int .u8 0) 1 1 Tryz.underlying45 hi0 hz0 hz1 hz2 rfl (by decide) (V i) (L i).length (bc (L i)) hs (hA1.row i hi) ⟨w0.heap.size, 0, none⟩ 1 1 [.int .u8 0] hx rfl (by
      intro j u hu
      match j, hu with
      | 0, hu => simp at hu; subst hu; simp [Addr.add]
      | j + 1, hu => simp at hu) (by intro u hu; simp at hu; subst hu; rfl) (by unfold maxLen; omega) (by omega) (by simp; omega) ?_
  intro v' w' hown hg _ hb5
  have hns : ∀ j y, j < 3 → j ≠ i → (V j).ownBlock = some y → w'.heap[y]? = (w0.alloc (.cells #[.int .u8 0] 5)).heap[y]? := by
    intro j y hj hne hy
    obtain ⟨_, cur, h2⟩ := own_blk (hA1.row j hj) hy
    refine hg.block y (lt_of_block h2) ?_
    intro e
    exact hA1.apt j i y hj hi hne hy e.symm
  have hlt1 : ∀ j y, j < 3 → (V j).ownBlock = some y → y < w0.heap.size := by
    intro j y hj hy
    obtain ⟨_, cur, h2⟩ := own_blk (hA.row j hj) hy
    exact lt_of_block h2
  refine h v' w' ⟨hA.gg, ?_, ?_, ?_, ?_⟩ ?_ ?_ ?_
  · refine (hg.block g (lt_of_block hA1.blk) ?_).trans hA1.blk
    intro e
    obtain ⟨_, cur, h2⟩ := own_blk (hA1.row i hi) e.symm
    have h3 := hA1.blk
    rw [h2] at h3
    simp at h3
  · intro j hj hne
    exact own_same (hA1.row j hj) (fun y hy => hns j y hj hne hy)
  · rw [bc_app, List.length_append]
    exact hown
  · intro c d y hc hd hcd hy
    have hsz : (w0.alloc (.cells #[.int .u8 0] 5)).heap.size = w0.heap.size + 1 := by simp
    have hnew : ∀ y, v'.ownBlock = some y → (V i).ownBlock = some y ∨ y = w0.heap.size + 1 := by
      intro y hy
      rcases hb5 with e | e
      · left; rw [← e]; exact hy
      · right; rw [e, hsz] at hy; cases hy; rfl
    by_cases e1 : c = i
    · rw [e1, upv_at] at hy
      have e2 : d ≠ i := fun e => hcd (e1.trans e.symm)
      rw [upv_ne _ _ e2]
      intro h4
      rcases hnew y hy with h5 | h5
      · exact hA.apt i d y hi hd (fun e => e2 e.symm) h5 h4
      · have := hlt1 d y hd h4
        omega
    · rw [upv_ne _ _ e1] at hy
      by_cases e2 : d = i
      · rw [e2, upv_at]
        intro h4
        rcases hnew y h4 with h5 | h5
        · exact hA.apt i c y hi hc (fun e => e1 e.symm) h5 hy
        · have := hlt1 c y hc hy
          omega
      · rw [upv_ne _ _ e2]
        exact hA.apt c d y hc hd hcd hy
  · intro W p q cap B hR
    have hR1 := hR.next hk
    cases ho2 : (V i).ownBlock with
    | none =>
      refine hR1.next ⟨hg.os, hg.tape, hg.output, hg.size, fun k hk => hg.block k hk ?_⟩
      rw [ho2]; simp
    | some y =>
      obtain ⟨h1, cur, h2⟩ := own_blk (hA1.row i hi) ho2
      refine hR1.over (x := y) ⟨hg.os, hg.tape, hg.output, hg.size, fun k hk hn => hg.block k hk ?_⟩ h1 (fun es c e => by rw [h2] at e; cases e)
      rw [ho2]
      intro e
      cases e
      simp at hn
  · exact Nat.le_trans hk.size hg.size
  · intro k hk2 hne
    exact (hg.block k (by simp; omega) hne).trans (Below.heap_alloc _ _ k hk2)
theorem HP.val {g0 g i : Nat} {V : Nat → Value} {L : Nat → List UInt8} {v : Value} {l : List UInt8} {wr : World} (h : HP g0 g i V L v l wr) {j : Nat} (hj : j < 3) : wr.cell? ⟨g, j, none⟩ = some (V j) ∧ wr.frozen? ⟨g, j, none⟩ = false := by
  have hc : j = 0 ∨ j = 1 ∨ j = 2 := by omega
  rcases hc with rfl | rfl | rfl <;> simp [World.cell?, World.frozen?, h.blk]
theorem HP.sl {g0 g i : Nat} {V : Nat → Value} {L : Nat → List UInt8} {v : Value} {l : List UInt8} {wr : World} (h : HP g0 g i V L v l wr) : ∃ ao cap, v = .slice ao l.length cap ∧ l.length ≤ cap := by
  obtain ⟨e1, ⟨e2, e3⟩ | ⟨x, cap, cur, e3, e4, e5, e6, _⟩⟩ := h.new
  · exact ⟨none, 0, by rw [e2, e3], by omega⟩
  · exact ⟨_, cap, e3, e6⟩
theorem upv_upv {α : Type} (f : Nat → α) (i : Nat) (u v : α) : upv (upv f i u) i v = upv f i v := by
  funext j
  unfold upv
  split <;> rfl
theorem upv_self {α : Type} (f : Nat → α) (i : Nat) : upv f i (f i) = f := by
  funext j
  unfold upv
  split
  · rename_i h; rw [h]
  · rfl
/-- bytes 0 behind -/
def grw (h : List UInt8) (t : Nat) : List UInt8 := h ++ List.replicate t 0
theorem grw_len (h : List UInt8) (t : Nat) : (grw h t).length = h.length + t := by unfold grw; rw [List.length_append, List.length_replicate]
theorem grw_succ (h : List UInt8) (t : Nat) : grw h t ++ [0] = grw h (t + 1) := by unfold grw; rw [List.append_assoc, List.replicate_succ']
theorem grw_end {h : List UInt8} {t n : Nat} (h1 : t = 0 ∨ h.length + t ≤ n) (h2 : ¬ h.length + t < n) : grw h t = padl h n := by
  unfold grw padl
  have : t = n - h.length := by omega
  rw [this]
theorem HP.grown {g0 g i t : Nat} {V : Nat → Value} {L : Nat → List UInt8} {h : List UInt8} {v : Value} {wr : World} (H : HP g0 g i V (upv L i (grw h t)) v (upv L i (grw h t) i ++ [0]) wr) (hi : i < 3) : HM g0 g (upv V i v) (upv L i (grw h (t + 1))) (wr.setCell ⟨g, i, none⟩ v) ∧ Only [g] wr (wr.setCell ⟨g, i, none⟩ v) := by
  have := H.store hi
  rw [upv_upv, upv_at, grw_succ] at this
  exact this
theorem HM.notmap {g0 g : Nat} {V : Nat → Value} {L : Nat → List UInt8} {wr : World} (h : HM g0 g V L wr) : ∀ es c, wr.heap[g]? ≠ some (.map es c) := fun es c e => by rw [h.blk] at e; cases e
theorem HP.notmap {g0 g i : Nat} {V : Nat → Value} {L : Nat → List UInt8} {v : Value} {l : List UInt8} {wr : World} (h : HP g0 g i V L v l wr) : ∀ es c, wr.heap[g]? ≠ some (.map es c) := fun es c e => by rw [h.blk] at e; cases e
/-- how long the row at a place is -/
def lenAt (wr : World) (g j : Nat) : Nat := match wr.cell? ⟨g, j, none⟩ with
  | some (.slice _ n _) => n
  | _ => 0
theorem HM.lenAt {g0 g : Nat} {V : Nat → Value} {L : Nat → List UInt8} {wr : World} (h : HM g0 g V L wr) {j : Nat} (hj : j < 3) : lenAt wr g j = (L j).length := by
  unfold YtjnhibpebikkmaaGreat.lenAt
  obtain ⟨ao, cap, e, _⟩ := h.sl hj
  rw [(h.val hj).1, e]
/-- where bytes are being laid over others: so many are laid -/
def Lay (P D : List UInt8) (y k : Nat) (l : List UInt8) : Prop := l.length = P.length ∧ ∀ a, l.getD a 0 = if y ≤ a ∧ a < y + k then D.getD (a - y) 0 else P.getD a 0
theorem Lay.zero (P D : List UInt8) (y : Nat) : Lay P D y 0 P := ⟨rfl, fun a => by rw [if_neg (by omega)]⟩
theorem Lay.next {P D : List UInt8} {y k : Nat} {l : List UInt8} (h : Lay P D y k l) (hk : k < D.length) (hy : y + k < P.length) : Lay P D y (k + 1) (l.set (y + k) D[k]) := by
  refine ⟨by rw [List.length_set]; exact h.1, fun a => ?_⟩
  simp only [List.getD_eq_getElem?_getD]
  by_cases e : a = y + k
  · subst e
    rw [if_pos (by omega), List.getElem?_set_self (by rw [h.1]; exact hy), Nat.add_sub_cancel_left, List.getElem?_eq_getElem hk]
  · rw [List.getElem?_set_ne (fun h => e h.symm)]
    have := h.2 a
    simp only [List.getD_eq_getElem?_getD] at this
    rw [this]
    by_cases c : y ≤ a ∧ a < y + k
    · rw [if_pos c, if_pos (by omega)]
    · rw [if_neg c, if_neg (by omega)]
theorem getD_ext {a b : List UInt8} (h : a.length = b.length) (k : ∀ i, a.getD i 0 = b.getD i 0) : a = b := by
  refine List.ext_getElem h fun i h1 h2 => ?_
  have := k i
  simp only [List.getD_eq_getElem?_getD, List.getElem?_eq_getElem h1, List.getElem?_eq_getElem h2, Option.getD_some] at this
  exact this
theorem Lay.done {h D l : List UInt8} {y : Nat} (H : Lay (padl h (y + D.length)) D y D.length l) : l = wrt h y D := by
  refine getD_ext (by rw [H.1, padl_len, wrt_len]) fun a => ?_
  rw [H.2, wrt_get, padl_get]
theorem HM.laid {g0 g i x : Nat} {V : Nat → Value} {L : Nat → List UInt8} {l : List UInt8} {wr : World} (h : HM g0 g V (upv L i l) wr) (hi : i < 3) {n cap : Nat} (hv : V i = .slice (some ⟨x, 0, none⟩) n cap) {a : Nat} (ha : a < l.length) (b : UInt8) :
    HM g0 g V (upv L i (l.set a b)) (wr.setCell ⟨x, a, none⟩ (.int .u8 (b.toNat : Int))) ∧ Only [x] wr (wr.setCell ⟨x, a, none⟩ (.int .u8 (b.toNat : Int))) ∧ g0 ≤ x ∧ wr.frozen? ⟨x, a, none⟩ = false ∧ (∃ y, wr.cell? ⟨x, a, none⟩ = some (.int .u8 y)) ∧ (∀ es c, wr.heap[x]? ≠ some (.map es c)) := by
  have := h.put hi hv (a := a) (by rw [upv_at]; exact ha) b
  rw [upv_upv, upv_at] at this
  exact this
theorem HM.blk5 {g0 g i x : Nat} {V : Nat → Value} {L : Nat → List UInt8} {wr : World} (h : HM g0 g V L wr) (hi : i < 3) {n cap : Nat} (hv : V i = .slice (some ⟨x, 0, none⟩) n cap) : ∃ cur, wr.heap[x]? = some (.cells cur 5 (0, 0)) := (own_blk (h.row i hi) (x := x) (by rw [hv]; rfl)).2
theorem HM.addr {g0 g i n cap : Nat} {ao : Option Addr} {V : Nat → Value} {L : Nat → List UInt8} {wr : World} (h : HM g0 g V L wr) (hi : i < 3) (hv : V i = .slice ao n cap) (hn : 0 < (L i).length) : ∃ x, ao = some ⟨x, 0, none⟩ := by
  obtain ⟨_, ⟨_, e3⟩ | ⟨x, c, cur, e3, _⟩⟩ := h.row i hi
  · omega
  · rw [hv] at e3
    cases e3
    exact ⟨x, rfl⟩
set_option maxRecDepth 100000 in
theorem str_at (sd : ByteArray) (k : Nat) (hk : k < sd.data.toList.length) (w : World) : (Instr.index 9 (.string sd) (.int .i64 (k : Int))).run Tryz.prog w = .ok (.int .u8 ((sd.data.toList[k]).toNat : Int)) w := by
  have hs : sd.data.toList.length = sd.size := len_list sd
  rw [run_index_string w 9 sd .i64 _ Tryz.underlying9, dif_pos ⟨by omega, by omega⟩]
  rfl
end Go.Proofs.YtjnhibpebikkmaaGreat
namespace Go.Proofs.YtjnhibpebikkmaaGreat
open Go.RowKit Go.Maps Go.Shelf

theorem RV.new {W w : World} {p q cap m : Nat} {B : List ByteArray} (h : SV W p B w) (hv : VI sG p q cap m w sF B) (hm : W.heap.size ≤ m) : RV W p q cap w.heap.size B w := ⟨⟨m, hv, hm⟩, ⟨hv.pl, hv.ql, h.le⟩, h.bel, h.bel.size, Nat.le_refl _⟩
theorem HM.new (w : World) : HM w.heap.size w.heap.size (fun _ => .slice none 0 0) (fun _ => []) (w.alloc (.cells #[.slice none 0 0, .slice none 0 0, .slice none 0 0] 46)) :=
  ⟨Nat.le_refl _, box_at _ _, fun _ _ => ⟨rfl, .inl ⟨rfl, rfl⟩⟩, fun _ _ _ _ _ _ h => by cases h⟩
theorem emp_vl {B : List ByteArray} (h : Emp sG B) (j : Nat) (q : List Nat) : vl (ab sG B (nd sG B)) j q = 0 := by
  refine vl_none ?_ j q
  intro i p
  show (if p < 8 then (datN sG ((nd sG B i).at p)).toNat else 0) = 0
  rw [h.at0 i p, datN_zero h.ti.si.ok]
  split <;> rfl
theorem fr_new : FR (putB sG (putB sG sF 1 sN) 2 sN) ((fun _ => []) 1) ((fun _ => []) 2) := by
  obtain ⟨e1, n1⟩ := s_emp.put (show 1 < sG.z by decide) s_c sN_at
  obtain ⟨e2, n2⟩ := e1.put (show 2 < sG.z by decide) s_c sN_at
  have hb : ∀ j a, fby sG (putB sG (putB sG sF 1 sN) 2 sN) (nd sG (putB sG (putB sG sF 1 sN) 2 sN)) j a = 0 := by
    intro j a
    unfold fby
    rw [emp_vl e2, if_pos rfl]
  refine ⟨e2.ti, ⟨?_, ?_, by simp, fun a _ => by rw [hb]; rfl⟩, ⟨?_, ?_, by simp, fun a _ => by rw [hb]; rfl⟩, fun q _ => emp_vl e2 0 q, fun q _ => emp_vl e2 3 q⟩
  · rw [n2, n1, upd_ne _ _ (by decide), upd_at]; rfl
  · rw [n2, n1, upd_ne _ _ (by decide), upd_at]; rfl
  · rw [n2, upd_at]; rfl
  · rw [n2, upd_at]; rfl
/-- the blocks with two files -/
def tB : List ByteArray := putB sG (putB sG sF 1 sN) 2 sN
def oB : List ByteArray := putB sG sF 1 sN
theorem set_one {W w1 : World} {p : Nat} (h : SV W p sF w1) : Calls Tryz.prog 13 #[.pointer (some ⟨p, 0, none⟩), .int .i64 1, .agg #[.int .i64 1, .int .i64 1, .int .i64 0, .int .i64 0, .int .i64 0, .int .i64 0, .int .i64 0, .int .i64 0, .int .i64 0, .int .i64 0, .int .i64 0]] w1 fun e w' => e = .returned (.int .i64 0) ∧ SV W p oB w' := sv_set3 1 (by decide) h
theorem set_two {W w1 : World} {p : Nat} (h : SV W p oB w1) : Calls Tryz.prog 13 #[.pointer (some ⟨p, 0, none⟩), .int .i64 2, .agg #[.int .i64 1, .int .i64 1, .int .i64 0, .int .i64 0, .int .i64 0, .int .i64 0, .int .i64 0, .int .i64 0, .int .i64 0, .int .i64 0, .int .i64 0]] w1 fun e w' => e = .returned (.int .i64 0) ∧ SV W p tB w' := sv_set3 2 (by decide) h
/-- a step in memory: what the law reads of it -/
structure Sx (x : Nat) (w : World) (sk si sa : Int) (sd : ByteArray) : Prop where
  c : ∃ cs, w.heap[x]? = some (.cells cs 35 (0, 0))
  c0 : w.cell? ⟨x, 0, none⟩ = some (.int .i64 sk)
  c1 : w.cell? ⟨x, 1, none⟩ = some (.int .i64 si)
  c2 : w.cell? ⟨x, 2, none⟩ = some (.int .i64 sa)
  c4 : w.cell? ⟨x, 4, none⟩ = some (.string sd)
theorem Sx.same {x : Nat} {w w' : World} {sk si sa : Int} {sd : ByteArray} (h : Sx x w sk si sa sd) (k : w'.heap[x]? = w.heap[x]?) : Sx x w' sk si sa sd := by
  obtain ⟨cs, hc⟩ := h.c
  exact ⟨⟨cs, k.trans hc⟩, (cell_same k _).trans h.c0, (cell_same k _).trans h.c1, (cell_same k _).trans h.c2, (cell_same k _).trans h.c4⟩
theorem Sx.lt {x : Nat} {w : World} {sk si sa : Int} {sd : ByteArray} (h : Sx x w sk si sa sd) : x < w.heap.size := by
  obtain ⟨cs, hc⟩ := h.c
  exact lt_of_block hc
theorem Sx.next {x : Nat} {w w' : World} {sk si sa : Int} {sd : ByteArray} (h : Sx x w sk si sa sd) (k : Below w.heap.size w w') : Sx x w' sk si sa sd := h.same (k.block x h.lt)
/-- a write of one of the two files -/
theorem FR.wr {B B' : List ByteArray} {L : Nat → List UInt8} {i : Nat} {x : Int} {d : ByteArray} {r : Int} (H : FR B (L 1) (L 2)) (hi : i = 1 ∨ i = 2) (h : WrR sG B (i : Int) x d r B') (hx : x ≤ 20000) (hd : d.size ≤ 1024) : (B' = B ∧ (r ≠ 0 ∨ d.size = 0)) ∨ (r = 0 ∧ d.size ≠ 0 ∧ ∃ y : Nat, x = (y : Int) ∧ FR B' (upv L i (wrt (L i) y d.data.toList) 1) (upv L i (wrt (L i) y d.data.toList) 2)) := by
  rcases hi with rfl | rfl
  · exact H.write1 h hx hd
  · exact H.write2 h hx hd
theorem FR.fi {B : List ByteArray} {L : Nat → List UInt8} {i : Nat} (H : FR B (L 1) (L 2)) (hi : i = 1 ∨ i = 2) : FI B i (L i) := by
  rcases hi with rfl | rfl
  · exact H.one
  · exact H.two
theorem FR.ct {B : List ByteArray} {L : Nat → List UInt8} {i : Nat} (H : FR B (L 1) (L 2)) (hi : i = 1 ∨ i = 2) {x : Nat} (hx : x ≤ 20000) : FR (cutB sG B i (usdI sG B (i : Int)) x) (upv L i (cutl (L i) x) 1) (upv L i (cutl (L i) x) 2) := by
  rcases hi with rfl | rfl
  · exact H.cut1 hx
  · exact H.cut2 hx
end Go.Proofs.YtjnhibpebikkmaaGreat
